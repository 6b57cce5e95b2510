
/- WeightsWhole holds: for every slice of bytes the law returns true, and the slice reads behind the call as it read before. No condition. -/
import Derived.Test.YtafdfjacfodbnaaWtAwake
import Derived.Test.YtafdfjacfodbnaaWtRefC
import Derived.Test.YtafdfjacfodbnaaWtRefH
import Derived.Test.YtafdfjacfodbnaaWtHalves
import Derived.Test.YtafdfjacfodbnaaPileC
namespace Go.Proofs.Ytafdfjacfodbnaa.weightsWhole
open Go.ChangeShapes Go.WideShapes Go.ChangeAt Go.RowKit

theorem str_same (x : ByteArray) : (x == x) = true := by
  show x.beq x = true
  cases x
  first
  | (simp [ByteArray.beq]; done)
  | (unfold ByteArray.beq; simp; done)
theorem nat_app (xs : List UInt8) (x : Nat) (h : x < 256) : nat (xs ++ [UInt8.ofNat x]) = nat xs ++ [x] := by
  unfold nat
  rw [List.map_append]
  congr 1
  simp only [List.map_cons, List.map_nil]
  rw [UInt8.toNat_ofNat']
  congr 1
  omega
theorem nat_le {xs : List UInt8} : ∀ x ∈ nat xs, x ≤ 255 := by
  intro x hx
  obtain ⟨y, _, rfl⟩ := List.mem_map.1 hx
  have := y.toNat_lt
  omega

/-- What becomes of weights: with the last one, or refused. -/
def WRes (bs ys : List UInt8) (er : Int) : Prop := (∃ k, WholeOk (nat bs) k ∧ ys = bs ++ [UInt8.ofNat (k + 1)] ∧ er = 0) ∨ ((∀ k, ¬ WholeOk (nat bs) k) ∧ ys = [] ∧ er = 11)
theorem WRes.uni {bs ys ys' : List UInt8} {er er' : Int} (h : WRes bs ys er) (h' : WRes bs ys' er') : ys = ys' ∧ er = er' := by
  rcases h with ⟨k, a, rfl, rfl⟩ | ⟨a, rfl, rfl⟩ <;> rcases h' with ⟨k', b, rfl, rfl⟩ | ⟨b, rfl, rfl⟩
  · rw [whole_uni a b]; exact ⟨rfl, rfl⟩
  · exact absurd a (b k)
  · exact absurd b (a k')
  · exact ⟨rfl, rfl⟩
theorem WRes.len {bs ys : List UInt8} {er : Int} (h : WRes bs ys er) : ys.length ≤ 256 := by
  rcases h with ⟨k, a, rfl, rfl⟩ | ⟨a, rfl, rfl⟩
  · have := a.2.1
    rw [nat_len] at this
    simp; omega
  · simp
theorem WRes.may {bs ys : List UInt8} {er : Int} (h : WRes bs ys er) (h0 : er = 0) : ∃ d, MayW d (nat ys) := by
  rcases h with ⟨k, a, rfl, rfl⟩ | ⟨a, rfl, rfl⟩
  · obtain ⟨d, h1, h2⟩ := whole_may a
    exact ⟨d, by rw [nat_app _ _ (by omega)]; exact h1⟩
  · cases h0
/-- The codes of weights, or refused. -/
def CRes (l : List Nat) (cs : List (Nat × Nat)) (er : Int) : Prop := (∃ d, MayW d l ∧ cs = codesOf d l ∧ er = 0) ∨ ((∀ d, ¬ MayW d l) ∧ cs = [] ∧ er = 1)
theorem CRes.uni {l : List Nat} {cs cs' : List (Nat × Nat)} {er er' : Int} (h : CRes l cs er) (h' : CRes l cs' er') : cs = cs' ∧ er = er' := by
  rcases h with ⟨k, a, rfl, rfl⟩ | ⟨a, rfl, rfl⟩ <;> rcases h' with ⟨k', b, rfl, rfl⟩ | ⟨b, rfl, rfl⟩
  · rw [may_depth a b.2.2.2.1]; exact ⟨rfl, rfl⟩
  · exact absurd a (b k)
  · exact absurd b (a k')
  · exact ⟨rfl, rfl⟩
theorem CRes.len {l : List Nat} {cs : List (Nat × Nat)} {er : Int} (h : CRes l cs er) : cs.length ≤ 256 := by
  rcases h with ⟨d, a, rfl, rfl⟩ | ⟨a, rfl, rfl⟩
  · have := a.2.1
    simp [codesOf]; omega
  · simp
theorem cells2 {w : World} {u base n c : Nat} {A : Option Addr} {cs : List (Nat × Nat)} (h : OwR 2 ccell w u base (.slice A n c) cs) (j : Nat) (hj : j < cs.length) :
    ∃ d, A = some ⟨d, 0, none⟩ ∧ w.cell? ⟨d, j * 2, none⟩ = some (.int .i64 (cs[j].1 : Int)) ∧ w.cell? ⟨d, j * 2 + 1, none⟩ = some (.int .i64 (cs[j].2 : Int)) := by
  obtain ⟨d, c', e, _⟩ := h.place (by omega)
  injection e with e
  subst e
  exact ⟨d, rfl, (h.cellAt ccell_len j 0 hj (by decide) _ rfl).1, (h.cellAt ccell_len j 1 hj (by decide) _ rfl).1⟩

section
variable {w : World}
theorem whole2 {own : Bool} {lo hi n c : Nat} {A : Option Addr} {bs : List UInt8} (hd : Dat own w lo hi A bs) (hn : bs.length = n) (hm : n ≤ 100000) (hhi : hi ≤ w.heap.size) :
    Calls Try.prog 11 #[.slice A n c] w fun e w' => Below w.heap.size w w' ∧ ∃ A' m c' ys er, e = .returned (.tuple #[.slice A' m c', .int .i64 er]) ∧ ys.length = m ∧ Dat true w' w.heap.size w'.heap.size A' ys ∧ WRes bs ys er :=
  (whole_any (c := c) hd hn hm hhi).mono (by
    rintro e w' ⟨hB, ⟨k, v, hk, rfl, hO⟩ | ⟨hno, rfl⟩⟩
    · obtain ⟨A', c', rfl, _, hD⟩ := hO.form
      exact ⟨hB, A', _, c', _, 0, rfl, rfl, hD, .inl ⟨k, hk, rfl, rfl⟩⟩
    · exact ⟨hB, none, 0, 0, [], 11, rfl, rfl, fun h => absurd h (by simp), .inr ⟨hno, rfl, rfl⟩⟩)
theorem refWhole2 (S : ByteArray) (hs : S.size ≤ 100000) :
    Calls Try.prog 12 #[.string S] w fun e w' => Below w.heap.size w w' ∧ ∃ ys er, e = .returned (.tuple #[.string (str ys), .int .i64 er]) ∧ WRes S.data.toList ys er :=
  (refWhole_any S hs).mono (by
    rintro e w' ⟨hB, ⟨k, hk, rfl⟩ | ⟨hno, rfl⟩⟩
    · exact ⟨hB, _, _, rfl, .inl ⟨k, hk, rfl, rfl⟩⟩
    · exact ⟨hB, _, _, rfl, .inr ⟨hno, rfl, rfl⟩⟩)
theorem codes2 {lo hi n c : Nat} {A : Option Addr} {l : List Nat} (hd : DatE u8cel w lo hi A l) (hn : l.length = n) (hm : n ≤ 100000) (h8 : ∀ x ∈ l, x ≤ 255) (hhi : hi ≤ w.heap.size) :
    Calls Try.prog 13 #[.slice A n c] w fun e w' => Below w.heap.size w w' ∧ ∃ A' m c' cs er, e = .returned (.tuple #[.slice A' m c', .int .i64 er]) ∧ cs.length = m ∧ OwR 2 ccell w' 36 w.heap.size (.slice A' m c') cs ∧ CRes l cs er :=
  (codes_any (c := c) hd hn hm h8 hhi).mono (by
    rintro e w' ⟨hB, ⟨d, v, hM, rfl, hO⟩ | ⟨hno, rfl⟩⟩
    · obtain ⟨A', c', rfl, _, _⟩ := hO.form ccell_len
      exact ⟨hB, A', _, c', _, 0, rfl, rfl, hO, .inl ⟨d, hM, rfl, rfl⟩⟩
    · exact ⟨hB, none, 0, 0, [], 1, rfl, rfl, OwR.nil _ _ _ _ _, .inr ⟨hno, rfl, rfl⟩⟩)
theorem refCodes2 (S : ByteArray) (hs : S.size ≤ 100000) :
    Calls Try.prog 14 #[.string S] w fun e w' => Below w.heap.size w w' ∧ ∃ A' m c' cs er, e = .returned (.tuple #[.slice A' m c', .int .i64 er]) ∧ cs.length = m ∧ OwR 2 ccell w' 37 w.heap.size (.slice A' m c') cs ∧ CRes (nat S.data.toList) cs er :=
  (refCodes_any S hs).mono (by
    rintro e w' ⟨hB, ⟨d, v, hM, rfl, hO⟩ | ⟨hno, rfl⟩⟩
    · obtain ⟨A', c', rfl, _, _⟩ := hO.form ccell_len
      exact ⟨hB, A', _, c', _, 0, rfl, rfl, hO, .inl ⟨d, hM, rfl, rfl⟩⟩
    · exact ⟨hB, none, 0, 0, [], 1, rfl, rfl, OwR.nil _ _ _ _ _, .inr ⟨hno, rfl, rfl⟩⟩)
end

set_option maxRecDepth 100000 in
set_option maxHeartbeats 4000000 in
theorem walk (a0 : Option Addr) (xs : List UInt8) (cap0 : Nat) (w : World) (hd : Dat false w 0 w.heap.size a0 xs) (hm : xs.length ≤ maxLen) :
    Calls Try.prog 3 #[.slice a0 xs.length cap0] w fun e w' => e = .returned (.bool true) ∧ Below w.heap.size w w' := by
  unfold maxLen at hm
  obtain ⟨n, hn⟩ : ∃ n, n = xs.length := ⟨_, rfl⟩
  rw [← hn] at hm ⊢
  have HN := Lib.hid hn.symm
  have HD := Lib.hid hd
  clear hd hn
  by_cases h1 : 300 < n
  · have h1' : (300 : Int) < (n : Int) := by omega
    go_enter Try.func3, Try.ntmps3
    go_wp2_with fail
    refine (wts_awake _).mono ?_
    rintro e w1 ⟨rfl, hB⟩
    have HB1 := Lib.hid hB
    clear hB
    go_wp2_with fail
    go_ret
    exact ⟨rfl, HB1.out⟩
  · have h1' : ¬ (300 : Int) < (n : Int) := by omega
    obtain ⟨S8, hS8⟩ : ∃ S8, S8 = str xs := ⟨_, rfl⟩
    have hn8 : S8.data.toList = xs := by rw [hS8]; rfl
    have hz8 : S8.size = n := by rw [hS8, ← HN.out]; rfl
    have hcv : ∀ W, Below w.heap.size w W → (convert 22 9 (.slice a0 n cap0)).run Try.prog W = .ok (.string S8) W := fun W h => by
      have := run_str (P := Try.prog) W 22 Try.underlying22 Try.underlying5 (c := cap0) (m := n) (HD.out.below h (Nat.le_refl _)) HN.out 9 Try.underlying9
      rw [← hS8] at this
      exact this
    have HCv := Lib.hid hcv
    have HRW := fun W => Lib.hid (refWhole2 (w := W) S8 (by rw [hz8]; omega))
    have HRC := fun W => Lib.hid (refCodes2 (w := W) S8 (by rw [hz8]; omega))
    rw [hn8] at HRW HRC
    have hln : (nat xs).length = n := by rw [nat_len]; exact HN.out
    have HLn := Lib.hid hln
    clear hS8 hn8 hz8 hcv hln
    go_enter Try.func3, Try.ntmps3
    go_wp2_with fail
    refine (wts_awake _).mono ?_
    rintro e w1 ⟨rfl, hB1⟩
    have HB1 := Lib.hid hB1
    have hs1 := hB1.size
    have HD1 := Lib.hid (HD.out.below hB1 (Nat.le_refl _))
    clear hB1
    go_wp2_with fail
    refine (whole2 (c := cap0) HD1.out HN.out (by omega) hs1).mono ?_
    rintro e w2 ⟨hB2, A, m, cA, ys, er, rfl, hym, hDy, hWR⟩
    have hm256 := hWR.len
    rw [hym] at hm256
    have HB2 := Lib.hid (HB1.out.trans (hB2.mono hs1))
    have hs2 := hB2.size
    have HY := Lib.hid (And.intro hym hDy)
    have HWR := Lib.hid hWR
    have hcv2 := HCv.out w2 HB2.out
    clear hB2 hym hDy hWR HD1
    go_wp2_with fail
    refine (HRW _).out.mono ?_
    rintro e w3 ⟨hB3, zs, er', rfl, hWR'⟩
    obtain ⟨rfl, rfl⟩ := HWR.out.uni hWR'
    have HB3 := Lib.hid (HB2.out.trans (hB3.mono (by omega)))
    have HB23 := Lib.hid hB3
    have hs3 := hB3.size
    have HL3 : Hid (DatE u8cel w3 0 w.heap.size a0 (nat xs)) := (HD.out.below HB3.out (Nat.le_refl _)).nats
    clear hWR' hcv2 hB3 HRW
    go_wp2_with fail
    refine (codes2 (c := cap0) HL3.out HLn.out (by omega) nat_le HB3.out.size).mono ?_
    rintro e w4 ⟨hB4, C, k, cC, cs, ec, rfl, hck, hOc, hCR⟩
    have hk256 := hCR.len
    rw [hck] at hk256
    have HB4 := Lib.hid (HB3.out.trans (hB4.mono (by omega)))
    have HB24 := Lib.hid (HB23.out.trans (hB4.mono hs3))
    have hs4 := hB4.size
    have HC := Lib.hid (And.intro hck hOc)
    have HCR := Lib.hid hCR
    have hcv4 := HCv.out w4 HB4.out
    clear hB4 hck hOc hCR HL3
    go_wp2_with fail
    refine (HRC _).out.mono ?_
    rintro e w5 ⟨hB5, E, k', cE, ds, ec', rfl, hdk, hOd, hCR'⟩
    obtain ⟨rfl, rfl⟩ := HCR.out.uni hCR'
    obtain rfl : k = k' := by rw [← hdk, HC.out.1]
    have HB5 := Lib.hid (HB4.out.trans (hB5.mono (by omega)))
    have HB25 := Lib.hid (HB24.out.trans (hB5.mono (by omega)))
    have HDd := Lib.hid hOd
    have HC5 := Lib.hid (HC.out.2.below hB5 (Nat.le_refl _))
    have hDy := HY.out.2.below HB25.out (Nat.le_refl _)
    have hcv5 := run_str (P := Try.prog) w5 22 Try.underlying22 Try.underlying5 (c := cA) (m := m) hDy HY.out.1 9 Try.underlying9
    have HDy := Lib.hid (And.intro hDy HB25.out.size)
    have hss := str_same (str ys)
    clear hCR' hcv4 hB5 HRC hdk hOd hDy
    go_wp2_with fail
    go_loopg [12] k (fun gh vi wx => ∃ j q : Nat, j + gh = k ∧ vi = .int .i64 (j : Int) ∧ wx = w5.drewN q)
    case atStart => exact ⟨0, 0, by omega, rfl, rfl⟩
    case round =>
      obtain ⟨j, q, hj, rfl, rfl⟩ := hrel
      have HJ := Lib.hid hj
      have hjk : j ≤ k := by omega
      clear hj hcv5
      by_cases hlt : j < k
      · have hltz : (j : Int) < (k : Int) := by omega
        obtain ⟨gk', rfl⟩ : ∃ g', gk = g' + 1 := ⟨gk - 1, by have := HJ.out; omega⟩
        have hjc : j < cs.length := by rw [HC.out.1]; exact hlt
        obtain ⟨d1, rfl, x0, x1⟩ := cells2 HC5.out j hjc
        obtain ⟨d2, rfl, y0, y1⟩ := cells2 HDd.out j hjc
        generalize cs[j].1 = bw at *
        generalize cs[j].2 = cw at *
        go_wp2_with fail
        go_quiet (fail)
        go_wp2_with fail
        go_roundg gk'
        case measure => omega
        case rel => exact ⟨j + 1, _, by have := HJ.out; omega, by go_num, rfl⟩
      · obtain rfl : j = k := by omega
        have hltz : ¬ (j : Int) < (j : Int) := by omega
        by_cases he : er = 0
        · obtain ⟨d, hM⟩ := HWR.out.may he
          subst he
          have HM := Lib.hid hM
          have hD6 : Hid (DatE u8cel (w5.drewN q) w1.heap.size w2.heap.size A (nat ys)) := HDy.out.1.nats
          have HC6 := Lib.hid (codes2 (w := w5.drewN q) (n := m) (c := cA) hD6.out (by rw [nat_len]; exact HY.out.1) (by omega) nat_le HDy.out.2)
          clear hM
          go_wp2_with fail
          refine HC6.out.mono ?_
          rintro e w6 ⟨hB6, F, m6, c6, fs, e6, rfl, _, _, hCR6⟩
          have he6 : e6 = 0 := by
            rcases hCR6 with ⟨_, _, _, h⟩ | ⟨h, _⟩
            · exact h
            · exact absurd HM.out (h d)
          subst he6
          have HB6 := Lib.hid ((below_drawn HB5.out q).trans (hB6.mono HB5.out.size))
          clear hB6 hCR6
          go_wp2_with fail
          go_ret
          exact ⟨rfl, HB6.out⟩
        · have hez : (er != 0) = true := by rw [bne_iff_ne]; exact he
          go_wp2_with fail
          go_ret
          exact ⟨rfl, below_drawn HB5.out _⟩


set_option maxRecDepth 100000 in
theorem lifted (os : Os) (started : os.Started) (H : Type) (enc : TypeId × Value → H) :
    ReturnsInHanded {} Try.checked os 3 .any (Rows.weightsWholeSpec.pre6 enc Try.prog Try.f3 Rows.weightsWholeRow.domain false) (Rows.weightsWholeSpec.post enc Try.prog Try.f3 false true false false) := by
  refine returnsInHanded_of_change (C := Try.checked) own started (by kernel_rfl) Try.func3
    (ChangeSpec.witness6 (enc := enc) (C := Try.checked) false ⟨#[], #[.slice none 0 0], []⟩ 8 (by kernel_rfl) (by kernel_rfl) (by kernel_rfl) (by kernel_rfl)) ?_
  intro W base args ds gs before hval0 hW hcnd _
  have hval : ∀ (j : Nat) t v, Try.f3.params[j]? = some t → args[j]? = some v → Value.okWide Try.prog W .any base t v := hval0
  have hW' := hW
  obtain ⟨p, q, hA0, hV, rfl, hfz, hnd⟩ := hW
  have hA : DataW.TrodAll enc Try.prog W 0 (fun _ => true) true Try.f3.params.toList args.toList ds p := hA0
  rw [Try.params3] at hA hval
  obtain ⟨v0, vs0, d0, ds0, p0, q0, hargs, rfl, rfl, h0, r0⟩ := trodAll_cons hA
  obtain ⟨rfl, rfl, rfl⟩ := trodAll_nil r0
  obtain rfl : args = #[v0] := by cases args; simp_all
  obtain ⟨rfl, rfl⟩ := trodVars_none hV
  obtain ⟨a0, len0, cap0, rfl⟩ := okWide_slice Try.underlying22 (hval 0 22 v0 rfl rfl)
  have k0 := h0
  have lt0 : ∀ x ∈ p0, x.block < W.heap.size := by obtain ⟨m, hm⟩ := k0; exact DataW.trod_lt m _ _ _ hm
  obtain ⟨z0, w0⟩ := row_of_trod h0
  obtain ⟨xs0, rfl, hl0, hm0, hd0⟩ := row_dat w0
  clear hA0 hval0
  refine (walk a0 xs0 cap0 W hd0 (by omega)).mono fun e W' ⟨he, bel⟩ => ?_
  subst he
  exact ⟨_, rfl, _, _, _, [], _, [], hW', trodAll_mk1 (shut_bool Try.underlying4 _), (trodAll_cons_mk (Below.trod laidOut (by kernel_rfl) (of_decide_eq_true (by kernel_rfl)) k0 bel lt0) trodAll_mk0), rfl, bel.frame _, fun h => by cases h⟩

theorem over : Rows.weightsWholeRow.holds Try.pinned (OpenSpec.ofChange Rows.weightsWholeSpec) :=
  OpenClaim.holds_of_wide 3 Try.f3 rfl rfl rfl rfl rfl rfl rfl ⟨rfl, rfl, rfl, rfl, rfl⟩ rfl rfl rfl rfl rfl (by kernel_rfl) Try.func3 (by kernel_rfl)
    (of_decide_eq_true (by kernel_rfl)) (by unfold Func.isWrapper; first | (rw [if_pos (by decide +kernel)]; kernel_rfl) | (rw [if_neg (by decide +kernel)]; exact ⟨rfl, rfl⟩))
    (fun os started H enc _ => lifted os started H enc)

theorem proved : Rows.WeightsWholeSaid := over
end Go.Proofs.Ytafdfjacfodbnaa.weightsWhole
