
/- WeightsWrites holds: for every slice of bytes the law returns true, and the slice reads behind the call as it read before. No condition. -/
import Derived.Test.YtafdfjacfodbnaaWtAwake
import Derived.Test.YtafdfjacfodbnaaWtRefW
import Derived.Test.YtafdfjacfodbnaaWtRead
import Derived.Test.YtafdfjacfodbnaaPileC
namespace Go.Proofs.Ytafdfjacfodbnaa.weightsWrites
open Go.ChangeShapes Go.WideShapes Go.ChangeAt Go.RowKit

theorem str_same (x : ByteArray) : (x == x) = true := by
  show x.beq x = true
  cases x
  first
  | (simp [ByteArray.beq]; done)
  | (unfold ByteArray.beq; simp; done)
theorem nat_le {xs : List UInt8} : ∀ x ∈ nat xs, x ≤ 255 := by
  intro x hx
  obtain ⟨y, _, rfl⟩ := List.mem_map.1 hx
  have := y.toNat_lt
  omega
theorem byt_nat (xs : List UInt8) : byt (nat xs) = xs := by
  unfold byt nat
  rw [List.map_map]
  conv => rhs; rw [← List.map_id xs]
  refine List.map_congr_left fun x _ => ?_
  simp [Function.comp]
/-- What is written in half bytes is read. -/
theorem halves_back {l : List Nat} {d : Nat} (h : MayW d l) : halvesL (hbs l (l.length - 1) (l.length / 2)) (l.length - 1) = l.take (l.length - 1) := by
  apply List.ext_getElem
  · rw [halves_len, List.length_take]; omega
  · intro i h1 h2
    rw [halves_len] at h1
    rw [List.getElem_take]
    have hl : ∀ j, l.getD j 0 ≤ 11 := fun j => by
      rw [List.getD_eq_getElem?_getD]
      by_cases q : j < l.length
      · rw [List.getElem?_eq_getElem q]
        have a := h.2.2.2.2.2.2 _ (List.getElem_mem q)
        have b := h.2.2.2.2.2.1
        simp only [Option.getD_some]
        omega
      · rw [List.getElem?_eq_none (by omega)]; simp
    have e0 : (halvesL (hbs l (l.length - 1) (l.length / 2)) (l.length - 1))[i]'(by rw [halves_len]; exact h1) = hfW (hbs l (l.length - 1) (l.length / 2)) i := by simp [halvesL]
    have e1 : (hbs l (l.length - 1) (l.length / 2)).getD (i / 2) 0 = hb l (l.length - 1) (i / 2) := by
      have q : i / 2 < (hbs l (l.length - 1) (l.length / 2)).length := by rw [hbs_len]; omega
      rw [List.getD_eq_getElem?_getD, List.getElem?_eq_getElem q, Option.getD_some, hb_get]
    have e2 : l[i]'(by omega) = l.getD i 0 := (getD_eq l i 0 (by omega)).symm
    rw [e0, e2]
    unfold hfW
    rw [e1]
    unfold hb
    rcases Nat.mod_two_eq_zero_or_one i with e | e
    · have e3 : 2 * (i / 2) = i := by omega
      rw [e, e3, if_pos h1]
      have a := hl i
      have b := hl (i + 1)
      simp only [Nat.sub_zero, Nat.mul_one, Nat.reducePow]
      split <;> omega
    · have e3 : 2 * (i / 2) + 1 = i := by omega
      rw [e, e3, if_pos (by omega), if_pos h1]
      have a := hl i
      simp only [Nat.sub_self, Nat.mul_zero, Nat.pow_zero, Nat.div_one]
      omega
theorem may_split {l : List Nat} {d : Nat} (h : MayW d l) : ∃ x, l = l.take (l.length - 1) ++ [x] ∧ 0 < x ∧ x ≤ 11 ∧ WholeOk (l.take (l.length - 1)) (x - 1) := by
  obtain ⟨p, x, e, hx⟩ := h.2.2.1
  subst e
  have h2 := may_init h
  have e : (p ++ [x]).take ((p ++ [x]).length - 1) = p := by simp
  rw [e]
  refine ⟨x, rfl, hx, by have := h2.2.2.2.2.2; have := h.2.2.2.2.2.1; omega, h2.2.2.2.1, h2.2.2.2.2.1, fun y hy => ?_, by have := h2.2.2.1; have := Nat.two_pow_pos (d - 1); omega, d, h.2.2.2.2.1, h.2.2.2.2.2.1, h2.2.2.1, h2.2.1⟩
  have := h.2.2.2.2.2.2 y (by simp [hy])
  have := h.2.2.2.2.2.1
  omega

/-- What becomes of weights: their description, or refused. -/
def DRes (l : List Nat) (ys : List UInt8) (er : Int) : Prop := ((∀ d, ¬ MayW d l) ∧ ys = [] ∧ er = 1) ∨ (∃ d, MayW d l ∧ ((129 < l.length ∧ ys = [] ∧ er = 12) ∨ (l.length ≤ 129 ∧ ys = byt (descr l) ∧ er = 0)))
theorem DRes.uni {l : List Nat} {ys ys' : List UInt8} {er er' : Int} (h : DRes l ys er) (h' : DRes l ys' er') : ys = ys' ∧ er = er' := by
  rcases h with ⟨a, rfl, rfl⟩ | ⟨d, a, ⟨b, rfl, rfl⟩ | ⟨b, rfl, rfl⟩⟩ <;> rcases h' with ⟨a', rfl, rfl⟩ | ⟨d', a', ⟨b', rfl, rfl⟩ | ⟨b', rfl, rfl⟩⟩
  · exact ⟨rfl, rfl⟩
  · exact absurd a' (a d')
  · exact absurd a' (a d')
  · exact absurd a (a' d)
  · exact ⟨rfl, rfl⟩
  · omega
  · exact absurd a (a' d)
  · omega
  · exact ⟨rfl, rfl⟩
theorem descr_len (l : List Nat) : (byt (descr l)).length = 1 + l.length / 2 := by simp [byt, descr, hbs_len]; omega
theorem DRes.len {l : List Nat} {ys : List UInt8} {er : Int} (h : DRes l ys er) : ys.length ≤ 256 := by
  rcases h with ⟨a, rfl, rfl⟩ | ⟨d, a, ⟨b, rfl, rfl⟩ | ⟨b, rfl, rfl⟩⟩
  · simp
  · simp
  · rw [descr_len]; omega

section
variable {w : World}
theorem write2 {lo hi n c : Nat} {A : Option Addr} {l : List Nat} (hd : DatE u8cel w lo hi A l) (hn : l.length = n) (hm : n ≤ 100000) (h8 : ∀ x ∈ l, x ≤ 255) (hhi : hi ≤ w.heap.size) (hcn : n ≤ c) :
    Calls Try.prog 17 #[.slice A n c] w fun e w' => Below w.heap.size w w' ∧ ∃ A' m c' ys er, e = .returned (.tuple #[.slice A' m c', .int .i64 er]) ∧ ys.length = m ∧ m ≤ c' ∧ Dat false w' w.heap.size w'.heap.size A' ys ∧ DRes l ys er :=
  (writeW_any (c := c) hd hn hm h8 hhi hcn).mono (by
    rintro e w' ⟨hB, ⟨hno, rfl⟩ | ⟨d, hM, ⟨h9, rfl⟩ | ⟨h9, v, rfl, hO⟩⟩⟩
    · exact ⟨hB, none, 0, 0, [], 1, rfl, rfl, Nat.le_refl _, fun h => absurd h (by simp), .inl ⟨hno, rfl, rfl⟩⟩
    · exact ⟨hB, none, 0, 0, [], 12, rfl, rfl, Nat.le_refl _, fun h => absurd h (by simp), .inr ⟨d, hM, .inl ⟨h9, rfl, rfl⟩⟩⟩
    · obtain ⟨A', c', rfl, hc, hD⟩ := hO.form
      exact ⟨hB, A', _, c', _, 0, rfl, by simp [byt], hc, hD.bytes (descr_lt hM h9), .inr ⟨d, hM, .inr ⟨h9, rfl, rfl⟩⟩⟩)
theorem refWrite2 (S : ByteArray) (hs : S.size ≤ 100000) :
    Calls Try.prog 18 #[.string S] w fun e w' => Below w.heap.size w w' ∧ ∃ ys er, e = .returned (.tuple #[.string (str ys), .int .i64 er]) ∧ DRes (nat S.data.toList) ys er :=
  (refWriteW_any S hs).mono (by
    rintro e w' ⟨hB, ⟨hno, rfl⟩ | ⟨d, hM, ⟨h9, rfl⟩ | ⟨h9, rfl⟩⟩⟩
    · exact ⟨hB, _, _, rfl, .inl ⟨hno, rfl, rfl⟩⟩
    · exact ⟨hB, _, _, rfl, .inr ⟨d, hM, .inl ⟨h9, rfl, rfl⟩⟩⟩
    · exact ⟨hB, _, _, rfl, .inr ⟨d, hM, .inr ⟨h9, rfl, rfl⟩⟩⟩)
/-- What is written is read. -/
theorem readBack {own : Bool} {lo hi n m c d : Nat} {A : Option Addr} {l : List Nat} (hM : MayW d l) (h9 : l.length ≤ 129) (hn : l.length = n) (hm : (byt (descr l)).length = m) (hd : Dat own w lo hi A (byt (descr l))) (hc : m ≤ c) (hhi : hi ≤ w.heap.size) :
    Calls Try.prog 15 #[.slice A m c] w fun e w' => Below w.heap.size w w' ∧ ∃ A' c', e = .returned (.tuple #[.slice A' n c', .int .i64 (m : Int), .int .i64 0]) ∧ Dat true w' w.heap.size w'.heap.size A' (byt l) := by
  obtain ⟨x, hx, hx0, hx11, hW⟩ := may_split hM
  have hl2 := hM.1
  have hll : ∀ y ∈ l, y < 256 := fun y hy => by have a := hM.2.2.2.2.2.2 y hy; have b := hM.2.2.2.2.2.1; omega
  obtain ⟨R, hR⟩ : ∃ R, R = hbs l (l.length - 1) (l.length / 2) := ⟨_, rfl⟩
  have hR8 : ∀ y ∈ R, y < 256 := fun y hy => descr_lt hM h9 y (by unfold descr; rw [← hR]; exact List.mem_cons_of_mem _ hy)
  have hRl : R.length = l.length / 2 := by rw [hR, hbs_len]
  have hde : byt (descr l) = UInt8.ofNat (126 + l.length) :: byt R := by rw [hR]; rfl
  have hm' : m = 1 + l.length / 2 := by rw [← hm, descr_len]
  have hmd : (UInt8.ofNat (126 + l.length) :: byt R).length = m := by rw [← hde]; exact hm
  rw [hde] at hd
  obtain ⟨d0, o0, rfl, -⟩ := hd (by simp)
  have hsz : sizeW (126 + l.length) = l.length / 2 := by unfold sizeW; rw [if_pos (by omega), Nat.add_sub_cancel_left]
  have hbl : (byt R).length = l.length / 2 := by simp [byt, hRl]
  refine (readW_any (h := 126 + l.length) (b0 := UInt8.ofNat (126 + l.length)) (bs := byt R) (ok := okPlain (126 + l.length) R) (bad := fun _ => False) hd hmd (by omega) hc (by rw [UInt8.toNat_ofNat']; omega) ?_).mono ?_
  · intro A' c'' W' hB _ hcc hD'
    rw [hsz] at hcc hD' ⊢
    have ht : (byt R).take (l.length / 2) = byt R := List.take_of_length_le (by omega)
    rw [ht] at hD'
    have hn' := hD'.nats
    have hnb : (byt R).map (·.toNat) = R := nat_byt hR8
    rw [hnb] at hn'
    exact toldPlain_any (k := l.length / 2) hn' hRl (fun y hy => by have := hR8 y hy; omega) (by omega) (by omega) (by omega) (by have := hB.size; omega)
  · rintro e w' ⟨hB, ⟨hlt, -⟩ | ⟨-, ⟨er, hf, -⟩ | ⟨t, ht, hor⟩⟩⟩
    · rw [hsz] at hlt; omega
    · cases hf
    · have ht : t = halvesL R (126 + l.length - 127) := ht
      rw [show 126 + l.length - 127 = l.length - 1 by omega, hR, halves_back hM] at ht
      subst ht
      rcases hor with ⟨k, v, hk, rfl, hO⟩ | ⟨hno, -⟩
      · have hkx := whole_uni hk hW
        have hyl : byt (l.take (l.length - 1)) ++ [UInt8.ofNat (k + 1)] = byt l := by
          conv => rhs; rw [hx]
          rw [hkx, show x - 1 + 1 = x by omega]
          simp [byt]
        rw [hyl] at hO
        obtain ⟨A2, c2, rfl, -, hD2⟩ := hO.form
        have hlb : (byt l).length = n := by simp [byt, hn]
        rw [hlb, hsz, ← hm']
        exact ⟨hB, A2, c2, rfl, hD2⟩
      · exact absurd hW (hno _)
end

set_option maxRecDepth 100000 in
set_option maxHeartbeats 4000000 in
theorem walk (a0 : Option Addr) (xs : List UInt8) (cap0 : Nat) (w : World) (hd : Dat false w 0 w.heap.size a0 xs) (hm : xs.length ≤ maxLen) (hcap : xs.length ≤ cap0) :
    Calls Try.prog 5 #[.slice a0 xs.length cap0] w fun e w' => e = .returned (.bool true) ∧ Below w.heap.size w w' := by
  unfold maxLen at hm
  obtain ⟨n, hn⟩ : ∃ n, n = xs.length := ⟨_, rfl⟩
  rw [← hn] at hm hcap ⊢
  have HN := Lib.hid hn.symm
  have HD := Lib.hid hd
  clear hd hn
  by_cases h1 : 300 < n
  · have h1' : (300 : Int) < (n : Int) := by omega
    go_enter Try.func5, Try.ntmps5
    go_wp2_with fail
    refine (wts_awake _).mono ?_
    rintro e w1 ⟨rfl, hB⟩
    have HB1 := Lib.hid hB
    clear hB
    go_wp2_with fail
    go_ret
    exact ⟨rfl, HB1.out⟩
  · have h1' : ¬ (300 : Int) < (n : Int) := by omega
    obtain ⟨S8, hS8⟩ : ∃ S8, S8 = str xs := ⟨_, rfl⟩
    have hn8 : S8.data.toList = xs := by rw [hS8]; rfl
    have hz8 : S8.size = n := by rw [hS8, ← HN.out]; rfl
    have HS8 := Lib.hid hS8
    have hcv : ∀ W, Below w.heap.size w W → (convert 22 9 (.slice a0 n cap0)).run Try.prog W = .ok (.string S8) W := fun W h => by
      have := run_str (P := Try.prog) W 22 Try.underlying22 Try.underlying5 (c := cap0) (m := n) (HD.out.below h (Nat.le_refl _)) HN.out 9 Try.underlying9
      rw [← hS8] at this
      exact this
    have HCv := Lib.hid hcv
    have HRW := fun W => Lib.hid (refWrite2 (w := W) S8 (by rw [hz8]; omega))
    rw [hn8] at HRW
    have hln : (nat xs).length = n := by rw [nat_len]; exact HN.out
    have HLn := Lib.hid hln
    clear hS8 hn8 hz8 hcv hln
    go_enter Try.func5, Try.ntmps5
    go_wp2_with fail
    refine (wts_awake _).mono ?_
    rintro e w1 ⟨rfl, hB1⟩
    have HB1 := Lib.hid hB1
    have hs1 := hB1.size
    have HL1 : Hid (DatE u8cel w1 0 w.heap.size a0 (nat xs)) := (HD.out.below hB1 (Nat.le_refl _)).nats
    clear hB1
    go_wp2_with fail
    refine (write2 (c := cap0) HL1.out HLn.out (by omega) nat_le hs1 hcap).mono ?_
    rintro e w2 ⟨hB2, A, m, cA, ys, er, rfl, hym, hmc, hDy, hDR⟩
    have hm256 := hDR.len
    rw [hym] at hm256
    have HB2 := Lib.hid (HB1.out.trans (hB2.mono hs1))
    have hs2 := hB2.size
    have HY := Lib.hid (And.intro hym hDy)
    have HDR := Lib.hid hDR
    have hcv2 := HCv.out w2 HB2.out
    clear hB2 hym hDy hDR HL1
    go_wp2_with fail
    refine (HRW _).out.mono ?_
    rintro e w3 ⟨hB3, zs, er', rfl, hDR'⟩
    obtain ⟨rfl, rfl⟩ := HDR.out.uni hDR'
    have HB3 := Lib.hid (HB2.out.trans (hB3.mono (by omega)))
    have hs3 := hB3.size
    have hDy := HY.out.2.below hB3 (Nat.le_refl _)
    have hcv3 := run_str (P := Try.prog) w3 22 Try.underlying22 Try.underlying5 (c := cA) (m := m) hDy HY.out.1 9 Try.underlying9
    have HDy := Lib.hid hDy
    have hss := str_same (str ys)
    clear hDR' hcv2 hB3 HRW hDy
    by_cases he : er = 0
    · subst he
      have hok : ∃ d, MayW d (nat xs) ∧ (nat xs).length ≤ 129 ∧ ys = byt (descr (nat xs)) := by
        rcases HDR.out with ⟨_, _, h⟩ | ⟨d, hM, ⟨_, _, h⟩ | ⟨h9, hy, _⟩⟩
        · cases h
        · cases h
        · exact ⟨d, hM, h9, hy⟩
      obtain ⟨d, hM, h9, hy⟩ := hok
      have HRB := Lib.hid (readBack (w := w3) (n := n) (m := m) (c := cA) (A := A) hM h9 HLn.out (by rw [← hy]; exact HY.out.1) (by rw [← hy]; exact HDy.out) hmc hs3)
      clear hM h9 hy
      go_wp2_with fail
      refine HRB.out.mono ?_
      rintro e w4 ⟨hB4, A4, c4, rfl, hD4⟩
      have HB4 := Lib.hid (HB3.out.trans (hB4.mono (by omega)))
      have hcv4 := HCv.out w4 HB4.out
      rw [byt_nat] at hD4
      have hcv5 := run_str (P := Try.prog) w4 22 Try.underlying22 Try.underlying5 (c := c4) (m := n) hD4 HN.out 9 Try.underlying9
      rw [← HS8.out] at hcv5
      have hss8 := str_same S8
      have hnn : ((m : Int) == (m : Int)) = true := by rw [beq_iff_eq]
      clear hB4 hD4 hcv3 HRB
      go_wp2_with fail
      go_ret
      exact ⟨rfl, HB4.out⟩
    · have hez : (er != 0) = true := by rw [bne_iff_ne]; exact he
      go_wp2_with fail
      go_ret
      exact ⟨rfl, HB3.out⟩


set_option maxRecDepth 100000 in
theorem lifted (os : Os) (started : os.Started) (H : Type) (enc : TypeId × Value → H) :
    ReturnsInHanded {} Try.checked os 5 .any (Rows.weightsWritesSpec.pre6 enc Try.prog Try.f5 Rows.weightsWritesRow.domain false) (Rows.weightsWritesSpec.post enc Try.prog Try.f5 false true false false) := by
  refine returnsInHanded_of_change (C := Try.checked) own started (by kernel_rfl) Try.func5
    (ChangeSpec.witness6 (enc := enc) (C := Try.checked) false ⟨#[], #[.slice none 0 0], []⟩ 8 (by kernel_rfl) (by kernel_rfl) (by kernel_rfl) (by kernel_rfl)) ?_
  intro W base args ds gs before hval0 hW hcnd _
  have hval : ∀ (j : Nat) t v, Try.f5.params[j]? = some t → args[j]? = some v → Value.okWide Try.prog W .any base t v := hval0
  have hW' := hW
  obtain ⟨p, q, hA0, hV, rfl, hfz, hnd⟩ := hW
  have hA : DataW.TrodAll enc Try.prog W 0 (fun _ => true) true Try.f5.params.toList args.toList ds p := hA0
  rw [Try.params5] at hA hval
  obtain ⟨v0, vs0, d0, ds0, p0, q0, hargs, rfl, rfl, h0, r0⟩ := trodAll_cons hA
  obtain ⟨rfl, rfl, rfl⟩ := trodAll_nil r0
  obtain rfl : args = #[v0] := by cases args; simp_all
  obtain ⟨rfl, rfl⟩ := trodVars_none hV
  obtain ⟨a0, len0, cap0, rfl⟩ := okWide_slice Try.underlying22 (hval 0 22 v0 rfl rfl)
  have k0 := h0
  have lt0 : ∀ x ∈ p0, x.block < W.heap.size := by obtain ⟨m, hm⟩ := k0; exact DataW.trod_lt m _ _ _ hm
  obtain ⟨z0, w0⟩ := row_of_trod h0
  obtain ⟨xs0, rfl, hl0, hm0, hd0⟩ := row_dat w0
  clear hA0 hval0
  refine (walk a0 xs0 cap0 W hd0 (by omega) hl0).mono fun e W' ⟨he, bel⟩ => ?_
  subst he
  exact ⟨_, rfl, _, _, _, [], _, [], hW', trodAll_mk1 (shut_bool Try.underlying4 _), (trodAll_cons_mk (Below.trod laidOut (by kernel_rfl) (of_decide_eq_true (by kernel_rfl)) k0 bel lt0) trodAll_mk0), rfl, bel.frame _, fun h => by cases h⟩

theorem over : Rows.weightsWritesRow.holds Try.pinned (OpenSpec.ofChange Rows.weightsWritesSpec) :=
  OpenClaim.holds_of_wide 5 Try.f5 rfl rfl rfl rfl rfl rfl rfl ⟨rfl, rfl, rfl, rfl, rfl⟩ rfl rfl rfl rfl rfl (by kernel_rfl) Try.func5 (by kernel_rfl)
    (of_decide_eq_true (by kernel_rfl)) (by unfold Func.isWrapper; first | (rw [if_pos (by decide +kernel)]; kernel_rfl) | (rw [if_neg (by decide +kernel)]; exact ⟨rfl, rfl⟩))
    (fun os started H enc _ => lifted os started H enc)

theorem proved : Rows.WeightsWritesSaid := over
end Go.Proofs.Ytafdfjacfodbnaa.weightsWrites
