
/- WeightsEven holds: for every three numbers the law returns true, and nothing that was there has turned. No condition. -/
import Derived.Test.YtafdfjacfodbnaaWtAwake
import Derived.Test.YtafdfjacfodbnaaWtRef
import Derived.Test.YtafdfjacfodbnaaWtHalves
import Derived.Test.YtafdfjacfodbnaaPileC
namespace Go.Proofs.Ytafdfjacfodbnaa.weightsEven
open Go.ChangeShapes Go.WideShapes Go.ChangeAt Go.RowKit

/-- So many times noughts and one number. -/
def evn (g n : Nat) : Nat → List Nat
  | 0 => []
  | i + 1 => evn g n i ++ (List.replicate g 0 ++ [n])
theorem evn_len (g n : Nat) : ∀ i, (evn g n i).length = i * (g + 1)
  | 0 => by simp [evn]
  | i + 1 => by simp only [evn, List.length_append, List.length_replicate, List.length_singleton, evn_len g n i, Nat.succ_mul]
theorem cnt_noughts : ∀ g, cnt (List.replicate g 0) = 0
  | 0 => rfl
  | g + 1 => by rw [List.replicate_succ', cnt_snoc, cnt_noughts g]; rfl
theorem evn_cnt (g : Nat) {n : Nat} (h : 0 < n) : ∀ i, cnt (evn g n i) = i
  | 0 => rfl
  | i + 1 => by rw [evn, ← List.append_assoc, cnt_snoc, cnt_append, evn_cnt g h i, cnt_noughts, if_pos h]
theorem evn_ends (g : Nat) {n : Nat} (h : 0 < n) : ∀ i, ends (evn g n i) = i * (g + 1)
  | 0 => by simp [evn, ends]
  | i + 1 => by rw [evn, ← List.append_assoc, ends_snoc, if_pos h, List.length_append, List.length_replicate, evn_len, Nat.succ_mul]; omega
theorem evn_sum (g n : Nat) : ∀ i, (evn g n i).sum = i * n
  | 0 => by simp [evn]
  | i + 1 => by rw [evn, List.sum_append, List.sum_append, evn_sum g n i, Nat.succ_mul]; simp
theorem evn_le (g n : Nat) : ∀ i, ∀ x ∈ evn g n i, x ≤ n
  | 0 => by simp [evn]
  | i + 1 => by
    intro x hx
    rw [evn, List.mem_append, List.mem_append] at hx
    rcases hx with hx | hx | hx
    · exact evn_le g n i x hx
    · rw [List.eq_of_mem_replicate hx]; omega
    · rw [List.mem_singleton.1 hx]; exact Nat.le_refl _
theorem cell2 {w : World} {u base d c n D : Nat} {l : List Nat} (h : OwR 2 ccell w u base (.slice (some ⟨d, 0, none⟩) n c) (codesOf D l)) (S : Nat) (hS : S < l.length) :
    w.cell? ⟨d, S * 2, none⟩ = some (.int .i64 (bitsW D l S : Int)) := by
  have hl : (codesOf D l).length = l.length := by simp [codesOf]
  have e : (codesOf D l)[S]'(by omega) = (bitsW D l S, codeW l S) := by simp [codesOf]
  exact (h.cellAt ccell_len S 0 (by omega) (by decide) _ (by rw [e]; rfl)).1
theorem info_u32 : (Try.prog.info? 45).map (fun i => (i.zero, i.size, i.bytes)) = some (some (.int .u32 0), 1, 4) := by kernel_rfl
theorem ucel_one (x : Nat) : (ucel x).oneCell' = true := rfl

set_option maxRecDepth 100000 in
set_option maxHeartbeats 4000000 in
theorem walk (lx nx gx : Int) (w : World) (hlx : 0 ≤ lx ∧ lx ≤ 255) (hnx : 0 ≤ nx ∧ nx ≤ 65535) (hgx : 0 ≤ gx ∧ gx ≤ 255) :
    Calls Try.prog 9 #[.int .u8 lx, .int .u16 nx, .int .u8 gx] w fun e w' => e = .returned (.bool true) ∧ Below w.heap.size w w' := by
  obtain ⟨K0, rfl⟩ := Int.eq_ofNat_of_zero_le hlx.1
  obtain ⟨N0, rfl⟩ := Int.eq_ofNat_of_zero_le hnx.1
  obtain ⟨G0, rfl⟩ := Int.eq_ofNat_of_zero_le hgx.1
  obtain ⟨X, hX⟩ : ∃ X, X = K0 % 7 + 1 := ⟨_, rfl⟩
  obtain ⟨g, hg⟩ : ∃ g, g = G0 % 2 := ⟨_, rfl⟩
  obtain ⟨N, hN⟩ : ∃ N, N = N0 + 1 := ⟨_, rfl⟩
  have hX1 : 1 ≤ X := by omega
  have hX7 : X ≤ 7 := by omega
  have hg1 : g ≤ 1 := by omega
  have hN1 : 1 ≤ N := by omega
  have hN6 : N ≤ 65536 := by omega
  have wK : IntKind.i64.wrap ((K0 : Int) % 7) = (K0 : Int) % 7 := IntWalk.i64_in _ (by omega)
  have wG : IntKind.i64.wrap ((G0 : Int) % 2) = (g : Int) := by rw [show (G0 : Int) % 2 = (g : Int) by omega]; exact IntWalk.i64_in _ (by omega)
  have eX : (K0 : Int) % 7 + 1 = (X : Int) := by omega
  have wX0 : IntKind.i64.wrap (X : Int) = (X : Int) := IntWalk.i64_in _ (by omega)
  have wN : IntKind.u32.wrap (N0 : Int) = (N0 : Int) := by rw [IntKind.wrap_u32]; omega
  have eN : (N0 : Int) + 1 = (N : Int) := by omega
  have wN1 : IntKind.u32.wrap (N : Int) = (N : Int) := by rw [IntKind.wrap_u32]; omega
  have wX : IntKind.u64.wrap (X : Int) = (X : Int) := by rw [IntKind.wrap_u64]; omega
  obtain ⟨P, hP⟩ : ∃ P, P = 2 ^ X := ⟨_, rfl⟩
  have hP7 : P ≤ 2 ^ 7 := by rw [hP]; exact Nat.pow_le_pow_right (by decide) hX7
  have hP1 : 2 ^ 1 ≤ P := by rw [hP]; exact Nat.pow_le_pow_right (by decide) hX1
  have sP : IntKind.i64.wrap ((2 : Int) ^ X) = (P : Int) := by
    have e : (2 : Int) ^ X = (P : Int) := by rw [hP]; simp
    rw [e]
    exact IntWalk.i64_in _ (by omega)
  have sM : min X 64 = X := by omega
  have sM2 : ¬ 64 ≤ X := by omega
  simp only [Nat.reducePow] at hP7 hP1
  clear hX hN hP hg
  go_enter Try.func9, Try.ntmps9
  go_wp2_with fail
  refine (wts_awake _).mono ?_
  rintro e w1 ⟨rfl, hB⟩
  have HB1 := Lib.hid hB
  have hs1 := hB.size
  clear hB
  obtain ⟨i0, hi0, hi1⟩ := Option.map_eq_some_iff.1 info_u32
  simp only [Prod.mk.injEq] at hi1
  obtain ⟨hz0, hz1, hz2⟩ := hi1
  have HI := Lib.hid (And.intro hi0 (And.intro hz0 (And.intro hz1 hz2)))
  clear hi0 hz0 hz1 hz2
  go_wp2_with fail
  go_loopg [10, 11] P (fun gh vl vi wx => ∃ i : Nat, vi = .int .i64 (i : Int) ∧ i + gh = P ∧ OwE ucel wx 45 w1.heap.size vl (evn g N i) ∧ Below w1.heap.size w1 wx)
  case atStart => exact ⟨0, rfl, by omega, OwE.nil _ _ _ _, Below.refl _ _⟩
  case round =>
    obtain ⟨i, rfl, hi, hO, hB⟩ := hrel
    have HO := Lib.hid hO
    have HB := Lib.hid hB
    have hsB := hB.size
    have HGK := Lib.hid hi
    have hiP : i ≤ P := by omega
    clear hO hB hi
    by_cases hlt : i < P
    · have hltz : (i : Int) < (P : Int) := by omega
      obtain ⟨gk', rfl⟩ : ∃ g', gk = g' + 1 := ⟨gk - 1, by have := HGK.out; omega⟩
      go_wp2_with fail
      go_loopg [10, 12] g (fun g2 vl vj wy => ∃ j : Nat, vj = .int .i64 (j : Int) ∧ j + g2 = g ∧ OwE ucel wy 45 w1.heap.size vl (evn g N i ++ List.replicate j 0) ∧ Below w1.heap.size w1 wy)
      case atStart => exact ⟨0, rfl, by omega, by simpa using HO.out, HB.out⟩
      case round =>
        clear HO HB hsB
        obtain ⟨j, rfl, hj, hO, hB⟩ := hrel
        have HO := Lib.hid hO
        have HB := Lib.hid hB
        have hsB := hB.size
        have HJ := Lib.hid hj
        have hlen : (evn g N i ++ List.replicate j 0).length ≤ 1000 := by
          rw [List.length_append, evn_len, List.length_replicate]
          have : i * (g + 1) ≤ 128 * 2 := Nat.mul_le_mul (by omega) (by omega)
          omega
        have hlen2 : (evn g N i).length + j ≤ 1000 := by
          rw [List.length_append, List.length_replicate] at hlen
          exact hlen
        have hjg : j ≤ g := by omega
        clear hO hB hj
        by_cases hjl : j < g
        · have hjz : (j : Int) < (g : Int) := by omega
          obtain ⟨gq, rfl⟩ : ∃ g', gk = g' + 1 := ⟨gk - 1, by have := HJ.out; omega⟩
          have HA := Lib.hid (HO.out.alloc (.cells #[.int .u32 0] 45))
          have HD1 := Lib.hid (datE_one ucel wr 0 45 _ rfl)
          go_wp2_with (at_builtin; refine list_appE ucel_one _ rfl _ _ 43 rfl i0 (.int .u32 0) 4 Try.underlying43 HI.out.1 HI.out.2.1 HI.out.2.2.1 HI.out.2.2.2 rfl (by decide) rfl HA.out rfl HD1.out rfl ?_ ?_ ?_)
          · first | omega | (simp; omega)
          · first | omega | (simp; omega)
          intro v1 w4 ho1 hg1 hat1
          have HB4 := Lib.hid ((HB.out.alloc (by omega) (.cells #[.int .u32 0] 45)).grown hg1 (by simp; omega) (fun k hk => (HO.out.block k hk).1))
          rw [show evn g N i ++ (List.replicate j 0 ++ [0]) = evn g N i ++ List.replicate (j + 1) 0 by rw [List.replicate_succ']] at ho1
          have HO1 := Lib.hid ho1
          clear ho1 hg1 hat1 HA HD1
          go_wp2_with fail
          go_roundg gq
          case measure => omega
          case rel => exact ⟨j + 1, by go_num, by have := HJ.out; omega, HO1.out, HB4.out⟩
        · obtain rfl : j = g := by omega
          have hjz : ¬ (j : Int) < (j : Int) := by omega
          have HA := Lib.hid (HO.out.alloc (.cells #[.int .u32 (N : Int)] 45))
          have HD1 := Lib.hid (datE_one ucel wr N 45 _ rfl)
          go_wp2_with (at_builtin; refine list_appE ucel_one _ rfl _ _ 43 rfl i0 (.int .u32 0) 4 Try.underlying43 HI.out.1 HI.out.2.1 HI.out.2.2.1 HI.out.2.2.2 rfl (by decide) rfl HA.out rfl HD1.out rfl ?_ ?_ ?_)
          · first | omega | (simp; omega)
          · first | omega | (simp; omega)
          intro v1 w4 ho1 hg1 hat1
          have HB4 := Lib.hid ((HB.out.alloc (by omega) (.cells #[.int .u32 (N : Int)] 45)).grown hg1 (by simp; omega) (fun k hk => (HO.out.block k hk).1))
          have HO1 : Hid (OwE ucel w4 45 w1.heap.size v1 (evn j N (i + 1))) := Lib.hid ho1
          clear ho1 hg1 hat1 HA HD1
          go_wp2_with fail
          go_roundg gk'
          case measure => omega
          case rel => exact ⟨i + 1, by go_num, by have := HGK.out; omega, HO1.out, HB4.out⟩
    · obtain rfl : i = P := by omega
      have hltz : ¬ (i : Int) < (i : Int) := by omega
      obtain ⟨A, c, rfl, hcl, hD⟩ := HO.out.form
      have hlen := evn_len g N i
      have hce := evn_cnt g (show 0 < N by omega) i
      have hee := evn_ends g (show 0 < N by omega) i
      have hse := evn_sum g N i
      have hle := evn_le g N i
      have h256 : i * (g + 1) ≤ 128 * 2 := Nat.mul_le_mul (by omega) (by omega)
      have h2i : i * 1 ≤ i * (g + 1) := Nat.mul_le_mul (Nat.le_refl _) (by omega)
      have hsum : i * N ≤ 128 * 65536 := Nat.mul_le_mul (by omega) hN6
      obtain ⟨M, hM⟩ : ∃ M, M = i * (g + 1) := ⟨_, rfl⟩
      rw [← hM] at hlen hee h256 h2i
      rw [hlen] at hcl
      obtain ⟨os, hos⟩ : ∃ os, os = evn g N i := ⟨_, rfl⟩
      rw [← hos] at hlen hce hee hse hle hD
      have HF := Lib.hid (And.intro hlen (And.intro hce (And.intro hee (And.intro hse hle))))
      have HOf := Lib.hid (ofW_any (w := wr) (c := c) hD hlen (by omega) (fun o ho => by have := hle o ho; omega) (Nat.le_refl _) hcl)
      rw [← hos, hlen]
      clear hD hos hM hlen hce hee hse hle hsB HO
      go_wp2_with fail
      refine HOf.out.mono ?_
      rintro e w2 (⟨hbad, rfl, -⟩ | ⟨-, v, D, Lw, rfl, hO, hM, hLl, hLp, hB2⟩)
      · exfalso
        obtain ⟨q1, q2, q3, q4, q5⟩ := HF.out
        rw [q1, q2, q4] at hbad
        omega
      rw [HF.out.2.2.1] at hLl
      have HM := Lib.hid hM
      have HLl := Lib.hid hLl
      have HP := Lib.hid hLp
      have HB2 := Lib.hid (HB1.out.trans ((HB.out.trans (hB2.mono (HB.out.size))).mono hs1))
      obtain ⟨A2, c2, rfl, hc2, hD2⟩ := hO.form
      have hL256 : ∀ x ∈ Lw, x < 256 := fun x hx => by have := hM.2.2.2.2.2.2 x hx; have := hM.2.2.2.2.2.1; omega
      have hDb := hD2.bytes hL256
      have hlb : (byt Lw).length = Lw.length := by simp [byt]
      obtain ⟨S8, hS8⟩ : ∃ S8, S8 = str (byt Lw) := ⟨_, rfl⟩
      have hn8 : nat S8.data.toList = Lw := by rw [hS8]; exact nat_byt hL256
      have hz8 : S8.size = Lw.length := by rw [hS8, ← hlb]; rfl
      have HDb := Lib.hid hDb
      rw [hLl]
      have HCd := Lib.hid (codes_any (w := w2) (c := c2) hD2 hLl (by omega) (fun x hx => by have := hL256 x hx; omega) (Nat.le_refl _))
      have hs2 := HB2.out.size
      have HZ := Lib.hid (And.intro hS8 (And.intro hn8 (And.intro hz8 hlb)))
      clear hO hM hLl hLp hB2 hD2 hL256 hDb hlb hS8 hn8 hz8 HOf HB
      go_wp2_with fail
      refine HCd.out.mono ?_
      rintro e w3 ⟨hB3, ⟨D', vc, hM', rfl, hOc⟩ | ⟨hno, -⟩⟩
      case inr => exact absurd HM.out (hno D)
      obtain rfl : D' = D := may_depth hM' HM.out.2.2.2.1
      have hcl : (codesOf D' Lw).length = M := by simp [codesOf, HLl.out]
      obtain ⟨gc, cc, rfl, hg1, hg2, hgc⟩ := hOc.place (by rw [hcl]; omega)
      rw [hcl] at hgc hOc ⊢
      have HOc := Lib.hid hOc
      have HB3 := Lib.hid (HB2.out.trans (hB3.mono hs2))
      have hcv := run_str (P := Try.prog) w3 22 Try.underlying22 Try.underlying5 (c := c2) (m := M) (HDb.out.below hB3 (Nat.le_refl _)) (by rw [HZ.out.2.2.2]; exact HLl.out) 9 Try.underlying9
      rw [← HZ.out.1] at hcv
      have HRD := Lib.hid (refDepth_any (w := w3) S8 (by rw [HZ.out.2.2.1, HLl.out]; omega))
      rw [HZ.out.2.1] at HRD
      have HDw := Lib.hid (may_depth (l := Lw) (d' := D') hM')
      clear hB3 hM' hcl hOc HCd
      go_wp2_with fail
      refine HRD.out.mono ?_
      rintro e wb ⟨rfl, ⟨d, hd, rfl⟩ | ⟨hno, -⟩⟩
      case inr => exact absurd HM.out (hno D')
      have hd1 : ((d : Int) == 0) = false := by rw [beq_eq_false_iff_ne]; have := hd.2.2.2.2.1; omega
      clear hd HRD hcv
      go_wp2_with fail
      go_loopg [17, 18] M (fun gh vt vi wx => ∃ j q : Nat, j + gh = M ∧ vi = .int .i64 j ∧ vt = .int .i64 (cnt (os.take j) : Nat) ∧ wx = w3.drewN q)
      case atStart => exact ⟨0, 0, by omega, rfl, rfl, rfl⟩
      case round =>
        obtain ⟨j, q, hj, rfl, rfl, rfl⟩ := hrel
        have HJ := Lib.hid hj
        have hjM : j ≤ M := by omega
        clear hj
        by_cases hjl : j < M
        · obtain ⟨g', rfl⟩ : ∃ g', gk = g' + 1 := ⟨gk - 1, by have := HJ.out; omega⟩
          have hjz : (j : Int) < (M : Int) := by omega
          have hjo : j < os.length := by have := HF.out.1; omega
          have hjL : j < Lw.length := by have := HLl.out; omega
          have k0 := cell2 HOc.out j hjL
          have h1 := HP.out j hjL
          have hsn := cnt_snoc (os.take j) os[j]
          rw [← take_snoc' os j hjo] at hsn
          have hcj := cnt_le (os.take j)
          rw [List.length_take] at hcj
          have hcj2 : cnt (os.take j) ≤ 256 := by omega
          rw [getD_eq os j 0 hjo] at h1
          have hbw : bitsW D' Lw j = if Lw.getD j 0 = 0 then 0 else D' + 1 - Lw.getD j 0 := rfl
          have hDl : Lw.getD j 0 ≤ D' := by rw [getD_eq _ _ _ hjL]; exact HM.out.2.2.2.2.2.2 _ (List.getElem_mem _)
          have HSn := Lib.hid hsn
          have hD11 : D' ≤ 11 := HM.out.2.2.2.2.2.1
          have HBW : Hid (0 < bitsW D' Lw j ↔ 0 < os[j]) := by
            refine Iff.trans ?_ h1
            rw [hbw]
            split <;> omega
          have hb11 : bitsW D' Lw j ≤ 12 := by rw [hbw]; split <;> omega
          clear h1 hsn hcj hbw hDl
          generalize os[j] = x at *
          generalize bitsW D' Lw j = bw at *
          generalize cnt (os.take j) = C at *
          by_cases hx : 0 < x
          · have hb0 := HBW.out.2 hx
            have hbz : (0 : Int) < (bw : Int) := by omega
            go_wp2_with fail
            go_roundg g'
            case measure => omega
            case rel => exact ⟨j + 1, _, by have := HJ.out; omega, by go_num, by rw [HSn.out, if_pos hx]; go_num, rfl⟩
          · have hb0 : bw = 0 := by have := HBW.out; omega
            subst hb0
            go_wp2_with fail
            go_roundg g'
            case measure => omega
            case rel => exact ⟨j + 1, _, by have := HJ.out; omega, by go_num, by rw [HSn.out, if_neg hx]; go_num, rfl⟩
        · obtain rfl : j = M := by omega
          have hjz : ¬ (j : Int) < (j : Int) := by omega
          have ht : os.take j = os := List.take_of_length_le (by rw [HF.out.1]; omega)
          rw [ht, HF.out.2.1]
          go_wp2_with fail
          go_ret
          exact ⟨rfl, below_drawn HB3.out _⟩


set_option maxRecDepth 100000 in
theorem lifted (os : Os) (started : os.Started) (H : Type) (enc : TypeId × Value → H) :
    ReturnsInHanded {} Try.checked os 9 .any (Rows.weightsEvenSpec.pre6 enc Try.prog Try.f9 Rows.weightsEvenRow.domain false) (Rows.weightsEvenSpec.post enc Try.prog Try.f9 false true false false) := by
  refine returnsInHanded_of_change (C := Try.checked) own started (by kernel_rfl) Try.func9
    (ChangeSpec.witness6 (enc := enc) (C := Try.checked) false ⟨#[], #[.int .u8 0, .int .u16 0, .int .u8 0], []⟩ 8 (by kernel_rfl) (by kernel_rfl) (by kernel_rfl) (by kernel_rfl)) ?_
  intro W base args ds gs before hval0 hW hcnd _
  have hval : ∀ (j : Nat) t v, Try.f9.params[j]? = some t → args[j]? = some v → Value.okWide Try.prog W .any base t v := hval0
  have hW' := hW
  obtain ⟨p, q, hA0, hV, rfl, hfz, hnd⟩ := hW
  have hA : DataW.TrodAll enc Try.prog W 0 (fun _ => true) true Try.f9.params.toList args.toList ds p := hA0
  rw [Try.params9] at hA hval
  obtain ⟨v0, vs0, d0, ds0, p0, q0, hargs, rfl, rfl, h0, r0⟩ := trodAll_cons hA
  obtain ⟨v1, vs1, d1, ds1, p1, q1, rfl, rfl, rfl, h1, r1⟩ := trodAll_cons r0
  obtain ⟨v2, vs2, d2, ds2, p2, q2, rfl, rfl, rfl, h2, r2⟩ := trodAll_cons r1
  obtain ⟨rfl, rfl, rfl⟩ := trodAll_nil r2
  obtain rfl : args = #[v0, v1, v2] := by cases args; simp_all
  obtain ⟨rfl, rfl⟩ := trodVars_none hV
  obtain ⟨n0, rfl, rfl, rfl, w0⟩ := open_int Try.underlying5 (hval 0 5 v0 rfl rfl) h0
  obtain ⟨n1, rfl, rfl, rfl, w1⟩ := open_int Try.underlying52 (hval 1 52 v1 rfl rfl) h1
  obtain ⟨n2, rfl, rfl, rfl, w2⟩ := open_int Try.underlying5 (hval 2 5 v2 rfl rfl) h2
  clear hA0 hval0
  refine (walk n0 n1 n2 W (u8_bounds w0) (u16_bounds w1) (u8_bounds w2)).mono fun e W' ⟨he, bel⟩ => ?_
  subst he
  exact ⟨_, rfl, _, _, _, [], _, [], hW', trodAll_mk1 (shut_bool Try.underlying4 _), (trodAll_cons_mk (shut_int Try.underlying5 w0) (trodAll_cons_mk (shut_int Try.underlying52 w1) (trodAll_cons_mk (shut_int Try.underlying5 w2) trodAll_mk0))), rfl, bel.frame _, fun h => by cases h⟩

theorem over : Rows.weightsEvenRow.holds Try.pinned (OpenSpec.ofChange Rows.weightsEvenSpec) :=
  OpenClaim.holds_of_wide 9 Try.f9 rfl rfl rfl rfl rfl rfl rfl ⟨rfl, rfl, rfl, rfl, rfl⟩ rfl rfl rfl rfl rfl (by kernel_rfl) Try.func9 (by kernel_rfl)
    (of_decide_eq_true (by kernel_rfl)) (by unfold Func.isWrapper; first | (rw [if_pos (by decide +kernel)]; kernel_rfl) | (rw [if_neg (by decide +kernel)]; exact ⟨rfl, rfl⟩))
    (fun os started H enc _ => lifted os started H enc)

theorem proved : Rows.WeightsEvenSaid := over
end Go.Proofs.Ytafdfjacfodbnaa.weightsEven
