
/- WeightsLast holds: for every slice of bytes and every byte the law returns true, and the slice reads behind the call as it read before. No condition. -/
import Derived.Test.YtafdfjacfodbnaaWtAwake
import Derived.Test.YtafdfjacfodbnaaWtRef
import Derived.Test.YtafdfjacfodbnaaWtHalves
import Derived.Test.YtafdfjacfodbnaaPileC
namespace Go.Proofs.Ytafdfjacfodbnaa.weightsLast
open Go.ChangeShapes Go.WideShapes Go.ChangeAt Go.RowKit

theorem str_same (x : ByteArray) : (x == x) = true := by
  show x.beq x = true
  cases x
  first
  | (simp [ByteArray.beq]; done)
  | (unfold ByteArray.beq; simp; done)

theorem nat_app (xs : List UInt8) (x : Nat) (h : x < 256) : nat (xs ++ [UInt8.ofNat x]) = nat xs ++ [x] := by
  unfold nat
  rw [List.map_append]
  congr 1
  simp only [List.map_cons, List.map_nil]
  rw [UInt8.toNat_ofNat']
  congr 1
  omega

set_option maxRecDepth 100000 in
set_option maxHeartbeats 4000000 in
theorem walk (a0 : Option Addr) (xs : List UInt8) (cap0 : Nat) (ox : Int) (w : World) (hd : Dat false w 0 w.heap.size a0 xs) (hm : xs.length ≤ maxLen) (hox : 0 ≤ ox ∧ ox ≤ 255) :
    Calls Try.prog 8 #[.slice a0 xs.length cap0, .int .u8 ox] w fun e w' => e = .returned (.bool true) ∧ Below w.heap.size w w' := by
  obtain ⟨i0, hi0, hz0, hz1, hz2⟩ := info_parts u8_info
  have HI := Lib.hid (And.intro hi0 (And.intro hz0 (And.intro hz1 hz2)))
  unfold maxLen at hm
  obtain ⟨O, rfl⟩ := Int.eq_ofNat_of_zero_le hox.1
  have hO : O ≤ 255 := by omega
  obtain ⟨n, hn⟩ : ∃ n, n = xs.length := ⟨_, rfl⟩
  rw [← hn] at hm ⊢
  have HN := Lib.hid hn.symm
  have HD := Lib.hid hd
  clear hd hn hox hi0 hz0 hz1 hz2
  by_cases h1 : 255 < n
  · have h1' : (255 : Int) < (n : Int) := by omega
    go_enter Try.func8, Try.ntmps8
    go_wp2_with fail
    refine (wts_awake _).mono ?_
    rintro e w1 ⟨rfl, hB⟩
    have HB1 := Lib.hid hB
    clear hB
    go_wp2_with fail
    go_ret
    exact ⟨rfl, HB1.out⟩
  · have h1' : ¬ (255 : Int) < (n : Int) := by omega
    go_enter Try.func8, Try.ntmps8
    go_wp2_with fail
    refine (wts_awake _).mono ?_
    rintro e w1 ⟨rfl, hB1⟩
    have HB1 := Lib.hid hB1
    have hs1 := hB1.size
    have HD1 := Lib.hid (HD.out.below hB1 (Nat.le_refl _))
    clear hB1
    go_wp2_with fail
    refine (whole_any (c := cap0) HD1.out HN.out (by omega) hs1).mono ?_
    rintro e w2 ⟨hB2, ⟨k, v, hk, rfl, hOw⟩ | ⟨hno, rfl⟩⟩
    case inr =>
      have HB2 := Lib.hid (HB1.out.trans (hB2.mono hs1))
      clear hB2 hno
      go_wp2_with fail
      go_ret
      exact ⟨rfl, HB2.out⟩
    obtain ⟨k1, k2, k3, k4, D, k5, k6, k7, k8⟩ := hk
    have HB2 := Lib.hid (HB1.out.trans (hB2.mono hs1))
    have HD2 := Lib.hid (HD1.out.below hB2 hs1)
    have hs2 := HB2.out.size
    have hk11 : k ≤ 11 := by
      have h2 : 2 ^ k < 2 ^ D := by omega
      have := (Nat.pow_lt_pow_iff_right (by decide : 1 < 2)).1 h2
      omega
    have hM : MayW D (nat xs ++ [k + 1]) := may_last k1 k2 k4 k8 k5 k6
    have HM := Lib.hid hM
    obtain ⟨M, hMM⟩ : ∃ M, M = n + 1 := ⟨_, rfl⟩
    have mi : (n : Int) + 1 = (M : Int) := by omega
    have hM256 : M ≤ 256 := by omega
    have HMM := Lib.hid hMM
    have hl1 : (xs ++ [UInt8.ofNat (k + 1)]).length = M := by simp [HN.out, hMM]
    obtain ⟨Ag, c, rfl, hc, hDv⟩ := hOw.form
    obtain ⟨g, o, rfl, hg1, hg2, hcell, _⟩ := hDv (by rw [hl1]; omega)
    obtain rfl : o = 0 := by
      rcases hOw.2 with ⟨e, _⟩ | ⟨g', cap', cur, e, _⟩
      · cases e
      · injection e with e
        injection e with e
        injection e
    rw [hl1] at hc ⊢
    have HTot := Lib.hid (And.intro k8 (And.intro k5 k6))
    have HDv := Lib.hid hDv
    have hkc := hcell n (by rw [hl1]; omega)
    have hgn : (xs ++ [UInt8.ofNat (k + 1)]).getD n 0 = UInt8.ofNat (k + 1) := by
      rw [List.getD_eq_getElem?_getD, List.getElem?_append_right (by rw [HN.out]; omega), HN.out]
      simp
    rw [hgn] at hkc
    have hcel : cel (UInt8.ofNat (k + 1)) = .int .u8 ((k + 1 : Nat) : Int) := by unfold cel; rw [UInt8.toNat_ofNat', Nat.mod_eq_of_lt (by omega)]
    rw [hcel, Nat.zero_add] at hkc
    have HKC := Lib.hid hkc
    obtain ⟨S1, hS1⟩ : ∃ S, S = str (xs ++ [UInt8.ofNat (k + 1)]) := ⟨_, rfl⟩
    have hn1 : nat S1.data.toList = nat xs ++ [k + 1] := by rw [hS1]; exact nat_app xs (k + 1) (by omega)
    have hz1 : S1.size = M := by rw [hS1, ← hl1]; rfl
    obtain ⟨R, hR⟩ : ∃ R, R = O % 11 := ⟨_, rfl⟩
    have hR11 : R < 11 := by omega
    have r1 : (O : Int) % 11 = (R : Int) := by omega
    obtain ⟨X, hX⟩ : ∃ X, X = R + 1 := ⟨_, rfl⟩
    have r2 : IntKind.u8.wrap ((R : Int) + 1) = (X : Int) := by rw [IntKind.wrap_u8']; omega
    have hX1 : 1 ≤ X := by omega
    have hX11 : X ≤ 11 := by omega
    obtain ⟨Z, hZ⟩ : ∃ Z, Z = UInt8.ofNat X := ⟨_, rfl⟩
    have hZn : Z.toNat = X := by rw [hZ, UInt8.toNat_ofNat']; omega
    have hZc : cel Z = .int .u8 (X : Int) := by unfold cel; rw [hZn]
    have HZ := Lib.hid hZ
    have HZc := Lib.hid hZc
    have HS1 := Lib.hid hS1
    have HOw := Lib.hid hOw
    clear hX hR hR11 hZ hZn hZc hDv hM hB2 hcell hgn hcel hkc hl1 hMM k1 k2 k3 k4 k5 k6 k7 k8 hS1 hOw
    go_wp2_with (at_builtin; refine list_app _ rfl _ _ 22 rfl i0 Try.underlying22 HI.out.1 HI.out.2.1 HI.out.2.2.1 HI.out.2.2.2 rfl (OwB.nil _ _ w2.heap.size) rfl HD2.out HN.out ?_ (Nat.le_refl _) ?_)
    · simp only [List.length_nil]; omega
    intro v3 w3 ho3 hg3 _
    have ho3' : OwB w3 5 w2.heap.size v3 xs := ho3
    have HB3 := Lib.hid (below_grown (Below.refl w2.heap.size w2) hg3 (fun k hk => by cases hk) (Nat.le_refl _))
    have HO3 := Lib.hid ho3'
    clear ho3 ho3' hg3
    have hd1 := dat_one w3 Z 5
    rw [HZc.out] at hd1
    have HD1 := Lib.hid hd1
    have HA := Lib.hid (HO3.out.alloc (.cells #[.int .u8 (X : Int)] 5))
    have hs3 := HB3.out.size
    clear hd1
    go_wp2_with (at_builtin; refine list_app _ rfl _ _ 22 rfl i0 Try.underlying22 HI.out.1 HI.out.2.1 HI.out.2.2.1 HI.out.2.2.2 rfl HA.out rfl HD1.out rfl ?_ ?_ ?_)
    · have := HN.out; omega
    · simp; omega
    intro v4 w4 ho4 hg4 _
    have ho4' : OwB w4 5 w2.heap.size v4 (xs ++ [Z]) := ho4
    have hB4 := below_grown (HB3.out.alloc hs3 (.cells #[.int .u8 (X : Int)] 5)) hg4 (fun k hk => (HO3.out.block k hk).1) (by simp; omega)
    have HB4 := Lib.hid (HB2.out.trans (hB4.mono hs2))
    have HDv4 := Lib.hid (HDv.out.below hB4 (Nat.le_refl _))
    have HD4 := Lib.hid (HD2.out.below hB4 hs2)
    have kc4 := (hB4.cell (p := ⟨g, n, none⟩) hg2).trans HKC.out
    have hl4 : (xs ++ [Z]).length = M := by simp [HN.out, HMM.out]
    obtain ⟨A4, c4, rfl, hc4, hD4⟩ := ho4'.form
    rw [hl4] at hc4 ⊢
    obtain ⟨S2, hS2⟩ : ∃ S, S = str (xs ++ [Z]) := ⟨_, rfl⟩
    have hn2 : nat S2.data.toList = nat xs ++ [X] := by rw [hS2, HZ.out]; exact nat_app xs X (by omega)
    have hz2 : S2.size = M := by rw [hS2, ← hl4]; rfl
    have hcv := run_str (P := Try.prog) w4 22 Try.underlying22 Try.underlying5 (c := c) (m := M) HDv4.out (by simp [HN.out, HMM.out]) 9 Try.underlying9
    have hcx := run_str (P := Try.prog) w4 22 Try.underlying22 Try.underlying5 (c := c4) (m := M) hD4 hl4 9 Try.underlying9
    rw [← HS1.out] at hcv
    rw [← hS2] at hcx
    have hdt : Dat true w4 w1.heap.size w2.heap.size (some ⟨g, 0, none⟩) xs := by
      have := HDv4.out.take n
      rwa [List.take_append_of_le_length (by rw [HN.out]; exact Nat.le_refl _), List.take_of_length_le (by rw [HN.out]; exact Nat.le_refl _)] at this
    have hct := run_str (P := Try.prog) w4.drew 22 Try.underlying22 Try.underlying5 (c := c) (m := n) hdt.drew HN.out 9 Try.underlying9
    have hcl := run_str (P := Try.prog) w4.drew 22 Try.underlying22 Try.underlying5 (c := cap0) (m := n) HD4.out.drew HN.out 9 Try.underlying9
    have HCT := Lib.hid hct
    have HCL := Lib.hid hcl
    have HR1 := Lib.hid (refDepth_any (w := w4) S1 (by rw [hz1]; omega))
    have HR2 := Lib.hid (refDepth_any (w := w4) S2 (by rw [hz2]; omega))
    rw [hn1] at HR1
    rw [hn2] at HR2
    clear ho4 hg4 ho4' hB4 hD4 hdt hct hcl hn1 hn2 hz1 hz2 hS2 hl4
    go_wp2_with fail
    refine HR1.out.mono ?_
    rintro e wb ⟨rfl, ⟨d, hd, rfl⟩ | ⟨hno, -⟩⟩
    case inr => exact absurd HM.out (hno D)
    obtain rfl : d = D := may_depth hd HM.out.2.2.2.1
    have hd1 : 1 ≤ d := hd.2.2.2.2.1
    have hdp : (0 : Int) < (d : Int) := by omega
    clear hd hcv
    go_wp2_with fail
    refine HR2.out.mono ?_
    rintro e wb ⟨rfl, hor⟩
    obtain ⟨f, rfl, hf⟩ : ∃ f : Nat, e = .returned (.int .i64 (f : Int)) ∧ (X = k + 1 ∨ f ≠ d) := by
      rcases hor with ⟨f, hf, rfl⟩ | ⟨-, rfl⟩
      · refine ⟨f, rfl, ?_⟩
        by_cases q : f = d
        · subst q
          left
          have a1 := (may_init hf).2.1
          have a2 := (may_init HM.out).2.1
          have a3 : 2 ^ (X - 1) = 2 ^ k := by rw [Nat.add_sub_cancel] at a2; omega
          have := (Nat.pow_right_inj (by decide : 1 < 2)).1 a3
          omega
        · exact .inr q
      · exact ⟨0, rfl, .inr (by omega)⟩
    clear hor hcx HR1 HR2
    generalize k + 1 = V at *
    have hct := HCT.out
    have hcl := HCL.out
    have hn0 : (n : Int) < (M : Int) := by omega
    have wM : IntKind.i64.wrap (M : Int) = (M : Int) := IntWalk.i64_in _ (by omega)
    have wM1 : IntKind.i64.wrap ((n : Int) + 1) = (M : Int) := by rw [mi]; exact wM
    have wM2 : ((M : Int) == (M : Int)) = true := by simp
    have ss := str_same (str xs)
    have hnc : n ≤ c := by omega
    have hncI : (n : Int) ≤ (c : Int) := by omega
    have hcap : (0 : Int) ≤ (n : Int) := by omega
    have hdn : 0 < d := by omega
    have hdb : decide (0 < d) = true := decide_eq_true hdn
    have hn1 : (n : Int) ≤ (M : Int) := by omega
    have hnM : n ≤ M := by have := HMM.out; omega
    have hnM2 : n < M := by have := HMM.out; omega
    by_cases hxv : X = V
    · subst hxv
      have e0 : ((X : Int) == (X : Int)) = true := by simp
      go_wp2_with fail
      have mixed : Try.prog.follows .mixedOrders = true := by kernel_rfl
      go_big_region_o
      go_wp2_with fail
      go_ret
      exact ⟨rfl, HB4.out.drew⟩
    · have e1 : ((X : Int) == (V : Int)) = false := by rw [beq_eq_false_iff_ne]; omega
      have hfd : f ≠ d := hf.resolve_left hxv
      have e2 : ((f : Int) != (d : Int)) = true := by rw [bne_iff_ne]; omega
      go_wp2_with fail
      go_region_held3 (fun w' => w'.cell? ⟨g, n, none⟩ = some (.int .u8 (V : Int)) ∧ (convert 22 9 (.slice (some ⟨g, 0, none⟩) n c)).run Try.prog w' = .ok (.string (str xs)) w' ∧ (convert 22 9 (.slice a0 n cap0)).run Try.prog w' = .ok (.string (str xs)) w') (first | go_keep | exact ⟨kc4, hct, hcl⟩) (fail)
      go_wp2_with fail
      go_ret
      exact ⟨rfl, HB4.out.drew⟩


set_option maxRecDepth 100000 in
theorem lifted (os : Os) (started : os.Started) (H : Type) (enc : TypeId × Value → H) :
    ReturnsInHanded {} Try.checked os 8 .any (Rows.weightsLastSpec.pre6 enc Try.prog Try.f8 Rows.weightsLastRow.domain false) (Rows.weightsLastSpec.post enc Try.prog Try.f8 false true false false) := by
  refine returnsInHanded_of_change (C := Try.checked) own started (by kernel_rfl) Try.func8
    (ChangeSpec.witness6 (enc := enc) (C := Try.checked) false ⟨#[], #[.slice none 0 0, .int .u8 0], []⟩ 8 (by kernel_rfl) (by kernel_rfl) (by kernel_rfl) (by kernel_rfl)) ?_
  intro W base args ds gs before hval0 hW hcnd _
  have hval : ∀ (j : Nat) t v, Try.f8.params[j]? = some t → args[j]? = some v → Value.okWide Try.prog W .any base t v := hval0
  have hW' := hW
  obtain ⟨p, q, hA0, hV, rfl, hfz, hnd⟩ := hW
  have hA : DataW.TrodAll enc Try.prog W 0 (fun _ => true) true Try.f8.params.toList args.toList ds p := hA0
  rw [Try.params8] at hA hval
  obtain ⟨v0, vs0, d0, ds0, p0, q0, hargs, rfl, rfl, h0, r0⟩ := trodAll_cons hA
  obtain ⟨v1, vs1, d1, ds1, p1, q1, rfl, rfl, rfl, h1, r1⟩ := trodAll_cons r0
  obtain ⟨rfl, rfl, rfl⟩ := trodAll_nil r1
  obtain rfl : args = #[v0, v1] := by cases args; simp_all
  obtain ⟨rfl, rfl⟩ := trodVars_none hV
  obtain ⟨a0, len0, cap0, rfl⟩ := okWide_slice Try.underlying22 (hval 0 22 v0 rfl rfl)
  have k0 := h0
  have lt0 : ∀ x ∈ p0, x.block < W.heap.size := by obtain ⟨m, hm⟩ := k0; exact DataW.trod_lt m _ _ _ hm
  obtain ⟨z0, w0⟩ := row_of_trod h0
  obtain ⟨xs0, rfl, hl0, hm0, hd0⟩ := row_dat w0
  obtain ⟨n1, rfl, rfl, rfl, w1⟩ := open_int Try.underlying5 (hval 1 5 v1 rfl rfl) h1
  clear hA0 hval0
  refine (walk a0 xs0 cap0 n1 W hd0 (by omega) (u8_bounds w1)).mono fun e W' ⟨he, bel⟩ => ?_
  subst he
  exact ⟨_, rfl, _, _, _, [], _, [], hW', trodAll_mk1 (shut_bool Try.underlying4 _), (trodAll_cons_mk (Below.trod laidOut (by kernel_rfl) (of_decide_eq_true (by kernel_rfl)) k0 bel lt0) (trodAll_cons_mk (shut_int Try.underlying5 w1) trodAll_mk0)), rfl, bel.frame _, fun h => by cases h⟩

theorem over : Rows.weightsLastRow.holds Try.pinned (OpenSpec.ofChange Rows.weightsLastSpec) :=
  OpenClaim.holds_of_wide 8 Try.f8 rfl rfl rfl rfl rfl rfl rfl ⟨rfl, rfl, rfl, rfl, rfl⟩ rfl rfl rfl rfl rfl (by kernel_rfl) Try.func8 (by kernel_rfl)
    (of_decide_eq_true (by kernel_rfl)) (by unfold Func.isWrapper; first | (rw [if_pos (by decide +kernel)]; kernel_rfl) | (rw [if_neg (by decide +kernel)]; exact ⟨rfl, rfl⟩))
    (fun os started H enc _ => lifted os started H enc)

theorem proved : Rows.WeightsLastSaid := over
end Go.Proofs.Ytafdfjacfodbnaa.weightsLast
