
/- MatchLevels holds, tied to the program's text: for every bytes, cut and level the law returns true. No condition of ours; the row's own: the package's variable reads as the text lays it. -/
import Derived.Test.YtfaonmggiffemaaDoorMatLaw
namespace Go.Proofs.YtfaonmggiffemaaDoor.matchLevels
open Go.ChangeShapes Go.WideShapes Go.ChangeAt Go.RowKit

set_option maxRecDepth 100000 in
set_option maxHeartbeats 4000000 in
theorem walk (a : Option Addr) (xs : List UInt8) (cp : Nat) (ct lv : Int) (w : World) (hgl : Glob w) (hd : Dat false w 0 w.heap.size a xs) (_hm : xs.length ≤ maxLen) (hcap : xs.length ≤ cp)
    (hb1 : 0 ≤ ct ∧ ct ≤ 65535) (hb2 : 0 ≤ lv ∧ lv ≤ 255) :
    Calls Tryd.prog 6 #[.slice a xs.length cp, .int .u16 ct, .int .u8 lv] w fun e w' => e = .returned (.bool true) ∧ Below w.heap.size w w' := by
  have HG := Lib.hid hgl
  have HD := Lib.hid hd
  have hw2 := hgl.2
  obtain ⟨m, hmm⟩ : ∃ m, m = xs.length := ⟨_, rfl⟩
  rw [← hmm] at hcap ⊢
  have HM := Lib.hid hmm
  clear hgl hd hmm
  obtain ⟨cn, rfl⟩ := Int.eq_ofNat_of_zero_le hb1.1
  obtain ⟨ln, rfl⟩ := Int.eq_ofNat_of_zero_le hb2.1
  have hcn : cn ≤ 65535 := by omega
  have hln : ln ≤ 255 := by omega
  clear hb1 hb2
  by_cases hlong : 600 < m
  · have h50 : (600 : Int) < (m : Int) := by omega
    go_enter Tryd.func6, Tryd.ntmps6
    go_wp2_with (go_at_call 7; refine (awake_any _ HG.out).mono ?_; rintro e' w1 ⟨rfl, hB1⟩; have HB1 := Lib.hid hB1; clear hB1)
    go_ret
    exact ⟨rfl, HB1.out⟩
  · have h50 : decide ((600 : Int) < (m : Int)) = false := by simp; omega
    have hm2 : m ≤ 600 := by omega
    obtain ⟨k, hk⟩ : ∃ k, k = cn % (m + 1) := ⟨_, rfl⟩
    have hkm : k ≤ m := by rw [hk]; have := Nat.mod_lt cn (show 0 < m + 1 by omega); omega
    have hki : ((cn : Int).tmod ((m : Int) + 1)) = (k : Int) := by
      rw [hk, Int.tmod_eq_emod_of_nonneg (by omega)]
      simp
    have hki2 : ((cn : Int) % ((m : Int) + 1)) = (k : Int) := by rw [hk]; simp
    obtain ⟨l, hl⟩ : ∃ l, l = ln % 10 := ⟨_, rfl⟩
    have hl9 : l ≤ 9 := by omega
    have hli : ((ln : Int).tmod 10) = (l : Int) := by
      rw [hl, Int.tmod_eq_emod_of_nonneg (by omega)]
      simp
    have hli2 : ((ln : Int) % 10) = (l : Int) := by rw [hl]; simp
    clear hk hl
    go_enter Tryd.func6, Tryd.ntmps6
    go_upto_region 7 with (go_at_call 7; refine (awake_any _ HG.out).mono ?_; rintro e' w1 ⟨rfl, hB1⟩; have HB1 := Lib.hid hB1; clear hB1)
    have hs1 := HB1.out.size
    have HF1 : Hid (Calls Tryd.prog 8 #[.slice a m cp, .int .i64 0, .int .i64 (k : Int), .int .i64 (l : Int)] w1 (FPost xs 0 k l w1)) :=
      find_ok (HG.out.below HB1.out hw2) (HD.out.below HB1.out (Nat.le_refl _)) HM.out.symm hcap (by omega) hs1 0 k l (Nat.zero_le _) hkm hl9
    go_upto_region 8 with (go_at_call 8; refine HF1.out.mono ?_; rintro e' w2 ⟨⟨v, L1, b1, rfl, q1, hq, ho, hmk, _, _⟩, hB⟩; obtain ⟨A1, n1, c1, rfl⟩ := ho.slice; have HO1 := Lib.hid ho; have HM1 := Lib.hid hmk; have HQ1 := Lib.hid hq; have HB2 := Lib.hid (HB1.out.trans (hB.mono hs1)); clear ho hB hmk hq)
    have hs2 := HB2.out.size
    have HF2 := Lib.hid (find_ok (HG.out.below HB2.out hw2) (HD.out.below HB2.out (Nat.le_refl _)) HM.out.symm hcap (by omega) hs2 k m l hkm (Nat.le_refl _) hl9)
    go_upto_region 9 with (go_at_call 8; refine HF2.out.mono ?_; rintro e' w3 ⟨⟨v, L2, b2, rfl, q2, hq, ho, hmk, _, _⟩, hB⟩; obtain ⟨A2, n2, c2, rfl⟩ := ho.slice; have HO2 := Lib.hid ho; have HM2 := Lib.hid hmk; have HQ2 := Lib.hid hq; have HO3 := Lib.hid (HO1.out.below hB (Nat.le_refl _)); have HB3 := Lib.hid (HB2.out.trans (hB.mono hs2)); clear ho hB hmk hq)
    have hlt : (xs.take k).length = k := by rw [List.length_take, ← HM.out]; omega
    have HP1 : Hid (Calls Tryd.prog 9 #[.string (str (xs.take k)), .int .i64 0, .int .i64 (k : Int), .slice A1 n1 c1, .int .i64 (b1 : Int)] w3 fun e w' => e = .returned (.bool true) ∧ ∃ z, w' = w3.drewN z) :=
      ref_ok (fr := 0) HO3.out (by rw [hlt]; exact Nat.le_refl _) (by rw [hlt]; omega) HM1.out.take HQ1.out (Nat.zero_le _) 0
    have HP2 := Lib.hid (ref_ok HO2.out (by rw [← HM.out]; exact Nat.le_refl _) (by rw [← HM.out]; omega) HM2.out HQ2.out hkm)
    have hcv1 := fun W (hW : Below w.heap.size w W) => run_str (P := Tryd.prog) W 22 Tryd.underlying22 Tryd.underlying5 (c := cp) (m := k) ((HD.out.below hW (Nat.le_refl _)).take k) hlt 9 Tryd.underlying9
    have hcv2 := fun W (hW : Below w.heap.size w W) => run_str (P := Tryd.prog) W 22 Tryd.underlying22 Tryd.underlying5 (c := cp) (m := m) (HD.out.below hW (Nat.le_refl _)) HM.out.symm 9 Tryd.underlying9
    have hc1 := hcv1 _ HB3.out
    have hc2 : ∀ z, _ := fun z => hcv2 _ (below_drewN HB3.out z)
    clear hcv1 hcv2 HF1 HF2 hlt
    generalize str xs = S at *
    generalize str (xs.take k) = S1 at *
    have hkc : (k : Int) ≤ (cp : Int) := by omega
    go_wp2_with (first
      | (go_at_call 9; (with_reducible refine HP1.out.mono ?_); rintro e' w5 ⟨rfl, z, rfl⟩)
      | (go_at_call 9; (with_reducible refine (HP2.out _).mono ?_); rintro e' w6 ⟨rfl, z, rfl⟩))
    go_ret
    exact ⟨rfl, below_drewN HB3.out z⟩

set_option maxRecDepth 100000 in
theorem lifted (os : Os) (started : os.Started) (H : Type) (enc : TypeId × Value → H) :
    ReturnsInHanded {} Tryd.checked os 6 .any (fun w args => (Rows.matchLevelsSpec.pre enc Tryd.prog Tryd.f6 [] false w args ∧ laidMetH Tryd.prog laidL w) ∧ sizedMet enc Tryd.prog Tryd.f6 (OpenSpec.ofChange Rows.matchLevelsSpec) false w args)
      (Rows.matchLevelsSpec.post enc Tryd.prog Tryd.f6 false true false false) := by
  refine returnsInHanded_of_change_and (C := Tryd.checked) (X := fun w _ => laidMetH Tryd.prog laidL w) (fun _ _ _ hh h => h.of_heap hh) own started (by kernel_rfl) Tryd.func6
    (ChangeSpec.witness_shaped (enc := enc) (C := Tryd.checked) (os := os) (X := fun w _ => laidMetH Tryd.prog laidL w) false (World.doorLaid Tryd.prog 400 os) #[.slice none 0 0, .int .u16 0, .int .u8 0] 8 rfl (World.shaped_of_RefB (by kernel_rfl) (by kernel_rfl)) (by kernel_rfl) (by kernel_rfl) (by kernel_rfl) (door_met os _)) ?_
  intro W base args ds gs before hval0 hW _ _ hL _
  have hval : ∀ (j : Nat) t v, Tryd.f6.params[j]? = some t → args[j]? = some v → Value.okWide Tryd.prog W .any base t v := hval0
  have hW' := hW
  obtain ⟨p, q, hA0, hV, rfl, hfz, hnd⟩ := hW
  have hA : DataW.TrodAll enc Tryd.prog W 0 (fun _ => true) true Tryd.f6.params.toList args.toList ds p := hA0
  rw [Tryd.params6] at hA hval
  obtain ⟨v0, vs0, d0, ds0, p0, q0, hargs, rfl, rfl, h0, r0⟩ := trodAll_cons hA
  obtain ⟨v1, vs1, d1, ds1, p1, q1, rfl, rfl, rfl, h1, r1⟩ := trodAll_cons r0
  obtain ⟨v2, vs2, d2, ds2, p2, q2, rfl, rfl, rfl, h2, r2⟩ := trodAll_cons r1
  obtain ⟨rfl, rfl, rfl⟩ := trodAll_nil r2
  obtain rfl : args = #[v0, v1, v2] := by cases args; simp_all
  obtain ⟨rfl, rfl⟩ := trodVars_none hV
  obtain ⟨a0, len0, cap0, rfl⟩ := okWide_slice Tryd.underlying22 (hval 0 22 v0 rfl rfl)
  have k0 := h0
  have lt0 : ∀ x ∈ p0, x.block < W.heap.size := by obtain ⟨m, hm⟩ := k0; exact DataW.trod_lt m _ _ _ hm
  obtain ⟨z0, w0⟩ := row_of_trod h0
  obtain ⟨xs0, rfl, hl0, hm0, hd0⟩ := row_dat w0
  obtain ⟨n1, rfl, rfl, rfl, w1⟩ := open_int Tryd.underlying30 (hval 1 30 v1 rfl rfl) h1
  obtain ⟨n2, rfl, rfl, rfl, w2⟩ := open_int Tryd.underlying5 (hval 2 5 v2 rfl rfl) h2
  clear hA0 hval0
  refine (walk a0 xs0 cap0 n1 n2 W (glob_of_laid hL) hd0 (by omega) hl0 (u16_bounds w1) (u8_bounds w2)).mono fun e W' ⟨he, bel⟩ => ?_
  subst he
  exact ⟨_, rfl, _, _, _, [], _, [], hW', trodAll_mk1 (shut_bool Tryd.underlying4 _), (trodAll_cons_mk (Below.trod laidOut (by kernel_rfl) (of_decide_eq_true (by kernel_rfl)) k0 bel lt0) (trodAll_cons_mk (shut_int Tryd.underlying30 w1) (trodAll_cons_mk (shut_int Tryd.underlying5 w2) trodAll_mk0))), rfl, bel.frame _, fun h => by cases h⟩

theorem over : Rows.matchLevelsRow.holds Tryd.pinned (OpenSpec.ofChange Rows.matchLevelsSpec) :=
  OpenClaim.holds_of_wide 6 Tryd.f6 rfl rfl rfl rfl rfl rfl rfl ⟨rfl, rfl, rfl, rfl, rfl⟩ rfl rfl rfl rfl rfl (by kernel_rfl) Tryd.func6 (by kernel_rfl)
    (of_decide_eq_true (by kernel_rfl)) (by unfold Func.isWrapper; first | (rw [if_pos (by decide +kernel)]; kernel_rfl) | (rw [if_neg (by decide +kernel)]; exact ⟨rfl, rfl⟩))
    (fun os started H enc _ => lifted os started H enc)

/-- ████ THE STATEMENT ████ -/
theorem proved : Rows.MatchLevelsCardSaid :=
  Claim7.holds_tied_plain_at .later [] [.data] true Rows.matchLevelsCard.stood.harness false
    over (fun _ h => by cases h) (by kernel_rfl) (fun _ h => by cases h) matchLevels_row_tie rfl ⟨rfl, rfl⟩ (by kernel_rfl) rfl
    (fun f fn hf hfn => by
      obtain rfl : f = 6 := Option.some.inj ((show Tryd.prog.funcNamed Rows.matchLevelsRow.func = some 6 by kernel_rfl).symm.trans hf) |>.symm
      obtain rfl : fn = Tryd.f6 := (Option.some.inj (Tryd.func6.symm.trans hfn)).symm
      exact ⟨by kernel_rfl, fun j t ht => by
        rw [Tryd.params6] at ht
        have hm : t ∈ [22, 30, 5] := by
          have := Array.mem_of_getElem? ht
          simp at this
          simpa using this
        have hall : ([22, 30, 5].all fun u => !Tryd.prog.wantsStandIn u) = true := by kernel_rfl
        exact (show Tryd.prog.wantsStandIn t = false by simpa using List.all_eq_true.1 hall t hm)⟩)
    (by kernel_rfl)
#print axioms proved
end Go.Proofs.YtfaonmggiffemaaDoor.matchLevels
