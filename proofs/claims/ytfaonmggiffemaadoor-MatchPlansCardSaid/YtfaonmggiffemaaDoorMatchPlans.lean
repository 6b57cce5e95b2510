
/- MatchPlans holds, tied to the program's text: for every bytes, from, to and level the law returns true. No condition of ours; the row's own: the package's variable reads as the text lays it. -/
import Derived.Test.YtfaonmggiffemaaDoorMatArgs
import Derived.Test.YtfaonmggiffemaaDoorMatAwake
namespace Go.Proofs.YtfaonmggiffemaaDoor.matchPlans
open Go.ChangeShapes Go.WideShapes Go.ChangeAt Go.RowKit

theorem str_same (x : ByteArray) : (x == x) = true := by
  cases x
  simp [BEq.beq, ByteArray.beq]
  exact Array.isEqv_self _

set_option maxRecDepth 100000 in
set_option maxHeartbeats 4000000 in
theorem walk (a : Option Addr) (xs : List UInt8) (cp : Nat) (fr t lv : Int) (w : World) (hgl : Glob w) (hd : Dat false w 0 w.heap.size a xs) (_hm : xs.length ≤ maxLen) (hcap : xs.length ≤ cp)
    (_hb1 : -9223372036854775808 ≤ fr ∧ fr ≤ 9223372036854775807) (_hb2 : -9223372036854775808 ≤ t ∧ t ≤ 9223372036854775807) (_hb3 : -9223372036854775808 ≤ lv ∧ lv ≤ 9223372036854775807) :
    Calls Tryd.prog 3 #[.slice a xs.length cp, .int .i64 fr, .int .i64 t, .int .i64 lv] w fun e w' => e = .returned (.bool true) ∧ Below w.heap.size w w' := by
  have HG := Lib.hid hgl
  have HD := Lib.hid hd
  have hw2 := hgl.2
  obtain ⟨m, hmm⟩ : ∃ m, m = xs.length := ⟨_, rfl⟩
  rw [← hmm] at hcap ⊢
  have HM := Lib.hid hmm
  clear hgl hd hmm
  by_cases hlong : 2000 < m
  · have h50 : (2000 : Int) < (m : Int) := by omega
    go_enter Tryd.func3, Tryd.ntmps3
    go_wp2_with (go_at_call 7; refine (awake_any _ HG.out).mono ?_; rintro e' w1 ⟨rfl, hB1⟩; have HB1 := Lib.hid hB1; clear hB1)
    go_ret
    exact ⟨rfl, HB1.out⟩
  · have h50 : decide ((2000 : Int) < (m : Int)) = false := by simp; omega
    have hm2 : m ≤ 2000 := by omega
    go_enter Tryd.func3, Tryd.ntmps3
    go_upto_region 6 with (go_at_call 7; refine (awake_any _ HG.out).mono ?_; rintro e' w1 ⟨rfl, hB1⟩; have HB1 := Lib.hid hB1; clear hB1)
    have hs1 := HB1.out.size
    have hcv := fun W (hW : Below w.heap.size w W) => run_str (P := Tryd.prog) W 22 Tryd.underlying22 Tryd.underlying5 (c := cp) (m := m) (HD.out.below hW (Nat.le_refl _)) HM.out.symm 9 Tryd.underlying9
    have HCv := Lib.hid hcv
    have hcv1 := hcv _ HB1.out
    clear hcv
    by_cases hbad : Bad m fr t lv
    · have HF := Lib.hid (fun W => find_no a m cp fr t lv W hbad)
      go_upto_region 8 with (go_at_call 8; refine (HF.out _).mono ?_; rintro e' w3 ⟨rfl, hB⟩; have HB3 := Lib.hid (HB1.out.trans (hB.mono hs1)); clear hB)
      have HBad := Lib.hid hbad
      clear hbad hcv1 HF
      by_cases h1 : fr < 0
      · go_wp2_with fail
        go_ret
        exact ⟨rfl, HB3.out⟩
      by_cases h2 : t < fr
      · go_wp2_with fail
        go_ret
        exact ⟨rfl, HB3.out⟩
      by_cases h3 : (m : Int) < t
      · go_wp2_with fail
        go_ret
        exact ⟨rfl, HB3.out⟩
      by_cases h4 : lv < 0
      · go_wp2_with fail
        go_ret
        exact ⟨rfl, HB3.out⟩
      have h5 : (9 : Int) < lv := by rcases HBad.out with h | h | h | h | h <;> omega
      go_wp2_with fail
      go_ret
      exact ⟨rfl, HB3.out⟩
    · have hgood : 0 ≤ fr ∧ fr ≤ t ∧ t ≤ m ∧ 0 ≤ lv ∧ lv ≤ 9 := by
        unfold Bad at hbad
        omega
      obtain ⟨f, rfl⟩ := Int.eq_ofNat_of_zero_le hgood.1
      obtain ⟨u, rfl⟩ := Int.eq_ofNat_of_zero_le (show 0 ≤ t by omega)
      obtain ⟨k, rfl⟩ := Int.eq_ofNat_of_zero_le hgood.2.2.2.1
      have hfu : f ≤ u := by omega
      have hum : u ≤ m := by omega
      have hk9 : k ≤ 9 := by omega
      have c1 : ¬ (f : Int) < 0 := by omega
      have c2 : ¬ (u : Int) < (f : Int) := by omega
      have c3 : ¬ (m : Int) < (u : Int) := by omega
      have c4 : ¬ (k : Int) < 0 := by omega
      have c5 : ¬ (9 : Int) < (k : Int) := by omega
      have HF : Hid (Calls Tryd.prog 8 #[.slice a m cp, .int .i64 (f : Int), .int .i64 (u : Int), .int .i64 (k : Int)] w1 (FPost xs f u k w1)) := by
        by_cases hk : k = 0
        · subst hk
          exact find_nil a xs m cp f u w1 (by omega) hfu hum
        · exact find_plan (HG.out.below HB1.out hw2) (HD.out.below HB1.out (Nat.le_refl _)) HM.out.symm hcap (by omega) hs1 f u k hfu hum (by omega) (by omega)
      clear hbad hgood _hb1 _hb2 _hb3
      go_upto_region 8 with (go_at_call 8; refine HF.out.mono ?_; rintro e' w3 ⟨⟨v, L, b, rfl, q, hq, ho, hmk, hl0, _⟩, hB⟩; obtain ⟨A3, n3, c3', rfl⟩ := ho.slice; have HO := Lib.hid ho; have HMk := Lib.hid hmk; have HQ := Lib.hid hq; have HL0 := Lib.hid hl0; have HB3 := Lib.hid (HB1.out.trans (hB.mono hs1)); clear ho hB hmk hq hl0)
      have hln := HO.out.len
      have HP := Lib.hid (refPlan_any (w := w3) (c := c3') (xs := xs) (HO.out.dat mcells_len) hln (by rw [← HM.out]; exact hum) (by rw [← HM.out]; omega) HMk.out HQ.out hfu)
      have hcv3 := HCv.out _ HB3.out
      have hss := str_same (str xs)
      clear hcv1 HF
      by_cases hk : k = 0
      · subst hk
        have hn0 : n3 = 0 := by rw [← hln, HL0.out rfl]; rfl
        subst hn0
        clear hln
        generalize str xs = S at *
        go_wp2_with (go_at_call 9; refine HP.out.mono ?_; rintro e' w5 ⟨rfl, z, rfl⟩)
        go_ret
        exact ⟨rfl, below_drewN HB3.out z⟩
      · have hk0 : (0 : Int) < (k : Int) := by omega
        clear hln
        generalize str xs = S at *
        go_wp2_with (go_at_call 9; refine HP.out.mono ?_; rintro e' w5 ⟨rfl, z, rfl⟩)
        go_ret
        exact ⟨rfl, below_drewN HB3.out z⟩

set_option maxRecDepth 100000 in
theorem lifted (os : Os) (started : os.Started) (H : Type) (enc : TypeId × Value → H) :
    ReturnsInHanded {} Tryd.checked os 3 .any (fun w args => (Rows.matchPlansSpec.pre enc Tryd.prog Tryd.f3 [] false w args ∧ laidMetH Tryd.prog laidL w) ∧ sizedMet enc Tryd.prog Tryd.f3 (OpenSpec.ofChange Rows.matchPlansSpec) false w args)
      (Rows.matchPlansSpec.post enc Tryd.prog Tryd.f3 false true false false) := by
  refine returnsInHanded_of_change_and (C := Tryd.checked) (X := fun w _ => laidMetH Tryd.prog laidL w) (fun _ _ _ hh h => h.of_heap hh) own started (by kernel_rfl) Tryd.func3
    (ChangeSpec.witness_shaped (enc := enc) (C := Tryd.checked) (os := os) (X := fun w _ => laidMetH Tryd.prog laidL w) false (World.doorLaid Tryd.prog 400 os) #[.slice none 0 0, .int .i64 0, .int .i64 0, .int .i64 0] 8 rfl (World.shaped_of_RefB (by kernel_rfl) (by kernel_rfl)) (by kernel_rfl) (by kernel_rfl) (by kernel_rfl) (door_met os _)) ?_
  intro W base args ds gs before hval0 hW _ _ hL _
  have hval : ∀ (j : Nat) t v, Tryd.f3.params[j]? = some t → args[j]? = some v → Value.okWide Tryd.prog W .any base t v := hval0
  have hW' := hW
  obtain ⟨p, q, hA0, hV, rfl, hfz, hnd⟩ := hW
  have hA : DataW.TrodAll enc Tryd.prog W 0 (fun _ => true) true Tryd.f3.params.toList args.toList ds p := hA0
  rw [Tryd.params3] at hA hval
  obtain ⟨v0, vs0, d0, ds0, p0, q0, hargs, rfl, rfl, h0, r0⟩ := trodAll_cons hA
  obtain ⟨v1, vs1, d1, ds1, p1, q1, rfl, rfl, rfl, h1, r1⟩ := trodAll_cons r0
  obtain ⟨v2, vs2, d2, ds2, p2, q2, rfl, rfl, rfl, h2, r2⟩ := trodAll_cons r1
  obtain ⟨v3, vs3, d3, ds3, p3, q3, rfl, rfl, rfl, h3, r3⟩ := trodAll_cons r2
  obtain ⟨rfl, rfl, rfl⟩ := trodAll_nil r3
  obtain rfl : args = #[v0, v1, v2, v3] := by cases args; simp_all
  obtain ⟨rfl, rfl⟩ := trodVars_none hV
  obtain ⟨a0, len0, cap0, rfl⟩ := okWide_slice Tryd.underlying22 (hval 0 22 v0 rfl rfl)
  have k0 := h0
  have lt0 : ∀ x ∈ p0, x.block < W.heap.size := by obtain ⟨m, hm⟩ := k0; exact DataW.trod_lt m _ _ _ hm
  obtain ⟨z0, w0⟩ := row_of_trod h0
  obtain ⟨xs0, rfl, hl0, hm0, hd0⟩ := row_dat w0
  obtain ⟨n1, rfl, rfl, rfl, w1⟩ := open_int Tryd.underlying3 (hval 1 3 v1 rfl rfl) h1
  obtain ⟨n2, rfl, rfl, rfl, w2⟩ := open_int Tryd.underlying3 (hval 2 3 v2 rfl rfl) h2
  obtain ⟨n3, rfl, rfl, rfl, w3⟩ := open_int Tryd.underlying3 (hval 3 3 v3 rfl rfl) h3
  clear hA0 hval0
  refine (walk a0 xs0 cap0 n1 n2 n3 W (glob_of_laid hL) hd0 (by omega) hl0 (int_bounds w1) (int_bounds w2) (int_bounds w3)).mono fun e W' ⟨he, bel⟩ => ?_
  subst he
  exact ⟨_, rfl, _, _, _, [], _, [], hW', trodAll_mk1 (shut_bool Tryd.underlying4 _), (trodAll_cons_mk (Below.trod laidOut (by kernel_rfl) (of_decide_eq_true (by kernel_rfl)) k0 bel lt0) (trodAll_cons_mk (shut_int Tryd.underlying3 w1) (trodAll_cons_mk (shut_int Tryd.underlying3 w2) (trodAll_cons_mk (shut_int Tryd.underlying3 w3) trodAll_mk0)))), rfl, bel.frame _, fun h => by cases h⟩

theorem over : Rows.matchPlansRow.holds Tryd.pinned (OpenSpec.ofChange Rows.matchPlansSpec) :=
  OpenClaim.holds_of_wide 3 Tryd.f3 rfl rfl rfl rfl rfl rfl rfl ⟨rfl, rfl, rfl, rfl, rfl⟩ rfl rfl rfl rfl rfl (by kernel_rfl) Tryd.func3 (by kernel_rfl)
    (of_decide_eq_true (by kernel_rfl)) (by unfold Func.isWrapper; first | (rw [if_pos (by decide +kernel)]; kernel_rfl) | (rw [if_neg (by decide +kernel)]; exact ⟨rfl, rfl⟩))
    (fun os started H enc _ => lifted os started H enc)

/-- ████ THE STATEMENT ████ -/
theorem proved : Rows.MatchPlansCardSaid :=
  Claim7.holds_tied_plain_at .later [] [.data] true Rows.matchPlansCard.stood.harness false
    over (fun _ h => by cases h) (by kernel_rfl) (fun _ h => by cases h) matchPlans_row_tie rfl ⟨rfl, rfl⟩ (by kernel_rfl) rfl
    (fun f fn hf hfn => by
      obtain rfl : f = 3 := Option.some.inj ((show Tryd.prog.funcNamed Rows.matchPlansRow.func = some 3 by kernel_rfl).symm.trans hf) |>.symm
      obtain rfl : fn = Tryd.f3 := (Option.some.inj (Tryd.func3.symm.trans hfn)).symm
      exact ⟨by kernel_rfl, fun j t ht => by
        rw [Tryd.params3] at ht
        have hm : t ∈ [22, 3, 3, 3] := by
          have := Array.mem_of_getElem? ht
          simp at this
          simpa using this
        have hall : ([22, 3, 3, 3].all fun u => !Tryd.prog.wantsStandIn u) = true := by kernel_rfl
        exact (show Tryd.prog.wantsStandIn t = false by simpa using List.all_eq_true.1 hall t hm)⟩)
    (by kernel_rfl)
#print axioms proved
end Go.Proofs.YtfaonmggiffemaaDoor.matchPlans
