
/- FseBuilds holds: for all counts the law returns true, and the counts read behind the call as they read before. No condition. -/
import Derived.Test.YtchpaeelpaicbaaFseAwake
import Derived.Test.YtchpaeelpaicbaaFseRef
import Derived.Test.YtchpaeelpaicbaaFseSame
import Derived.Test.YtchpaeelpaicbaaNormCounts
namespace Go.Proofs.Ytchpaeelpaicbaa.fseBuilds
open Go.ChangeShapes Go.WideShapes Go.ChangeAt Go.RowKit

set_option maxRecDepth 100000 in
set_option maxHeartbeats 4000000 in
theorem walk (L : Int) (A : Option Addr) (ps : List Int) (cp : Nat) (w : World) (_hL : -9223372036854775808 ≤ L ∧ L ≤ 9223372036854775807) (hd : DatE icel w 0 w.heap.size A ps) (hc : ps.length ≤ cp) (hm : ps.length ≤ maxLen) (hb : ∀ p ∈ ps, -9223372036854775808 ≤ p ∧ p ≤ 9223372036854775807) :
    Calls Try.prog 3 #[.agg #[.int .i64 L, .slice A ps.length cp]] w fun e w' => e = .returned (.bool true) ∧ Below w.heap.size w w' := by
  have hx := Box.new w 24 #[.int .i64 L, .slice A ps.length cp]
  have HX := Lib.hid hx
  have HD := Lib.hid hd
  have HBd := Lib.hid hb
  have hmx := hm
  unfold maxLen at hmx
  obtain ⟨m, hmm⟩ : ∃ m, m = ps.length := ⟨_, rfl⟩
  rw [← hmm] at hmx hc hm HX ⊢
  have HM := Lib.hid hmm.symm
  clear hd hb hmm hx
  by_cases h300 : 300 < m
  · have h3 : (300 : Int) < (m : Int) := by omega
    go_enter Try.func3, Try.ntmps3
    go_wp2_with fail
    refine (fse_awake _).mono ?_
    rintro e w1 ⟨rfl, hB⟩
    have HB := Lib.hid (((Below.refl _ _).alloc (Nat.le_refl _) (.cells #[.int .i64 L, .slice A m cp] 24)).trans (hB.mono (by simp)))
    obtain ⟨c0, c1, f0, f1⟩ := box2 (HX.out.below hB (by simp))
    clear hB
    go_wp2_with fail
    go_ret
    exact ⟨rfl, HB.out⟩
  · have h3 : decide ((300 : Int) < (m : Int)) = false := by simp; omega
    by_cases h10 : L ≤ 10
    · have h10' : decide (10 < L) = false := by simp; omega
      go_enter Try.func3, Try.ntmps3
      go_wp2_with fail
      refine (fse_awake _).mono ?_
      rintro e w1 ⟨rfl, hB⟩
      have HB := Lib.hid (((Below.refl _ _).alloc (Nat.le_refl _) (.cells #[.int .i64 L, .slice A m cp] 24)).trans (hB.mono (by simp)))
      have HX1 := Lib.hid (HX.out.below hB (by simp))
      have hs1 := hB.size
      simp only [World.size_alloc] at hs1
      obtain ⟨c0, c1, f0, f1⟩ := box2 HX1.out
      clear hB HX
      go_wp2_with fail
      refine (build_any (cp := cp) L (HD.out.below HB.out (Nat.le_refl _)) HM.out hc hm (by omega) HBd.out).mono ?_
      rintro e w2 ⟨hB, hor⟩
      have HB2 := Lib.hid (HB.out.trans (hB.mono (by omega)))
      have HX2 := Lib.hid (HX1.out.below hB (by omega))
      have hs2 := hB.size
      clear hB HB HX1 c0 c1 f0 f1
      rcases hor with ⟨hmay, v, rfl, ho⟩ | ⟨hmay, rfl⟩
      · obtain ⟨l, rfl⟩ := Int.eq_ofNat_of_zero_le (show 0 ≤ L by have := (mayB_iff.1 hmay).1; omega)
        rw [show ((l : Nat) : Int).toNat = l by omega] at ho
        have HF := Lib.hid (mayF hmay)
        have hl15 := (mayF hmay).l15
        have htl := tab_length HF.out
        have hn0 : 0 < 2 ^ l := Nat.two_pow_pos _
        have hn15 : 2 ^ l ≤ 2 ^ 15 := Nat.pow_le_pow_right (by omega) hl15
        obtain ⟨d, c, rfl, hd1, hd2, hdc⟩ := ho.place (by omega)
        rw [htl] at ho hdc ⊢
        obtain ⟨n, hn⟩ : ∃ n, n = 2 ^ l := ⟨_, rfl⟩
        rw [← hn] at htl ho hdc hn0 hn15 ⊢
        have HN := Lib.hid hn
        have HT := Lib.hid htl
        have HFi := Lib.hid (tab_fine HF.out)
        have HMay := Lib.hid hmay
        have htb := Box.new w2 28 #[.int .i64 (l : Int), .slice (some ⟨d, 0, none⟩) n c]
        have HTb := Lib.hid htb
        have HO := Lib.hid (ho.alloc (.cells #[.int .i64 (l : Int), .slice (some ⟨d, 0, none⟩) n c] 28))
        have HB3 := Lib.hid (HB2.out.alloc (by omega) (.cells #[.int .i64 (l : Int), .slice (some ⟨d, 0, none⟩) n c] 28))
        have HX3 := Lib.hid (HX2.out.alloc (.cells #[.int .i64 (l : Int), .slice (some ⟨d, 0, none⟩) n c] 28))
        obtain ⟨c0, c1, f0, f1⟩ := box2 HX3.out
        clear hn htl ho hmay htb HB2 HX2
        go_wp2_with fail
        generalize w2.alloc (.cells #[.int .i64 (l : Int), .slice (some ⟨d, 0, none⟩) n c] 28) = W3 at *
        generalize w2.heap.size = g2 at *
        refine (modelOf7_any (l : Int) _ _ _ _).mono ?_
        rintro e w4 ⟨rfl, hB⟩
        have HB4 := Lib.hid (HB3.out.trans (hB.mono HB3.out.size))
        have HTb4 := Lib.hid (HTb.out.below hB HTb.out.lt)
        have HO4 := Lib.hid (HO.out.below hB (Nat.le_refl _))
        clear hB HB3 HX3 HTb HO c0 c1 f0 f1
        go_wp2_with fail
        refine (refBuild_yes (cp := cp) l HMay.out (HD.out.below HB4.out (Nat.le_refl _)) HM.out hc hm (HB4.out.size) HBd.out).mono ?_
        rintro e w5 ⟨v5, rfl, ho5, hB⟩
        obtain ⟨d5, c5, rfl, hd51, hd52, hdc5⟩ := ho5.place (by rw [HT.out]; omega)
        rw [HT.out] at ho5 hdc5 ⊢
        have HO5 := Lib.hid ho5
        have HB5 := Lib.hid (HB4.out.trans (hB.mono HB4.out.size))
        have HTb5 := Lib.hid (HTb4.out.below hB HTb4.out.lt)
        have HO45 := Lib.hid (HO4.out.below hB (Nat.le_refl _))
        have htr := Box.new w5 34 #[.int .i64 (l : Int), .slice (some ⟨d5, 0, none⟩) n c5]
        have HTr := Lib.hid htr
        have HW := Lib.hid ((Below.refl w5.heap.size w5).alloc (Nat.le_refl _) (.cells #[.int .i64 (l : Int), .slice (some ⟨d5, 0, none⟩) n c5] 34))
        obtain ⟨t0, t1, _, _⟩ := box2 (HTb5.out.below HW.out HTb5.out.lt)
        obtain ⟨r0, r1, _, _⟩ := box2 htr
        have HS := Lib.hid (sameTable_yes (c := c) (c2 := c5) (l : Int) ((HO45.out.below HW.out (Nat.le_refl _)).dat ecell_len) ((HO5.out.below HW.out (Nat.le_refl _)).dat rcell_len) HFi.out HT.out (by omega) (Nat.le_refl _) (Nat.le_refl _))
        have HB6 := Lib.hid (HB5.out.trans (HW.out.mono HB5.out.size))
        clear ho5 hB htr
        go_wp2_with fail
        refine HS.out.mono ?_
        rintro e w7 ⟨rfl, hB⟩
        have HB7 := Lib.hid (HB6.out.trans (hB.mono HB6.out.size))
        clear hB
        go_wp2_with fail
        go_ret
        exact ⟨rfl, HB7.out⟩
      · have HMay := Lib.hid hmay
        have HB3 := Lib.hid (HB2.out.alloc (by omega) (.cells #[.int .i64 0, .slice none 0 0] 28))
        have HX3 := Lib.hid (HX2.out.alloc (.cells #[.int .i64 0, .slice none 0 0] 28))
        have HTb := Lib.hid (Box.new w2 28 #[.int .i64 0, .slice none 0 0])
        obtain ⟨c0, c1, f0, f1⟩ := box2 HX3.out
        clear hmay HB2 HX2
        go_wp2_with fail
        generalize w2.alloc (.cells #[.int .i64 0, .slice none 0 0] 28) = W3 at *
        generalize w2.heap.size = g2 at *
        refine (modelOf7_any L _ _ _ _).mono ?_
        rintro e w4 ⟨rfl, hB⟩
        have HB4 := Lib.hid (HB3.out.trans (hB.mono HB3.out.size))
        have HTb4 := Lib.hid (HTb.out.below hB HTb.out.lt)
        clear hB HB3 HX3 HTb c0 c1 f0 f1
        go_wp2_with fail
        refine (refBuild_no (cp := cp) L HMay.out (HD.out.below HB4.out (Nat.le_refl _)) HM.out hc hm (HB4.out.size) HBd.out).mono ?_
        rintro e w5 ⟨rfl, hB⟩
        have HB5 := Lib.hid (HB4.out.trans (hB.mono HB4.out.size))
        have HTb5 := Lib.hid (HTb4.out.below hB HTb4.out.lt)
        have htr := Box.new w5 34 #[.int .i64 0, .slice none 0 0]
        have HW := Lib.hid ((Below.refl w5.heap.size w5).alloc (Nat.le_refl _) (.cells #[.int .i64 0, .slice none 0 0] 34))
        obtain ⟨t0, t1, _, _⟩ := box2 (HTb5.out.below HW.out HTb5.out.lt)
        obtain ⟨r0, r1, _, _⟩ := box2 htr
        have HS := Lib.hid (sameTable_none (w5.alloc (.cells #[.int .i64 0, .slice none 0 0] 34)))
        have HB6 := Lib.hid (HB5.out.trans (HW.out.mono HB5.out.size))
        clear hB htr
        go_wp2_with fail
        refine HS.out.mono ?_
        rintro e w7 ⟨rfl, hB⟩
        have HB7 := Lib.hid (HB6.out.trans (hB.mono HB6.out.size))
        clear hB
        go_wp2_with fail
        go_ret
        exact ⟨rfl, HB7.out⟩
    · have h10' : 10 < L := by omega
      by_cases h15 : L ≤ 15
      · go_enter Try.func3, Try.ntmps3
        go_wp2_with fail
        refine (fse_awake _).mono ?_
        rintro e w1 ⟨rfl, hB⟩
        have HB := Lib.hid (((Below.refl _ _).alloc (Nat.le_refl _) (.cells #[.int .i64 L, .slice A m cp] 24)).trans (hB.mono (by simp)))
        obtain ⟨c0, c1, f0, f1⟩ := box2 (HX.out.below hB (by simp))
        clear hB
        go_wp2_with fail
        go_ret
        exact ⟨rfl, HB.out⟩
      · have h15' : decide (L ≤ 15) = false := by simp; omega
        go_enter Try.func3, Try.ntmps3
        go_wp2_with fail
        refine (fse_awake _).mono ?_
        rintro e w1 ⟨rfl, hB⟩
        have HB := Lib.hid (((Below.refl _ _).alloc (Nat.le_refl _) (.cells #[.int .i64 L, .slice A m cp] 24)).trans (hB.mono (by simp)))
        have HX1 := Lib.hid (HX.out.below hB (by simp))
        have hs1 := hB.size
        simp only [World.size_alloc] at hs1
        obtain ⟨c0, c1, f0, f1⟩ := box2 HX1.out
        clear hB HX
        go_wp2_with fail
        refine (build_any (cp := cp) L (HD.out.below HB.out (Nat.le_refl _)) HM.out hc hm (by omega) HBd.out).mono ?_
        rintro e w2 ⟨hB, hor⟩
        have HB2 := Lib.hid (HB.out.trans (hB.mono (by omega)))
        have HX2 := Lib.hid (HX1.out.below hB (by omega))
        have hs2 := hB.size
        clear hB HB HX1 c0 c1 f0 f1
        rcases hor with ⟨hmay, v, rfl, ho⟩ | ⟨hmay, rfl⟩
        · exact absurd (mayB_iff.1 hmay).2.1 (by omega)
        · have HMay := Lib.hid hmay
          have HB3 := Lib.hid (HB2.out.alloc (by omega) (.cells #[.int .i64 0, .slice none 0 0] 28))
          have HX3 := Lib.hid (HX2.out.alloc (.cells #[.int .i64 0, .slice none 0 0] 28))
          have HTb := Lib.hid (Box.new w2 28 #[.int .i64 0, .slice none 0 0])
          obtain ⟨c0, c1, f0, f1⟩ := box2 HX3.out
          clear hmay HB2 HX2
          go_wp2_with fail
          generalize w2.alloc (.cells #[.int .i64 0, .slice none 0 0] 28) = W3 at *
          generalize w2.heap.size = g2 at *
          refine (modelOf7_any L _ _ _ _).mono ?_
          rintro e w4 ⟨rfl, hB⟩
          have HB4 := Lib.hid (HB3.out.trans (hB.mono HB3.out.size))
          have HTb4 := Lib.hid (HTb.out.below hB HTb.out.lt)
          clear hB HB3 HX3 HTb c0 c1 f0 f1
          go_wp2_with fail
          refine (refBuild_no (cp := cp) L HMay.out (HD.out.below HB4.out (Nat.le_refl _)) HM.out hc hm (HB4.out.size) HBd.out).mono ?_
          rintro e w5 ⟨rfl, hB⟩
          have HB5 := Lib.hid (HB4.out.trans (hB.mono HB4.out.size))
          have HTb5 := Lib.hid (HTb4.out.below hB HTb4.out.lt)
          have htr := Box.new w5 34 #[.int .i64 0, .slice none 0 0]
          have HW := Lib.hid ((Below.refl w5.heap.size w5).alloc (Nat.le_refl _) (.cells #[.int .i64 0, .slice none 0 0] 34))
          obtain ⟨t0, t1, _, _⟩ := box2 (HTb5.out.below HW.out HTb5.out.lt)
          obtain ⟨r0, r1, _, _⟩ := box2 htr
          have HS := Lib.hid (sameTable_none (w5.alloc (.cells #[.int .i64 0, .slice none 0 0] 34)))
          have HB6 := Lib.hid (HB5.out.trans (HW.out.mono HB5.out.size))
          clear hB htr
          go_wp2_with fail
          refine HS.out.mono ?_
          rintro e w7 ⟨rfl, hB⟩
          have HB7 := Lib.hid (HB6.out.trans (hB.mono HB6.out.size))
          clear hB
          go_wp2_with fail
          go_ret
          exact ⟨rfl, HB7.out⟩

set_option maxRecDepth 100000 in
theorem lifted (os : Os) (started : os.Started) (H : Type) (enc : TypeId × Value → H) :
    ReturnsInHanded {} Try.checked os 3 .any (Rows.fseBuildsSpec.pre6 enc Try.prog Try.f3 Rows.fseBuildsRow.domain false) (Rows.fseBuildsSpec.post enc Try.prog Try.f3 false true false false) := by
  refine returnsInHanded_of_change (C := Try.checked) own started (by kernel_rfl) Try.func3
    (ChangeSpec.witness6 (enc := enc) (C := Try.checked) false ⟨#[], #[.agg #[.int .i64 0, .slice none 0 0]], []⟩ 8 (by kernel_rfl) (by kernel_rfl) (by kernel_rfl) (by kernel_rfl)) ?_
  intro W base args ds gs before hval0 hW hcnd _
  have hval : ∀ (j : Nat) t v, Try.f3.params[j]? = some t → args[j]? = some v → Value.okWide Try.prog W .any base t v := hval0
  have hW' := hW
  obtain ⟨p, q, hA0, hV, rfl, hfz, hnd⟩ := hW
  have hA : DataW.TrodAll enc Try.prog W 0 (fun _ => true) true Try.f3.params.toList args.toList ds p := hA0
  rw [Try.params3] at hA hval
  obtain ⟨v0, vs0, d0, ds0, p0, q0, hargs, rfl, rfl, h0, r0⟩ := trodAll_cons hA
  obtain ⟨rfl, rfl, rfl⟩ := trodAll_nil r0
  obtain rfl : args = #[v0] := by cases args; simp_all
  obtain ⟨rfl, rfl⟩ := trodVars_none hV
  have k0 := h0
  have lt0 : ∀ x ∈ p0, x.block < W.heap.size := by obtain ⟨m, hm⟩ := k0; exact DataW.trod_lt m _ _ _ hm
  obtain ⟨l0, a0, ns0, cap0, rfl, wl0, hl0, hm0, hd0, hb0⟩ := counts_of (hval 0 24 v0 rfl rfl) h0
  clear hA0 hval0
  refine (walk l0 a0 ns0 cap0 W wl0 hd0 hl0 (by omega) hb0).mono fun e W' ⟨he, bel⟩ => ?_
  subst he
  exact ⟨_, rfl, _, _, _, [], _, [], hW', trodAll_mk1 (shut_bool Try.underlying4 _), (trodAll_cons_mk (Below.trod laidOut (by kernel_rfl) (of_decide_eq_true (by kernel_rfl)) k0 bel lt0) trodAll_mk0), rfl, bel.frame _, fun h => by cases h⟩

theorem over : Rows.fseBuildsRow.holds Try.pinned (OpenSpec.ofChange Rows.fseBuildsSpec) :=
  OpenClaim.holds_of_wide 3 Try.f3 rfl rfl rfl rfl rfl rfl rfl ⟨rfl, rfl, rfl, rfl, rfl⟩ rfl rfl rfl rfl rfl (by kernel_rfl) Try.func3 (by kernel_rfl)
    (of_decide_eq_true (by kernel_rfl)) (by unfold Func.isWrapper; first | (rw [if_pos (by decide +kernel)]; kernel_rfl) | (rw [if_neg (by decide +kernel)]; exact ⟨rfl, rfl⟩))
    (fun os started H enc _ => lifted os started H enc)

theorem proved : Rows.FseBuildsSaid := over
end Go.Proofs.Ytchpaeelpaicbaa.fseBuilds
