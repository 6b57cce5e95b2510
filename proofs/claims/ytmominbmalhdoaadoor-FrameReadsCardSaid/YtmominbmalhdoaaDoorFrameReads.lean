
/- FrameReads holds, tied to the program's text: for every bytes the law returns true. No condition of ours; the row's own: the package's variables read as the text lays them. -/
import Derived.Test.YtmominbmalhdoaaDoorFrmArgs
import Derived.Test.YtmominbmalhdoaaDoorFrmAwake
import Derived.Test.YtmominbmalhdoaaDoorFrmRefR
namespace Go.Proofs.YtmominbmalhdoaaDoor.frameReads
open Go.ChangeShapes Go.WideShapes Go.ChangeAt Go.RowKit

set_option maxRecDepth 100000 in
set_option maxHeartbeats 4000000 in
theorem walk (a : Option Addr) (xs : List UInt8) (cp : Nat) (w : World) (hgl : Glob w) (hd : Dat false w 0 w.heap.size a xs) (_hm : xs.length ≤ maxLen) (hcap : xs.length ≤ cp) :
    Calls Tryd.prog 3 #[.slice a xs.length cp] w fun e w' => e = .returned (.bool true) ∧ Below w.heap.size w w' := by
  have HG := Lib.hid hgl
  have HD := Lib.hid hd
  have hw2 := hgl.2.2
  obtain ⟨m, hmm⟩ : ∃ m, m = xs.length := ⟨_, rfl⟩
  rw [← hmm] at hcap ⊢
  have HM := Lib.hid hmm
  clear hgl hd hmm
  by_cases hlong : 200 < m
  · have h50 : (200 : Int) < (m : Int) := by omega
    go_enter Tryd.func3, Tryd.ntmps3
    go_wp2_with (go_at_call 8; refine (awake_any _ HG.out).mono ?_; rintro e' w1 ⟨rfl, hB1⟩; have HB1 := Lib.hid hB1; clear hB1)
    go_ret
    exact ⟨rfl, HB1.out⟩
  · have h50 : decide ((200 : Int) < (m : Int)) = false := by simp; omega
    have hm2 : m ≤ 200 := by omega
    go_enter Tryd.func3, Tryd.ntmps3
    go_upto_region 6 with (go_at_call 8; refine (awake_any _ HG.out).mono ?_; rintro e' w1 ⟨rfl, hB1⟩; have HB1 := Lib.hid hB1; clear hB1)
    have hs1 := HB1.out.size
    have hR := Lib.hid (read15_any (c := cp) (HD.out.below HB1.out (Nat.le_refl _)) HM.out.symm hcap (by rw [← HM.out]; omega) hs1 (HG.out.below HB1.out hw2))
    have hF := Lib.hid (fun W => refRead15_any xs (by rw [← HM.out]; omega) W)
    obtain ⟨⟨⟨h1, h2, h3, h4⟩, n, e⟩, hr⟩ : ∃ r, r = hdr xs := ⟨_, rfl⟩
    have hRe : ansH (hdr xs) = .tuple #[.agg #[.int .u64 (h1 : Int), .int .u64 (h2 : Int), .bool h3, .bool h4], .int .i64 (n : Int), .int .i64 e] := by rw [← hr]; rfl
    rw [hRe] at hR hF
    have hS := str_size xs
    clear hRe hr
    go_upto_region 7 with (go_at_call 9; refine hR.out.mono ?_; rintro e' w2 ⟨rfl, hB2⟩; have HB2 := Lib.hid (HB1.out.trans (hB2.mono hs1)); clear hB2)
    have HX : Hid (Box (w2.alloc (.cells #[.int .u64 (h1 : Int), .int .u64 (h2 : Int), .bool h3, .bool h4] 26)) w2.heap.size 26 #[.int .u64 (h1 : Int), .int .u64 (h2 : Int), .bool h3, .bool h4]) := Box.new _ _ _
    have HB3 : Hid (Below w.heap.size w (w2.alloc (.cells #[.int .u64 (h1 : Int), .int .u64 (h2 : Int), .bool h3, .bool h4] 26))) := HB2.out.alloc HB2.out.size _
    generalize w2.alloc (.cells #[.int .u64 (h1 : Int), .int .u64 (h2 : Int), .bool h3, .bool h4] 26) = w3 at *
    generalize w2.heap.size = q at *
    have hcv := run_str (P := Tryd.prog) w3 22 Tryd.underlying22 Tryd.underlying5 (c := cp) (m := m) (HD.out.below HB3.out (Nat.le_refl _)) HM.out.symm 9 Tryd.underlying9
    clear hR HB2 HD HM HG
    generalize str xs = S at *
    go_upto_region 8 with (go_at_call 10; refine (hF.out _).mono ?_; rintro e' w4 ⟨rfl, hB4⟩; have HX4 := Lib.hid (HX.out.below hB4 HX.out.lt); have HB4 := Lib.hid (HB3.out.trans (hB4.mono HB3.out.size)); clear hB4)
    have HY : Hid (Box (w4.alloc (.cells #[.int .u64 (h1 : Int), .int .u64 (h2 : Int), .bool h3, .bool h4] 30)) w4.heap.size 30 #[.int .u64 (h1 : Int), .int .u64 (h2 : Int), .bool h3, .bool h4]) := Box.new _ _ _
    have HX5 := Lib.hid (HX4.out.alloc (.cells #[.int .u64 (h1 : Int), .int .u64 (h2 : Int), .bool h3, .bool h4] 30))
    have HB5 : Hid (Below w.heap.size w (w4.alloc (.cells #[.int .u64 (h1 : Int), .int .u64 (h2 : Int), .bool h3, .bool h4] 30))) := HB4.out.alloc HB4.out.size _
    generalize w4.alloc (.cells #[.int .u64 (h1 : Int), .int .u64 (h2 : Int), .bool h3, .bool h4] 30) = w5 at *
    generalize w4.heap.size = y at *
    have q0 := HX5.out.cell 0
    have q1 := HX5.out.cell 1
    have q2 := HX5.out.cell 2
    have q3 := HX5.out.cell 3
    have y0 := HY.out.cell 0
    have y1 := HY.out.cell 1
    have y2 := HY.out.cell 2
    have y3 := HY.out.cell 3
    simp at q0 q1 q2 q3 y0 y1 y2 y3
    have i1 : ((h1 : Int) == (h1 : Int)) = true := by simp
    have i2 : ((h2 : Int) == (h2 : Int)) = true := by simp
    have i3 : (h3 == h3) = true := by simp
    have i4 : (h4 == h4) = true := by simp
    go_wp2_with fail
    go_ret
    exact ⟨rfl, HB5.out⟩

set_option maxRecDepth 100000 in
theorem lifted (os : Os) (started : os.Started) (H : Type) (enc : TypeId × Value → H) :
    ReturnsInHanded {} Tryd.checked os 3 .any (fun w args => (Rows.frameReadsSpec.pre enc Tryd.prog Tryd.f3 [] false w args ∧ laidMetH Tryd.prog laidL w) ∧ sizedMet enc Tryd.prog Tryd.f3 (OpenSpec.ofChange Rows.frameReadsSpec) false w args)
      (Rows.frameReadsSpec.post enc Tryd.prog Tryd.f3 false true false false) := by
  refine returnsInHanded_of_change_and (C := Tryd.checked) (X := fun w _ => laidMetH Tryd.prog laidL w) (fun _ _ _ hh h => h.of_heap hh) own started (by kernel_rfl) Tryd.func3
    (ChangeSpec.witness_shaped (enc := enc) (C := Tryd.checked) (os := os) (X := fun w _ => laidMetH Tryd.prog laidL w) false (World.doorLaid Tryd.prog 400 os) #[.slice none 0 0] 8 rfl (World.shaped_of_RefB (by kernel_rfl) (by kernel_rfl)) (by kernel_rfl) (by kernel_rfl) (by kernel_rfl) (door_met os _)) ?_
  intro W base args ds gs before hval0 hW _ _ hL _
  have hval : ∀ (j : Nat) t v, Tryd.f3.params[j]? = some t → args[j]? = some v → Value.okWide Tryd.prog W .any base t v := hval0
  have hW' := hW
  obtain ⟨p, q, hA0, hV, rfl, hfz, hnd⟩ := hW
  have hA : DataW.TrodAll enc Tryd.prog W 0 (fun _ => true) true Tryd.f3.params.toList args.toList ds p := hA0
  rw [Tryd.params3] at hA hval
  obtain ⟨v0, vs0, d0, ds0, p0, q0, hargs, rfl, rfl, h0, r0⟩ := trodAll_cons hA
  obtain ⟨rfl, rfl, rfl⟩ := trodAll_nil r0
  obtain rfl : args = #[v0] := by cases args; simp_all
  obtain ⟨rfl, rfl⟩ := trodVars_none hV
  obtain ⟨a0, len0, cap0, rfl⟩ := okWide_slice Tryd.underlying22 (hval 0 22 v0 rfl rfl)
  have k0 := h0
  have lt0 : ∀ x ∈ p0, x.block < W.heap.size := by obtain ⟨m, hm⟩ := k0; exact DataW.trod_lt m _ _ _ hm
  obtain ⟨z0, w0⟩ := row_of_trod h0
  obtain ⟨xs0, rfl, hl0, hm0, hd0⟩ := row_dat w0
  clear hA0 hval0
  refine (walk a0 xs0 cap0 W (glob_of_laid hL) hd0 (by omega) hl0).mono fun e W' ⟨he, bel⟩ => ?_
  subst he
  exact ⟨_, rfl, _, _, _, [], _, [], hW', trodAll_mk1 (shut_bool Tryd.underlying4 _), (trodAll_cons_mk (Below.trod laidOut (by kernel_rfl) (of_decide_eq_true (by kernel_rfl)) k0 bel lt0) trodAll_mk0), rfl, bel.frame _, fun h => by cases h⟩

theorem over : Rows.frameReadsRow.holds Tryd.pinned (OpenSpec.ofChange Rows.frameReadsSpec) :=
  OpenClaim.holds_of_wide 3 Tryd.f3 rfl rfl rfl rfl rfl rfl rfl ⟨rfl, rfl, rfl, rfl, rfl⟩ rfl rfl rfl rfl rfl (by kernel_rfl) Tryd.func3 (by kernel_rfl)
    (of_decide_eq_true (by kernel_rfl)) (by unfold Func.isWrapper; first | (rw [if_pos (by decide +kernel)]; kernel_rfl) | (rw [if_neg (by decide +kernel)]; exact ⟨rfl, rfl⟩))
    (fun os started H enc _ => lifted os started H enc)

/-- ████ THE STATEMENT ████ -/
theorem proved : Rows.FrameReadsCardSaid :=
  Claim7.holds_tied_plain_at .later [] [.data, .wider] true Rows.frameReadsCard.stood.harness false
    over (fun _ h => by cases h) (by kernel_rfl) (fun _ h => by cases h) frameReads_row_tie rfl ⟨rfl, rfl⟩ (by kernel_rfl) rfl
    (fun f fn hf hfn => by
      obtain rfl : f = 3 := Option.some.inj ((show Tryd.prog.funcNamed Rows.frameReadsRow.func = some 3 by kernel_rfl).symm.trans hf) |>.symm
      obtain rfl : fn = Tryd.f3 := (Option.some.inj (Tryd.func3.symm.trans hfn)).symm
      exact ⟨by kernel_rfl, fun j t ht => by
        rw [Tryd.params3] at ht
        have hm : t ∈ [22] := by
          have := Array.mem_of_getElem? ht
          simp at this
          simpa using this
        have hall : ([22].all fun u => !Tryd.prog.wantsStandIn u) = true := by kernel_rfl
        exact (show Tryd.prog.wantsStandIn t = false by simpa using List.all_eq_true.1 hall t hm)⟩)
    (by kernel_rfl)
#print axioms proved
end Go.Proofs.YtmominbmalhdoaaDoor.frameReads
