
/- MerkleRoots holds, tied to the program's text: for every row of digests, bytes and two digests the law returns true. No condition of ours; the row's own: the package's variables read as the text lays them. -/
import Derived.Test.YtieepdhajjibpaaDoorMrkArgs
import Derived.Test.YtieepdhajjibpaaDoorMrkAwake
namespace Go.Proofs.YtieepdhajjibpaaDoor.merkleRoots
open Go.ChangeShapes Go.WideShapes Go.ChangeAt Go.RowKit

set_option maxRecDepth 20000 in
set_option maxHeartbeats 20000000 in
theorem walk (a0 : Option Addr) (L : List Dg) (cap0 : Nat) (a1 : Option Addr) (xs : List UInt8) (cap1 : Nat) (x y : Dg) (w : World) (hgl : Glob w) (hd0 : DatR 32 dcs w 0 w.heap.size a0 L) (hl0 : L.length ≤ cap0) (hd1 : Dat false w 0 w.heap.size a1 xs) (_ : xs.length ≤ cap1) :
    Calls Tryd.prog 3 #[.slice a0 L.length cap0, .slice a1 xs.length cap1, .agg (dcs x).toArray, .agg (dcs y).toArray] w fun e w' => e = .returned (.bool true) ∧ Below w.heap.size w w' := by
  have HG := Lib.hid hgl
  have hw2 := hgl.2.2
  have HD0 := Lib.hid hd0
  have HD1 := Lib.hid hd1
  obtain ⟨X, hX⟩ : ∃ X, X = (dcs x).toArray := ⟨_, rfl⟩
  obtain ⟨Y, hY⟩ : ∃ Y, Y = (dcs y).toArray := ⟨_, rfl⟩
  have hXs : X.size = 32 := by rw [hX]; simp [dcs_len]
  have hYs : Y.size = 32 := by rw [hY]; simp [dcs_len]
  rw [← hX, ← hY]
  have HX := Lib.hid hX
  have HY := Lib.hid hY
  have Y1 : Hid (Box ((w.alloc (.cells X 25)).alloc (.cells Y 25)) w.heap.size 25 X) := (Box.new w _ _).alloc _
  have Y2 : Hid (Box ((w.alloc (.cells X 25)).alloc (.cells Y 25)) (w.heap.size + 1) 25 Y) := by
    have h := Box.new (w.alloc (.cells X 25)) 25 Y
    rw [World.size_alloc] at h
    exact h
  have B0 : Hid (Below w.heap.size w ((w.alloc (.cells X 25)).alloc (.cells Y 25))) := ((Below.refl _ _).alloc (Nat.le_refl _) _).alloc (by simp) _
  have hz : w.heap.size + 2 ≤ ((w.alloc (.cells X 25)).alloc (.cells Y 25)).heap.size := by simp
  clear hgl hd0 hd1 hX hY
  go_enter Tryd.func3, Tryd.ntmps3
  go_upto_region 1 with fail
  obtain ⟨w0, hw0⟩ : ∃ w0, ((w.alloc (.cells X 25)).alloc (.cells Y 25)) = w0 := ⟨_, rfl⟩
  refine wp_as (W := w0) hw0 ?_
  rw [hw0] at Y1 Y2 B0 hz
  clear hw0
  go_upto_region 4 with (first | (go_at_call 10; refine (mawake_any _ (HG.out.below B0.out hw2)).mono ?_; rintro e' W ⟨rfl, hB⟩; have HB := Lib.hid hB; clear hB))
  by_cases hbig : 200 < L.length ∨ 500 < xs.length
  · have hbw : Below w.heap.size w W := B0.out.trans (HB.out.mono (by omega))
    have HBW := Lib.hid hbw
    clear hbw
    by_cases h1 : 200 < L.length
    · have g1 : decide ((200 : Int) < (L.length : Int)) = true := by simp; omega
      go_wp2_with fail
      go_ret
      exact ⟨rfl, HBW.out⟩
    · have h2 : 500 < xs.length := hbig.resolve_left h1
      have g1 : decide ((200 : Int) < (L.length : Int)) = false := by simp; omega
      have g2 : decide ((500 : Int) < (xs.length : Int)) = true := by simp; omega
      go_wp2_with fail
      go_ret
      exact ⟨rfl, HBW.out⟩
  · have hL : L.length ≤ 200 := by omega
    have hxs : xs.length ≤ 500 := by omega
    have g1 : decide ((200 : Int) < (L.length : Int)) = false := by simp; omega
    have g2 : decide ((500 : Int) < (xs.length : Int)) = false := by simp; omega
    have BW : Hid (Below w.heap.size w W) := B0.out.trans (HB.out.mono (by omega))
    have hsW := HB.out.size
    obtain ⟨R1, hR1⟩ : ∃ R, R = bcells (rootL L).1 := ⟨_, rfl⟩
    obtain ⟨R2, hR2⟩ : ∃ R, R = bcells (leafD xs).1 := ⟨_, rfl⟩
    obtain ⟨R3, hR3⟩ : ∃ R, R = bcells (nodeD x y).1 := ⟨_, rfl⟩
    obtain ⟨SB, hSB⟩ : ∃ S, S = str xs := ⟨_, rfl⟩
    have q1 : ∀ V, (Op.equalIn 10000 25 (.agg R1) (.agg R1)).run Tryd.prog V = .ok true V := fun V => by rw [hR1]; exact (eqD _ _ V).trans (by rw [beq_self_eq_true])
    have q2 : ∀ V, (Op.equalIn 10000 25 (.agg R2) (.agg R2)).run Tryd.prog V = .ok true V := fun V => by rw [hR2]; exact (eqD _ _ V).trans (by rw [beq_self_eq_true])
    have q3 : ∀ V, (Op.equalIn 10000 25 (.agg R3) (.agg R3)).run Tryd.prog V = .ok true V := fun V => by rw [hR3]; exact (eqD _ _ V).trans (by rw [beq_self_eq_true])
    have DW : Hid (∀ V, Below W.heap.size W V → Below w.heap.size w V) := fun V hV => BW.out.trans (hV.mono BW.out.size)
    have C1 : Hid (∀ V, Below W.heap.size W V → Calls Tryd.prog 11 #[.slice a0 L.length cap0] V fun e w' => e = .returned (.agg R1) ∧ Below V.heap.size V w') := fun V hV => by rw [hR1]; exact root_any (HG.out.below (DW.out V hV) hw2) (HD0.out.below (DW.out V hV) (Nat.le_refl _)) rfl hl0 (DW.out V hV).size (by omega)
    have C2 : Hid (∀ V, Below W.heap.size W V → Calls Tryd.prog 12 #[.slice a0 L.length cap0] V fun e w' => e = .returned (.agg R1) ∧ Below V.heap.size V w') := fun V hV => by rw [hR1]; exact refRoot_any L.length (Nat.le_refl _) (HD0.out.below (DW.out V hV) (Nat.le_refl _)) rfl hl0 (DW.out V hV).size (by omega)
    have C3 : Hid (∀ V, Below W.heap.size W V → Calls Tryd.prog 13 #[.slice a1 xs.length cap1] V fun e w' => e = .returned (.agg R2) ∧ Below V.heap.size V w') := fun V hV => by rw [hR2]; exact leaf_any (HG.out.below (DW.out V hV) hw2) (HD1.out.below (DW.out V hV) (Nat.le_refl _)) rfl (DW.out V hV).size (by omega)
    have C4 : Hid (∀ V, Calls Tryd.prog 14 #[.string SB] V fun e w' => e = .returned (.agg R2) ∧ Below V.heap.size V w') := fun V => by rw [hR2]; exact refLeaf_any SB xs hSB V (by omega)
    have C5 : Hid (∀ V, Below W.heap.size W V → Calls Tryd.prog 15 #[.agg X, .agg Y] V fun e w' => e = .returned (.agg R3) ∧ Below V.heap.size V w') := fun V hV => by rw [HX.out, HY.out, hR3]; exact node_any x y V (HG.out.below (DW.out V hV) hw2)
    have C6 : Hid (∀ V, Calls Tryd.prog 16 #[.agg X, .agg Y] V fun e w' => e = .returned (.agg R3) ∧ Below V.heap.size V w') := fun V => by rw [HX.out, HY.out, hR3]; exact refNode_any x y V
    have CV : Hid (∀ V, Below W.heap.size W V → (convert 23 9 (.slice a1 xs.length cap1)).run Tryd.prog V = .ok (.string SB) V) := fun V hV => by rw [hSB]; exact run_str V _ Tryd.underlying23 Tryd.underlying5 (HD1.out.below (DW.out V hV) (Nat.le_refl _)) rfl _ Tryd.underlying9
    have LX : Hid (∀ V, Below W.heap.size W V → (loadVar 25 ⟨w.heap.size, 0, none⟩).run Tryd.prog V = .ok (.agg X) V) := fun V hV => run_loadVar_row (P := Tryd.prog) V w.heap.size 25 25 X (0, 0) _ ((Y1.out.below HB.out (by omega)).below hV (by omega)) Tryd.underlying25 rfl (by rw [hXs]; kernel_rfl)
    have LY : Hid (∀ V, Below W.heap.size W V → (loadVar 25 ⟨w.heap.size + 1, 0, none⟩).run Tryd.prog V = .ok (.agg Y) V) := fun V hV => run_loadVar_row (P := Tryd.prog) V (w.heap.size + 1) 25 25 Y (0, 0) _ ((Y2.out.below HB.out (by omega)).below hV (by omega)) Tryd.underlying25 rfl (by rw [hYs]; kernel_rfl)
    clear hR1 hR2 hR3 hSB
    go_upto_region 6 with fail
    refine wp_region_noPanic ?_
    refine wp_region_held_drew (S := fun V => Below W.heap.size W V) (by kernel_rfl) ((Below.refl _ _).drew) (fun hH => ?_)
    generalize W.drew = wd at hH ⊢
    have BC : Hid (Below W.heap.size W wd) := hH
    refine takeH (i := 0) (v := .slice a0 L.length cap0) 21 rfl (by kernel_rfl) (by kernel_rfl) (by kernel_rfl) rfl (fun _ _ _ h => h) (Or.inl ⟨by rfl, fun w' _ => ?_⟩) hH ?_
    · go_simp
    go_frame
    refine takeH (i := 2) (v := .slice a0 L.length cap0) 23 rfl (by kernel_rfl) (by kernel_rfl) (by kernel_rfl) rfl (fun _ _ _ h => h) (Or.inl ⟨by rfl, fun w' _ => ?_⟩) hH ?_
    · go_simp
    go_frame
    refine wpAnyH_ready (rs := [1]) (by kernel_rfl) (by simp) ?_
    refine AllReadyH.cons rfl (fun K hK => ?_) AllReadyH.nil
    go_simp
    refine (C1.out _ BC.out).mono ?_
    rintro e' wr0 ⟨rfl, hB⟩
    have Bwr0 : Hid (Below W.heap.size W wr0) := BC.out.trans (hB.mono (by exact BC.out.size))
    clear hB BC
    have BC := Bwr0
    dsimp only
    refine hK.out _ _ Bwr0.out (fun hH => ?_)
    clear hK K
    refine wpAnyH_ready (rs := [3]) (by kernel_rfl) (by simp) ?_
    refine AllReadyH.cons rfl (fun K hK => ?_) AllReadyH.nil
    go_simp
    refine (C2.out _ BC.out).mono ?_
    rintro e' wr1 ⟨rfl, hB⟩
    have Bwr1 : Hid (Below W.heap.size W wr1) := BC.out.trans (hB.mono (by exact BC.out.size))
    clear hB BC
    have BC := Bwr1
    dsimp only
    refine hK.out _ _ Bwr1.out (fun hH => ?_)
    clear hK K
    refine takeH (i := 4) (v := .bool true) 25 rfl (by kernel_rfl) (by kernel_rfl) (by kernel_rfl) rfl (fun _ _ _ h => h) (Or.inl ⟨by rfl, fun w' _ => ?_⟩) hH ?_
    · go_simp
    go_frame
    refine takeH (i := 5) (v := .bool true) 26 rfl (by kernel_rfl) (by kernel_rfl) (by kernel_rfl) rfl (fun _ _ _ h => h) (Or.inl ⟨by rfl, fun w' _ => ?_⟩) hH ?_
    · go_simp
    go_frame
    refine takeH (i := 6) (v := .slice a1 xs.length cap1) 27 rfl (by kernel_rfl) (by kernel_rfl) (by kernel_rfl) rfl (fun _ _ _ h => h) (Or.inl ⟨by rfl, fun w' _ => ?_⟩) hH ?_
    · go_simp
    go_frame
    refine takeH (i := 8) (v := .slice a1 xs.length cap1) 29 rfl (by kernel_rfl) (by kernel_rfl) (by kernel_rfl) rfl (fun _ _ _ h => h) (Or.inl ⟨by rfl, fun w' _ => ?_⟩) hH ?_
    · go_simp
    go_frame
    refine takeH (i := 9) (v := .string SB) 30 rfl (by kernel_rfl) (by kernel_rfl) (by kernel_rfl) rfl (fun _ _ _ h => h) (Or.inl ⟨by rfl, fun w' hS => ?_⟩) hH ?_
    · have c2 := CV.out w' hS
      go_simp
    go_frame
    refine wpAnyH_ready (rs := [7]) (by kernel_rfl) (by simp) ?_
    refine AllReadyH.cons rfl (fun K hK => ?_) AllReadyH.nil
    go_simp
    refine (C3.out _ BC.out).mono ?_
    rintro e' wr2 ⟨rfl, hB⟩
    have Bwr2 : Hid (Below W.heap.size W wr2) := BC.out.trans (hB.mono (by exact BC.out.size))
    clear hB BC
    have BC := Bwr2
    dsimp only
    refine hK.out _ _ Bwr2.out (fun hH => ?_)
    clear hK K
    refine wpAnyH_ready (rs := [10]) (by kernel_rfl) (by simp) ?_
    refine AllReadyH.cons rfl (fun K hK => ?_) AllReadyH.nil
    go_simp
    refine (C4.out _).mono ?_
    rintro e' wr3 ⟨rfl, hB⟩
    have Bwr3 : Hid (Below W.heap.size W wr3) := BC.out.trans (hB.mono (by exact BC.out.size))
    clear hB BC
    have BC := Bwr3
    dsimp only
    refine hK.out _ _ Bwr3.out (fun hH => ?_)
    clear hK K
    refine takeH (i := 11) (v := .bool true) 32 rfl (by kernel_rfl) (by kernel_rfl) (by kernel_rfl) rfl (fun _ _ _ h => h) (Or.inl ⟨by rfl, fun w' _ => ?_⟩) hH ?_
    · go_simp
    go_frame
    refine takeH (i := 12) (v := .bool true) 33 rfl (by kernel_rfl) (by kernel_rfl) (by kernel_rfl) rfl (fun _ _ _ h => h) (Or.inl ⟨by rfl, fun w' _ => ?_⟩) hH ?_
    · go_simp
    go_frame
    refine takeH (i := 13) (v := .bool true) 34 rfl (by kernel_rfl) (by kernel_rfl) (by kernel_rfl) rfl (fun _ _ _ h => h) (Or.inl ⟨by rfl, fun w' _ => ?_⟩) hH ?_
    · go_simp
    go_frame
    refine takeH (i := 14) (v := .agg X) 35 rfl (by kernel_rfl) (by kernel_rfl) (by kernel_rfl) rfl (fun _ _ _ h => h) (yieldsIf_load_run (by rfl) rfl rfl LX.out) hH ?_
    go_frame
    refine takeH (i := 15) (v := .agg Y) 36 rfl (by kernel_rfl) (by kernel_rfl) (by kernel_rfl) rfl (fun _ _ _ h => h) (yieldsIf_load_run (by rfl) rfl rfl LY.out) hH ?_
    go_frame
    refine takeH (i := 17) (v := .agg X) 38 rfl (by kernel_rfl) (by kernel_rfl) (by kernel_rfl) rfl (fun _ _ _ h => h) (yieldsIf_load_run (by rfl) rfl rfl LX.out) hH ?_
    go_frame
    refine takeH (i := 18) (v := .agg Y) 39 rfl (by kernel_rfl) (by kernel_rfl) (by kernel_rfl) rfl (fun _ _ _ h => h) (yieldsIf_load_run (by rfl) rfl rfl LY.out) hH ?_
    go_frame
    refine wpAnyH_ready (rs := [16]) (by kernel_rfl) (by simp) ?_
    refine AllReadyH.cons rfl (fun K hK => ?_) AllReadyH.nil
    go_simp
    refine (C5.out _ BC.out).mono ?_
    rintro e' wr4 ⟨rfl, hB⟩
    have Bwr4 : Hid (Below W.heap.size W wr4) := BC.out.trans (hB.mono (by exact BC.out.size))
    clear hB BC
    have BC := Bwr4
    dsimp only
    refine hK.out _ _ Bwr4.out (fun hH => ?_)
    clear hK K
    refine wpAnyH_ready (rs := [19]) (by kernel_rfl) (by simp) ?_
    refine AllReadyH.cons rfl (fun K hK => ?_) AllReadyH.nil
    go_simp
    refine (C6.out _).mono ?_
    rintro e' wr5 ⟨rfl, hB⟩
    have Bwr5 : Hid (Below W.heap.size W wr5) := BC.out.trans (hB.mono (by exact BC.out.size))
    clear hB BC
    have BC := Bwr5
    dsimp only
    refine hK.out _ _ Bwr5.out (fun hH => ?_)
    clear hK K
    refine takeH (i := 20) (v := .bool true) 41 rfl (by kernel_rfl) (by kernel_rfl) (by kernel_rfl) rfl (fun _ _ _ h => h) (Or.inl ⟨by rfl, fun w' _ => ?_⟩) hH ?_
    · go_simp
    go_frame
    refine takeH (i := 21) (v := .bool true) 42 rfl (by kernel_rfl) (by kernel_rfl) (by kernel_rfl) rfl (fun _ _ _ h => h) (Or.inl ⟨by rfl, fun w' _ => ?_⟩) hH ?_
    · go_simp
    go_frame
    refine takeH (i := 22) (v := .bool true) 8 rfl (by kernel_rfl) (by kernel_rfl) (by kernel_rfl) rfl (fun _ _ _ h => h) (Or.inl ⟨by rfl, fun w' _ => ?_⟩) hH ?_
    · go_simp
    go_frame
    refine wpAnyH_done (by kernel_rfl) ?_ _
    refine NoPanic.normal ?_
    go_wp2_with fail
    go_ret
    exact ⟨by kernel_rfl, BW.out.trans (BC.out.mono BW.out.size)⟩

set_option maxRecDepth 100000 in
theorem lifted (os : Os) (started : os.Started) (H : Type) (enc : TypeId × Value → H) :
    ReturnsInHanded {} Tryd.checked os 3 .any (fun w args => (Rows.merkleRootsSpec.pre enc Tryd.prog Tryd.f3 [] false w args ∧ laidMetH Tryd.prog laidL w) ∧ sizedMet enc Tryd.prog Tryd.f3 (OpenSpec.ofChange Rows.merkleRootsSpec) false w args)
      (Rows.merkleRootsSpec.post enc Tryd.prog Tryd.f3 false true false false) := by
  refine returnsInHanded_of_change_and (C := Tryd.checked) (X := fun w _ => laidMetH Tryd.prog laidL w) (fun _ _ _ hh h => h.of_heap hh) own started (by kernel_rfl) Tryd.func3
    (ChangeSpec.witness_shaped (enc := enc) (C := Tryd.checked) (os := os) (X := fun w _ => laidMetH Tryd.prog laidL w) false (World.doorLaid Tryd.prog 400 os) #[.slice none 0 0, .slice none 0 0, .agg z32, .agg z32] 8 rfl (World.shaped_of_RefB (by kernel_rfl) (by kernel_rfl)) (by kernel_rfl) (by kernel_rfl) (by kernel_rfl) (door_met os _)) ?_
  intro W base args ds gs before hval0 hW _ _ hL _
  have hval : ∀ (j : Nat) t v, Tryd.f3.params[j]? = some t → args[j]? = some v → Value.okWide Tryd.prog W .any base t v := hval0
  have hW' := hW
  obtain ⟨p, q, hA0, hV, rfl, hfz, hnd⟩ := hW
  have hA : DataW.TrodAll enc Tryd.prog W 0 (fun _ => true) true Tryd.f3.params.toList args.toList ds p := hA0
  rw [Tryd.params3] at hA hval
  obtain ⟨v0, vs0, d0, ds0, p0, q0, hargs, rfl, rfl, h0, r0⟩ := trodAll_cons hA
  obtain ⟨v1, vs1, d1, ds1, p1, q1, rfl, rfl, rfl, h1, r1⟩ := trodAll_cons r0
  obtain ⟨v2, vs2, d2, ds2, p2, q2, rfl, rfl, rfl, h2, r2⟩ := trodAll_cons r1
  obtain ⟨v3, vs3, d3, ds3, p3, q3, rfl, rfl, rfl, h3, r3⟩ := trodAll_cons r2
  obtain ⟨rfl, rfl, rfl⟩ := trodAll_nil r3
  obtain rfl : args = #[v0, v1, v2, v3] := by cases args; simp_all
  obtain ⟨rfl, rfl⟩ := trodVars_none hV
  obtain ⟨a0, len0, cap0, rfl⟩ := okWide_slice Tryd.underlying22 (hval 0 22 v0 rfl rfl)
  have k0 := h0
  have lt0 : ∀ x ∈ p0, x.block < W.heap.size := by obtain ⟨m, hm⟩ := k0; exact DataW.trod_lt m _ _ _ hm
  obtain ⟨rs0, rfl, hl0, hm0, hd0⟩ := sums_of h0
  obtain ⟨a1, len1, cap1, rfl⟩ := okWide_slice Tryd.underlying23 (hval 1 23 v1 rfl rfl)
  have k1 := h1
  have lt1 : ∀ x ∈ p1, x.block < W.heap.size := by obtain ⟨m, hm⟩ := k1; exact DataW.trod_lt m _ _ _ hm
  obtain ⟨z1, w1⟩ := row_of_trod h1
  obtain ⟨xs1, rfl, hl1, hm1, hd1⟩ := row_dat w1
  have k2 := h2
  have lt2 : ∀ x ∈ p2, x.block < W.heap.size := by obtain ⟨m, hm⟩ := k2; exact DataW.trod_lt m _ _ _ hm
  obtain ⟨q2x, rfl⟩ := sum_of (hval 2 25 v2 rfl rfl) h2
  have k3 := h3
  have lt3 : ∀ x ∈ p3, x.block < W.heap.size := by obtain ⟨m, hm⟩ := k3; exact DataW.trod_lt m _ _ _ hm
  obtain ⟨q3x, rfl⟩ := sum_of (hval 3 25 v3 rfl rfl) h3
  clear hA0 hval0
  refine (walk a0 rs0 cap0 a1 xs1 cap1 q2x q3x W (glob_of_laid hL) hd0 (by omega) hd1 (by omega)).mono fun e W' ⟨he, bel⟩ => ?_
  subst he
  exact ⟨_, rfl, _, _, _, [], _, [], hW', trodAll_mk1 (shut_bool Tryd.underlying4 _), (trodAll_cons_mk (Below.trod laidOut (by kernel_rfl) (of_decide_eq_true (by kernel_rfl)) k0 bel lt0) (trodAll_cons_mk (Below.trod laidOut (by kernel_rfl) (of_decide_eq_true (by kernel_rfl)) k1 bel lt1) (trodAll_cons_mk (Below.trod laidOut (by kernel_rfl) (of_decide_eq_true (by kernel_rfl)) k2 bel lt2) (trodAll_cons_mk (Below.trod laidOut (by kernel_rfl) (of_decide_eq_true (by kernel_rfl)) k3 bel lt3) trodAll_mk0)))), rfl, bel.frame _, fun h => by cases h⟩

theorem over : Rows.merkleRootsRow.holds Tryd.pinned (OpenSpec.ofChange Rows.merkleRootsSpec) :=
  OpenClaim.holds_of_wide 3 Tryd.f3 rfl rfl rfl rfl rfl rfl rfl ⟨rfl, rfl, rfl, rfl, rfl⟩ rfl rfl rfl rfl rfl (by kernel_rfl) Tryd.func3 (by kernel_rfl)
    (of_decide_eq_true (by kernel_rfl)) (by unfold Func.isWrapper; first | (rw [if_pos (by decide +kernel)]; kernel_rfl) | (rw [if_neg (by decide +kernel)]; exact ⟨rfl, rfl⟩))
    (fun os started H enc _ => lifted os started H enc)

/-- ████ THE STATEMENT ████ -/
theorem proved : Rows.MerkleRootsCardSaid :=
  Claim7.holds_tied_plain_at .later [] [.data, .data] true Rows.merkleRootsCard.stood.harness false
    over (fun _ h => by cases h) (by kernel_rfl) (fun _ h => by cases h) merkleRoots_row_tie rfl ⟨rfl, rfl⟩ (by kernel_rfl) rfl
    (fun f fn hf hfn => by
      obtain rfl : f = 3 := Option.some.inj ((show Tryd.prog.funcNamed Rows.merkleRootsRow.func = some 3 by kernel_rfl).symm.trans hf) |>.symm
      obtain rfl : fn = Tryd.f3 := (Option.some.inj (Tryd.func3.symm.trans hfn)).symm
      exact ⟨by kernel_rfl, fun j t ht => by
        rw [Tryd.params3] at ht
        have hm : t ∈ [22, 23, 25, 25] := by
          have := Array.mem_of_getElem? ht
          simp at this
          simpa using this
        have hall : ([22, 23, 25, 25].all fun u => !Tryd.prog.wantsStandIn u) = true := by kernel_rfl
        exact (show Tryd.prog.wantsStandIn t = false by simpa using List.all_eq_true.1 hall t hm)⟩)
    (by kernel_rfl)
#print axioms proved
end Go.Proofs.YtieepdhajjibpaaDoor.merkleRoots
