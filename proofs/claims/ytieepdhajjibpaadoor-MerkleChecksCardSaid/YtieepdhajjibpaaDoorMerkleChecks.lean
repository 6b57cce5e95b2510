
/- MerkleChecks holds, tied to the program's text: for every manifest, digest, and whether its own one is taken, the law returns true. No condition of ours; the row's own: the package's variables read as the text lays them. -/
import Derived.Test.YtieepdhajjibpaaDoorMrkArgs
import Derived.Test.YtieepdhajjibpaaDoorMrkAwake
namespace Go.Proofs.YtieepdhajjibpaaDoor.merkleChecks
open Go.ChangeShapes Go.WideShapes Go.ChangeAt Go.RowKit

set_option maxRecDepth 20000 in
set_option maxHeartbeats 20000000 in
theorem walk (s p : Nat) (a0 : Option Addr) (L : List Dg) (cap0 : Nat) (x : Dg) (own : Bool) (w : World) (hgl : Glob w) (hd0 : DatR 32 dcs w 0 w.heap.size a0 L) (hl0 : L.length ≤ cap0) (hs : s < 18446744073709551616) (hp : p < 4294967296) :
    Calls Tryd.prog 5 #[.agg #[.int .u64 (s : Int), .int .u32 (p : Int), .slice a0 L.length cap0], .agg (dcs x).toArray, .bool own] w fun e w' => e = .returned (.bool true) ∧ Below w.heap.size w w' := by
  have HG := Lib.hid hgl
  have hw2 := hgl.2.2
  have HD0 := Lib.hid hd0
  obtain ⟨X, hX⟩ : ∃ X, X = (dcs x).toArray := ⟨_, rfl⟩
  rw [← hX]
  have HX := Lib.hid hX
  have hz : w.heap.size + 2 ≤ ((w.alloc (.cells #[.int .u64 (s : Int), .int .u32 (p : Int), .slice a0 L.length cap0] 35)).alloc (.cells X 25)).heap.size := by simp
  have Y1 : Hid (Box ((w.alloc (.cells #[.int .u64 (s : Int), .int .u32 (p : Int), .slice a0 L.length cap0] 35)).alloc (.cells X 25)) w.heap.size 35 #[.int .u64 (s : Int), .int .u32 (p : Int), .slice a0 L.length cap0]) := (Box.new w _ _).alloc _
  have Y2 : Hid (Box ((w.alloc (.cells #[.int .u64 (s : Int), .int .u32 (p : Int), .slice a0 L.length cap0] 35)).alloc (.cells X 25)) (w.heap.size + 1) 25 X) := by
    have h := Box.new (w.alloc (.cells #[.int .u64 (s : Int), .int .u32 (p : Int), .slice a0 L.length cap0] 35)) 25 X
    rw [World.size_alloc] at h
    exact h
  have B0 : Hid (Below w.heap.size w ((w.alloc (.cells #[.int .u64 (s : Int), .int .u32 (p : Int), .slice a0 L.length cap0] 35)).alloc (.cells X 25))) := ((Below.refl _ _).alloc (Nat.le_refl _) _).alloc (by simp) _
  clear hgl hd0 hX
  go_enter Tryd.func5, Tryd.ntmps5
  go_upto_region 1 with fail
  obtain ⟨w0, hw0⟩ : ∃ w0, ((w.alloc (.cells #[.int .u64 (s : Int), .int .u32 (p : Int), .slice a0 L.length cap0] 35)).alloc (.cells X 25)) = w0 := ⟨_, rfl⟩
  refine wp_as (W := w0) hw0 ?_
  rw [hw0] at Y1 Y2 B0 hz
  clear hw0
  go_upto_region 4 with (first | (go_at_call 10; refine (mawake_any _ (HG.out.below B0.out hw2)).mono ?_; rintro e' W ⟨rfl, hB⟩; have HB := Lib.hid hB; clear hB))
  have BW : Hid (Below w.heap.size w W) := B0.out.trans (HB.out.mono (by omega))
  have Z1 : Hid (Box W w.heap.size 35 #[.int .u64 (s : Int), .int .u32 (p : Int), .slice a0 L.length cap0]) := Y1.out.below HB.out (by omega)
  have Z2 : Hid (Box W (w.heap.size + 1) 25 X) := Y2.out.below HB.out (by omega)
  have hsW := HB.out.size
  have k2 : W.cell? ⟨w.heap.size, 2, none⟩ = some (.slice a0 L.length cap0) := Z1.out.cell 2
  clear Y1 Y2 HB
  by_cases hbig : 100 < L.length
  · have g1 : decide ((100 : Int) < (L.length : Int)) = true := by simp; omega
    go_wp2_with fail
    go_ret
    exact ⟨rfl, BW.out⟩
  · have hL : L.length ≤ 100 := by omega
    have g1 : decide ((100 : Int) < (L.length : Int)) = false := by simp; omega
    go_upto_if 15 with fail
    go_cut [] (fun wx => ∃ id : Dg, Box wx w.heap.size 35 #[.int .u64 (s : Int), .int .u32 (p : Int), .slice a0 L.length cap0] ∧ Box wx (w.heap.size + 1) 25 (dcs id).toArray ∧ Below w.heap.size w wx)
    case first =>
      cases own with
      | true =>
        obtain ⟨R, hR⟩ : ∃ R, R = bcells (idD s p L).1 := ⟨_, rfl⟩
        have hRs : R.size = 32 := by rw [hR]; exact bcells_size _
        have hRo : R.all (·.oneCell') = true := by rw [hR]; exact bcells_one _
        have CI := Lib.hid (fun (V : World) (hV : Below w.heap.size w V) => refId_any (w := V) (c := cap0) s p (HD0.out.below hV (Nat.le_refl _)) rfl hl0 hV.size (by omega) hs hp)
        rw [← hR] at CI
        have HR := Lib.hid hR
        clear hR
        go_wp2_with (first
          | (refine wpList_load_row rfl 35 _ rfl w.heap.size rfl 35 #[.int .u64 (s : Int), .int .u32 (p : Int), .slice a0 L.length cap0] (0, 0) _ Z1.out Tryd.underlying35 rfl (by kernel_rfl) ?_)
          | (go_at_call 23; refine (modelOf_any _ _ _ _ _ _).mono ?_; rintro e wa ⟨rfl, ha⟩; have A1 := Lib.hid ha; clear ha)
          | (go_at_call 21; refine (CI.out _ (BW.out.trans (A1.out.mono BW.out.size))).mono ?_; rintro e wb ⟨rfl, hb⟩; have A2 : Hid (Below W.heap.size W wb) := A1.out.trans (hb.mono A1.out.size); have Z3 : Hid (Box wb (w.heap.size + 1) 25 X) := Z2.out.below A2.out (by omega); clear hb A1)
          | (refine wpList_store_row rfl 25 _ _ rfl (w.heap.size + 1) R rfl rfl 25 _ Z3.out (by rw [hRs]; kernel_rfl) (by rw [hRs, HX.out]; simp [dcs_len]) hRo ?_))
        go_meet
        refine ⟨idD s p L, (setRow_other wb (w.heap.size + 1) w.heap.size R (by omega)).trans (Z1.out.below A2.out (by omega)), ?_, below_row (BW.out.trans (A2.out.mono BW.out.size)) (by omega) _⟩
        rw [show (dcs (idD s p L)).toArray = R by rw [HR.out]; rfl]
        exact setRow_heap _ _ _ _ _ _ Z3.out
      | false =>
        go_wp2_with fail
        go_meet
        exact ⟨x, Z1.out, by rw [← HX.out]; exact Z2.out, BW.out⟩
    case rest =>
      obtain ⟨id, hb1, hb2, hB⟩ := hcut
      obtain ⟨W8, rfl⟩ : ∃ W8, W8 = wc := ⟨_, rfl⟩
      obtain ⟨Z, hZ⟩ : ∃ Z, Z = (dcs id).toArray := ⟨_, rfl⟩
      have hZs : Z.size = 32 := by rw [hZ]; simp [dcs_len]
      rw [← hZ] at hb2
      have HZ := Lib.hid hZ
      have U1 := Lib.hid hb1
      have U2 := Lib.hid hb2
      have B8 := Lib.hid hB
      have u1 := hb1.lt
      have u2 := hb2.lt
      clear hb1 hb2 hB hZ k2 Z1 Z2 BW
      have DW : Hid (∀ V, Below W8.heap.size W8 V → Below w.heap.size w V) := fun V hV => B8.out.trans (hV.mono B8.out.size)
      obtain ⟨R, hR⟩ : ∃ R, R = bcells (idD s p L).1 := ⟨_, rfl⟩
      obtain ⟨ck, hck⟩ : ∃ ck, ck = chkE s p L id := ⟨_, rfl⟩
      have q1 : ∀ V, (Op.equalIn 10000 25 (.agg R) (.agg R)).run Tryd.prog V = .ok true V := fun V => by rw [hR]; exact (eqD _ _ V).trans (by rw [beq_self_eq_true])
      have C1 : Hid (∀ V, Below W8.heap.size W8 V → Calls Tryd.prog 22 #[.agg #[.int .u64 (s : Int), .int .u32 (p : Int), .slice a0 L.length cap0], .agg Z] V fun e w' => e = .returned (.int .i64 ck) ∧ Below V.heap.size V w') := fun V hV => by rw [HZ.out, hck]; exact check_any s p id (HG.out.below (DW.out V hV) hw2) (HD0.out.below (DW.out V hV) (Nat.le_refl _)) rfl hl0 (DW.out V hV).size (by omega) hs hp
      have C2 : Hid (∀ V, Below W8.heap.size W8 V → Calls Tryd.prog 24 #[.agg #[.int .u64 (s : Int), .int .u32 (p : Int), .slice a0 L.length cap0], .agg Z] V fun e w' => e = .returned (.int .i64 ck) ∧ Below V.heap.size V w') := fun V hV => by rw [HZ.out, hck]; exact refCheck_any s p id (HD0.out.below (DW.out V hV) (Nat.le_refl _)) rfl hl0 (DW.out V hV).size (by omega) hs hp
      have C3 : Hid (∀ V, Below W8.heap.size W8 V → Calls Tryd.prog 20 #[.agg #[.int .u64 (s : Int), .int .u32 (p : Int), .slice a0 L.length cap0]] V fun e w' => e = .returned (.agg R) ∧ Below V.heap.size V w') := fun V hV => by rw [hR]; exact id_any s p (HG.out.below (DW.out V hV) hw2) (HD0.out.below (DW.out V hV) (Nat.le_refl _)) rfl hl0 (DW.out V hV).size (by omega) hp
      have C4 : Hid (∀ V, Below W8.heap.size W8 V → Calls Tryd.prog 21 #[.agg #[.int .u64 (s : Int), .int .u32 (p : Int), .slice a0 L.length cap0]] V fun e w' => e = .returned (.agg R) ∧ Below V.heap.size V w') := fun V hV => by rw [hR]; exact refId_any s p (HD0.out.below (DW.out V hV) (Nat.le_refl _)) rfl hl0 (DW.out V hV).size (by omega) hs hp
      have CM : Hid (∀ V, Calls Tryd.prog 23 #[.agg #[.int .u64 (s : Int), .int .u32 (p : Int), .slice a0 L.length cap0]] V fun e w' => e = .returned (.agg #[.int .u64 (s : Int), .int .u32 (p : Int), .slice a0 L.length cap0]) ∧ Below V.heap.size V w') := fun V => modelOf_any _ _ _ _ _ V
      have LM : Hid (∀ V, Below W8.heap.size W8 V → (loadVar 35 ⟨w.heap.size, 0, none⟩).run Tryd.prog V = .ok (.agg #[.int .u64 (s : Int), .int .u32 (p : Int), .slice a0 L.length cap0]) V) := fun V hV => run_loadVar_row (P := Tryd.prog) V w.heap.size 35 35 _ (0, 0) _ (U1.out.below hV u1) Tryd.underlying35 rfl (by kernel_rfl)
      have LZ : Hid (∀ V, Below W8.heap.size W8 V → (loadVar 25 ⟨w.heap.size + 1, 0, none⟩).run Tryd.prog V = .ok (.agg Z) V) := fun V hV => run_loadVar_row (P := Tryd.prog) V (w.heap.size + 1) 25 25 Z (0, 0) _ (U2.out.below hV u2) Tryd.underlying25 rfl (by rw [hZs]; kernel_rfl)
      clear hR hck
      go_upto_region 8 with fail
      refine wp_region_noPanic ?_
      refine wp_region_held_drew (S := fun V => Below W8.heap.size W8 V) (by kernel_rfl) ((Below.refl _ _).drew) (fun hH => ?_)
      generalize W8.drew = wd at hH ⊢
      have BC : Hid (Below W8.heap.size W8 wd) := hH
      refine takeH (i := 0) (v := .agg #[.int .u64 (s : Int), .int .u32 (p : Int), .slice a0 L.length cap0]) 19 rfl (by kernel_rfl) (by kernel_rfl) (by kernel_rfl) rfl (fun _ _ _ h => h) (yieldsIf_load_run (by rfl) rfl rfl LM.out) hH ?_
      go_frame
      refine takeH (i := 3) (v := .agg #[.int .u64 (s : Int), .int .u32 (p : Int), .slice a0 L.length cap0]) 22 rfl (by kernel_rfl) (by kernel_rfl) (by kernel_rfl) rfl (fun _ _ _ h => h) (yieldsIf_load_run (by rfl) rfl rfl LM.out) hH ?_
      go_frame
      refine takeH (i := 1) (v := .agg Z) 20 rfl (by kernel_rfl) (by kernel_rfl) (by kernel_rfl) rfl (fun _ _ _ h => h) (yieldsIf_load_run (by rfl) rfl rfl LZ.out) hH ?_
      go_frame
      refine takeH (i := 5) (v := .agg Z) 24 rfl (by kernel_rfl) (by kernel_rfl) (by kernel_rfl) rfl (fun _ _ _ h => h) (yieldsIf_load_run (by rfl) rfl rfl LZ.out) hH ?_
      go_frame
      refine wpAnyH_ready (rs := [2]) (by kernel_rfl) (by simp) ?_
      refine AllReadyH.cons rfl (fun K hK => ?_) AllReadyH.nil
      go_simp
      refine (C1.out _ BC.out).mono ?_
      rintro e' wr0 ⟨rfl, hB⟩
      have Bwr0 : Hid (Below W8.heap.size W8 wr0) := BC.out.trans (hB.mono (by exact BC.out.size))
      clear hB BC
      have BC := Bwr0
      dsimp only
      refine hK.out _ _ Bwr0.out (fun hH => ?_)
      clear hK K
      refine wpAnyH_ready (rs := [4]) (by kernel_rfl) (by simp) ?_
      refine AllReadyH.cons rfl (fun K hK => ?_) AllReadyH.nil
      go_simp
      refine (CM.out _).mono ?_
      rintro e' wr1 ⟨rfl, hB⟩
      have Bwr1 : Hid (Below W8.heap.size W8 wr1) := BC.out.trans (hB.mono (by exact BC.out.size))
      clear hB BC
      have BC := Bwr1
      dsimp only
      refine hK.out _ _ Bwr1.out (fun hH => ?_)
      clear hK K
      refine wpAnyH_ready (rs := [6]) (by kernel_rfl) (by simp) ?_
      refine AllReadyH.cons rfl (fun K hK => ?_) AllReadyH.nil
      go_simp
      refine (C2.out _ BC.out).mono ?_
      rintro e' wr2 ⟨rfl, hB⟩
      have Bwr2 : Hid (Below W8.heap.size W8 wr2) := BC.out.trans (hB.mono (by exact BC.out.size))
      clear hB BC
      have BC := Bwr2
      dsimp only
      refine hK.out _ _ Bwr2.out (fun hH => ?_)
      clear hK K
      refine takeH (i := 7) (v := .bool true) 26 rfl (by kernel_rfl) (by kernel_rfl) (by kernel_rfl) rfl (fun _ _ _ h => h) (Or.inl ⟨by rfl, fun w' _ => ?_⟩) hH ?_
      · go_simp
      go_frame
      refine takeH (i := 8) (v := .bool true) 27 rfl (by kernel_rfl) (by kernel_rfl) (by kernel_rfl) rfl (fun _ _ _ h => h) (Or.inl ⟨by rfl, fun w' _ => ?_⟩) hH ?_
      · go_simp
      go_frame
      refine takeH (i := 9) (v := .agg #[.int .u64 (s : Int), .int .u32 (p : Int), .slice a0 L.length cap0]) 28 rfl (by kernel_rfl) (by kernel_rfl) (by kernel_rfl) rfl (fun _ _ _ h => h) (yieldsIf_load_run (by rfl) rfl rfl LM.out) hH ?_
      go_frame
      refine takeH (i := 11) (v := .agg #[.int .u64 (s : Int), .int .u32 (p : Int), .slice a0 L.length cap0]) 30 rfl (by kernel_rfl) (by kernel_rfl) (by kernel_rfl) rfl (fun _ _ _ h => h) (yieldsIf_load_run (by rfl) rfl rfl LM.out) hH ?_
      go_frame
      refine wpAnyH_ready (rs := [10]) (by kernel_rfl) (by simp) ?_
      refine AllReadyH.cons rfl (fun K hK => ?_) AllReadyH.nil
      go_simp
      refine (C3.out _ BC.out).mono ?_
      rintro e' wr3 ⟨rfl, hB⟩
      have Bwr3 : Hid (Below W8.heap.size W8 wr3) := BC.out.trans (hB.mono (by exact BC.out.size))
      clear hB BC
      have BC := Bwr3
      dsimp only
      refine hK.out _ _ Bwr3.out (fun hH => ?_)
      clear hK K
      refine wpAnyH_ready (rs := [12]) (by kernel_rfl) (by simp) ?_
      refine AllReadyH.cons rfl (fun K hK => ?_) AllReadyH.nil
      go_simp
      refine (CM.out _).mono ?_
      rintro e' wr4 ⟨rfl, hB⟩
      have Bwr4 : Hid (Below W8.heap.size W8 wr4) := BC.out.trans (hB.mono (by exact BC.out.size))
      clear hB BC
      have BC := Bwr4
      dsimp only
      refine hK.out _ _ Bwr4.out (fun hH => ?_)
      clear hK K
      refine wpAnyH_ready (rs := [13]) (by kernel_rfl) (by simp) ?_
      refine AllReadyH.cons rfl (fun K hK => ?_) AllReadyH.nil
      go_simp
      refine (C4.out _ BC.out).mono ?_
      rintro e' wr5 ⟨rfl, hB⟩
      have Bwr5 : Hid (Below W8.heap.size W8 wr5) := BC.out.trans (hB.mono (by exact BC.out.size))
      clear hB BC
      have BC := Bwr5
      dsimp only
      refine hK.out _ _ Bwr5.out (fun hH => ?_)
      clear hK K
      refine takeH (i := 14) (v := .bool true) 33 rfl (by kernel_rfl) (by kernel_rfl) (by kernel_rfl) rfl (fun _ _ _ h => h) (Or.inl ⟨by rfl, fun w' _ => ?_⟩) hH ?_
      · go_simp
      go_frame
      refine takeH (i := 15) (v := .bool true) 34 rfl (by kernel_rfl) (by kernel_rfl) (by kernel_rfl) rfl (fun _ _ _ h => h) (Or.inl ⟨by rfl, fun w' _ => ?_⟩) hH ?_
      · go_simp
      go_frame
      refine takeH (i := 16) (v := .bool true) 6 rfl (by kernel_rfl) (by kernel_rfl) (by kernel_rfl) rfl (fun _ _ _ h => h) (Or.inl ⟨by rfl, fun w' _ => ?_⟩) hH ?_
      · go_simp
      go_frame
      refine wpAnyH_done (by kernel_rfl) ?_ _
      refine NoPanic.normal ?_
      go_wp2_with fail
      go_ret
      exact ⟨by kernel_rfl, B8.out.trans (BC.out.mono B8.out.size)⟩

set_option maxRecDepth 100000 in
theorem lifted (os : Os) (started : os.Started) (H : Type) (enc : TypeId × Value → H) :
    ReturnsInHanded {} Tryd.checked os 5 .any (fun w args => (Rows.merkleChecksSpec.pre enc Tryd.prog Tryd.f5 [] false w args ∧ laidMetH Tryd.prog laidL w) ∧ sizedMet enc Tryd.prog Tryd.f5 (OpenSpec.ofChange Rows.merkleChecksSpec) false w args)
      (Rows.merkleChecksSpec.post enc Tryd.prog Tryd.f5 false true false false) := by
  refine returnsInHanded_of_change_and (C := Tryd.checked) (X := fun w _ => laidMetH Tryd.prog laidL w) (fun _ _ _ hh h => h.of_heap hh) own started (by kernel_rfl) Tryd.func5
    (ChangeSpec.witness_shaped (enc := enc) (C := Tryd.checked) (os := os) (X := fun w _ => laidMetH Tryd.prog laidL w) false (World.doorLaid Tryd.prog 400 os) #[.agg #[.int .u64 0, .int .u32 0, .slice none 0 0], .agg z32, .bool false] 8 rfl (World.shaped_of_RefB (by kernel_rfl) (by kernel_rfl)) (by kernel_rfl) (by kernel_rfl) (by kernel_rfl) (door_met os _)) ?_
  intro W base args ds gs before hval0 hW _ _ hL _
  have hval : ∀ (j : Nat) t v, Tryd.f5.params[j]? = some t → args[j]? = some v → Value.okWide Tryd.prog W .any base t v := hval0
  have hW' := hW
  obtain ⟨p, q, hA0, hV, rfl, hfz, hnd⟩ := hW
  have hA : DataW.TrodAll enc Tryd.prog W 0 (fun _ => true) true Tryd.f5.params.toList args.toList ds p := hA0
  rw [Tryd.params5] at hA hval
  obtain ⟨v0, vs0, d0, ds0, p0, q0, hargs, rfl, rfl, h0, r0⟩ := trodAll_cons hA
  obtain ⟨v1, vs1, d1, ds1, p1, q1, rfl, rfl, rfl, h1, r1⟩ := trodAll_cons r0
  obtain ⟨v2, vs2, d2, ds2, p2, q2, rfl, rfl, rfl, h2, r2⟩ := trodAll_cons r1
  obtain ⟨rfl, rfl, rfl⟩ := trodAll_nil r2
  obtain rfl : args = #[v0, v1, v2] := by cases args; simp_all
  obtain ⟨rfl, rfl⟩ := trodVars_none hV
  have k0 := h0
  have lt0 : ∀ x ∈ p0, x.block < W.heap.size := by obtain ⟨m, hm⟩ := k0; exact DataW.trod_lt m _ _ _ hm
  obtain ⟨s0x, p0x, a0, ls0, cap0, rfl, hs0, hp0, hl0, hm0, hd0⟩ := man_of (hval 0 35 v0 rfl rfl) h0
  have k1 := h1
  have lt1 : ∀ x ∈ p1, x.block < W.heap.size := by obtain ⟨m, hm⟩ := k1; exact DataW.trod_lt m _ _ _ hm
  obtain ⟨q1x, rfl⟩ := sum_of (hval 1 25 v1 rfl rfl) h1
  obtain ⟨n2, rfl, rfl, rfl⟩ := open_bool Tryd.underlying4 (hval 2 4 v2 rfl rfl) h2
  clear hA0 hval0
  refine (walk s0x p0x a0 ls0 cap0 q1x n2 W (glob_of_laid hL) hd0 hl0 hs0 hp0).mono fun e W' ⟨he, bel⟩ => ?_
  subst he
  exact ⟨_, rfl, _, _, _, [], _, [], hW', trodAll_mk1 (shut_bool Tryd.underlying4 _), (trodAll_cons_mk (Below.trod laidOut (by kernel_rfl) (of_decide_eq_true (by kernel_rfl)) k0 bel lt0) (trodAll_cons_mk (Below.trod laidOut (by kernel_rfl) (of_decide_eq_true (by kernel_rfl)) k1 bel lt1) (trodAll_cons_mk (shut_bool Tryd.underlying4 n2) trodAll_mk0))), rfl, bel.frame _, fun h => by cases h⟩

theorem over : Rows.merkleChecksRow.holds Tryd.pinned (OpenSpec.ofChange Rows.merkleChecksSpec) :=
  OpenClaim.holds_of_wide 5 Tryd.f5 rfl rfl rfl rfl rfl rfl rfl ⟨rfl, rfl, rfl, rfl, rfl⟩ rfl rfl rfl rfl rfl (by kernel_rfl) Tryd.func5 (by kernel_rfl)
    (of_decide_eq_true (by kernel_rfl)) (by unfold Func.isWrapper; first | (rw [if_pos (by decide +kernel)]; kernel_rfl) | (rw [if_neg (by decide +kernel)]; exact ⟨rfl, rfl⟩))
    (fun os started H enc _ => lifted os started H enc)

/-- ████ THE STATEMENT ████ -/
theorem proved : Rows.MerkleChecksCardSaid :=
  Claim7.holds_tied_plain_at .later [] [.data, .data] true Rows.merkleChecksCard.stood.harness false
    over (fun _ h => by cases h) (by kernel_rfl) (fun _ h => by cases h) merkleChecks_row_tie rfl ⟨rfl, rfl⟩ (by kernel_rfl) rfl
    (fun f fn hf hfn => by
      obtain rfl : f = 5 := Option.some.inj ((show Tryd.prog.funcNamed Rows.merkleChecksRow.func = some 5 by kernel_rfl).symm.trans hf) |>.symm
      obtain rfl : fn = Tryd.f5 := (Option.some.inj (Tryd.func5.symm.trans hfn)).symm
      exact ⟨by kernel_rfl, fun j t ht => by
        rw [Tryd.params5] at ht
        have hm : t ∈ [35, 25, 4] := by
          have := Array.mem_of_getElem? ht
          simp at this
          simpa using this
        have hall : ([35, 25, 4].all fun u => !Tryd.prog.wantsStandIn u) = true := by kernel_rfl
        exact (show Tryd.prog.wantsStandIn t = false by simpa using List.all_eq_true.1 hall t hm)⟩)
    (by kernel_rfl)
#print axioms proved
end Go.Proofs.YtieepdhajjibpaaDoor.merkleChecks
