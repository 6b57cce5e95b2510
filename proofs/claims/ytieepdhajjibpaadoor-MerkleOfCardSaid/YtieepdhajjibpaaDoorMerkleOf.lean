
/- MerkleOf holds, tied to the program's text: for every bytes and number the law returns true. No condition of ours; the row's own: the package's variables read as the text lays them. -/
import Derived.Test.YtieepdhajjibpaaDoorMrkArgs
import Derived.Test.YtieepdhajjibpaaDoorMrkAwake
namespace Go.Proofs.YtieepdhajjibpaaDoor.merkleOf
open Go.ChangeShapes Go.WideShapes Go.ChangeAt Go.RowKit

theorem of_good {s : Nat} {part : Int} (hz : (cntE s part).2 = 0) : ∃ p n : Nat, part = (p : Int) ∧ p < 4294967296 ∧ cntE s (p : Int) = ((n : Int), 0) ∧ n ≤ 1024 := by
  unfold cntE at hz
  split at hz
  · simp at hz
  · rename_i hb
    refine ⟨part.toNat, cntN s part.toNat, by omega, by omega, ?_⟩
    have e : ((part.toNat : Nat) : Int) = part := by omega
    rw [e]
    unfold cntE
    rw [if_neg hb]
    split at hz
    · simp at hz
    · rename_i h2
      rw [if_neg h2]
      exact ⟨rfl, by omega⟩

theorem of_ok {w w' : World} {xs : List UInt8} {p n : Nat} {e : Ending} (h : OfPost (w := w) xs (p : Int) e w') (hc : cntE xs.length (p : Int) = ((n : Int), 0)) :
    ∃ A c, e = .returned (.tuple #[.agg #[.int .u64 (xs.length : Int), .int .u32 (p : Int), .slice A n c], .int .i64 0]) ∧ n ≤ c ∧ DatR 32 dcs w' w.heap.size w'.heap.size A (lvs xs p n) ∧ Below w.heap.size w w' := by
  rcases h.2 with ⟨p2, n2, A, c, hp, hc2, he, hn, hd⟩ | ⟨hne, _⟩
  · obtain rfl : p2 = p := by omega
    rw [hc] at hc2
    have := congrArg Prod.fst hc2
    simp only at this
    obtain rfl : n2 = n := by omega
    exact ⟨A, c, he, hn, hd, h.1⟩
  · exact absurd (by rw [hc]) hne

theorem of_err {w w' : World} {xs : List UInt8} {part ce : Int} {e : Ending} (h : OfPost (w := w) xs part e w') (hce : ce = (cntE xs.length part).2) (hne : ce ≠ 0) :
    e = .returned (.tuple #[.agg #[.int .u64 0, .int .u32 0, .slice none 0 0], .int .i64 ce]) ∧ Below w.heap.size w w' := by
  rcases h.2 with ⟨p2, n2, A, c, hp, hc2, he, hn, hd⟩ | ⟨_, he⟩
  · exact absurd (by rw [hce, hc2]) hne
  · rw [← hce] at he
    exact ⟨he, h.1⟩

set_option maxRecDepth 20000 in
set_option maxHeartbeats 20000000 in
theorem walk (a0 : Option Addr) (xs : List UInt8) (cap0 : Nat) (part : Int) (w : World) (hgl : Glob w) (hd0 : Dat false w 0 w.heap.size a0 xs) (hl0 : xs.length ≤ cap0) (_ : -9223372036854775808 ≤ part ∧ part ≤ 9223372036854775807) :
    Calls Tryd.prog 4 #[.slice a0 xs.length cap0, .int .i64 part] w fun e w' => e = .returned (.bool true) ∧ Below w.heap.size w w' := by
  have HG := Lib.hid hgl
  have hw2 := hgl.2.2
  have HD0 := Lib.hid hd0
  clear hgl hd0
  go_enter Tryd.func4, Tryd.ntmps4
  go_upto_region 4 with (first | (go_at_call 10; refine (mawake_any _ HG.out).mono ?_; rintro e' W ⟨rfl, hB⟩; have BW := Lib.hid hB; clear hB))
  have hwW := BW.out.size
  by_cases hbig : 1500 < xs.length
  · have g1 : decide ((1500 : Int) < (xs.length : Int)) = true := by simp; omega
    go_wp2_with fail
    go_ret
    exact ⟨rfl, BW.out⟩
  · have hL : xs.length ≤ 1500 := by omega
    have g1 : decide ((1500 : Int) < (xs.length : Int)) = false := by simp; omega
    obtain ⟨SX, hSX⟩ : ∃ S, S = str xs := ⟨_, rfl⟩
    have CX : Hid (∀ V, Below w.heap.size w V → (convert 23 9 (.slice a0 xs.length cap0)).run Tryd.prog V = .ok (.string SX) V) := fun V hV => by rw [hSX]; exact run_str V _ Tryd.underlying23 Tryd.underlying5 (HD0.out.below hV (Nat.le_refl _)) rfl _ Tryd.underlying9
    by_cases hz : (cntE xs.length part).2 = 0
    · obtain ⟨p, n, hpart, hpb, hc, hn1⟩ := of_good hz
      clear hz
      subst hpart
      have HO1 := Lib.hid (mOf_any (c := cap0) (p : Int) (HG.out.below BW.out hw2) (HD0.out.below BW.out (Nat.le_refl _)) rfl hl0 hwW (by omega))
      have HO2 := Lib.hid (fun (V : World) => refOf_any (w := V) (xs := xs) (p : Int) rfl (by omega))
      rw [← hSX] at HO2
      have HC := Lib.hid hc
      clear hc hSX
      go_upto_region 6 with fail
      go_cut [6, 7] (fun v v7 wx => ∃ (g : Nat) (A : Option Addr) (c lo hi : Nat), v = .pointer (some ⟨g, 0, none⟩) ∧ v7 = .int .i64 0 ∧ Box wx g 35 #[.int .u64 (xs.length : Int), .int .u32 (p : Int), .slice A n c] ∧ n ≤ c ∧ DatR 32 dcs wx lo hi A (lvs xs p n) ∧ hi ≤ wx.heap.size ∧ Below W.heap.size W wx)
      case first =>
        go_wp2_with (first
          | (go_at_call 17; refine HO1.out.mono ?_; rintro e w1 hp; obtain ⟨A, c, rfl, hnc, hd, hb⟩ := of_ok hp HC.out; have HDD := Lib.hid hd; have HBB := Lib.hid hb; clear hp hd hb))
        go_meet
        exact ⟨_, A, c, _, _, rfl, rfl, Box.new w1 _ _, hnc, HDD.out.alloc (Nat.le_refl _) _, by simp, HBB.out.alloc HBB.out.size _⟩
      case rest =>
        obtain ⟨g, A, c, lo, hi, rfl, rfl, hbx, hnc, hdl, hhi, hB⟩ := hcut
        obtain ⟨w2, rfl⟩ : ∃ w2, w2 = wc := ⟨_, rfl⟩
        have XM := Lib.hid hbx
        have DL := Lib.hid hdl
        have B2 : Hid (Below w.heap.size w w2) := BW.out.trans (hB.mono hwW)
        have lm := hbx.lt
        have kc := CX.out w2 B2.out
        clear hbx hdl hB HO1 CX
        go_upto_region 7 with fail
        go_cut [8, 9] (fun v v9 wx => ∃ (g2 : Nat) (A2 : Option Addr) (c2 lo2 hi2 : Nat), v = .pointer (some ⟨g2, 0, none⟩) ∧ v9 = .int .i64 0 ∧ Box wx g2 39 #[.int .u64 (xs.length : Int), .int .u32 (p : Int), .slice A2 n c2] ∧ n ≤ c2 ∧ DatR 32 dcs wx lo2 hi2 A2 (lvs xs p n) ∧ hi2 ≤ wx.heap.size ∧ Below w2.heap.size w2 wx)
        case first =>
          go_wp2_with (first
            | (go_at_call 18; refine (HO2.out _).mono ?_; rintro e w3 hp; obtain ⟨A2, c2, rfl, hnc2, hd, hb⟩ := of_ok hp HC.out; have HDD := Lib.hid hd; have HBB := Lib.hid hb; clear hp hd hb))
          go_meet
          exact ⟨_, A2, c2, _, _, rfl, rfl, Box.new w3 _ _, hnc2, HDD.out.alloc (Nat.le_refl _) _, by simp, HBB.out.alloc HBB.out.size _⟩
        case rest =>
          obtain ⟨g2, A2, c2, lo2, hi2, rfl, rfl, hbx, hnc2, hdl, hhi2, hB⟩ := hcut
          obtain ⟨w4, rfl⟩ : ∃ w4, w4 = wc := ⟨_, rfl⟩
          have XN := Lib.hid hbx
          have XM4 := Lib.hid (XM.out.below hB lm)
          have DL4 := Lib.hid (DL.out.below hB hhi)
          have DN := Lib.hid hdl
          have B4 : Hid (Below w.heap.size w w4) := B2.out.trans (hB.mono B2.out.size)
          have ln := hbx.lt
          have lm4 := XM4.out.lt
          have k0 := XM4.out.cell 0
          have k1 := XM4.out.cell 1
          have k2 := XM4.out.cell 2
          have r0 := hbx.cell 0
          have r1 := hbx.cell 1
          have r2 := hbx.cell 2
          have hs4 := hB.size
          have HS := Lib.hid (same_any (w := w4) (c := c) (c' := c2) DL4.out DN.out (lvs_len _ _ _) (lvs_len _ _ _) (by omega) (by omega))
          rw [decide_eq_true rfl] at HS
          have HHI := Lib.hid (And.intro (Nat.le_trans hhi hs4) hhi2)
          clear hbx hdl hB XM DL HO2 kc hhi hhi2 hs4 lm
          go_upto_region 10 with (first
            | (go_at_call 19; refine HS.out.mono ?_; rintro e W8 ⟨rfl, ha⟩; have A8 := Lib.hid ha; have B8 : Hid (Below w.heap.size w W8) := B4.out.trans (ha.mono B4.out.size); clear ha))
          obtain ⟨L, hL'⟩ : ∃ L, L = lvs xs p n := ⟨_, rfl⟩
          have hLn : L.length = n := by rw [hL', lvs_len]
          obtain ⟨R, hR⟩ : ∃ R, R = bcells (idD xs.length p L).1 := ⟨_, rfl⟩
          have q1 : ∀ V, (Op.equalIn 10000 25 (.agg R) (.agg R)).run Tryd.prog V = .ok true V := fun V => by rw [hR]; exact (eqD _ _ V).trans (by rw [beq_self_eq_true])
          rw [← hL'] at DL4 DN
          have hck : chkE xs.length p L (idD xs.length p L) = 0 := by
            unfold chkE
            rw [HC.out, hLn]
            simp
          have DW : Hid (∀ V, Below W8.heap.size W8 V → Below w4.heap.size w4 V) := fun V hV => A8.out.trans (hV.mono A8.out.size)
          have GV : Hid (∀ V, Below W8.heap.size W8 V → Glob V) := fun V hV => HG.out.below (B4.out.trans ((DW.out V hV).mono B4.out.size)) hw2
          have C1 : Hid (∀ V, Below W8.heap.size W8 V → Calls Tryd.prog 22 #[.agg #[.int .u64 (xs.length : Int), .int .u32 (p : Int), .slice A n c], .agg R] V fun e w' => e = .returned (.int .i64 0) ∧ Below V.heap.size V w') := fun V hV => by
            have h := check_any (c := c) xs.length p (idD xs.length p L) (GV.out V hV) (DL4.out.below (DW.out V hV) HHI.out.1) hLn hnc (Nat.le_trans HHI.out.1 (DW.out V hV).size) (by omega) (by omega) hpb
            rw [hck] at h
            rw [hR]
            exact h
          have C3 : Hid (∀ V, Below W8.heap.size W8 V → Calls Tryd.prog 20 #[.agg #[.int .u64 (xs.length : Int), .int .u32 (p : Int), .slice A n c]] V fun e w' => e = .returned (.agg R) ∧ Below V.heap.size V w') := fun V hV => by rw [hR]; exact id_any xs.length p (GV.out V hV) (DL4.out.below (DW.out V hV) HHI.out.1) hLn hnc (Nat.le_trans HHI.out.1 (DW.out V hV).size) (by omega) hpb
          have C4 : Hid (∀ V, Below W8.heap.size W8 V → Calls Tryd.prog 21 #[.agg #[.int .u64 (xs.length : Int), .int .u32 (p : Int), .slice A2 n c2]] V fun e w' => e = .returned (.agg R) ∧ Below V.heap.size V w') := fun V hV => by rw [hR]; exact refId_any xs.length p (DN.out.below (DW.out V hV) HHI.out.2) hLn hnc2 (Nat.le_trans HHI.out.2 (DW.out V hV).size) (by omega) (by omega) hpb
          have LM : Hid (∀ V, Below W8.heap.size W8 V → (loadVar 35 ⟨g, 0, none⟩).run Tryd.prog V = .ok (.agg #[.int .u64 (xs.length : Int), .int .u32 (p : Int), .slice A n c]) V) := fun V hV => run_loadVar_row (P := Tryd.prog) V g 35 35 _ (0, 0) _ (XM4.out.below (DW.out V hV) lm4) Tryd.underlying35 rfl (by kernel_rfl)
          have LN : Hid (∀ V, Below W8.heap.size W8 V → (loadVar 39 ⟨g2, 0, none⟩).run Tryd.prog V = .ok (.agg #[.int .u64 (xs.length : Int), .int .u32 (p : Int), .slice A2 n c2]) V) := fun V hV => run_loadVar_row (P := Tryd.prog) V g2 39 39 _ (0, 0) _ (XN.out.below (DW.out V hV) ln) Tryd.underlying39 rfl (by kernel_rfl)
          clear hL' hR hck k0 k1 k2 r0 r1 r2 HS
          refine wp_region_noPanic ?_
          refine wp_region_held_drew (S := fun V => Below W8.heap.size W8 V) (by kernel_rfl) ((Below.refl _ _).drew) (fun hH => ?_)
          generalize W8.drew = wd at hH ⊢
          have BC : Hid (Below W8.heap.size W8 wd) := hH
          refine takeH (i := 0) (v := .int .i64 0) 54 rfl (by kernel_rfl) (by kernel_rfl) (by kernel_rfl) rfl (fun _ _ _ h => h) (Or.inl ⟨by rfl, fun w' _ => ?_⟩) hH ?_
          · go_simp
          go_frame
          refine takeH (i := 1) (v := .bool false) 55 rfl (by kernel_rfl) (by kernel_rfl) (by kernel_rfl) rfl (fun _ _ _ h => h) (Or.inl ⟨by rfl, fun w' _ => ?_⟩) hH ?_
          · go_simp
          go_frame
          refine takeH (i := 2) (v := .bool false) 56 rfl (by kernel_rfl) (by kernel_rfl) (by kernel_rfl) rfl (fun _ _ _ h => h) (Or.inl ⟨by rfl, fun w' _ => ?_⟩) hH ?_
          · go_simp
          go_frame
          refine takeH (i := 3) (v := .agg #[.int .u64 (xs.length : Int), .int .u32 (p : Int), .slice A n c]) 57 rfl (by kernel_rfl) (by kernel_rfl) (by kernel_rfl) rfl (fun _ _ _ h => h) (yieldsIf_load_run (by rfl) rfl rfl LM.out) hH ?_
          go_frame
          refine takeH (i := 5) (v := .agg #[.int .u64 (xs.length : Int), .int .u32 (p : Int), .slice A2 n c2]) 59 rfl (by kernel_rfl) (by kernel_rfl) (by kernel_rfl) rfl (fun _ _ _ h => h) (yieldsIf_load_run (by rfl) rfl rfl LN.out) hH ?_
          go_frame
          refine wpAnyH_ready (rs := [4]) (by kernel_rfl) (by simp) ?_
          refine AllReadyH.cons rfl (fun K hK => ?_) AllReadyH.nil
          go_simp
          refine (C3.out _ BC.out).mono ?_
          rintro e' wr0 ⟨rfl, hB⟩
          have Bwr0 : Hid (Below W8.heap.size W8 wr0) := BC.out.trans (hB.mono (by exact BC.out.size))
          clear hB BC
          have BC := Bwr0
          dsimp only
          refine hK.out _ _ Bwr0.out (fun hH => ?_)
          clear hK K
          refine wpAnyH_ready (rs := [6]) (by kernel_rfl) (by simp) ?_
          refine AllReadyH.cons rfl (fun K hK => ?_) AllReadyH.nil
          go_simp
          refine (C4.out _ BC.out).mono ?_
          rintro e' wr1 ⟨rfl, hB⟩
          have Bwr1 : Hid (Below W8.heap.size W8 wr1) := BC.out.trans (hB.mono (by exact BC.out.size))
          clear hB BC
          have BC := Bwr1
          dsimp only
          refine hK.out _ _ Bwr1.out (fun hH => ?_)
          clear hK K
          refine takeH (i := 7) (v := .bool true) 61 rfl (by kernel_rfl) (by kernel_rfl) (by kernel_rfl) rfl (fun _ _ _ h => h) (Or.inl ⟨by rfl, fun w' _ => ?_⟩) hH ?_
          · go_simp
          go_frame
          refine takeH (i := 8) (v := .bool true) 62 rfl (by kernel_rfl) (by kernel_rfl) (by kernel_rfl) rfl (fun _ _ _ h => h) (Or.inl ⟨by rfl, fun w' _ => ?_⟩) hH ?_
          · go_simp
          go_frame
          refine takeH (i := 9) (v := .agg #[.int .u64 (xs.length : Int), .int .u32 (p : Int), .slice A n c]) 63 rfl (by kernel_rfl) (by kernel_rfl) (by kernel_rfl) rfl (fun _ _ _ h => h) (yieldsIf_load_run (by rfl) rfl rfl LM.out) hH ?_
          go_frame
          refine takeH (i := 10) (v := .agg #[.int .u64 (xs.length : Int), .int .u32 (p : Int), .slice A2 n c2]) 64 rfl (by kernel_rfl) (by kernel_rfl) (by kernel_rfl) rfl (fun _ _ _ h => h) (yieldsIf_load_run (by rfl) rfl rfl LN.out) hH ?_
          go_frame
          refine wpAnyH_ready (rs := [11]) (by kernel_rfl) (by simp) ?_
          refine AllReadyH.cons rfl (fun K hK => ?_) AllReadyH.nil
          go_simp
          refine (C4.out _ BC.out).mono ?_
          rintro e' wr2 ⟨rfl, hB⟩
          have Bwr2 : Hid (Below W8.heap.size W8 wr2) := BC.out.trans (hB.mono (by exact BC.out.size))
          clear hB BC
          have BC := Bwr2
          dsimp only
          refine hK.out _ _ Bwr2.out (fun hH => ?_)
          clear hK K
          refine wpAnyH_ready (rs := [12]) (by kernel_rfl) (by simp) ?_
          refine AllReadyH.cons rfl (fun K hK => ?_) AllReadyH.nil
          go_simp
          refine (C1.out _ BC.out).mono ?_
          rintro e' wr3 ⟨rfl, hB⟩
          have Bwr3 : Hid (Below W8.heap.size W8 wr3) := BC.out.trans (hB.mono (by exact BC.out.size))
          clear hB BC
          have BC := Bwr3
          dsimp only
          refine hK.out _ _ Bwr3.out (fun hH => ?_)
          clear hK K
          refine takeH (i := 13) (v := .bool true) 67 rfl (by kernel_rfl) (by kernel_rfl) (by kernel_rfl) rfl (fun _ _ _ h => h) (Or.inl ⟨by rfl, fun w' _ => ?_⟩) hH ?_
          · go_simp
          go_frame
          refine takeH (i := 14) (v := .bool true) 68 rfl (by kernel_rfl) (by kernel_rfl) (by kernel_rfl) rfl (fun _ _ _ h => h) (Or.inl ⟨by rfl, fun w' _ => ?_⟩) hH ?_
          · go_simp
          go_frame
          refine takeH (i := 15) (v := .bool true) 69 rfl (by kernel_rfl) (by kernel_rfl) (by kernel_rfl) rfl (fun _ _ _ h => h) (Or.inl ⟨by rfl, fun w' _ => ?_⟩) hH ?_
          · go_simp
          go_frame
          refine takeH (i := 16) (v := .bool true) 4 rfl (by kernel_rfl) (by kernel_rfl) (by kernel_rfl) rfl (fun _ _ _ h => h) (Or.inl ⟨by rfl, fun w' _ => ?_⟩) hH ?_
          · go_simp
          go_frame
          refine wpAnyH_done (by kernel_rfl) ?_ _
          refine NoPanic.normal ?_
          go_wp2_with fail
          go_ret
          exact ⟨by kernel_rfl, B8.out.trans (BC.out.mono B8.out.size)⟩
    · obtain ⟨ce, hce⟩ : ∃ ce, ce = (cntE xs.length part).2 := ⟨_, rfl⟩
      rw [← hce] at hz
      have g2 : (ce != 0) = true := by rw [bne_iff_ne]; exact hz
      have HZ := Lib.hid hz
      have HO1 := Lib.hid (mOf_any (c := cap0) part (HG.out.below BW.out hw2) (HD0.out.below BW.out (Nat.le_refl _)) rfl hl0 hwW (by omega))
      have HO2 := Lib.hid (fun (V : World) => refOf_any (w := V) (xs := xs) part rfl (by omega))
      rw [← hSX] at HO2
      have HC := Lib.hid hce
      clear hce hSX hz
      go_upto_region 6 with fail
      go_cut [6, 7] (fun v v7 wx => ∃ (g : Nat), v = .pointer (some ⟨g, 0, none⟩) ∧ v7 = .int .i64 ce ∧ Box wx g 35 #[.int .u64 0, .int .u32 0, .slice none 0 0] ∧ Below W.heap.size W wx)
      case first =>
        go_wp2_with (first
          | (go_at_call 17; refine HO1.out.mono ?_; rintro e w1 hp; obtain ⟨rfl, hb⟩ := of_err hp HC.out HZ.out; have HBB := Lib.hid hb; clear hp hb))
        go_meet
        exact ⟨_, rfl, rfl, Box.new w1 _ _, HBB.out.alloc HBB.out.size _⟩
      case rest =>
        obtain ⟨g, rfl, rfl, hbx, hB⟩ := hcut
        obtain ⟨w2, rfl⟩ : ∃ w2, w2 = wc := ⟨_, rfl⟩
        have XM := Lib.hid hbx
        have B2 : Hid (Below w.heap.size w w2) := BW.out.trans (hB.mono hwW)
        have lm := hbx.lt
        have kc := CX.out w2 B2.out
        clear hbx hB HO1 CX
        go_upto_region 7 with fail
        go_cut [8, 9] (fun v v9 wx => ∃ (g2 : Nat), v = .pointer (some ⟨g2, 0, none⟩) ∧ v9 = .int .i64 ce ∧ Box wx g2 39 #[.int .u64 0, .int .u32 0, .slice none 0 0] ∧ Below w2.heap.size w2 wx)
        case first =>
          go_wp2_with (first
            | (go_at_call 18; refine (HO2.out _).mono ?_; rintro e w3 hp; obtain ⟨rfl, hb⟩ := of_err hp HC.out HZ.out; have HBB := Lib.hid hb; clear hp hb))
          go_meet
          exact ⟨_, rfl, rfl, Box.new w3 _ _, HBB.out.alloc HBB.out.size _⟩
        case rest =>
          obtain ⟨g2, rfl, rfl, hbx, hB⟩ := hcut
          obtain ⟨w4, rfl⟩ : ∃ w4, w4 = wc := ⟨_, rfl⟩
          have XM4 := XM.out.below hB lm
          have B4 : Hid (Below w.heap.size w w4) := B2.out.trans (hB.mono B2.out.size)
          have k0 := XM4.cell 0
          have k1 := XM4.cell 1
          have k2 := XM4.cell 2
          have r0 := hbx.cell 0
          have r1 := hbx.cell 1
          have r2 := hbx.cell 2
          have HS := Lib.hid (same_any (w := w4) (c := 0) (c' := 0) (DatR.nil 32 dcs w4 0 0 none) (DatR.nil 32 dcs w4 0 0 none) rfl rfl (Nat.zero_le _) (Nat.zero_le _))
          rw [decide_eq_true rfl] at HS
          clear hbx hB XM HO2 kc lm XM4
          go_upto_region 10 with (first
            | (go_at_call 19; refine HS.out.mono ?_; rintro e W8 ⟨rfl, ha⟩; have B8 : Hid (Below w.heap.size w W8) := B4.out.trans (ha.mono B4.out.size); clear ha))
          go_quiet (fail)
          go_wp2_with fail
          go_ret
          have b8 := B8.out
          exact ⟨by kernel_rfl, ⟨b8.os, b8.tape, b8.output, b8.size, b8.block⟩⟩

set_option maxRecDepth 100000 in
theorem lifted (os : Os) (started : os.Started) (H : Type) (enc : TypeId × Value → H) :
    ReturnsInHanded {} Tryd.checked os 4 .any (fun w args => (Rows.merkleOfSpec.pre enc Tryd.prog Tryd.f4 [] false w args ∧ laidMetH Tryd.prog laidL w) ∧ sizedMet enc Tryd.prog Tryd.f4 (OpenSpec.ofChange Rows.merkleOfSpec) false w args)
      (Rows.merkleOfSpec.post enc Tryd.prog Tryd.f4 false true false false) := by
  refine returnsInHanded_of_change_and (C := Tryd.checked) (X := fun w _ => laidMetH Tryd.prog laidL w) (fun _ _ _ hh h => h.of_heap hh) own started (by kernel_rfl) Tryd.func4
    (ChangeSpec.witness_shaped (enc := enc) (C := Tryd.checked) (os := os) (X := fun w _ => laidMetH Tryd.prog laidL w) false (World.doorLaid Tryd.prog 400 os) #[.slice none 0 0, .int .i64 0] 8 rfl (World.shaped_of_RefB (by kernel_rfl) (by kernel_rfl)) (by kernel_rfl) (by kernel_rfl) (by kernel_rfl) (door_met os _)) ?_
  intro W base args ds gs before hval0 hW _ _ hL _
  have hval : ∀ (j : Nat) t v, Tryd.f4.params[j]? = some t → args[j]? = some v → Value.okWide Tryd.prog W .any base t v := hval0
  have hW' := hW
  obtain ⟨p, q, hA0, hV, rfl, hfz, hnd⟩ := hW
  have hA : DataW.TrodAll enc Tryd.prog W 0 (fun _ => true) true Tryd.f4.params.toList args.toList ds p := hA0
  rw [Tryd.params4] at hA hval
  obtain ⟨v0, vs0, d0, ds0, p0, q0, hargs, rfl, rfl, h0, r0⟩ := trodAll_cons hA
  obtain ⟨v1, vs1, d1, ds1, p1, q1, rfl, rfl, rfl, h1, r1⟩ := trodAll_cons r0
  obtain ⟨rfl, rfl, rfl⟩ := trodAll_nil r1
  obtain rfl : args = #[v0, v1] := by cases args; simp_all
  obtain ⟨rfl, rfl⟩ := trodVars_none hV
  obtain ⟨a0, len0, cap0, rfl⟩ := okWide_slice Tryd.underlying23 (hval 0 23 v0 rfl rfl)
  have k0 := h0
  have lt0 : ∀ x ∈ p0, x.block < W.heap.size := by obtain ⟨m, hm⟩ := k0; exact DataW.trod_lt m _ _ _ hm
  obtain ⟨z0, w0⟩ := row_of_trod h0
  obtain ⟨xs0, rfl, hl0, hm0, hd0⟩ := row_dat w0
  obtain ⟨n1, rfl, rfl, rfl, w1⟩ := open_int Tryd.underlying3 (hval 1 3 v1 rfl rfl) h1
  clear hA0 hval0
  refine (walk a0 xs0 cap0 n1 W (glob_of_laid hL) hd0 (by omega) (int_bounds w1)).mono fun e W' ⟨he, bel⟩ => ?_
  subst he
  exact ⟨_, rfl, _, _, _, [], _, [], hW', trodAll_mk1 (shut_bool Tryd.underlying4 _), (trodAll_cons_mk (Below.trod laidOut (by kernel_rfl) (of_decide_eq_true (by kernel_rfl)) k0 bel lt0) (trodAll_cons_mk (shut_int Tryd.underlying3 w1) trodAll_mk0)), rfl, bel.frame _, fun h => by cases h⟩

theorem over : Rows.merkleOfRow.holds Tryd.pinned (OpenSpec.ofChange Rows.merkleOfSpec) :=
  OpenClaim.holds_of_wide 4 Tryd.f4 rfl rfl rfl rfl rfl rfl rfl ⟨rfl, rfl, rfl, rfl, rfl⟩ rfl rfl rfl rfl rfl (by kernel_rfl) Tryd.func4 (by kernel_rfl)
    (of_decide_eq_true (by kernel_rfl)) (by unfold Func.isWrapper; first | (rw [if_pos (by decide +kernel)]; kernel_rfl) | (rw [if_neg (by decide +kernel)]; exact ⟨rfl, rfl⟩))
    (fun os started H enc _ => lifted os started H enc)

/-- ████ THE STATEMENT ████ -/
theorem proved : Rows.MerkleOfCardSaid :=
  Claim7.holds_tied_plain_at .later [] [.data, .data] true Rows.merkleOfCard.stood.harness false
    over (fun _ h => by cases h) (by kernel_rfl) (fun _ h => by cases h) merkleOf_row_tie rfl ⟨rfl, rfl⟩ (by kernel_rfl) rfl
    (fun f fn hf hfn => by
      obtain rfl : f = 4 := Option.some.inj ((show Tryd.prog.funcNamed Rows.merkleOfRow.func = some 4 by kernel_rfl).symm.trans hf) |>.symm
      obtain rfl : fn = Tryd.f4 := (Option.some.inj (Tryd.func4.symm.trans hfn)).symm
      exact ⟨by kernel_rfl, fun j t ht => by
        rw [Tryd.params4] at ht
        have hm : t ∈ [23, 3] := by
          have := Array.mem_of_getElem? ht
          simp at this
          simpa using this
        have hall : ([23, 3].all fun u => !Tryd.prog.wantsStandIn u) = true := by kernel_rfl
        exact (show Tryd.prog.wantsStandIn t = false by simpa using List.all_eq_true.1 hall t hm)⟩)
    (by kernel_rfl)
#print axioms proved
end Go.Proofs.YtieepdhajjibpaaDoor.merkleOf
