
/- The contract of the document's example. -/
import Derived.Test.YtieepdhajjibpaaDoorMrkEx
import Derived.Test.YtieepdhajjibpaaDoorMrkCheck
import Derived.Test.YtieepdhajjibpaaDoorMrkTwo
import Derived.Test.YtieepdhajjibpaaDoorShaAwake
import Derived.Lib.SlBytesConst
import Derived.Maps.RangeWalk
namespace Go.Proofs.YtieepdhajjibpaaDoor
open Go.RowKit

def aD : Dg := ⟨1 :: List.replicate 31 0, rfl⟩
def bD : Dg := ⟨2 :: List.replicate 31 0, rfl⟩
def aC : Array Value := (Value.int .u8 1 :: List.replicate 31 (Value.int .u8 0)).toArray
def bC : Array Value := (Value.int .u8 2 :: List.replicate 31 (Value.int .u8 0)).toArray
theorem run_aC (W : World) : (Instr.build 25 #[(0, .int .u8 1)]).run Tryd.prog W = .ok (.agg aC) W := run_build W _ _ _ (by kernel_rfl)
theorem run_bC (W : World) : (Instr.build 25 #[(0, .int .u8 2)]).run Tryd.prog W = .ok (.agg bC) W := run_build W _ _ _ (by kernel_rfl)
theorem aC_one : aC.all (·.oneCell') = true := by kernel_rfl
theorem bC_one : bC.all (·.oneCell') = true := by kernel_rfl
theorem aC_eq : aC = (dcs aD).toArray := by simp [aC, dcs, aD, cel]
theorem bC_eq : bC = (dcs bD).toArray := by simp [bC, dcs, bD, cel]

theorem ex_cnt : cntE 5 2 = (3, 0) := by decide
theorem ex_of {w w' : World} {e : Ending} (h : OfPost (w := w) [97, 98, 99, 100, 101] 2 e w') : ∃ (A : Option Addr) (c : Nat), e = .returned (.tuple #[.agg #[.int .u64 5, .int .u32 2, .slice A 3 c], .int .i64 0]) ∧ 3 ≤ c ∧ DatR 32 dcs w' w.heap.size w'.heap.size A (lvs [97, 98, 99, 100, 101] 2 3) ∧ Below w.heap.size w w' := by
  obtain ⟨hB, h | h⟩ := h
  · obtain ⟨p, n, A, c, hp, hcn, he, hnc, hd⟩ := h
    obtain rfl : p = 2 := by omega
    have hc3 : ((3 : Int), (0 : Int)) = ((n : Int), 0) := ex_cnt.symm.trans hcn
    obtain rfl : n = 3 := by
      have := congrArg Prod.fst hc3
      simp only at this
      omega
    exact ⟨A, c, he, hnc, hd, hB⟩
  · exfalso
    apply h.1
    show (cntE 5 2).2 = 0
    rw [ex_cnt]

theorem datR_flat {α : Type} {z : Nat} {f : α → List Value} (hz : ∀ x, (f x).length = z) (w : World) (xs : List α) (u : TypeId) (cs : Array Value) (hcs : cs.toList = xs.flatMap f) : DatR z f (w.alloc (.cells cs u)) w.heap.size (w.heap.size + 1) (some ⟨w.heap.size, 0, none⟩) xs := fun _ =>
  ⟨w.heap.size, 0, rfl, Nat.le_refl _, by omega, fun j hj i y hy => by
    have hi : i < z := by
      rcases Nat.lt_or_ge i z with q | q
      · exact q
      · rw [List.getElem?_eq_none (by rw [hz]; exact q)] at hy; cases hy
    rw [(Box.new w u cs).cell, Nat.zero_add, ← Array.getElem?_toList, hcs, flat_get hz xs j i hj hi]
    exact hy⟩
theorem ab_ne : aD ≠ bD := fun h => by
  have := congrArg (fun d : Dg => d.1.head?) h
  simp [aD, bD] at this
theorem ex_two {w w' : World} {e : Ending} (h : TwoPost [aD] [bD] e w w') : ∃ x y, e = .returned (.tuple #[x, y, .bool false]) ∧ Below w.heap.size w w' := by
  rcases h with ⟨_, _, hr, _⟩ | ⟨_, he, hb⟩
  · rw [root_one, root_one] at hr
    exact absurd hr ab_ne
  · exact ⟨_, _, he, hb⟩

set_option maxRecDepth 20000 in
set_option maxHeartbeats 40000000 in
theorem mawake_any (w : World) (hg : Glob w) :
    Calls Tryd.prog 10 #[] w fun e w' => e = .returned (.bool true) ∧ Below w.heap.size w w' := by
  have HG := Lib.hid hg
  have hw2 := hg.2.2
  clear hg
  go_enter Tryd.func10, Tryd.ntmps10
  go_upto_region 1 with fail
  go_cut [1] (fun v wx => v = .pointer (some ⟨w.heap.size, 0, none⟩) ∧ Box wx w.heap.size 25 (dcs aD).toArray ∧ Below w.heap.size w wx)
  case first =>
    go_wp2_with (first
      | (refine wpList_buildV rfl _ _ rfl aC _ rfl run_aC ?_)
      | (refine wpList_store_row rfl 25 _ _ rfl w.heap.size aC rfl rfl 25 _ (heap_alloc_new w _) (by kernel_rfl) (by kernel_rfl) aC_one ?_))
    go_meet
    refine ⟨rfl, ?_, below_row ((Below.refl _ _).alloc (Nat.le_refl _) _) (Nat.le_refl _) _⟩
    rw [← aC_eq]
    exact setRow_heap _ _ _ _ _ _ (heap_alloc_new w _)
  case rest =>
    obtain ⟨rfl, hb1, hB⟩ := hcut
    have X1 := Lib.hid hb1
    have B1 := Lib.hid hB
    have l1 := hb1.lt
    clear hb1 hB
    obtain ⟨w0, rfl⟩ : ∃ w0, w0 = wc := ⟨_, rfl⟩
    go_upto_region 2 with fail
    go_cut [2] (fun v wx => v = .pointer (some ⟨w0.heap.size, 0, none⟩) ∧ Box wx w0.heap.size 25 (dcs bD).toArray ∧ Below w0.heap.size w0 wx)
    case first =>
      go_wp2_with (first
        | (refine wpList_buildV rfl _ _ rfl bC _ rfl run_bC ?_)
        | (refine wpList_store_row rfl 25 _ _ rfl w0.heap.size bC rfl rfl 25 _ (heap_alloc_new w0 _) (by kernel_rfl) (by kernel_rfl) bC_one ?_))
      go_meet
      refine ⟨rfl, ?_, below_row ((Below.refl _ _).alloc (Nat.le_refl _) _) (Nat.le_refl _) _⟩
      rw [← bC_eq]
      exact setRow_heap _ _ _ _ _ _ (heap_alloc_new w0 _)
    case rest =>
      obtain ⟨rfl, hb2, hB⟩ := hcut
      obtain ⟨w1, rfl⟩ : ∃ w1, w1 = wc := ⟨_, rfl⟩
      obtain ⟨g2, hg2⟩ : ∃ g, g = w0.heap.size := ⟨_, rfl⟩
      rw [← hg2] at hb2
      rw [← hg2]
      have X1b := Lib.hid (X1.out.below hB l1)
      have X2 := Lib.hid hb2
      have l2 := hb2.lt
      have B2 := Lib.hid (B1.out.trans (hB.mono B1.out.size))
      clear hb2 hB hg2 X1 B1 l1
      go_upto_region 3 with fail
      go_cut [3, 4] (fun v v4 wx => ∃ (g : Nat) (A : Option Addr) (c lo hi : Nat), v = .pointer (some ⟨g, 0, none⟩) ∧ v4 = .int .i64 0 ∧ Box wx g 35 #[.int .u64 (5 : Nat), .int .u32 (2 : Nat), .slice A 3 c] ∧ DatR 32 dcs wx lo hi A (lvs [97, 98, 99, 100, 101] 2 3) ∧ hi ≤ wx.heap.size ∧ 3 ≤ c ∧ Below w1.heap.size w1 wx)
      case first =>
        have HD := Lib.hid (dat_mark w1 [97, 98, 99, 100, 101] 5 (5, 6))
        have HA := Lib.hid ((Below.refl w1.heap.size w1).alloc (Nat.le_refl _) (.cells (bcells [97, 98, 99, 100, 101]) 5 (5, 6)))
        have hzz := World.size_alloc w1 (.cells (bcells [97, 98, 99, 100, 101]) 5 (5, 6))
        have kc : (convert 23 23 (.slice (some ⟨w1.heap.size, 0, none⟩) 5 5)).run Tryd.prog (w1.alloc (.cells (bcells [97, 98, 99, 100, 101]) 5)) = .ok (.slice (some ⟨w1.heap.size, 0, none⟩) 5 5) (w1.alloc (.cells (bcells [97, 98, 99, 100, 101]) 5 (5, 6))) := Lib.run_convert_bytes_const (P := Tryd.prog) w1 23 5 (bcells [97, 98, 99, 100, 101]) 5 5 Tryd.underlying23 Tryd.underlying5
        have HOF := Lib.hid (mOf_any (c := 5) (2 : Int) ((HG.out.below B2.out hw2).below HA.out (by have := B2.out.size; omega)) HD.out rfl (Nat.le_refl _) (by rw [hzz]; omega) (by decide))
        rw [show bcells [97, 98, 99, 100, 101] = #[.int .u8 97, .int .u8 98, .int .u8 99, .int .u8 100, .int .u8 101] from rfl] at kc HD HA HOF hzz
        have HZZ := Lib.hid hzz
        clear hzz
        go_wp2_with (first
          | (go_at_call 17; refine HOF.out.mono ?_; rintro e' w2 hp; obtain ⟨A, c, rfl, h3, hd, hb⟩ := ex_of hp; have HDD := Lib.hid hd; have HBB : Hid (Below w1.heap.size w1 w2) := HA.out.trans (hb.mono (by rw [HZZ.out]; omega)); clear hp hd hb))
        go_meet
        exact ⟨_, A, c, _, _, rfl, rfl, Box.new w2 _ _, HDD.out.alloc (Nat.le_refl _) _, by simp, h3, HBB.out.alloc HBB.out.size _⟩
      case rest =>
        obtain ⟨g, A, c, lo, hi, rfl, rfl, hbx, hdl, hhi, h3, hB⟩ := hcut
        obtain ⟨w3, rfl⟩ : ∃ w3, w3 = wc := ⟨_, rfl⟩
        have Y1 := Lib.hid (X1b.out.below hB X1b.out.lt)
        have Y2 := Lib.hid (X2.out.below hB l2)
        have B3 := Lib.hid (B2.out.trans (hB.mono B2.out.size))
        have XM := Lib.hid hbx
        have DL := Lib.hid hdl
        have l1 := Y1.out.lt
        have l2' := Y2.out.lt
        have lm := hbx.lt
        clear hbx hdl hB X1b X2 l2 B2
        obtain ⟨Z1, hZ1⟩ : ∃ Z, Z = (dcs aD).toArray := ⟨_, rfl⟩
        obtain ⟨Z2, hZ2⟩ : ∃ Z, Z = (dcs bD).toArray := ⟨_, rfl⟩
        have hs1 : Z1.size = 32 := by rw [hZ1]; rfl
        have hs2 : Z2.size = 32 := by rw [hZ2]; rfl
        rw [← hZ1] at Y1
        rw [← hZ2] at Y2
        have HZ1 := Lib.hid hZ1
        have HZ2 := Lib.hid hZ2
        clear hZ1 hZ2
        obtain ⟨i0, hi0, hi1⟩ := Option.map_eq_some_iff.1 sum_info
        simp only [Prod.mk.injEq] at hi1
        obtain ⟨hz0, hz1, hz2⟩ := hi1
        have HI := Lib.hid (And.intro hi0 (And.intro hz0 (And.intro hz1 hz2)))
        clear hi0 hz0 hz1 hz2
        go_upto_region 4 with fail
        go_cut [7] (fun v wx => v = .bool false ∧ Below w3.heap.size w3 wx)
        case first =>
          have Y2a : Hid (Box (w3.alloc (.cells Z1 25)) g2 25 Z2) := Y2.out.alloc _
          have D1 : Hid (DatR 32 dcs (w3.alloc (.cells Z1 25)) w3.heap.size (w3.heap.size + 1) (some ⟨w3.heap.size, 0, none⟩) [aD]) := datR_one (z := 32) (f := dcs) w3 aD 25 Z1 (by rw [HZ1.out])
          have zz : (w3.alloc (.cells Z1 25)).heap.size = w3.heap.size + 1 := World.size_alloc _ _
          have D2 : Hid (DatR 32 dcs ((w3.alloc (.cells Z1 25)).alloc (.cells Z2 25)) (w3.heap.size + 1) (w3.heap.size + 2) (some ⟨w3.heap.size + 1, 0, none⟩) [bD]) := by
            have h := datR_one (z := 32) (f := dcs) (w3.alloc (.cells Z1 25)) bD 25 Z2 (by rw [HZ2.out])
            rw [zz] at h
            exact h
          have BW : Hid (Below w3.heap.size w3 ((w3.alloc (.cells Z1 25)).alloc (.cells Z2 25))) := ((Below.refl _ _).alloc (Nat.le_refl _) _).alloc (by rw [zz]; omega) _
          have zz2 : Hid (((w3.alloc (.cells Z1 25)).alloc (.cells Z2 25)).heap.size = w3.heap.size + 2) := by unfold Hid; rw [World.size_alloc, zz]
          have HTW := Lib.hid (two_any (c := 1) (c' := 1) ((HG.out.below B3.out hw2).below BW.out (by have := B3.out.size; omega)) (D1.out.alloc (by rw [zz]; omega) _) D2.out rfl rfl (Nat.le_refl _) (Nat.le_refl _) (by rw [zz2.out]; omega) (by rw [zz2.out]; omega) (by decide) (by decide))
          clear zz D1 D2
          go_wp2_with (first
            | (refine wpList_load_row rfl 25 _ rfl w.heap.size rfl 25 Z1 (0, 0) _ Y1.out Tryd.underlying25 rfl (by rw [hs1]; kernel_rfl) ?_)
            | (refine wpList_lit1 rfl _ 25 _ rfl Z1 rfl 32 (.agg z32) i0 Tryd.underlying22 HI.out.1 HI.out.2.1 HI.out.2.2.1 (by decide) (by decide) hs1 ?_)
            | (refine wpList_load_row rfl 25 _ rfl g2 rfl 25 Z2 (0, 0) _ Y2a.out Tryd.underlying25 rfl (by rw [hs2]; kernel_rfl) ?_)
            | (refine wpList_lit1 rfl _ 25 _ rfl Z2 rfl 32 (.agg z32) i0 Tryd.underlying22 HI.out.1 HI.out.2.1 HI.out.2.2.1 (by decide) (by decide) hs2 ?_)
            | (go_at_call 25; refine HTW.out.mono ?_; rintro e' w4 hp; obtain ⟨x, y, rfl, hb⟩ := ex_two hp; have HB4 : Hid (Below w3.heap.size w3 w4) := BW.out.trans (hb.mono (by rw [zz2.out]; omega)); clear hp hb))
          go_meet
          exact ⟨rfl, HB4.out⟩
        case rest =>
          obtain ⟨rfl, hB⟩ := hcut
          obtain ⟨w4, rfl⟩ : ∃ w4, w4 = wc := ⟨_, rfl⟩
          have B4 := Lib.hid (B3.out.trans (hB.mono B3.out.size))
          have hs34 := hB.size
          have E1 := Lib.hid (Y1.out.below hB l1)
          have DLa := Lib.hid (DL.out.below hB hhi)
          have XMa := Lib.hid (XM.out.below hB lm)
          have hhi4 : hi ≤ w4.heap.size := by omega
          have lm4 : g < w4.heap.size := by omega
          have E2 := Lib.hid (Y2.out.below hB l2')
          have HG4 := Lib.hid (HG.out.below B4.out hw2)
          have hg42 := HG4.out.2.2
          clear Y1 Y2 DL XM hB B3 HG
          obtain ⟨s5, hs5⟩ : ∃ s : Nat, s = 5 := ⟨_, rfl⟩
          obtain ⟨p2, hp2⟩ : ∃ s : Nat, s = 2 := ⟨_, rfl⟩
          rw [← hs5, ← hp2] at XMa
          obtain ⟨lv, hlv⟩ : ∃ l, l = lvs [97, 98, 99, 100, 101] 2 3 := ⟨_, rfl⟩
          have hl3 : lv.length = 3 := by rw [hlv, lvs_len]
          have hid1 : (idD s5 p2 lv).1.getD 1 0 = 179 := by rw [hs5, hp2, hlv]; exact ex_id
          have hne : idD s5 p2 lv ≠ aD := fun h => by rw [h] at hid1; exact absurd hid1 (by decide)
          have hc1 : chkE s5 p2 lv (idD s5 p2 lv) = 0 := by
            unfold chkE
            rw [hs5, hp2, if_neg (by rw [show cntE 5 ((2 : Nat) : Int) = (3, 0) from ex_cnt]; simp), if_neg (by rw [show cntE 5 ((2 : Nat) : Int) = (3, 0) from ex_cnt, hl3]; simp), if_neg (by simp)]
          have hc2 : chkE s5 p2 lv aD = 33 := by
            unfold chkE
            rw [hs5, hp2, if_neg (by rw [show cntE 5 ((2 : Nat) : Int) = (3, 0) from ex_cnt]; simp), if_neg (by rw [show cntE 5 ((2 : Nat) : Int) = (3, 0) from ex_cnt, hl3]; simp), if_pos (by rw [← hs5, ← hp2]; exact hne)]
          have hlv2 : lv[2]'(by omega) = leafD [101] := by simp only [hlv, ex_lvs]; rfl
          have hsb5 : s5 < 18446744073709551616 := by omega
          have hpb2 : p2 < 4294967296 := by omega
          rw [← hlv] at DLa
          obtain ⟨dA, oA, hA, _, hdA, hcA⟩ := DLa.out (by omega)
          have hr2 : w4.rangeAt dA (oA + 2 * 32) (dcs (leafD [101])) := fun j v hv => hcA 2 (by omega) j v (by rw [hlv2]; exact hv)
          have HR2 := Lib.hid hr2
          have hdA4 : dA < w4.heap.size := by omega
          clear hcA hr2 hlv2 hid1 hs5 hp2 hne hlv
          obtain ⟨RR, hRR⟩ : ∃ R, R = bcells (rootL [aD, bD, aD]).1 := ⟨_, rfl⟩
          obtain ⟨RN, hRN⟩ : ∃ R, R = bcells (nodeD aD bD).1 := ⟨_, rfl⟩
          obtain ⟨RL2, hRL2⟩ : ∃ R, R = bcells (leafD [101]).1 := ⟨_, rfl⟩
          obtain ⟨RI, hRI⟩ : ∃ R, R = bcells (idD s5 p2 lv).1 := ⟨_, rfl⟩
          have hRR2 : RR = bcells (nodeD (nodeD aD bD) aD).1 := by rw [hRR, root_three]
          have q1 : ∀ V, (Op.equalIn 10000 25 (.agg RR) (.agg RR)).run Tryd.prog V = .ok true V := fun V => by rw [hRR]; exact (eqD _ _ V).trans (by rw [beq_self_eq_true])
          have q2 : ∀ V, (Op.equalIn 10000 25 (.agg Z1) (.agg Z1)).run Tryd.prog V = .ok true V := fun V => by rw [HZ1.out]; exact (eqD _ _ V).trans (by rw [beq_self_eq_true])
          have q3 : ∀ V, (Op.equalIn 10000 25 (.agg RL2) (.agg RL2)).run Tryd.prog V = .ok true V := fun V => by rw [hRL2]; exact (eqD _ _ V).trans (by rw [beq_self_eq_true])
          have CR3 : Hid (∀ (V : World), Glob V → ∀ (lo hi : Nat) (A : Option Addr), DatR 32 dcs V lo hi A [aD, bD, aD] → hi ≤ V.heap.size → Calls Tryd.prog 11 #[.slice A 3 3] V fun e w' => e = .returned (.agg RR) ∧ Below V.heap.size V w') := fun V h1 lo hi A h2 h3 => by rw [hRR]; exact root_any h1 h2 rfl (Nat.le_refl _) h3 (by decide)
          have CR1 : Hid (∀ (V : World), Glob V → ∀ (lo hi : Nat) (A : Option Addr), DatR 32 dcs V lo hi A [aD] → hi ≤ V.heap.size → Calls Tryd.prog 11 #[.slice A 1 1] V fun e w' => e = .returned (.agg Z1) ∧ Below V.heap.size V w') := fun V h1 lo hi A h2 h3 => by
            have := root_any (m := 1) (c := 1) h1 h2 rfl (Nat.le_refl _) h3 (by decide)
            rw [root_one] at this
            rw [HZ1.out]
            exact this
          have CN1 : Hid (∀ (V : World), Glob V → Calls Tryd.prog 15 #[.agg Z1, .agg Z2] V fun e w' => e = .returned (.agg RN) ∧ Below V.heap.size V w') := fun V h1 => by rw [HZ1.out, HZ2.out, hRN]; exact node_any aD bD V h1
          have CN2 : Hid (∀ (V : World), Glob V → Calls Tryd.prog 15 #[.agg RN, .agg Z1] V fun e w' => e = .returned (.agg RR) ∧ Below V.heap.size V w') := fun V h1 => by rw [HZ1.out, hRR2, hRN]; exact node_any (nodeD aD bD) aD V h1
          have CL : Hid (∀ (V : World), Glob V → ∀ (lo hi : Nat) (A : Option Addr), Dat false V lo hi A [101] → hi ≤ V.heap.size → Calls Tryd.prog 13 #[.slice A 1 1] V fun e w' => e = .returned (.agg RL2) ∧ Below V.heap.size V w') := fun V h1 lo hi A h2 h3 => by rw [hRL2]; exact leaf_any h1 h2 rfl h3 (by decide)
          have CI : Hid (∀ (V : World), Below w4.heap.size w4 V → Calls Tryd.prog 20 #[.agg #[.int .u64 (s5 : Int), .int .u32 (p2 : Int), .slice A 3 c]] V fun e w' => e = .returned (.agg RI) ∧ Below V.heap.size V w') := fun V hV => by rw [hRI]; exact id_any s5 p2 (HG4.out.below hV hg42) (DLa.out.below hV hhi4) hl3 h3 (by have := hV.size; omega) (by decide) hpb2
          have CC1 : Hid (∀ (V : World), Below w4.heap.size w4 V → Calls Tryd.prog 22 #[.agg #[.int .u64 (s5 : Int), .int .u32 (p2 : Int), .slice A 3 c], .agg RI] V fun e w' => e = .returned (.int .i64 0) ∧ Below V.heap.size V w') := fun V hV => by
            rw [hRI, ← hc1]
            exact check_any s5 p2 (idD s5 p2 lv) (HG4.out.below hV hg42) (DLa.out.below hV hhi4) hl3 h3 (by have := hV.size; omega) (by decide) hsb5 hpb2
          have CC2 : Hid (∀ (V : World), Below w4.heap.size w4 V → Calls Tryd.prog 22 #[.agg #[.int .u64 (s5 : Int), .int .u32 (p2 : Int), .slice A 3 c], .agg Z1] V fun e w' => e = .returned (.int .i64 33) ∧ Below V.heap.size V w') := fun V hV => by
            rw [HZ1.out, ← hc2]
            exact check_any s5 p2 aD (HG4.out.below hV hg42) (DLa.out.below hV hhi4) hl3 h3 (by have := hV.size; omega) (by decide) hsb5 hpb2
          have LD1 : Hid (∀ V, Below w4.heap.size w4 V → (loadVar 25 ⟨w.heap.size, 0, none⟩).run Tryd.prog V = .ok (.agg Z1) V) := fun V hV => run_loadVar_row (P := Tryd.prog) V w.heap.size 25 25 Z1 (0, 0) _ (E1.out.below hV (by omega)) Tryd.underlying25 rfl (by rw [hs1]; kernel_rfl)
          have LD2 : Hid (∀ V, Below w4.heap.size w4 V → (loadVar 25 ⟨g2, 0, none⟩).run Tryd.prog V = .ok (.agg Z2) V) := fun V hV => run_loadVar_row (P := Tryd.prog) V g2 25 25 Z2 (0, 0) _ (E2.out.below hV (by omega)) Tryd.underlying25 rfl (by rw [hs2]; kernel_rfl)
          have LDM : Hid (∀ V, Below w4.heap.size w4 V → (loadVar 35 ⟨g, 0, none⟩).run Tryd.prog V = .ok (.agg #[.int .u64 (s5 : Int), .int .u32 (p2 : Int), .slice A 3 c]) V) := fun V hV => run_loadVar_row (P := Tryd.prog) V g 35 35 _ (0, 0) _ (XMa.out.below hV lm4) Tryd.underlying35 rfl (by kernel_rfl)
          have LD3 : Hid (∀ V, Below w4.heap.size w4 V → (loadVar 25 ⟨dA, oA + 2 * 32, none⟩).run Tryd.prog V = .ok (.agg RL2) V) := fun V hV => by
            rw [hRL2]
            exact run_loadVar_sub (P := Tryd.prog) V dA (oA + 2 * 32) 25 (dcs (leafD [101])) _ (fun j v hv => (hV.cell (p := ⟨dA, oA + 2 * 32 + j, none⟩) hdA4).trans (HR2.out j v hv)) Tryd.underlying25 rfl (by rw [dcs_len]; kernel_rfl)
          have LC2 : Hid (∀ V, Below w4.heap.size w4 V → V.cell? ⟨g, 2, none⟩ = some (.slice A 3 c)) := fun V hV => (XMa.out.below hV lm4).cell 2
          subst hA
          clear hRR hRR2 hRN hRL2 hRI hc1 hc2
          have hz1z : Z1.toList ++ Z2.toList ++ Z1.toList = [aD, bD, aD].flatMap dcs := by rw [HZ1.out, HZ2.out]; simp
          have HZZZ := Lib.hid hz1z
          clear hz1z
          go_upto_region 5 with fail
          refine wp_region_noPanic ?_
          refine wp_region_held_drew (S := fun V => Below w4.heap.size w4 V) (by kernel_rfl) ((Below.refl _ _).drew) (fun hH => ?_)
          generalize w4.drew = wd at hH ⊢
          have BC : Hid (Below w4.heap.size w4 wd) := hH
          refine takeH (i := 0) (v := .agg Z1) 25 rfl (by kernel_rfl) (by kernel_rfl) (by kernel_rfl) rfl (fun _ _ _ h => h) (yieldsIf_load_run (by rfl) rfl rfl LD1.out) hH ?_
          go_frame
          refine takeH (i := 1) (v := .agg Z2) 26 rfl (by kernel_rfl) (by kernel_rfl) (by kernel_rfl) rfl (fun _ _ _ h => h) (yieldsIf_load_run (by rfl) rfl rfl LD2.out) hH ?_
          go_frame
          refine takeH (i := 2) (v := .agg Z1) 27 rfl (by kernel_rfl) (by kernel_rfl) (by kernel_rfl) rfl (fun _ _ _ h => h) (yieldsIf_load_run (by rfl) rfl rfl LD1.out) hH ?_
          go_frame
          refine takeH (i := 5) (v := .agg Z1) 30 rfl (by kernel_rfl) (by kernel_rfl) (by kernel_rfl) rfl (fun _ _ _ h => h) (yieldsIf_load_run (by rfl) rfl rfl LD1.out) hH ?_
          go_frame
          refine takeH (i := 6) (v := .agg Z2) 31 rfl (by kernel_rfl) (by kernel_rfl) (by kernel_rfl) rfl (fun _ _ _ h => h) (yieldsIf_load_run (by rfl) rfl rfl LD2.out) hH ?_
          go_frame
          refine takeH (i := 8) (v := .agg Z1) 33 rfl (by kernel_rfl) (by kernel_rfl) (by kernel_rfl) rfl (fun _ _ _ h => h) (yieldsIf_load_run (by rfl) rfl rfl LD1.out) hH ?_
          go_frame
          refine wpAnyH_ready (rs := [3]) (by kernel_rfl) (by simp) ?_
          refine AllReadyH.cons rfl (fun K hK => ?_) AllReadyH.nil
          refine step_lit3 rfl 22 25 (.tmp 25) (.tmp 26) (.tmp 27) rfl Z1 Z2 Z1 (by kernel_rfl) (by kernel_rfl) (by kernel_rfl) 32 (.agg z32) i0 Tryd.underlying22 HI.out.1 HI.out.2.1 HI.out.2.2.1 (by decide) (by decide) hs1 hs2 hs1 ?_
          have BCn : Hid (Below w4.heap.size w4 (wd.alloc (.cells (Z1.toList ++ Z2.toList ++ Z1.toList).toArray 25))) := BC.out.alloc BC.out.size _
          have DF := Lib.hid (datR_flat (z := 32) (f := dcs) dcs_len wd [aD, bD, aD] 25 (Z1.toList ++ Z2.toList ++ Z1.toList).toArray HZZZ.out)
          have hsd : wd.heap.size + 1 ≤ (wd.alloc (.cells (Z1.toList ++ Z2.toList ++ Z1.toList).toArray 25)).heap.size := by rw [World.size_alloc]; exact Nat.le_refl _
          clear BC
          have BC := BCn
          clear BCn
          refine hK.out _ _ BC.out (fun hH => ?_)
          clear hK K
          generalize wd.alloc (.cells (Z1.toList ++ Z2.toList ++ Z1.toList).toArray 25) = we at *
          refine wpAnyH_ready (rs := [4]) (by kernel_rfl) (by simp) ?_
          refine AllReadyH.cons rfl (fun K hK => ?_) AllReadyH.nil
          go_simp
          refine (CR3.out _ (by exact HG4.out.below BC.out hg42) _ _ _ (by exact DF.out) hsd).mono ?_
          rintro e' w5 ⟨rfl, hB⟩
          have Bw5 : Hid (Below w4.heap.size w4 w5) := BC.out.trans (hB.mono (by exact BC.out.size))
          clear hB BC
          have BC := Bw5
          dsimp only
          refine hK.out _ _ Bw5.out (fun hH => ?_)
          clear hK K
          refine wpAnyH_ready (rs := [7]) (by kernel_rfl) (by simp) ?_
          refine AllReadyH.cons rfl (fun K hK => ?_) AllReadyH.nil
          go_simp
          refine (CN1.out _ (by exact HG4.out.below BC.out hg42)).mono ?_
          rintro e' w6 ⟨rfl, hB⟩
          have Bw6 : Hid (Below w4.heap.size w4 w6) := BC.out.trans (hB.mono (by exact BC.out.size))
          clear hB BC
          have BC := Bw6
          dsimp only
          refine hK.out _ _ Bw6.out (fun hH => ?_)
          clear hK K
          refine wpAnyH_ready (rs := [9]) (by kernel_rfl) (by simp) ?_
          refine AllReadyH.cons rfl (fun K hK => ?_) AllReadyH.nil
          go_simp
          refine (CN2.out _ (by exact HG4.out.below BC.out hg42)).mono ?_
          rintro e' w7 ⟨rfl, hB⟩
          have Bw7 : Hid (Below w4.heap.size w4 w7) := BC.out.trans (hB.mono (by exact BC.out.size))
          clear hB BC
          have BC := Bw7
          dsimp only
          refine hK.out _ _ Bw7.out (fun hH => ?_)
          clear hK K
          refine takeH (i := 10) (v := .bool true) 35 rfl (by kernel_rfl) (by kernel_rfl) (by kernel_rfl) rfl (fun _ _ _ h => h) (Or.inl ⟨by rfl, fun w' _ => ?_⟩) hH ?_
          · go_simp
          go_frame
          refine takeH (i := 11) (v := .bool true) 36 rfl (by kernel_rfl) (by kernel_rfl) (by kernel_rfl) rfl (fun _ _ _ h => h) (Or.inl ⟨by rfl, fun w' _ => ?_⟩) hH ?_
          · go_simp
          go_frame
          refine takeH (i := 12) (v := .agg Z1) 37 rfl (by kernel_rfl) (by kernel_rfl) (by kernel_rfl) rfl (fun _ _ _ h => h) (yieldsIf_load_run (by rfl) rfl rfl LD1.out) hH ?_
          go_frame
          refine takeH (i := 15) (v := .agg Z1) 40 rfl (by kernel_rfl) (by kernel_rfl) (by kernel_rfl) rfl (fun _ _ _ h => h) (yieldsIf_load_run (by rfl) rfl rfl LD1.out) hH ?_
          go_frame
          refine wpAnyH_ready (rs := [13]) (by kernel_rfl) (by simp) ?_
          refine AllReadyH.cons rfl (fun K hK => ?_) AllReadyH.nil
          refine step_lit1g (by rfl) 22 25 (.tmp 37) rfl Z1 (by kernel_rfl) 32 (.agg z32) i0 Tryd.underlying22 HI.out.1 HI.out.2.1 HI.out.2.2.1 (by decide) (by decide) hs1 ?_
          have BCn : Hid (Below w4.heap.size w4 (w7.alloc (.cells Z1 25))) := BC.out.alloc BC.out.size _
          have DF1 := Lib.hid (datR_one (z := 32) (f := dcs) w7 aD 25 Z1 (by rw [HZ1.out]))
          clear BC
          have BC := BCn
          clear BCn
          have hse : w7.heap.size + 1 ≤ (w7.alloc (.cells Z1 25)).heap.size := by rw [World.size_alloc]; exact Nat.le_refl _
          refine hK.out _ _ BC.out (fun hH => ?_)
          clear hK K
          generalize w7.alloc (.cells Z1 25) = wf at *
          refine wpAnyH_ready (rs := [14]) (by kernel_rfl) (by simp) ?_
          refine AllReadyH.cons rfl (fun K hK => ?_) AllReadyH.nil
          go_simp
          refine (CR1.out _ (by exact HG4.out.below BC.out hg42) _ _ _ (by exact DF1.out) hse).mono ?_
          rintro e' w8 ⟨rfl, hB⟩
          have Bw8 : Hid (Below w4.heap.size w4 w8) := BC.out.trans (hB.mono (by exact BC.out.size))
          clear hB BC
          have BC := Bw8
          dsimp only
          refine hK.out _ _ Bw8.out (fun hH => ?_)
          clear hK K
          refine takeH (i := 16) (v := .bool true) 41 rfl (by kernel_rfl) (by kernel_rfl) (by kernel_rfl) rfl (fun _ _ _ h => h) (Or.inl ⟨by rfl, fun w' _ => ?_⟩) hH ?_
          · go_simp
          go_frame
          refine takeH (i := 17) (v := .bool true) 42 rfl (by kernel_rfl) (by kernel_rfl) (by kernel_rfl) rfl (fun _ _ _ h => h) (Or.inl ⟨by rfl, fun w' _ => ?_⟩) hH ?_
          · go_simp
          go_frame
          refine takeH (i := 18) (v := .bool true) 43 rfl (by kernel_rfl) (by kernel_rfl) (by kernel_rfl) rfl (fun _ _ _ h => h) (Or.inl ⟨by rfl, fun w' _ => ?_⟩) hH ?_
          · go_simp
          go_frame
          refine takeH (i := 19) (v := .int .i64 0) 44 rfl (by kernel_rfl) (by kernel_rfl) (by kernel_rfl) rfl (fun _ _ _ h => h) (Or.inl ⟨by rfl, fun w' _ => ?_⟩) hH ?_
          · go_simp
          go_frame
          refine takeH (i := 20) (v := .bool true) 45 rfl (by kernel_rfl) (by kernel_rfl) (by kernel_rfl) rfl (fun _ _ _ h => h) (Or.inl ⟨by rfl, fun w' _ => ?_⟩) hH ?_
          · go_simp
          go_frame
          refine takeH (i := 21) (v := .bool true) 46 rfl (by kernel_rfl) (by kernel_rfl) (by kernel_rfl) rfl (fun _ _ _ h => h) (Or.inl ⟨by rfl, fun w' _ => ?_⟩) hH ?_
          · go_simp
          go_frame
          refine takeH (i := 22) (v := .bool true) 47 rfl (by kernel_rfl) (by kernel_rfl) (by kernel_rfl) rfl (fun _ _ _ h => h) (Or.inl ⟨by rfl, fun w' _ => ?_⟩) hH ?_
          · go_simp
          go_frame
          refine takeH (i := 23) (v := .pointer (some ⟨g, 2, none⟩)) 48 rfl (by kernel_rfl) (by kernel_rfl) (by kernel_rfl) rfl (fun _ _ _ h => h) (Or.inl ⟨by rfl, fun w' _ => ?_⟩) hH ?_
          · go_simp
          go_frame
          refine takeH (i := 24) (v := .slice (some ⟨dA, oA, none⟩) 3 c) 49 rfl (by kernel_rfl) (by kernel_rfl) (by kernel_rfl) rfl (fun _ _ _ h => h) (Or.inl ⟨by rfl, fun w' hS => ?_⟩) hH ?_
          · have c2 := LC2.out w' hS
            go_simp
          go_frame
          refine takeH (i := 25) (v := .int .i64 3) 50 rfl (by kernel_rfl) (by kernel_rfl) (by kernel_rfl) rfl (fun _ _ _ h => h) (Or.inl ⟨by rfl, fun w' _ => ?_⟩) hH ?_
          · go_simp
          go_frame
          refine takeH (i := 26) (v := .bool true) 51 rfl (by kernel_rfl) (by kernel_rfl) (by kernel_rfl) rfl (fun _ _ _ h => h) (Or.inl ⟨by rfl, fun w' _ => ?_⟩) hH ?_
          · go_simp
          go_frame
          refine takeH (i := 27) (v := .bool true) 52 rfl (by kernel_rfl) (by kernel_rfl) (by kernel_rfl) rfl (fun _ _ _ h => h) (Or.inl ⟨by rfl, fun w' _ => ?_⟩) hH ?_
          · go_simp
          go_frame
          refine takeH (i := 28) (v := .bool true) 53 rfl (by kernel_rfl) (by kernel_rfl) (by kernel_rfl) rfl (fun _ _ _ h => h) (Or.inl ⟨by rfl, fun w' _ => ?_⟩) hH ?_
          · go_simp
          go_frame
          refine takeH (i := 29) (v := .pointer (some ⟨g, 2, none⟩)) 54 rfl (by kernel_rfl) (by kernel_rfl) (by kernel_rfl) rfl (fun _ _ _ h => h) (Or.inl ⟨by rfl, fun w' _ => ?_⟩) hH ?_
          · go_simp
          go_frame
          refine takeH (i := 30) (v := .slice (some ⟨dA, oA, none⟩) 3 c) 55 rfl (by kernel_rfl) (by kernel_rfl) (by kernel_rfl) rfl (fun _ _ _ h => h) (Or.inl ⟨by rfl, fun w' hS => ?_⟩) hH ?_
          · have c2 := LC2.out w' hS
            go_simp
          go_frame
          refine takeH (i := 31) (v := .pointer (some ⟨dA, oA + 2 * 32, none⟩)) 56 rfl (by kernel_rfl) (by kernel_rfl) (by kernel_rfl) rfl (fun _ _ _ h => h) (Or.inl ⟨by rfl, fun w' _ => ?_⟩) hH ?_
          · go_simp
          go_frame
          refine takeH (i := 32) (v := .agg RL2) 57 rfl (by kernel_rfl) (by kernel_rfl) (by kernel_rfl) rfl (fun _ _ _ h => h) (yieldsIf_load_run (by rfl) rfl rfl LD3.out) hH ?_
          go_frame
          refine wpAnyH_ready (rs := [33]) (by kernel_rfl) (by simp) ?_
          refine AllReadyH.cons rfl (fun K hK => ?_) AllReadyH.nil
          go_simp
          have BCn : Hid (Below w4.heap.size w4 (w8.alloc (.cells #[.int .u8 101] 5))) := BC.out.alloc BC.out.size _
          refine hK.out _ _ BCn.out (fun hH => ?_)
          clear hK K BCn
          have kc : (convert 23 23 (.slice (some ⟨w8.heap.size, 0, none⟩) 1 1)).run Tryd.prog (w8.alloc (.cells #[.int .u8 101] 5)) = .ok (.slice (some ⟨w8.heap.size, 0, none⟩) 1 1) (w8.alloc (.cells #[.int .u8 101] 5 (1, 2))) := Lib.run_convert_bytes_const (P := Tryd.prog) w8 23 5 #[.int .u8 101] 1 1 Tryd.underlying23 Tryd.underlying5
          have DB := Lib.hid (dat_mark w8 [101] 5 (1, 2))
          rw [show bcells [101] = #[.int .u8 101] from rfl] at DB
          have BCn : Hid (Below w4.heap.size w4 (w8.alloc (.cells #[.int .u8 101] 5 (1, 2)))) := BC.out.alloc BC.out.size _
          clear BC
          have BC := BCn
          clear BCn
          refine wpAnyH_ready (rs := [34]) (by kernel_rfl) (by simp) ?_
          refine AllReadyH.cons rfl (fun K hK => ?_) AllReadyH.nil
          go_simp
          have hsg : w8.heap.size + 1 ≤ (w8.alloc (.cells #[.int .u8 101] 5 (1, 2))).heap.size := by rw [World.size_alloc]; exact Nat.le_refl _
          refine hK.out _ _ BC.out (fun hH => ?_)
          clear hK K kc
          generalize w8.alloc (.cells #[.int .u8 101] 5 (1, 2)) = wg at *
          refine wpAnyH_ready (rs := [35]) (by kernel_rfl) (by simp) ?_
          refine AllReadyH.cons rfl (fun K hK => ?_) AllReadyH.nil
          go_simp
          refine (CL.out _ (by exact HG4.out.below BC.out hg42) _ _ _ (by exact DB.out) hsg).mono ?_
          rintro e' w9 ⟨rfl, hB⟩
          have Bw9 : Hid (Below w4.heap.size w4 w9) := BC.out.trans (hB.mono (by exact BC.out.size))
          clear hB BC
          have BC := Bw9
          dsimp only
          refine hK.out _ _ Bw9.out (fun hH => ?_)
          clear hK K
          refine takeH (i := 36) (v := .bool true) 61 rfl (by kernel_rfl) (by kernel_rfl) (by kernel_rfl) rfl (fun _ _ _ h => h) (Or.inl ⟨by rfl, fun w' _ => ?_⟩) hH ?_
          · go_simp
          go_frame
          refine takeH (i := 37) (v := .bool true) 62 rfl (by kernel_rfl) (by kernel_rfl) (by kernel_rfl) rfl (fun _ _ _ h => h) (Or.inl ⟨by rfl, fun w' _ => ?_⟩) hH ?_
          · go_simp
          go_frame
          refine takeH (i := 38) (v := .bool true) 63 rfl (by kernel_rfl) (by kernel_rfl) (by kernel_rfl) rfl (fun _ _ _ h => h) (Or.inl ⟨by rfl, fun w' _ => ?_⟩) hH ?_
          · go_simp
          go_frame
          refine takeH (i := 39) (v := .agg #[.int .u64 (s5 : Int), .int .u32 (p2 : Int), .slice (some ⟨dA, oA, none⟩) 3 c]) 64 rfl (by kernel_rfl) (by kernel_rfl) (by kernel_rfl) rfl (fun _ _ _ h => h) (yieldsIf_load_run (by rfl) rfl rfl LDM.out) hH ?_
          go_frame
          refine takeH (i := 40) (v := .agg #[.int .u64 (s5 : Int), .int .u32 (p2 : Int), .slice (some ⟨dA, oA, none⟩) 3 c]) 65 rfl (by kernel_rfl) (by kernel_rfl) (by kernel_rfl) rfl (fun _ _ _ h => h) (yieldsIf_load_run (by rfl) rfl rfl LDM.out) hH ?_
          go_frame
          refine wpAnyH_ready (rs := [41]) (by kernel_rfl) (by simp) ?_
          refine AllReadyH.cons rfl (fun K hK => ?_) AllReadyH.nil
          go_simp
          refine (CI.out _ (by exact BC.out)).mono ?_
          rintro e' w10 ⟨rfl, hB⟩
          have Bw10 : Hid (Below w4.heap.size w4 w10) := BC.out.trans (hB.mono (by exact BC.out.size))
          clear hB BC
          have BC := Bw10
          dsimp only
          refine hK.out _ _ Bw10.out (fun hH => ?_)
          clear hK K
          refine wpAnyH_ready (rs := [42]) (by kernel_rfl) (by simp) ?_
          refine AllReadyH.cons rfl (fun K hK => ?_) AllReadyH.nil
          go_simp
          refine (CC1.out _ (by exact BC.out)).mono ?_
          rintro e' w11 ⟨rfl, hB⟩
          have Bw11 : Hid (Below w4.heap.size w4 w11) := BC.out.trans (hB.mono (by exact BC.out.size))
          clear hB BC
          have BC := Bw11
          dsimp only
          refine hK.out _ _ Bw11.out (fun hH => ?_)
          clear hK K
          refine takeH (i := 43) (v := .bool true) 68 rfl (by kernel_rfl) (by kernel_rfl) (by kernel_rfl) rfl (fun _ _ _ h => h) (Or.inl ⟨by rfl, fun w' _ => ?_⟩) hH ?_
          · go_simp
          go_frame
          refine takeH (i := 44) (v := .bool true) 69 rfl (by kernel_rfl) (by kernel_rfl) (by kernel_rfl) rfl (fun _ _ _ h => h) (Or.inl ⟨by rfl, fun w' _ => ?_⟩) hH ?_
          · go_simp
          go_frame
          refine takeH (i := 45) (v := .bool true) 70 rfl (by kernel_rfl) (by kernel_rfl) (by kernel_rfl) rfl (fun _ _ _ h => h) (Or.inl ⟨by rfl, fun w' _ => ?_⟩) hH ?_
          · go_simp
          go_frame
          refine takeH (i := 46) (v := .agg #[.int .u64 (s5 : Int), .int .u32 (p2 : Int), .slice (some ⟨dA, oA, none⟩) 3 c]) 71 rfl (by kernel_rfl) (by kernel_rfl) (by kernel_rfl) rfl (fun _ _ _ h => h) (yieldsIf_load_run (by rfl) rfl rfl LDM.out) hH ?_
          go_frame
          refine takeH (i := 47) (v := .agg Z1) 72 rfl (by kernel_rfl) (by kernel_rfl) (by kernel_rfl) rfl (fun _ _ _ h => h) (yieldsIf_load_run (by rfl) rfl rfl LD1.out) hH ?_
          go_frame
          refine wpAnyH_ready (rs := [48]) (by kernel_rfl) (by simp) ?_
          refine AllReadyH.cons rfl (fun K hK => ?_) AllReadyH.nil
          go_simp
          refine (CC2.out _ (by exact BC.out)).mono ?_
          rintro e' w12 ⟨rfl, hB⟩
          have Bw12 : Hid (Below w4.heap.size w4 w12) := BC.out.trans (hB.mono (by exact BC.out.size))
          clear hB BC
          have BC := Bw12
          dsimp only
          refine hK.out _ _ Bw12.out (fun hH => ?_)
          clear hK K
          refine takeH (i := 49) (v := .bool true) 74 rfl (by kernel_rfl) (by kernel_rfl) (by kernel_rfl) rfl (fun _ _ _ h => h) (Or.inl ⟨by rfl, fun w' _ => ?_⟩) hH ?_
          · go_simp
          go_frame
          refine takeH (i := 50) (v := .bool true) 75 rfl (by kernel_rfl) (by kernel_rfl) (by kernel_rfl) rfl (fun _ _ _ h => h) (Or.inl ⟨by rfl, fun w' _ => ?_⟩) hH ?_
          · go_simp
          go_frame
          refine takeH (i := 51) (v := .bool true) 76 rfl (by kernel_rfl) (by kernel_rfl) (by kernel_rfl) rfl (fun _ _ _ h => h) (Or.inl ⟨by rfl, fun w' _ => ?_⟩) hH ?_
          · go_simp
          go_frame
          refine takeH (i := 52) (v := .bool false) 77 rfl (by kernel_rfl) (by kernel_rfl) (by kernel_rfl) rfl (fun _ _ _ h => h) (Or.inl ⟨by rfl, fun w' _ => ?_⟩) hH ?_
          · go_simp
          go_frame
          refine takeH (i := 53) (v := .bool true) 78 rfl (by kernel_rfl) (by kernel_rfl) (by kernel_rfl) rfl (fun _ _ _ h => h) (Or.inl ⟨by rfl, fun w' _ => ?_⟩) hH ?_
          · go_simp
          go_frame
          refine takeH (i := 54) (v := .bool true) 79 rfl (by kernel_rfl) (by kernel_rfl) (by kernel_rfl) rfl (fun _ _ _ h => h) (Or.inl ⟨by rfl, fun w' _ => ?_⟩) hH ?_
          · go_simp
          go_frame
          refine takeH (i := 55) (v := .bool true) 0 rfl (by kernel_rfl) (by kernel_rfl) (by kernel_rfl) rfl (fun _ _ _ h => h) (Or.inl ⟨by rfl, fun w' _ => ?_⟩) hH ?_
          · go_simp
          go_frame
          refine wpAnyH_done (by kernel_rfl) ?_ _
          refine NoPanic.normal ?_
          go_wp2_with fail
          go_ret
          exact ⟨by kernel_rfl, B4.out.trans (BC.out.mono B4.out.size)⟩
end Go.Proofs.YtieepdhajjibpaaDoor
