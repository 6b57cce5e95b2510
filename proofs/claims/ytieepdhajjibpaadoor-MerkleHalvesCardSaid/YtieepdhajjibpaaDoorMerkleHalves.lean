
/- MerkleHalves holds, tied to the program's text: for every number and two digests the law returns true. No condition of ours; the row's own: the package's variables read as the text lays them. -/
import Derived.Test.YtieepdhajjibpaaDoorMrkHst
import Derived.Test.YtieepdhajjibpaaDoorMrkArgs
import Derived.Test.YtieepdhajjibpaaDoorMrkAwake
namespace Go.Proofs.YtieepdhajjibpaaDoor.merkleHalves
open Go.ChangeShapes Go.WideShapes Go.ChangeAt Go.RowKit

set_option maxRecDepth 20000 in
set_option maxHeartbeats 20000000 in
theorem walk (lg : Int) (x y : Dg) (w : World) (hgl : Glob w) (hlg : 0 ≤ lg ∧ lg ≤ 255) :
    Calls Tryd.prog 9 #[.int .u8 lg, .agg (dcs x).toArray, .agg (dcs y).toArray] w fun e w' => e = .returned (.bool true) ∧ Below w.heap.size w w' := by
  have HG := Lib.hid hgl
  have hw2 := hgl.2.2
  obtain ⟨X, hX⟩ : ∃ X, X = (dcs x).toArray := ⟨_, rfl⟩
  obtain ⟨Y, hY⟩ : ∃ Y, Y = (dcs y).toArray := ⟨_, rfl⟩
  rw [← hX, ← hY]
  have HX := Lib.hid hX
  have HY := Lib.hid hY
  have hz : w.heap.size + 2 ≤ ((w.alloc (.cells X 25)).alloc (.cells Y 25)).heap.size := by simp
  have Y1 : Hid (Box ((w.alloc (.cells X 25)).alloc (.cells Y 25)) w.heap.size 25 X) := (Box.new w _ _).alloc _
  have Y2 : Hid (Box ((w.alloc (.cells X 25)).alloc (.cells Y 25)) (w.heap.size + 1) 25 Y) := by
    have h := Box.new (w.alloc (.cells X 25)) 25 Y
    rw [World.size_alloc] at h
    exact h
  have B0 : Hid (Below w.heap.size w ((w.alloc (.cells X 25)).alloc (.cells Y 25))) := ((Below.refl _ _).alloc (Nat.le_refl _) _).alloc (by simp) _
  clear hgl hX hY
  go_enter Tryd.func9, Tryd.ntmps9
  go_upto_region 1 with fail
  obtain ⟨w0, hw0⟩ : ∃ w0, ((w.alloc (.cells X 25)).alloc (.cells Y 25)) = w0 := ⟨_, rfl⟩
  refine wp_as (W := w0) hw0 ?_
  rw [hw0] at Y1 Y2 B0 hz
  clear hw0
  go_upto_region 4 with (first | (go_at_call 10; refine (mawake_any _ (HG.out.below B0.out hw2)).mono ?_; rintro e' W ⟨rfl, hB⟩; have HB := Lib.hid hB; clear hB))
  have BW : Hid (Below w.heap.size w W) := B0.out.trans (HB.out.mono (by omega))
  have Z1 : Hid (Box W w.heap.size 25 X) := Y1.out.below HB.out (by omega)
  have Z2 : Hid (Box W (w.heap.size + 1) 25 Y) := Y2.out.below HB.out (by omega)
  have hsW := HB.out.size
  clear Y1 Y2 HB
  go_upto_region 8 with fail
  obtain ⟨k, hk⟩ : ∃ k : Nat, lg % 6 = (k : Int) := ⟨(lg % 6).toNat, by omega⟩
  have hk6 : k < 6 := by omega
  rw [hk]
  clear hk hz B0
  have hsz : w.heap.size + 2 ≤ W.heap.size := by have := Z2.out.lt; omega
  have S0 : Hid (HSt w W x y 0 0 0 0 (.slice none 0 0) (.slice none 0 0)) := ⟨by rw [show dAt x 0 0 = x from rfl, ← HX.out]; exact Z1.out, by rw [show dAt y 1 0 = y from rfl, ← HY.out]; exact Z2.out, OwR.nil _ _ _ _ _, OwR.nil _ _ _ _ _, (fun j h => by cases h), BW.out⟩
  clear Z1 Z2 BW HX HY hsW
  go_loopg [9, 10, 11] (2 ^ k) (fun gh v9 v10 v11 wx => ∃ i : Nat, i + gh = 2 ^ k ∧ v11 = .int .i64 (i : Int) ∧ HSt w wx x y i i i i v9 v10)
  case atStart => exact ⟨0, by omega, rfl, S0.out⟩
  case round =>
    clear S0
    obtain ⟨i, hi, rfl, hst⟩ := hrel
    obtain ⟨i0, hi0, hi1⟩ := Option.map_eq_some_iff.1 sum_info
    simp only [Prod.mk.injEq] at hi1
    obtain ⟨hz0, hz1, hz2⟩ := hi1
    have HI := Lib.hid (And.intro hi0 (And.intro hz0 (And.intro hz1 hz2)))
    clear hi0 hz0 hz1 hz2
    have HS := Lib.hid hst
    obtain ⟨A, a, ca, rfl⟩ := hst.oa.slice
    obtain ⟨B, b, cb, rfl⟩ := hst.ob.slice
    clear hst
    have hw64 : wrap64 (2 ^ k) = ((2 ^ k : Nat) : Int) := (show ∀ j, j < 6 → wrap64 (2 ^ j) = ((2 ^ j : Nat) : Int) by decide +kernel) k hk6
    have hE : 2 ^ k ≤ 32 := (show ∀ j, j < 6 → 2 ^ j ≤ 32 by decide +kernel) k hk6
    go_upto_if 24 with fail
    rw [hw64]
    clear hw64
    obtain ⟨E, hEq⟩ : ∃ E, E = 2 ^ k := ⟨_, rfl⟩
    rw [← hEq] at hi hE ⊢
    have hEi : (2 : Int) ^ k = (E : Int) := by rw [hEq]; simp
    rw [hEi]
    clear hEi
    by_cases hiE : i < E
    · have g1 : decide ((i : Int) < (E : Int)) = true := by simp; omega
      have hi32 : i < 32 := by omega
      obtain ⟨v0, hv0⟩ : ∃ v, (dcs (dAt x 0 i)).toArray[0]? = some v := ⟨_, Array.getElem?_eq_getElem (by simp [dcs_len])⟩
      have c0 : wr.cell? ⟨w.heap.size, 0, none⟩ = some v0 := (HS.out.bx.cell 0).trans hv0
      clear hv0
      have f0 := HS.out.bx.free 0
      go_upto_region 11 with fail
      obtain ⟨w1, hw1⟩ : ∃ w1, wr.setCell ⟨w.heap.size, 0, none⟩ (.int .u8 (i : Int)) = w1 := ⟨_, rfl⟩
      have HS1 : Hid (HSt w w1 x y (i + 1) i i i (.slice A a ca) (.slice B b cb)) := hw1 ▸ HS.out.setx hi32
      refine wp_as (W := w1) hw1 ?_
      clear hw1 c0 f0 HS
      obtain ⟨v0, hv0⟩ : ∃ v, (dcs (dAt y 1 i)).toArray[1]? = some v := ⟨_, Array.getElem?_eq_getElem (by simp [dcs_len])⟩
      have c0 : w1.cell? ⟨w.heap.size + 1, 1, none⟩ = some v0 := (HS1.out.ty.cell 1).trans hv0
      clear hv0
      have f0 := HS1.out.ty.free 1
      go_upto_region 12 with fail
      obtain ⟨w2, hw2'⟩ : ∃ w2, w1.setCell ⟨w.heap.size + 1, 1, none⟩ (.int .u8 (i : Int)) = w2 := ⟨_, rfl⟩
      have HS2 : Hid (HSt w w2 x y (i + 1) (i + 1) i i (.slice A a ca) (.slice B b cb)) := hw2' ▸ HS1.out.sety hi32
      refine wp_as (W := w2) hw2' ?_
      clear hw2' c0 f0 HS1
      obtain ⟨Z1, hZ1⟩ : ∃ Z, Z = (dcs (dAt x 0 (i + 1))).toArray := ⟨_, rfl⟩
      obtain ⟨Z2, hZ2⟩ : ∃ Z, Z = (dcs (dAt y 1 (i + 1))).toArray := ⟨_, rfl⟩
      have hs1 : Z1.size = 32 := by rw [hZ1]; simp [dcs_len]
      have hs2 : Z2.size = 32 := by rw [hZ2]; simp [dcs_len]
      have HX1 : Hid (Box w2 w.heap.size 25 Z1) := by unfold Hid; rw [hZ1]; exact HS2.out.bx
      have HZ1 := Lib.hid hZ1
      have HZ2 := Lib.hid hZ2
      clear hZ1 hZ2
      go_wp2_with (first
        | (refine wpList_load_row rfl 25 _ rfl w.heap.size rfl 25 Z1 (0, 0) _ HX1.out Tryd.underlying25 rfl (by rw [hs1]; kernel_rfl) ?_)
        | (refine wpList_lit1 rfl _ 25 _ rfl Z1 rfl 32 (.agg z32) i0 Tryd.underlying22 HI.out.1 HI.out.2.1 HI.out.2.2.1 (by decide) (by decide) hs1 ?_)
        | (at_builtin; refine list_appR (v := .slice A a ca) (A := some ⟨w2.heap.size, 0, none⟩) (m := 1) (c := 1) dcs_len (by decide) dcs_one _ rfl _ _ 22 rfl i0 (.agg z32) 32 Tryd.underlying22 HI.out.1 HI.out.2.1 HI.out.2.2.1 HI.out.2.2.2 (by decide) (by decide) rfl (HS2.out.oa.alloc _) rfl (datR_one (z := 32) (f := dcs) w2 (dAt x 0 (i + 1)) 25 Z1 (by rw [HZ1.out])) rfl ?_ ?_ ?_)
        | fail)
      · rw [dRow_len]; omega
      · rw [World.size_alloc]; have := HS2.out.ty.lt; omega
      intro V w3 ho hg hv
      have HS3 : Hid (HSt w w3 x y (i + 1) (i + 1) (i + 1) i V (.slice B b cb)) := HS2.out.appx ho hg hv
      obtain ⟨A3, a3, c3, rfl⟩ := ho.slice
      have HX2 : Hid (Box w3 (w.heap.size + 1) 25 Z2) := by unfold Hid; rw [HZ2.out]; exact HS3.out.ty
      clear ho hg hv HX1 HS2
      go_wp2_with (first
        | (refine wpList_load_row rfl 25 _ rfl (w.heap.size + 1) rfl 25 Z2 (0, 0) _ HX2.out Tryd.underlying25 rfl (by rw [hs2]; kernel_rfl) ?_)
        | (refine wpList_lit1 rfl _ 25 _ rfl Z2 rfl 32 (.agg z32) i0 Tryd.underlying22 HI.out.1 HI.out.2.1 HI.out.2.2.1 (by decide) (by decide) hs2 ?_)
        | (at_builtin; refine list_appR (v := .slice B b cb) (A := some ⟨w3.heap.size, 0, none⟩) (m := 1) (c := 1) dcs_len (by decide) dcs_one _ rfl _ _ 22 rfl i0 (.agg z32) 32 Tryd.underlying22 HI.out.1 HI.out.2.1 HI.out.2.2.1 HI.out.2.2.2 (by decide) (by decide) rfl (HS3.out.ob.alloc _) rfl (datR_one (z := 32) (f := dcs) w3 (dAt y 1 (i + 1)) 25 Z2 (by rw [HZ2.out])) rfl ?_ ?_ ?_)
        | fail)
      · rw [dRow_len]; omega
      · rw [World.size_alloc]; have := HS3.out.ty.lt; omega
      intro V w4 ho hg hv
      have HS4 : Hid (HSt w w4 x y (i + 1) (i + 1) (i + 1) (i + 1) (.slice A3 a3 c3) V) := HS3.out.appy ho hg hv
      clear ho hg hv HX2 HS3
      go_wp2_with fail
      rw [hEq] at hi
      go_roundg (2 ^ k - (i + 1))
      case measure => omega
      case rel => exact ⟨i + 1, by omega, by go_num, HS4.out⟩
    · have g1 : decide ((i : Int) < (E : Int)) = false := by simp; omega
      have hiE' : i = E := by omega
      clear hiE hi
      subst hiE'
      have ea : i = a := by have := HS.out.oa.len; rw [dRow_len] at this; exact this
      subst ea
      have eb : i = b := by have := HS.out.ob.len; rw [dRow_len] at this; exact this
      subst eb
      have hac := HS.out.oa.cap dcs_len
      have hbc := HS.out.ob.cap dcs_len
      have DA := Lib.hid (HS.out.oa.dat dcs_len)
      have DB := Lib.hid (HS.out.ob.dat dcs_len)
      have BX := Lib.hid HS.out.bx
      have BR := Lib.hid HS.out.bel
      have hsr : w.heap.size + 2 ≤ wr.heap.size := HS.out.ty.lt
      clear HS
      obtain ⟨LA, hLA⟩ : ∃ L, L = dRow x 0 i := ⟨_, rfl⟩
      obtain ⟨LB, hLB⟩ : ∃ L, L = dRow y 1 i := ⟨_, rfl⟩
      obtain ⟨xd, hxd⟩ : ∃ d, d = dAt x 0 i := ⟨_, rfl⟩
      rw [← hLA] at DA
      rw [← hLB] at DB
      rw [← hxd] at BX
      have hal : LA.length = i := by rw [hLA]; exact dRow_len _ _ _
      have hbl : LB.length = i := by rw [hLB]; exact dRow_len _ _ _
      have hro := root_halves xd (hal.trans hEq) (hbl.trans hEq)
      have HAL := Lib.hid (And.intro hal hbl)
      have HRO := Lib.hid hro
      clear hLA hLB hxd hEq hal hbl hro
      go_upto_region 16 with (first
        | (at_builtin; refine list_appR (u := 25) (base := wr.heap.size) (v := .slice none 0 0) (xs := []) (A := A) (m := i) (c := ca) dcs_len (by decide) dcs_one _ rfl _ _ 22 rfl i0 (.agg z32) 32 Tryd.underlying22 HI.out.1 HI.out.2.1 HI.out.2.2.1 HI.out.2.2.2 (by decide) (by decide) rfl (OwR.nil _ _ _ _ _) rfl DA.out HAL.out.1 ?_ (Nat.le_refl _) ?_)
        | fail)
      · simp; omega
      intro C1 w1 ho1 hg1 _
      have B1 : Hid (Below wr.heap.size wr w1) := (Below.refl _ _).grown hg1 (Nat.le_refl _) (fun k hk => by cases hk)
      have HO1 := Lib.hid ho1
      clear ho1 hg1
      go_upto_region 16 with fail
      go_upto_region 17 with (first
        | (at_builtin; refine list_appR (u := 25) (base := wr.heap.size) (v := C1) (xs := LA) (A := B) (m := i) (c := cb) dcs_len (by decide) dcs_one _ rfl _ _ 22 rfl i0 (.agg z32) 32 Tryd.underlying22 HI.out.1 HI.out.2.1 HI.out.2.2.1 HI.out.2.2.2 (by decide) (by decide) rfl HO1.out rfl (DB.out.below B1.out (Nat.le_refl _)) HAL.out.2 ?_ B1.out.size ?_)
        | fail)
      · rw [HAL.out.1]; omega
      intro C2 w2 ho2 hg2 _
      have B2 : Hid (Below wr.heap.size wr w2) := B1.out.grown hg2 B1.out.size (fun k hk => (HO1.out.block k hk).1)
      obtain ⟨AC, nc, cc, rfl⟩ := ho2.slice
      have hnc := ho2.len
      have hcc := ho2.cap dcs_len
      have HO2 := Lib.hid ho2
      have HNC := Lib.hid hnc
      have hnb : nc ≤ 64 := by rw [List.length_append, HAL.out.1, HAL.out.2] at hnc; omega
      clear ho2 hg2 HO1 B1 hnc
      obtain ⟨P, hP⟩ : ∃ P, P = bcells (rootL (LA ++ LB)).1 := ⟨_, rfl⟩
      obtain ⟨R1, hR1⟩ : ∃ R, R = bcells (rootL LA).1 := ⟨_, rfl⟩
      obtain ⟨R2, hR2⟩ : ∃ R, R = bcells (rootL LB).1 := ⟨_, rfl⟩
      obtain ⟨X2, hX2⟩ : ∃ R, R = (dcs xd).toArray := ⟨_, rfl⟩
      obtain ⟨N2, hN2⟩ : ∃ R, R = bcells (nodeD (rootL (LA ++ LB)) xd).1 := ⟨_, rfl⟩
      have hps : P.size = 32 := by rw [hP]; exact bcells_size _
      have hpo : P.all (·.oneCell') = true := by rw [hP]; exact bcells_one _
      have hxs : X2.size = 32 := by rw [hX2]; simp [dcs_len]
      have q1 : ∀ V, (Op.equalIn 10000 25 (.agg P) (.agg P)).run Tryd.prog V = .ok true V := fun V => by rw [hP]; exact (eqD _ _ V).trans (by rw [beq_self_eq_true])
      have q2 : ∀ V, (Op.equalIn 10000 25 (.agg N2) (.agg N2)).run Tryd.prog V = .ok true V := fun V => by rw [hN2]; exact (eqD _ _ V).trans (by rw [beq_self_eq_true])
      have GV : Hid (∀ V, Below wr.heap.size wr V → Glob V) := fun V hV => HG.out.below (BR.out.trans (hV.mono BR.out.size)) hw2
      have CP : Hid (Calls Tryd.prog 11 #[.slice AC nc cc] w2 fun e w' => e = .returned (.agg P) ∧ Below w2.heap.size w2 w') := by
        unfold Hid; rw [hP]; exact root_any (GV.out _ B2.out) (HO2.out.dat dcs_len) HNC.out hcc (Nat.le_refl _) (by omega)
      have CA : Hid (∀ V, Below wr.heap.size wr V → Calls Tryd.prog 11 #[.slice A i ca] V fun e w' => e = .returned (.agg R1) ∧ Below V.heap.size V w') := fun V hV => by
        rw [hR1]; exact root_any (GV.out _ hV) (DA.out.below hV (Nat.le_refl _)) HAL.out.1 hac hV.size (by omega)
      have CB : Hid (∀ V, Below wr.heap.size wr V → Calls Tryd.prog 11 #[.slice B i cb] V fun e w' => e = .returned (.agg R2) ∧ Below V.heap.size V w') := fun V hV => by
        rw [hR2]; exact root_any (GV.out _ hV) (DB.out.below hV (Nat.le_refl _)) HAL.out.2 hbc hV.size (by omega)
      have CN : Hid (∀ V, Below wr.heap.size wr V → Calls Tryd.prog 15 #[.agg R1, .agg R2] V fun e w' => e = .returned (.agg P) ∧ Below V.heap.size V w') := fun V hV => by
        rw [hR1, hR2, hP, HRO.out.1]; exact node_any _ _ V (GV.out _ hV)
      have CM : Hid (∀ V, Below wr.heap.size wr V → Calls Tryd.prog 15 #[.agg P, .agg X2] V fun e w' => e = .returned (.agg N2) ∧ Below V.heap.size V w') := fun V hV => by
        rw [hP, hN2, hX2]; exact node_any _ _ V (GV.out _ hV)
      have CR : Hid (∀ (V : World) (lo hi : Nat) (A2 : Option Addr) (n2 c2 : Nat), Below wr.heap.size wr V → DatR 32 dcs V lo hi A2 ((LA ++ LB) ++ [xd]) → ((LA ++ LB) ++ [xd]).length = n2 → n2 ≤ c2 → hi ≤ V.heap.size → Calls Tryd.prog 11 #[.slice A2 n2 c2] V fun e w' => e = .returned (.agg N2) ∧ Below V.heap.size V w') := fun V lo hi A2 n2 c2 hV hd hn hc hh => by
        rw [hN2, ← HRO.out.2]; exact root_any (GV.out _ hV) hd hn hc hh (by rw [← hn, List.length_append, HNC.out]; simp; omega)
      have BX2 : Hid (Box wr w.heap.size 25 X2) := by unfold Hid; rw [hX2]; exact BX.out
      have HX2 := Lib.hid hX2
      clear hP hR1 hR2 hX2 hN2 BX
      go_upto_region 17 with fail
      go_cut [13] (fun v wx => ∃ g : Nat, v = .pointer (some ⟨g, 0, none⟩) ∧ Box wx g 25 P ∧ w2.heap.size ≤ g ∧ Below w2.heap.size w2 wx)
      case first =>
        go_wp2_with (first
          | (go_at_call 11; (with_reducible refine CP.out.mono ?_); rintro e wa ⟨rfl, ha⟩; have Aa := Lib.hid ha; clear ha)
          | (refine wpList_store_row rfl 25 _ _ rfl wa.heap.size P rfl rfl 25 _ (heap_alloc_new wa _) (by rw [hps]; kernel_rfl) (by rw [hps]; kernel_rfl) hpo ?_))
        go_meet
        exact ⟨_, rfl, setRow_heap _ _ _ _ _ _ (heap_alloc_new wa _), Aa.out.size, below_row (Aa.out.alloc Aa.out.size _) Aa.out.size _⟩
      case rest =>
        obtain ⟨gp, rfl, hbp, hgp, hB⟩ := hcut
        obtain ⟨W5, rfl⟩ : ∃ W5, W5 = wc := ⟨_, rfl⟩
        have B5 : Hid (Below wr.heap.size wr W5) := B2.out.trans (hB.mono B2.out.size)
        have HO5 := Lib.hid (HO2.out.below hB (Nat.le_refl _))
        have HC5 : Hid (∀ k, (Value.slice AC nc cc).ownBlock = some k → wr.heap.size ≤ k ∧ k ≠ gp) := fun k hk => by
          have := HO2.out.block k hk
          omega
        have XP := Lib.hid hbp
        have lp := hbp.lt
        have SP : Hid (SHP wr gp P W5) := ⟨B5.out, hbp, by have := B2.out.size; omega⟩
        clear hbp hB CP HO2
        have LP : Hid (∀ V, Below W5.heap.size W5 V → (loadVar 25 ⟨gp, 0, none⟩).run Tryd.prog V = .ok (.agg P) V) := fun V hV => run_loadVar_row (P := Tryd.prog) V gp 25 25 P (0, 0) _ (XP.out.below hV lp) Tryd.underlying25 rfl (by rw [hps]; kernel_rfl)
        have BW5 : Hid (∀ V, Below W5.heap.size W5 V → Below wr.heap.size wr V) := fun V hV => B5.out.trans (hV.mono B5.out.size)
        go_upto_region 18 with fail
        go_cut [55] (fun v wx => v = .bool false ∧ Below W5.heap.size W5 wx)
        case first =>
          refine wp_region_noPanic ?_
          refine wp_region_held_drew (S := fun V => Below W5.heap.size W5 V) (by kernel_rfl) ((Below.refl _ _).drew) (fun hH => ?_)
          generalize W5.drew = wd at hH ⊢
          have BC : Hid (Below W5.heap.size W5 wd) := hH
          refine takeH (i := 0) (v := .agg P) 49 rfl (by kernel_rfl) (by kernel_rfl) (by kernel_rfl) rfl (fun _ _ _ h => h) (yieldsIf_load_run (by rfl) rfl rfl LP.out) hH ?_
          go_frame
          refine takeH (i := 1) (v := .slice A i ca) 50 rfl (by kernel_rfl) (by kernel_rfl) (by kernel_rfl) rfl (fun _ _ _ h => h) (Or.inl ⟨by rfl, fun w' _ => ?_⟩) hH ?_
          · go_simp
          go_frame
          refine takeH (i := 3) (v := .slice B i cb) 52 rfl (by kernel_rfl) (by kernel_rfl) (by kernel_rfl) rfl (fun _ _ _ h => h) (Or.inl ⟨by rfl, fun w' _ => ?_⟩) hH ?_
          · go_simp
          go_frame
          refine wpAnyH_ready (rs := [2]) (by kernel_rfl) (by simp) ?_
          refine AllReadyH.cons rfl (fun K hK => ?_) AllReadyH.nil
          go_simp
          refine (CA.out _ (BW5.out _ BC.out)).mono ?_
          rintro e' wr0 ⟨rfl, hB⟩
          have Bwr0 : Hid (Below W5.heap.size W5 wr0) := BC.out.trans (hB.mono (by exact BC.out.size))
          clear hB BC
          have BC := Bwr0
          dsimp only
          refine hK.out _ _ Bwr0.out (fun hH => ?_)
          clear hK K
          refine wpAnyH_ready (rs := [4]) (by kernel_rfl) (by simp) ?_
          refine AllReadyH.cons rfl (fun K hK => ?_) AllReadyH.nil
          go_simp
          refine (CB.out _ (BW5.out _ BC.out)).mono ?_
          rintro e' wr1 ⟨rfl, hB⟩
          have Bwr1 : Hid (Below W5.heap.size W5 wr1) := BC.out.trans (hB.mono (by exact BC.out.size))
          clear hB BC
          have BC := Bwr1
          dsimp only
          refine hK.out _ _ Bwr1.out (fun hH => ?_)
          clear hK K
          refine wpAnyH_ready (rs := [5]) (by kernel_rfl) (by simp) ?_
          refine AllReadyH.cons rfl (fun K hK => ?_) AllReadyH.nil
          go_simp
          refine (CN.out _ (BW5.out _ BC.out)).mono ?_
          rintro e' wr2 ⟨rfl, hB⟩
          have Bwr2 : Hid (Below W5.heap.size W5 wr2) := BC.out.trans (hB.mono (by exact BC.out.size))
          clear hB BC
          have BC := Bwr2
          dsimp only
          refine hK.out _ _ Bwr2.out (fun hH => ?_)
          clear hK K
          refine takeH (i := 6) (v := .bool false) 55 rfl (by kernel_rfl) (by kernel_rfl) (by kernel_rfl) rfl (fun _ _ _ h => h) (Or.inl ⟨by rfl, fun w' _ => ?_⟩) hH ?_
          · go_simp
          go_frame
          refine wpAnyH_done (by kernel_rfl) ?_ _
          refine NoPanic.normal ?_
          go_wp2_with fail
          go_meet
          exact ⟨rfl, BC.out⟩
        case rest =>
          obtain ⟨rfl, hB⟩ := hcut
          obtain ⟨W6, rfl⟩ : ∃ W6, W6 = wc := ⟨_, rfl⟩
          have SP6 : Hid (SHP wr gp P W6) := SP.out.below hB
          have HO6 := Lib.hid (HO5.out.below hB (Nat.le_refl _))
          have LX : Hid (∀ V, SHP wr gp P V → (loadVar 25 ⟨w.heap.size, 0, none⟩).run Tryd.prog V = .ok (.agg X2) V) := fun V hV => run_loadVar_row (P := Tryd.prog) V w.heap.size 25 25 X2 (0, 0) _ (BX2.out.below hV.bel (by omega)) Tryd.underlying25 rfl (by rw [hxs]; kernel_rfl)
          have LQ : Hid (∀ V, SHP wr gp P V → (loadVar 25 ⟨gp, 0, none⟩).run Tryd.prog V = .ok (.agg P) V) := fun V hV => run_loadVar_row (P := Tryd.prog) V gp 25 25 P (0, 0) _ hV.box Tryd.underlying25 rfl (by rw [hps]; kernel_rfl)
          clear hB SP HO5 LP BW5 XP CA CB CN q1
          go_upto_region 20 with fail
          refine wp_region_noPanic ?_
          refine wp_region_held_drew (S := fun V => SHP wr gp P V) (by kernel_rfl) SP6.out.drew (fun hH => ?_)
          have HOd : Hid (OwR 32 dcs W6.drew 25 wr.heap.size (.slice AC nc cc) (LA ++ LB)) := OwR.drawn HO6.out 1
          generalize W6.drew = wd at hH HOd ⊢
          have BC : Hid (SHP wr gp P wd) := hH
          refine takeH (i := 0) (v := .slice AC nc cc) 56 rfl (by kernel_rfl) (by kernel_rfl) (by kernel_rfl) rfl (fun _ _ _ h => h) (Or.inl ⟨by rfl, fun w' _ => ?_⟩) hH ?_
          · go_simp
          go_frame
          refine takeH (i := 1) (v := .agg X2) 57 rfl (by kernel_rfl) (by kernel_rfl) (by kernel_rfl) rfl (fun _ _ _ h => h) (yieldsIf_load_run (by rfl) rfl rfl LX.out) hH ?_
          go_frame
          refine takeH (i := 5) (v := .agg P) 61 rfl (by kernel_rfl) (by kernel_rfl) (by kernel_rfl) rfl (fun _ _ _ h => h) (yieldsIf_load_run (by rfl) rfl rfl LQ.out) hH ?_
          go_frame
          refine takeH (i := 6) (v := .agg X2) 62 rfl (by kernel_rfl) (by kernel_rfl) (by kernel_rfl) rfl (fun _ _ _ h => h) (yieldsIf_load_run (by rfl) rfl rfl LX.out) hH ?_
          go_frame
          refine wpAnyH_ready (rs := [2]) (by kernel_rfl) (by simp) ?_
          refine AllReadyH.cons rfl (fun K hK => ?_) AllReadyH.nil
          refine step_lit1 rfl _ 25 (.tmp 57) rfl X2 (by kernel_rfl) 32 (.agg z32) i0 Tryd.underlying22 HI.out.1 HI.out.2.1 HI.out.2.2.1 (by decide) (by decide) hxs ?_
          have BCn : Hid (SHP wr gp P (wd.alloc (.cells X2 25))) := BC.out.alloc _
          have HOe := Lib.hid (HOd.out.alloc (.cells X2 25))
          have DX := Lib.hid (datR_one (z := 32) (f := dcs) wd xd 25 X2 (by rw [HX2.out]))
          clear BC HOd
          have BC := BCn
          clear BCn
          refine hK.out _ _ BC.out (fun hH => ?_)
          clear hK K
          generalize wd.alloc (.cells X2 25) = we at *
          refine wpAnyH_ready (rs := [3]) (by kernel_rfl) (by simp) ?_
          refine AllReadyH.cons rfl (fun K hK => ?_) AllReadyH.nil
          refine step_appR (v := .slice AC nc cc) (A := some ⟨wd.heap.size, 0, none⟩) (m := 1) (c := 1) dcs_len (by decide) dcs_one _ rfl _ _ 22 rfl i0 (.agg z32) 32 Tryd.underlying22 HI.out.1 HI.out.2.1 HI.out.2.2.1 HI.out.2.2.2 (by decide) (by decide) (by kernel_rfl) HOe.out (by kernel_rfl) DX.out rfl (by rw [HNC.out]; omega) BC.out.bel.size ?_
          intro V8 w8 ho hgr _
          have BCm : Hid (SHP wr gp P w8) := BC.out.grown hgr HC5.out
          obtain ⟨A8, n8, c8, rfl⟩ := ho.slice
          have HN8 := Lib.hid ho.len
          have hc8 := ho.cap dcs_len
          have D8 := Lib.hid (ho.dat dcs_len)
          refine hK.out _ _ BCm.out (fun hH => ?_)
          clear hK K ho hgr BC HOe DX
          have BC := BCm
          clear BCm
          refine wpAnyH_ready (rs := [4]) (by kernel_rfl) (by simp) ?_
          refine AllReadyH.cons rfl (fun K hK => ?_) AllReadyH.nil
          go_simp
          refine (CR.out _ _ _ _ _ _ BC.out.bel D8.out HN8.out hc8 (Nat.le_refl _)).mono ?_
          rintro e' wf ⟨rfl, hB⟩
          have Bwf : Hid (SHP wr gp P wf) := BC.out.below hB
          clear hB BC
          have BC := Bwf
          dsimp only
          refine hK.out _ _ Bwf.out (fun hH => ?_)
          clear hK K
          refine wpAnyH_ready (rs := [7]) (by kernel_rfl) (by simp) ?_
          refine AllReadyH.cons rfl (fun K hK => ?_) AllReadyH.nil
          go_simp
          refine (CM.out _ BC.out.bel).mono ?_
          rintro e' wg ⟨rfl, hB⟩
          have Bwg : Hid (SHP wr gp P wg) := BC.out.below hB
          clear hB BC
          have BC := Bwg
          dsimp only
          refine hK.out _ _ Bwg.out (fun hH => ?_)
          clear hK K
          refine takeH (i := 8) (v := .bool true) 64 rfl (by kernel_rfl) (by kernel_rfl) (by kernel_rfl) rfl (fun _ _ _ h => h) (Or.inl ⟨by rfl, fun w' _ => ?_⟩) hH ?_
          · go_simp
          go_frame
          refine takeH (i := 9) (v := .bool true) 6 rfl (by kernel_rfl) (by kernel_rfl) (by kernel_rfl) rfl (fun _ _ _ h => h) (Or.inl ⟨by rfl, fun w' _ => ?_⟩) hH ?_
          · go_simp
          go_frame
          refine wpAnyH_done (by kernel_rfl) ?_ _
          refine NoPanic.normal ?_
          go_wp2_with fail
          go_ret
          exact ⟨by kernel_rfl, BR.out.trans (BC.out.bel.mono BR.out.size)⟩

set_option maxRecDepth 100000 in
theorem lifted (os : Os) (started : os.Started) (H : Type) (enc : TypeId × Value → H) :
    ReturnsInHanded {} Tryd.checked os 9 .any (fun w args => (Rows.merkleHalvesSpec.pre enc Tryd.prog Tryd.f9 [] false w args ∧ laidMetH Tryd.prog laidL w) ∧ sizedMet enc Tryd.prog Tryd.f9 (OpenSpec.ofChange Rows.merkleHalvesSpec) false w args)
      (Rows.merkleHalvesSpec.post enc Tryd.prog Tryd.f9 false true false false) := by
  refine returnsInHanded_of_change_and (C := Tryd.checked) (X := fun w _ => laidMetH Tryd.prog laidL w) (fun _ _ _ hh h => h.of_heap hh) own started (by kernel_rfl) Tryd.func9
    (ChangeSpec.witness_shaped (enc := enc) (C := Tryd.checked) (os := os) (X := fun w _ => laidMetH Tryd.prog laidL w) false (World.doorLaid Tryd.prog 400 os) #[.int .u8 0, .agg z32, .agg z32] 8 rfl (World.shaped_of_RefB (by kernel_rfl) (by kernel_rfl)) (by kernel_rfl) (by kernel_rfl) (by kernel_rfl) (door_met os _)) ?_
  intro W base args ds gs before hval0 hW _ _ hL _
  have hval : ∀ (j : Nat) t v, Tryd.f9.params[j]? = some t → args[j]? = some v → Value.okWide Tryd.prog W .any base t v := hval0
  have hW' := hW
  obtain ⟨p, q, hA0, hV, rfl, hfz, hnd⟩ := hW
  have hA : DataW.TrodAll enc Tryd.prog W 0 (fun _ => true) true Tryd.f9.params.toList args.toList ds p := hA0
  rw [Tryd.params9] at hA hval
  obtain ⟨v0, vs0, d0, ds0, p0, q0, hargs, rfl, rfl, h0, r0⟩ := trodAll_cons hA
  obtain ⟨v1, vs1, d1, ds1, p1, q1, rfl, rfl, rfl, h1, r1⟩ := trodAll_cons r0
  obtain ⟨v2, vs2, d2, ds2, p2, q2, rfl, rfl, rfl, h2, r2⟩ := trodAll_cons r1
  obtain ⟨rfl, rfl, rfl⟩ := trodAll_nil r2
  obtain rfl : args = #[v0, v1, v2] := by cases args; simp_all
  obtain ⟨rfl, rfl⟩ := trodVars_none hV
  obtain ⟨n0, rfl, rfl, rfl, w0⟩ := open_int Tryd.underlying5 (hval 0 5 v0 rfl rfl) h0
  have k1 := h1
  have lt1 : ∀ x ∈ p1, x.block < W.heap.size := by obtain ⟨m, hm⟩ := k1; exact DataW.trod_lt m _ _ _ hm
  obtain ⟨q1x, rfl⟩ := sum_of (hval 1 25 v1 rfl rfl) h1
  have k2 := h2
  have lt2 : ∀ x ∈ p2, x.block < W.heap.size := by obtain ⟨m, hm⟩ := k2; exact DataW.trod_lt m _ _ _ hm
  obtain ⟨q2x, rfl⟩ := sum_of (hval 2 25 v2 rfl rfl) h2
  clear hA0 hval0
  refine (walk n0 q1x q2x W (glob_of_laid hL) (u8_bounds w0)).mono fun e W' ⟨he, bel⟩ => ?_
  subst he
  exact ⟨_, rfl, _, _, _, [], _, [], hW', trodAll_mk1 (shut_bool Tryd.underlying4 _), (trodAll_cons_mk (shut_int Tryd.underlying5 w0) (trodAll_cons_mk (Below.trod laidOut (by kernel_rfl) (of_decide_eq_true (by kernel_rfl)) k1 bel lt1) (trodAll_cons_mk (Below.trod laidOut (by kernel_rfl) (of_decide_eq_true (by kernel_rfl)) k2 bel lt2) trodAll_mk0))), rfl, bel.frame _, fun h => by cases h⟩

theorem over : Rows.merkleHalvesRow.holds Tryd.pinned (OpenSpec.ofChange Rows.merkleHalvesSpec) :=
  OpenClaim.holds_of_wide 9 Tryd.f9 rfl rfl rfl rfl rfl rfl rfl ⟨rfl, rfl, rfl, rfl, rfl⟩ rfl rfl rfl rfl rfl (by kernel_rfl) Tryd.func9 (by kernel_rfl)
    (of_decide_eq_true (by kernel_rfl)) (by unfold Func.isWrapper; first | (rw [if_pos (by decide +kernel)]; kernel_rfl) | (rw [if_neg (by decide +kernel)]; exact ⟨rfl, rfl⟩))
    (fun os started H enc _ => lifted os started H enc)

/-- ████ THE STATEMENT ████ -/
theorem proved : Rows.MerkleHalvesCardSaid :=
  Claim7.holds_tied_plain_at .later [] [.data, .data] true Rows.merkleHalvesCard.stood.harness false
    over (fun _ h => by cases h) (by kernel_rfl) (fun _ h => by cases h) merkleHalves_row_tie rfl ⟨rfl, rfl⟩ (by kernel_rfl) rfl
    (fun f fn hf hfn => by
      obtain rfl : f = 9 := Option.some.inj ((show Tryd.prog.funcNamed Rows.merkleHalvesRow.func = some 9 by kernel_rfl).symm.trans hf) |>.symm
      obtain rfl : fn = Tryd.f9 := (Option.some.inj (Tryd.func9.symm.trans hfn)).symm
      exact ⟨by kernel_rfl, fun j t ht => by
        rw [Tryd.params9] at ht
        have hm : t ∈ [5, 25, 25] := by
          have := Array.mem_of_getElem? ht
          simp at this
          simpa using this
        have hall : ([5, 25, 25].all fun u => !Tryd.prog.wantsStandIn u) = true := by kernel_rfl
        exact (show Tryd.prog.wantsStandIn t = false by simpa using List.all_eq_true.1 hall t hm)⟩)
    (by kernel_rfl)
#print axioms proved
end Go.Proofs.YtieepdhajjibpaaDoor.merkleHalves
