
/- The contracts of Check, the program's and the document's, and of modelOf. -/
import Derived.Test.YtieepdhajjibpaaDoorMrkId
import Derived.Test.YtieepdhajjibpaaDoorMrkOf
import Derived.Test.YtieepdhajjibpaaDoorMrkSame
namespace Go.Proofs.YtieepdhajjibpaaDoor
open Go.RowKit

/-- Whether a manifest may be, and is that of something that is known by id. -/
def chkE (s p : Nat) (L : List Dg) (id : Dg) : Int := if (cntE s (p : Int)).2 ≠ 0 then (cntE s (p : Int)).2 else if (L.length : Int) ≠ (cntE s (p : Int)).1 then 11 else if idD s p L ≠ id then 33 else 0

set_option maxRecDepth 20000 in
set_option maxHeartbeats 1000000 in
theorem check_any {w : World} {lo hi : Nat} {A : Option Addr} {m c : Nat} {L : List Dg} (s p : Nat) (id : Dg) (hg : Glob w) (hd : DatR 32 dcs w lo hi A L) (hm : L.length = m) (hmc : m ≤ c) (hhi : hi ≤ w.heap.size) (hb : m ≤ 1000000) (hs : s < 18446744073709551616) (hp : p < 4294967296) :
    Calls Tryd.prog 22 #[.agg #[.int .u64 (s : Int), .int .u32 (p : Int), .slice A m c], .agg (dcs id).toArray] w fun e w' => e = .returned (.int .i64 (chkE s p L id)) ∧ Below w.heap.size w w' := by
  have hpw : IntKind.i64.wrap (p : Int) = (p : Int) := IntWalk.i64_in _ (by omega)
  have HCT := Lib.hid (count_any s (p : Int) hs)
  obtain ⟨X, hX⟩ : ∃ X, X = (dcs id).toArray := ⟨_, rfl⟩
  have hXs : X.size = 32 := by rw [hX]; simp [dcs_len]
  obtain ⟨cn, hcn⟩ : ∃ cn, cn = (cntE s (p : Int)).1 := ⟨_, rfl⟩
  obtain ⟨ce, hce⟩ : ∃ ce, ce = (cntE s (p : Int)).2 := ⟨_, rfl⟩
  have hch : chkE s p L id = if ce ≠ 0 then ce else if (L.length : Int) ≠ cn then 11 else if idD s p L ≠ id then 33 else 0 := by rw [hcn, hce]; rfl
  rw [← hcn, ← hce] at HCT
  rw [← hX, hch, hm]
  have hbx := fun i => (Box.new w 35 #[.int .u64 (s : Int), .int .u32 (p : Int), .slice A m c]).cell i
  have HM2 : Hid (Box ((w.alloc (.cells #[.int .u64 (s : Int), .int .u32 (p : Int), .slice A m c] 35)).alloc (.cells X 25)) w.heap.size 35 #[.int .u64 (s : Int), .int .u32 (p : Int), .slice A m c]) := (Box.new w _ _).alloc _
  have hk0 : ((w.alloc (.cells #[.int .u64 (s : Int), .int .u32 (p : Int), .slice A m c] 35)).alloc (.cells X 25)).cell? ⟨w.heap.size, 0, none⟩ = some (.int .u64 (s : Int)) := HM2.out.cell 0
  have hk1 : ((w.alloc (.cells #[.int .u64 (s : Int), .int .u32 (p : Int), .slice A m c] 35)).alloc (.cells X 25)).cell? ⟨w.heap.size, 1, none⟩ = some (.int .u32 (p : Int)) := HM2.out.cell 1
  have hk2 : ((w.alloc (.cells #[.int .u64 (s : Int), .int .u32 (p : Int), .slice A m c] 35)).alloc (.cells X 25)).cell? ⟨w.heap.size, 2, none⟩ = some (.slice A m c) := HM2.out.cell 2
  have HB2 : Hid (Below w.heap.size w ((w.alloc (.cells #[.int .u64 (s : Int), .int .u32 (p : Int), .slice A m c] 35)).alloc (.cells X 25))) := ((Below.refl _ _).alloc (Nat.le_refl _) _).alloc (by simp) _
  clear hbx
  by_cases he : ce = 0
  · rw [if_neg (by simp [he])]
    subst he
    obtain ⟨n, hn⟩ : ∃ n : Nat, cn = (n : Int) := by
      refine ⟨cn.toNat, ?_⟩
      have := cntE_pos s (p : Int)
      omega
    subst hn
    by_cases hmn : m = n
    · obtain rfl := hmn
      rw [if_neg (by simp)]
      have hne : ((m : Int) != (m : Int)) = false := by simp
      have HID := Lib.hid (fun (V : World) (hV : Below w.heap.size w V) => id_any (w := V) (c := c) s p (hg.below hV hg.2.2) (hd.below hV hhi) hm hmc (by have := hV.size; omega) hb hp)
      obtain ⟨Y, hY⟩ : ∃ Y, Y = bcells (idD s p L).1 := ⟨_, rfl⟩
      rw [← hY] at HID
      obtain ⟨t, ht⟩ : ∃ t, t = ((idD s p L).1 == id.1) := ⟨_, rfl⟩
      have heq : ∀ W, (Op.equalIn 10000 25 (.agg Y) (.agg X)).run Tryd.prog W = .ok t W := fun W => by
        rw [hY, hX, ht]
        exact eqD _ _ W
      have hans : (if idD s p L ≠ id then (33 : Int) else 0) = if t = true then 0 else 33 := by
        by_cases h : idD s p L = id
        · rw [if_neg (by simp [h]), if_pos (by rw [ht, h]; simp)]
        · rw [if_pos h, if_neg (by rw [ht]; intro hh; exact h (Subtype.ext (eq_of_beq hh)))]
      rw [hans]
      have HX2 : Hid (Box ((w.alloc (.cells #[.int .u64 (s : Int), .int .u32 (p : Int), .slice A m c] 35)).alloc (.cells X 25)) (w.heap.size + 1) 25 X) := by
        have h := Box.new (w.alloc (.cells #[.int .u64 (s : Int), .int .u32 (p : Int), .slice A m c] 35)) 25 X
        rw [World.size_alloc] at h
        exact h
      have hz1 : w.heap.size + 2 ≤ ((w.alloc (.cells #[.int .u64 (s : Int), .int .u32 (p : Int), .slice A m c] 35)).alloc (.cells X 25)).heap.size := by simp
      clear hY hX ht hans hch hcn hce hd hm hg 
      go_enter Tryd.func22, Tryd.ntmps22
      go_upto_region 6 with (first | (go_at_call 34; refine (HCT.out _).mono ?_; rintro e w1 ⟨rfl, rfl⟩))
      obtain ⟨W, hW⟩ : ∃ W, ((w.alloc (.cells #[.int .u64 (s : Int), .int .u32 (p : Int), .slice A m c] 35)).alloc (.cells X 25)) = W := ⟨_, rfl⟩
      refine wp_as (W := W) hW ?_
      rw [hW] at HM2 HB2 HX2 hz1
      clear hW hk0 hk1 hk2
      have hld : ∀ V, Below W.heap.size W V → (loadVar 35 ⟨w.heap.size, 0, none⟩).run Tryd.prog V = .ok (.agg #[.int .u64 (s : Int), .int .u32 (p : Int), .slice A m c]) V ∧ (loadVar 25 ⟨w.heap.size + 1, 0, none⟩).run Tryd.prog V = .ok (.agg X) V := fun V hV =>
        ⟨run_loadVar_row (P := Tryd.prog) V w.heap.size 35 35 _ (0, 0) _ (HM2.out.below hV (by omega)) Tryd.underlying35 rfl (by kernel_rfl), run_loadVar_row (P := Tryd.prog) V (w.heap.size + 1) 25 25 X (0, 0) _ (HX2.out.below hV (by omega)) Tryd.underlying25 rfl (by rw [hXs]; kernel_rfl)⟩
      have HLD := Lib.hid hld
      clear hld
      refine wp_region_noPanic ?_
      refine wp_region_held_drew (S := fun V => (loadVar 35 ⟨w.heap.size, 0, none⟩).run Tryd.prog V = .ok (.agg #[.int .u64 (s : Int), .int .u32 (p : Int), .slice A m c]) V ∧ (loadVar 25 ⟨w.heap.size + 1, 0, none⟩).run Tryd.prog V = .ok (.agg X) V) (by kernel_rfl) (HLD.out _ (Below.refl _ _).drew) (fun hH => ?_)
      refine wpAnyH_take (i := 0) (v := .agg #[.int .u64 (s : Int), .int .u32 (p : Int), .slice A m c]) rfl (by kernel_rfl) (by kernel_rfl) (by kernel_rfl) (fun _ _ _ h => h) (yieldsIf_load_run (by rfl) rfl rfl (fun _ h => h.1)) hH ?_
      refine wpAnyH_take (i := 2) (v := .agg X) rfl (by kernel_rfl) (by kernel_rfl) (by kernel_rfl) (fun _ _ _ h => h) (yieldsIf_load_run (by rfl) rfl rfl (fun _ h => h.2)) hH ?_
      simp only [Act.put, List.setIfInBounds_toArray]
      refine wpAnyH_ready (rs := [1]) (by kernel_rfl) (by simp) ?_
      refine AllReadyH.cons rfl (fun K hK => ?_) AllReadyH.nil
      go_simp
      refine (HID.out _ (by exact HB2.out.drew)).mono ?_
      rintro e' w7 ⟨rfl, hB7⟩
      have HB7 : Hid (Below W.heap.size W w7) := (⟨hB7.os, hB7.tape, hB7.output, hB7.size, hB7.block⟩ : Below W.heap.size W w7)
      clear hB7
      dsimp only
      refine hK.out _ _ (HLD.out _ HB7.out) (fun hH2 => ?_)
      clear hK K
      refine wpAnyH_take (i := 3) (v := .bool (!t)) rfl (by kernel_rfl) (by kernel_rfl) (by kernel_rfl) (fun _ _ _ h => h) (Or.inl ⟨by rfl, fun w' _ => ?_⟩) hH2 ?_
      · go_simp
      refine wpAnyH_take (i := 4) (v := .bool (!t)) rfl (by kernel_rfl) (by kernel_rfl) (by kernel_rfl) (fun _ _ _ h => h) (Or.inl ⟨by rfl, fun w' _ => ?_⟩) hH2 ?_
      · go_simp
      simp only [Act.put, List.setIfInBounds_toArray]
      refine wpAnyH_done (by kernel_rfl) ?_ _
      refine NoPanic.normal ?_
      cases t with
      | true =>
        go_wp2_with fail
        go_ret
        exact ⟨rfl, HB2.out.trans (HB7.out.mono (by omega))⟩
      | false =>
        go_wp2_with fail
        go_ret
        exact ⟨rfl, HB2.out.trans (HB7.out.mono (by omega))⟩
    · rw [if_pos (by omega)]
      have hne : ((m : Int) != (n : Int)) = true := by rw [bne_iff_ne]; omega
      clear hX hch hcn hce hd hm hg HM2
      go_enter Tryd.func22, Tryd.ntmps22
      go_wp2_with (first | (go_at_call 34; refine (HCT.out _).mono ?_; rintro e w1 ⟨rfl, rfl⟩))
      go_ret
      exact ⟨rfl, HB2.out⟩
  · rw [if_pos he]
    have hne : (ce != 0) = true := by rw [bne_iff_ne]; exact he
    clear hX hch hcn hce hd hm hg he HM2 hk2
    go_enter Tryd.func22, Tryd.ntmps22
    go_wp2_with (first | (go_at_call 34; refine (HCT.out _).mono ?_; rintro e w1 ⟨rfl, rfl⟩))
    go_ret
    exact ⟨rfl, HB2.out⟩

set_option maxRecDepth 20000 in
set_option maxHeartbeats 1000000 in
theorem refCheck_any {w : World} {lo hi : Nat} {A : Option Addr} {m c : Nat} {L : List Dg} (s p : Nat) (id : Dg) (hd : DatR 32 dcs w lo hi A L) (hm : L.length = m) (hmc : m ≤ c) (hhi : hi ≤ w.heap.size) (hb : m ≤ 1000000) (hs : s < 18446744073709551616) (hp : p < 4294967296) :
    Calls Tryd.prog 24 #[.agg #[.int .u64 (s : Int), .int .u32 (p : Int), .slice A m c], .agg (dcs id).toArray] w fun e w' => e = .returned (.int .i64 (chkE s p L id)) ∧ Below w.heap.size w w' := by
  have hpw : IntKind.i64.wrap (p : Int) = (p : Int) := IntWalk.i64_in _ (by omega)
  have HCT := Lib.hid (refCount_any s (p : Int))
  obtain ⟨X, hX⟩ : ∃ X, X = (dcs id).toArray := ⟨_, rfl⟩
  have hXs : X.size = 32 := by rw [hX]; simp [dcs_len]
  obtain ⟨cn, hcn⟩ : ∃ cn, cn = (cntE s (p : Int)).1 := ⟨_, rfl⟩
  obtain ⟨ce, hce⟩ : ∃ ce, ce = (cntE s (p : Int)).2 := ⟨_, rfl⟩
  have hch : chkE s p L id = if ce ≠ 0 then ce else if (L.length : Int) ≠ cn then 11 else if idD s p L ≠ id then 33 else 0 := by rw [hcn, hce]; rfl
  rw [← hcn, ← hce] at HCT
  rw [← hX, hch, hm]
  have hbx := fun i => (Box.new w 39 #[.int .u64 (s : Int), .int .u32 (p : Int), .slice A m c]).cell i
  have HM2 : Hid (Box ((w.alloc (.cells #[.int .u64 (s : Int), .int .u32 (p : Int), .slice A m c] 39)).alloc (.cells X 25)) w.heap.size 39 #[.int .u64 (s : Int), .int .u32 (p : Int), .slice A m c]) := (Box.new w _ _).alloc _
  have hk0 : ((w.alloc (.cells #[.int .u64 (s : Int), .int .u32 (p : Int), .slice A m c] 39)).alloc (.cells X 25)).cell? ⟨w.heap.size, 0, none⟩ = some (.int .u64 (s : Int)) := HM2.out.cell 0
  have hk1 : ((w.alloc (.cells #[.int .u64 (s : Int), .int .u32 (p : Int), .slice A m c] 39)).alloc (.cells X 25)).cell? ⟨w.heap.size, 1, none⟩ = some (.int .u32 (p : Int)) := HM2.out.cell 1
  have hk2 : ((w.alloc (.cells #[.int .u64 (s : Int), .int .u32 (p : Int), .slice A m c] 39)).alloc (.cells X 25)).cell? ⟨w.heap.size, 2, none⟩ = some (.slice A m c) := HM2.out.cell 2
  have HB2 : Hid (Below w.heap.size w ((w.alloc (.cells #[.int .u64 (s : Int), .int .u32 (p : Int), .slice A m c] 39)).alloc (.cells X 25))) := ((Below.refl _ _).alloc (Nat.le_refl _) _).alloc (by simp) _
  clear hbx
  by_cases he : ce = 0
  · rw [if_neg (by simp [he])]
    subst he
    obtain ⟨n, hn⟩ : ∃ n : Nat, cn = (n : Int) := by
      refine ⟨cn.toNat, ?_⟩
      have := cntE_pos s (p : Int)
      omega
    subst hn
    by_cases hmn : m = n
    · obtain rfl := hmn
      rw [if_neg (by simp)]
      have hne : ((m : Int) != (m : Int)) = false := by simp
      have HID := Lib.hid (fun (V : World) (hV : Below w.heap.size w V) => refId_any (w := V) (c := c) s p (hd.below hV hhi) hm hmc (by have := hV.size; omega) hb hs hp)
      obtain ⟨Y, hY⟩ : ∃ Y, Y = bcells (idD s p L).1 := ⟨_, rfl⟩
      rw [← hY] at HID
      obtain ⟨t, ht⟩ : ∃ t, t = ((idD s p L).1 == id.1) := ⟨_, rfl⟩
      have heq : ∀ W, (Op.equalIn 10000 25 (.agg Y) (.agg X)).run Tryd.prog W = .ok t W := fun W => by
        rw [hY, hX, ht]
        exact eqD _ _ W
      have hans : (if idD s p L ≠ id then (33 : Int) else 0) = if t = true then 0 else 33 := by
        by_cases h : idD s p L = id
        · rw [if_neg (by simp [h]), if_pos (by rw [ht, h]; simp)]
        · rw [if_pos h, if_neg (by rw [ht]; intro hh; exact h (Subtype.ext (eq_of_beq hh)))]
      rw [hans]
      have HX2 : Hid (Box ((w.alloc (.cells #[.int .u64 (s : Int), .int .u32 (p : Int), .slice A m c] 39)).alloc (.cells X 25)) (w.heap.size + 1) 25 X) := by
        have h := Box.new (w.alloc (.cells #[.int .u64 (s : Int), .int .u32 (p : Int), .slice A m c] 39)) 25 X
        rw [World.size_alloc] at h
        exact h
      have hz1 : w.heap.size + 2 ≤ ((w.alloc (.cells #[.int .u64 (s : Int), .int .u32 (p : Int), .slice A m c] 39)).alloc (.cells X 25)).heap.size := by simp
      clear hY hX ht hans hch hcn hce hd hm 
      go_enter Tryd.func24, Tryd.ntmps24
      go_upto_region 6 with (first | (go_at_call 36; refine (HCT.out _).mono ?_; rintro e w1 ⟨rfl, rfl⟩))
      obtain ⟨W, hW⟩ : ∃ W, ((w.alloc (.cells #[.int .u64 (s : Int), .int .u32 (p : Int), .slice A m c] 39)).alloc (.cells X 25)) = W := ⟨_, rfl⟩
      refine wp_as (W := W) hW ?_
      rw [hW] at HM2 HB2 HX2 hz1
      clear hW hk0 hk1 hk2
      have hld : ∀ V, Below W.heap.size W V → (loadVar 39 ⟨w.heap.size, 0, none⟩).run Tryd.prog V = .ok (.agg #[.int .u64 (s : Int), .int .u32 (p : Int), .slice A m c]) V ∧ (loadVar 25 ⟨w.heap.size + 1, 0, none⟩).run Tryd.prog V = .ok (.agg X) V := fun V hV =>
        ⟨run_loadVar_row (P := Tryd.prog) V w.heap.size 39 39 _ (0, 0) _ (HM2.out.below hV (by omega)) Tryd.underlying39 rfl (by kernel_rfl), run_loadVar_row (P := Tryd.prog) V (w.heap.size + 1) 25 25 X (0, 0) _ (HX2.out.below hV (by omega)) Tryd.underlying25 rfl (by rw [hXs]; kernel_rfl)⟩
      have HLD := Lib.hid hld
      clear hld
      refine wp_region_noPanic ?_
      refine wp_region_held_drew (S := fun V => (loadVar 39 ⟨w.heap.size, 0, none⟩).run Tryd.prog V = .ok (.agg #[.int .u64 (s : Int), .int .u32 (p : Int), .slice A m c]) V ∧ (loadVar 25 ⟨w.heap.size + 1, 0, none⟩).run Tryd.prog V = .ok (.agg X) V) (by kernel_rfl) (HLD.out _ (Below.refl _ _).drew) (fun hH => ?_)
      refine wpAnyH_take (i := 0) (v := .agg #[.int .u64 (s : Int), .int .u32 (p : Int), .slice A m c]) rfl (by kernel_rfl) (by kernel_rfl) (by kernel_rfl) (fun _ _ _ h => h) (yieldsIf_load_run (by rfl) rfl rfl (fun _ h => h.1)) hH ?_
      refine wpAnyH_take (i := 2) (v := .agg X) rfl (by kernel_rfl) (by kernel_rfl) (by kernel_rfl) (fun _ _ _ h => h) (yieldsIf_load_run (by rfl) rfl rfl (fun _ h => h.2)) hH ?_
      simp only [Act.put, List.setIfInBounds_toArray]
      refine wpAnyH_ready (rs := [1]) (by kernel_rfl) (by simp) ?_
      refine AllReadyH.cons rfl (fun K hK => ?_) AllReadyH.nil
      go_simp
      refine (HID.out _ (by exact HB2.out.drew)).mono ?_
      rintro e' w7 ⟨rfl, hB7⟩
      have HB7 : Hid (Below W.heap.size W w7) := (⟨hB7.os, hB7.tape, hB7.output, hB7.size, hB7.block⟩ : Below W.heap.size W w7)
      clear hB7
      dsimp only
      refine hK.out _ _ (HLD.out _ HB7.out) (fun hH2 => ?_)
      clear hK K
      refine wpAnyH_take (i := 3) (v := .bool (!t)) rfl (by kernel_rfl) (by kernel_rfl) (by kernel_rfl) (fun _ _ _ h => h) (Or.inl ⟨by rfl, fun w' _ => ?_⟩) hH2 ?_
      · go_simp
      simp only [Act.put, List.setIfInBounds_toArray]
      refine wpAnyH_done (by kernel_rfl) ?_ _
      refine NoPanic.normal ?_
      cases t with
      | true =>
        go_wp2_with fail
        go_ret
        exact ⟨rfl, HB2.out.trans (HB7.out.mono (by omega))⟩
      | false =>
        go_wp2_with fail
        go_ret
        exact ⟨rfl, HB2.out.trans (HB7.out.mono (by omega))⟩
    · rw [if_pos (by omega)]
      have hne : ((n : Int) != (m : Int)) = true := by rw [bne_iff_ne]; omega
      clear hX hch hcn hce hd hm HM2
      go_enter Tryd.func24, Tryd.ntmps24
      go_wp2_with (first | (go_at_call 36; refine (HCT.out _).mono ?_; rintro e w1 ⟨rfl, rfl⟩))
      go_ret
      exact ⟨rfl, HB2.out⟩
  · rw [if_pos he]
    have hne : (ce != 0) = true := by rw [bne_iff_ne]; exact he
    clear hX hch hcn hce hd hm he HM2 hk2
    go_enter Tryd.func24, Tryd.ntmps24
    go_wp2_with (first | (go_at_call 36; refine (HCT.out _).mono ?_; rintro e w1 ⟨rfl, rfl⟩))
    go_ret
    exact ⟨rfl, HB2.out⟩

set_option maxRecDepth 20000 in
theorem modelOf_any (s p : Int) (A : Option Addr) (m c : Nat) (w : World) :
    Calls Tryd.prog 23 #[.agg #[.int .u64 s, .int .u32 p, .slice A m c]] w fun e w' => e = .returned (.agg #[.int .u64 s, .int .u32 p, .slice A m c]) ∧ Below w.heap.size w w' := by
  go_enter Tryd.func23, Tryd.ntmps23
  go_wp2_with fail
  have h := Box.new (w.alloc (.cells #[.int .u64 s, .int .u32 p, .slice A m c] 35)) 39 #[.int .u64 s, .int .u32 p, .slice A m c]
  rw [World.size_alloc] at h
  refine bodyPost_ret (v := .agg #[.int .u64 s, .int .u32 p, .slice A m c]) (results_cell_row Tryd.results23 _ _ (w.heap.size + 1) 39 #[.int .u64 s, .int .u32 p, .slice A m c] (0, 0) _ rfl h Tryd.underlying39 rfl (by kernel_rfl)) rfl ⟨rfl, ?_⟩
  exact ((Below.refl _ _).alloc (Nat.le_refl _) _).alloc (by simp) _
end Go.Proofs.YtieepdhajjibpaaDoor
