
/- The contracts of the document's Leaf, Node and Root. -/
import Derived.Test.YtieepdhajjibpaaDoorMrkRow
import Derived.Test.YtieepdhajjibpaaDoorFill
import Derived.Test.YtieepdhajjibpaaDoorShaOf
import Derived.Test.YtieepdhajjibpaaDoorRefNum
import Derived.Deep.RegionHeld3
import Derived.Deep.LoopGhost
namespace Go.Proofs.YtieepdhajjibpaaDoor
open Go.RowKit

theorem str_app (a b : List UInt8) : str (a ++ b) = str a ++ str b := by
  apply ByteArray.ext
  simp [str]
/-- The document's Of, of bytes that are told. -/
theorem rof_any (S : ByteArray) (xs : List UInt8) (h : S = str xs) (w : World) (hl : xs.length ≤ 1000000000000) :
    Calls Tryd.prog 26 #[.string S] w fun e w' => e = .returned (.agg (bcells (shaD xs).1)) ∧ Below w.heap.size w w' := by
  subst h
  have := of_any (str xs) w (by rw [str_size]; exact hl)
  simpa [str, shaD] using this

set_option maxRecDepth 20000 in
set_option maxHeartbeats 1000000 in
theorem refLeaf_any (S : ByteArray) (xs : List UInt8) (h : S = str xs) (w : World) (hl : xs.length ≤ 100000000000) :
    Calls Tryd.prog 14 #[.string S] w fun e w' => e = .returned (.agg (bcells (leafD xs).1)) ∧ Below w.heap.size w w' := by
  have hS : S.size = xs.length := by rw [h, str_size]
  have hsb : S.size ≤ 100000000000 := by omega
  have HOF := Lib.hid (fun (W : World) => rof_any ({ data := #[0] } ++ S) (0 :: xs) (by rw [h, show (0 : UInt8) :: xs = [0] ++ xs from rfl, str_app]; rfl) W (by rw [List.length_cons]; omega))
  obtain ⟨Z, hZ⟩ : ∃ Z, Z = bcells (leafD xs).1 := ⟨_, rfl⟩
  have hZs : Z.size = 32 := by rw [hZ]; exact bcells_size _
  have hZo : Z.all (·.oneCell') = true := by rw [hZ]; exact bcells_one _
  rw [show bcells (shaD (0 :: xs)).1 = Z from hZ.symm] at HOF
  rw [← hZ]
  clear hZ h hS
  have hz1 : (w.alloc (.cells z32 25)).heap.size = w.heap.size + 1 := World.size_alloc _ _
  have HZ1 := Lib.hid hz1
  clear hz1
  go_enter Tryd.func14, Tryd.ntmps14
  go_wp2_with (first
    | (go_at_call 26; refine (HOF.out _).mono ?_; rintro e' w7 ⟨rfl, hB7⟩; have HB7 : Hid (Below w.heap.size w w7) := ((Below.refl w.heap.size w).alloc (Nat.le_refl _) _).trans (hB7.mono (by rw [World.size_alloc]; omega)); have HR7 : Hid (Box w7 w.heap.size 25 z32) := (Box.new w _ z32).below hB7 (by rw [World.size_alloc]; omega); clear hB7)
    | (refine wpList_store_row rfl 25 _ _ rfl w.heap.size Z rfl rfl 25 _ HR7.out (by rw [hZs]; kernel_rfl) (by rw [hZs]; rfl) hZo ?_))
  refine bodyPost_ret (v := .agg Z) (results_cell_row Tryd.results14 _ _ w.heap.size 25 Z (0, 0) _ rfl (setRow_heap _ _ _ _ _ _ HR7.out) Tryd.underlying25 rfl (by rw [hZs]; kernel_rfl)) rfl ⟨rfl, ?_⟩
  exact below_row HB7.out (Nat.le_refl _) _

set_option maxRecDepth 20000 in
set_option maxHeartbeats 1000000 in
theorem refNode_any (a b : Dg) (w : World) :
    Calls Tryd.prog 16 #[.agg (bcells a.1), .agg (bcells b.1)] w fun e w' => e = .returned (.agg (bcells (nodeD a b).1)) ∧ Below w.heap.size w w' := by
  obtain ⟨Z, hZ⟩ : ∃ Z, Z = bcells (nodeD a b).1 := ⟨_, rfl⟩
  have hZs : Z.size = 32 := by rw [hZ]; exact bcells_size _
  have hZo : Z.all (·.oneCell') = true := by rw [hZ]; exact bcells_one _
  obtain ⟨SA, hSA⟩ : ∃ S, S = str a.1 := ⟨_, rfl⟩
  obtain ⟨SB, hSB⟩ : ∃ S, S = str b.1 := ⟨_, rfl⟩
  have hsa : SA.size = 32 := by rw [hSA, str_size, a.2]
  have hsb : SB.size = 32 := by rw [hSB, str_size, b.2]
  have HOF := Lib.hid (fun (W : World) => rof_any ({ data := #[1] } ++ SA ++ SB) (1 :: (a.1 ++ b.1)) (by rw [hSA, hSB, show (1 : UInt8) :: (a.1 ++ b.1) = [1] ++ a.1 ++ b.1 from rfl, str_app, str_app]; rfl) W (by simp [a.2, b.2]))
  rw [show bcells (shaD (1 :: (a.1 ++ b.1))).1 = Z from hZ.symm] at HOF
  obtain ⟨ZA, hZA⟩ : ∃ Z, Z = bcells a.1 := ⟨_, rfl⟩
  obtain ⟨ZB, hZB⟩ : ∃ Z, Z = bcells b.1 := ⟨_, rfl⟩
  have CV : Hid (∀ (W : World) (g : Nat), (Box W g 25 ZA → (convert 23 9 (.slice (some ⟨g, 0, none⟩) 32 32)).run Tryd.prog W = .ok (.string SA) W) ∧ (Box W g 25 ZB → (convert 23 9 (.slice (some ⟨g, 0, none⟩) 32 32)).run Tryd.prog W = .ok (.string SB) W)) := fun W g =>
    ⟨fun h => by rw [hSA]; exact run_str W _ Tryd.underlying23 Tryd.underlying5 (m := 32) (box_dat h hZA) a.2 _ Tryd.underlying9, fun h => by rw [hSB]; exact run_str W _ Tryd.underlying23 Tryd.underlying5 (m := 32) (box_dat h hZB) b.2 _ Tryd.underlying9⟩
  rw [← hZ, ← hZA, ← hZB]
  have hza : ZA.size = 32 := by rw [hZA]; exact bcells_size _
  have hzb : ZB.size = 32 := by rw [hZB]; exact bcells_size _
  clear hZ hZA hZB hSA hSB
  go_enter Tryd.func16, Tryd.ntmps16
  go_upto_region 1 with fail
  have HA2 : Hid (Box (((w.alloc (.cells ZA 25)).alloc (.cells ZB 25)).alloc (.cells z32 25)) w.heap.size 25 ZA) := ((Box.new w _ _).alloc _).alloc _
  have HB2 : Hid (Box (((w.alloc (.cells ZA 25)).alloc (.cells ZB 25)).alloc (.cells z32 25)) (w.heap.size + 1) 25 ZB) := by
    have h := Box.new (w.alloc (.cells ZA 25)) 25 ZB
    rw [World.size_alloc] at h
    exact h.alloc _
  have HR2 : Hid (Box (((w.alloc (.cells ZA 25)).alloc (.cells ZB 25)).alloc (.cells z32 25)) (w.heap.size + 1 + 1) 25 z32) := by
    have h := Box.new ((w.alloc (.cells ZA 25)).alloc (.cells ZB 25)) 25 z32
    rw [World.size_alloc, World.size_alloc] at h
    exact h
  have HW : Hid (Below w.heap.size w (((w.alloc (.cells ZA 25)).alloc (.cells ZB 25)).alloc (.cells z32 25))) := (((Below.refl _ _).alloc (Nat.le_refl _) _).alloc (by simp) _).alloc (by simp; omega) _
  have hz1 : w.heap.size + 3 ≤ (((w.alloc (.cells ZA 25)).alloc (.cells ZB 25)).alloc (.cells z32 25)).heap.size := by simp
  obtain ⟨W, hW⟩ : ∃ W, (((w.alloc (.cells ZA 25)).alloc (.cells ZB 25)).alloc (.cells z32 25)) = W := ⟨_, rfl⟩
  refine wp_as (W := W) hW ?_
  rw [hW] at HA2 HB2 HR2 HW hz1
  clear hW
  have hcv : ∀ V, Below W.heap.size W V → (convert 23 9 (.slice (some ⟨w.heap.size, 0, none⟩) 32 32)).run Tryd.prog V = .ok (.string SA) V ∧ (convert 23 9 (.slice (some ⟨w.heap.size + 1, 0, none⟩) 32 32)).run Tryd.prog V = .ok (.string SB) V := fun V hV =>
    ⟨(CV.out V _).1 (HA2.out.below hV (by omega)), (CV.out V _).2 (HB2.out.below hV (by omega))⟩
  have HC := Lib.hid hcv
  clear hcv
  refine wp_region_noPanic ?_
  refine wp_region_held_drew (S := fun V => (convert 23 9 (.slice (some ⟨w.heap.size, 0, none⟩) 32 32)).run Tryd.prog V = .ok (.string SA) V ∧ (convert 23 9 (.slice (some ⟨w.heap.size + 1, 0, none⟩) 32 32)).run Tryd.prog V = .ok (.string SB) V) (by kernel_rfl) (HC.out _ (Below.refl _ _).drew) (fun hH => ?_)
  refine wpAnyH_take (i := 0) (v := .slice (some ⟨w.heap.size, 0, none⟩) 32 32) rfl (by kernel_rfl) (by kernel_rfl) (by kernel_rfl) (fun _ _ _ h => h) (Or.inl ⟨by rfl, fun w' _ => ?_⟩) hH ?_
  · go_simp
  refine wpAnyH_take (i := 1) (v := .string SA) rfl (by kernel_rfl) (by kernel_rfl) (by kernel_rfl) (fun _ _ _ h => h) (Or.inl ⟨by rfl, fun w' hS => ?_⟩) hH ?_
  · obtain ⟨k1, _⟩ := hS
    go_simp
  refine wpAnyH_take (i := 2) (v := .string ({ data := #[1] } ++ SA)) rfl (by kernel_rfl) (by kernel_rfl) (by kernel_rfl) (fun _ _ _ h => h) (Or.inl ⟨by rfl, fun w' _ => ?_⟩) hH ?_
  · go_simp
  refine wpAnyH_take (i := 3) (v := .slice (some ⟨w.heap.size + 1, 0, none⟩) 32 32) rfl (by kernel_rfl) (by kernel_rfl) (by kernel_rfl) (fun _ _ _ h => h) (Or.inl ⟨by rfl, fun w' _ => ?_⟩) hH ?_
  · go_simp
  refine wpAnyH_take (i := 4) (v := .string SB) rfl (by kernel_rfl) (by kernel_rfl) (by kernel_rfl) (fun _ _ _ h => h) (Or.inl ⟨by rfl, fun w' hS => ?_⟩) hH ?_
  · obtain ⟨_, k1⟩ := hS
    go_simp
  refine wpAnyH_take (i := 5) (v := .string ({ data := #[1] } ++ SA ++ SB)) rfl (by kernel_rfl) (by kernel_rfl) (by kernel_rfl) (fun _ _ _ h => h) (Or.inl ⟨by rfl, fun w' _ => ?_⟩) hH ?_
  · go_simp
  simp only [Act.put, List.setIfInBounds_toArray]
  refine wpAnyH_ready (rs := [6]) (by kernel_rfl) (by simp) ?_
  refine AllReadyH.cons rfl (fun K hK => ?_) AllReadyH.nil
  go_simp
  refine (HOF.out _).mono ?_
  rintro e' w7 ⟨rfl, hB7⟩
  have HB7 : Hid (Below W.heap.size W w7) := (⟨hB7.os, hB7.tape, hB7.output, hB7.size, hB7.block⟩ : Below W.heap.size W w7)
  have HR7 : Hid (Box w7 (w.heap.size + 1 + 1) 25 z32) := HR2.out.below HB7.out (by omega)
  clear hB7
  dsimp only
  refine hK.out _ _ (HC.out _ HB7.out) (fun hH2 => ?_)
  clear hK K
  refine wpAnyH_ready (rs := [7]) (by kernel_rfl) (by simp) ?_
  refine AllReadyH.cons rfl (fun K hK => ?_) AllReadyH.nil
  refine wp_store_row 25 _ _ rfl (w.heap.size + 1 + 1) Z rfl rfl 25 _ HR7.out (by rw [hZs]; kernel_rfl) (by rw [hZs]; rfl) hZo ?_
  have b1 := (CV.out _ _).1 (setRow_other w7 (w.heap.size + 1 + 1) w.heap.size Z (by omega) |>.trans (HA2.out.below HB7.out (by omega)))
  have b2 := (CV.out _ _).2 (setRow_other w7 (w.heap.size + 1 + 1) (w.heap.size + 1) Z (by omega) |>.trans (HB2.out.below HB7.out (by omega)))
  refine hK.out _ _ ⟨b1, b2⟩ (fun _ => ?_)
  clear hK K
  refine wpAnyH_done (by kernel_rfl) ?_ _
  refine NoPanic.normal ?_
  go_wp2_with fail
  refine bodyPost_ret (v := .agg Z) (results_cell_row Tryd.results16 _ _ (w.heap.size + 1 + 1) 25 Z (0, 0) _ rfl (setRow_heap _ _ _ _ _ _ HR7.out) Tryd.underlying25 rfl (by rw [hZs]; kernel_rfl)) rfl ⟨rfl, ?_⟩
  exact below_row (HW.out.trans (HB7.out.mono (by omega))) (by omega) _
end Go.Proofs.YtieepdhajjibpaaDoor
