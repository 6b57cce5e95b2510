
/- The contract of joined: the tree above two. -/
import Derived.Test.YtieepdhajjibpaaDoorMrkRow
import Derived.Test.YtieepdhajjibpaaDoorFill
import Derived.Deep.RegionHeld3
import Derived.Deep.DeepCutAuto
namespace Go.Proofs.YtieepdhajjibpaaDoor
open Go.RowKit

def z33 : Array Value := (List.replicate 32 (Value.int .u8 0) ++ [Value.int .i64 0]).toArray
theorem tree_built (L : List (Nat × Value)) : Tryd.prog.built 60 L = Instr.fill (#[(0, 32), (32, 1)][·]?) z33 L := by kernel_rfl
/-- A tree out of its two parts. -/
theorem run_tree (Z : Array Value) (n : Int) (hZ : Z.size = 32) (W : World) : (Instr.build 60 #[(0, .agg Z), (1, .int .i64 n)]).run Tryd.prog W = .ok (.agg (Z.toList ++ [Value.int .i64 n]).toArray) W := by
  refine run_build W _ _ _ ?_
  rw [tree_built, show (#[(0, Value.agg Z), (1, Value.int .i64 n)] : Array (Nat × Value)).toList = [(0, .agg Z), (1, .int .i64 n)] from rfl]
  rw [fill_put _ _ 0 (.agg Z) _ 0 32 rfl (by simpa [Value.cells] using hZ) (by decide)]
  rw [fill_put _ _ 1 (.int .i64 n) _ 32 1 rfl rfl (by rw [over_size _ _ _ (by simp [Value.cells, hZ]; decide)]; decide)]
  simp only [Instr.fill]
  have e : over z33 0 (Value.agg Z).cells.toList = (Z.toList ++ [Value.int .i64 0]).toArray := by
    apply Array.ext'
    simp only [over, Value.cells, List.take_zero, List.nil_append, Nat.zero_add, Array.length_toList, hZ]
    rfl
  rw [e]
  simp [over, Value.cells, hZ]

theorem tree_cell {w : World} {g : Nat} {t : TypeId} {Z : Array Value} {n : Int} (h : Box w g t (Z.toList ++ [Value.int .i64 n]).toArray) (hZ : Z.size = 32) : w.rangeAt g 0 Z.toList ∧ w.cell? ⟨g, 32, none⟩ = some (.int .i64 n) := by
  refine ⟨fun j v hv => ?_, ?_⟩
  · rw [Nat.zero_add, h.cell]
    have hj : j < Z.toList.length := by
      rcases Nat.lt_or_ge j Z.toList.length with q | q
      · exact q
      · rw [List.getElem?_eq_none q] at hv; cases hv
    rw [List.getElem?_toArray, List.getElem?_append_left hj]
    exact hv
  · rw [h.cell, List.getElem?_toArray, List.getElem?_append_right (by simp [hZ])]
    simp [hZ]

set_option maxRecDepth 20000 in
set_option maxHeartbeats 1000000 in
theorem joined_any (s t : Tr) (w : World) (hg : Glob w) (hb : s.2 + t.2 ≤ 1000000000) :
    Calls Tryd.prog 28 #[.agg (tcs s).toArray, .agg (tcs t).toArray] w fun e w' => e = .returned (.agg (tcs (nodeD s.1 t.1, s.2 + t.2)).toArray) ∧ Below w.heap.size w w' := by
  have HN := Lib.hid (fun (W : World) (h : Glob W) => node_any s.1 t.1 W h)
  have HG := Lib.hid hg
  have hw2 := hg.2.2
  obtain ⟨Z, hZ⟩ : ∃ Z, Z = bcells (nodeD s.1 t.1).1 := ⟨_, rfl⟩
  have hZs : Z.size = 32 := by rw [hZ]; exact bcells_size _
  have hZo : Z.all (·.oneCell') = true := by rw [hZ]; exact bcells_one _
  have eZ : (tcs (nodeD s.1 t.1, s.2 + t.2)).toArray = (Z.toList ++ [Value.int .i64 ((s.2 : Int) + (t.2 : Int))]).toArray := by rw [hZ, bcells_toList]; simp [tcs]
  obtain ⟨ZA, hZA⟩ : ∃ Z, Z = bcells s.1.1 := ⟨_, rfl⟩
  obtain ⟨ZB, hZB⟩ : ∃ Z, Z = bcells t.1.1 := ⟨_, rfl⟩
  have hsa : ZA.size = 32 := by rw [hZA]; exact bcells_size _
  have hsb : ZB.size = 32 := by rw [hZB]; exact bcells_size _
  have eA : (tcs s).toArray = (ZA.toList ++ [Value.int .i64 (s.2 : Int)]).toArray := by rw [hZA, bcells_toList]; rfl
  have eB : (tcs t).toArray = (ZB.toList ++ [Value.int .i64 (t.2 : Int)]).toArray := by rw [hZB, bcells_toList]; rfl
  rw [eZ, eA, eB]
  rw [← hZ, ← hZA, ← hZB] at HN
  obtain ⟨n1, hn1⟩ : ∃ n, n = s.2 := ⟨_, rfl⟩
  obtain ⟨n2, hn2⟩ : ∃ n, n = t.2 := ⟨_, rfl⟩
  rw [← hn1, ← hn2] at hb ⊢
  have hbuild := run_tree Z ((n1 : Int) + n2) hZs
  obtain ⟨TA, hTA⟩ : ∃ T, T = (ZA.toList ++ [Value.int .i64 (n1 : Int)]).toArray := ⟨_, rfl⟩
  obtain ⟨TB, hTB⟩ : ∃ T, T = (ZB.toList ++ [Value.int .i64 (n2 : Int)]).toArray := ⟨_, rfl⟩
  obtain ⟨T, hT⟩ : ∃ T, T = (Z.toList ++ [Value.int .i64 ((n1 : Int) + n2)]).toArray := ⟨_, rfl⟩
  rw [← hT] at hbuild
  rw [← hTA, ← hTB, ← hT]
  have hTs : T.size = 33 := by rw [hT]; simp [hZs]
  have hTo : T.all (·.oneCell') = true := by
    rw [hT, Array.all_eq_true_iff_forall_mem]
    intro x hx
    rcases List.mem_append.1 (by simpa using hx : x ∈ Z.toList ++ [Value.int .i64 ((n1 : Int) + n2)]) with h | h
    · exact (Array.all_eq_true_iff_forall_mem.1 hZo) x (by simpa using h)
    · obtain rfl := List.mem_singleton.1 h; rfl
  have CA := Lib.hid (fun (W : World) (g : Nat) (h : Box W g 60 TA) => tree_cell (hTA ▸ h) hsa)
  have CB := Lib.hid (fun (W : World) (g : Nat) (h : Box W g 60 TB) => tree_cell (hTB ▸ h) hsb)
  clear hZ hZA hZB hg eZ eA eB hn1 hn2 hTA hTB hT
  go_enter Tryd.func28, Tryd.ntmps28
  go_upto_region 1 with fail
  have hz : (((w.alloc (.cells TA 60)).alloc (.cells TB 60)).alloc (.cells z33 60)).heap.size = w.heap.size + 3 := by simp
  have HA2 : Hid (Box (((w.alloc (.cells TA 60)).alloc (.cells TB 60)).alloc (.cells z33 60)) w.heap.size 60 TA) := ((Box.new w _ _).alloc _).alloc _
  have HB2 : Hid (Box (((w.alloc (.cells TA 60)).alloc (.cells TB 60)).alloc (.cells z33 60)) (w.heap.size + 1) 60 TB) := by
    have h := Box.new (w.alloc (.cells TA 60)) 60 TB
    rw [World.size_alloc] at h
    exact h.alloc _
  have HR2 : Hid (Box (((w.alloc (.cells TA 60)).alloc (.cells TB 60)).alloc (.cells z33 60)) (w.heap.size + 1 + 1) 60 z33) := by
    have h := Box.new ((w.alloc (.cells TA 60)).alloc (.cells TB 60)) 60 z33
    rw [World.size_alloc, World.size_alloc] at h
    exact h
  have HW : Hid (Below w.heap.size w (((w.alloc (.cells TA 60)).alloc (.cells TB 60)).alloc (.cells z33 60))) := (((Below.refl _ _).alloc (Nat.le_refl _) _).alloc (by simp) _).alloc (by simp; omega) _
  have hz1 : w.heap.size + 3 ≤ (((w.alloc (.cells TA 60)).alloc (.cells TB 60)).alloc (.cells z33 60)).heap.size := by omega
  clear hz
  obtain ⟨W, hW⟩ : ∃ W, (((w.alloc (.cells TA 60)).alloc (.cells TB 60)).alloc (.cells z33 60)) = W := ⟨_, rfl⟩
  refine wp_as (W := W) hW ?_
  rw [hW] at HA2 HB2 HR2 HW hz1
  clear hW
  have HG1 := Lib.hid (HG.out.below HW.out hw2)
  obtain ⟨r1, c1⟩ := CA.out _ _ HA2.out
  obtain ⟨r2, c2⟩ := CB.out _ _ HB2.out
  have HK := Lib.hid (fun (V : World) (h : Below W.heap.size W V) => And.intro (CA.out _ _ (HA2.out.below h (by omega))) (CB.out _ _ (HB2.out.below h (by omega))))
  have hu := Tryd.underlying25
  have hi1 : (Tryd.prog.info? 25).map (·.size) = some ZA.toList.length := by rw [Array.length_toList, hsa]; kernel_rfl
  have hi2 : (Tryd.prog.info? 25).map (·.size) = some ZB.toList.length := by rw [Array.length_toList, hsb]; kernel_rfl
  have hwr : IntKind.i64.wrap ((n1 : Int) + n2) = (n1 : Int) + n2 := IntWalk.i64_in _ (by omega)
  have hrg : W.rangeAt w.heap.size 0 ZA.toList ∧ W.cell? ⟨w.heap.size, 32, none⟩ = some (.int .i64 (n1 : Int)) ∧ W.rangeAt (w.heap.size + 1) 0 ZB.toList ∧ W.cell? ⟨w.heap.size + 1, 32, none⟩ = some (.int .i64 (n2 : Int)) := ⟨r1, c1, r2, c2⟩
  clear r1 c1 r2 c2
  refine wp_region_noPanic ?_
  refine wp_region_held_drew (S := fun w' => w'.rangeAt w.heap.size 0 ZA.toList ∧ w'.cell? ⟨w.heap.size, 32, none⟩ = some (.int .i64 (n1 : Int)) ∧ w'.rangeAt (w.heap.size + 1) 0 ZB.toList ∧ w'.cell? ⟨w.heap.size + 1, 32, none⟩ = some (.int .i64 (n2 : Int))) (by kernel_rfl) hrg (fun hH => ?_)
  refine wpAnyH_take (i := 0) (v := .pointer (some ⟨w.heap.size, 0, none⟩)) rfl (by kernel_rfl) (by kernel_rfl) (by kernel_rfl) (fun _ _ _ h => h) (Or.inl ⟨by rfl, fun w' _ => ?_⟩) hH ?_
  · go_simp
  refine wpAnyH_take (i := 1) (v := _) rfl (by kernel_rfl) (by kernel_rfl) (by kernel_rfl) (fun _ _ _ h => h) (yieldsIf_load_mid (by rfl) _ _ rfl w.heap.size 0 rfl ZA.toList _ (fun _ h => h.1) hu rfl hi1) hH ?_
  refine wpAnyH_take (i := 2) (v := .pointer (some ⟨w.heap.size + 1, 0, none⟩)) rfl (by kernel_rfl) (by kernel_rfl) (by kernel_rfl) (fun _ _ _ h => h) (Or.inl ⟨by rfl, fun w' _ => ?_⟩) hH ?_
  · go_simp
  refine wpAnyH_take (i := 3) (v := _) rfl (by kernel_rfl) (by kernel_rfl) (by kernel_rfl) (fun _ _ _ h => h) (yieldsIf_load_mid (by rfl) _ _ rfl (w.heap.size + 1) 0 rfl ZB.toList _ (fun _ h => h.2.2.1) hu rfl hi2) hH ?_
  refine wpAnyH_take (i := 5) (v := .pointer (some ⟨w.heap.size, 32, none⟩)) rfl (by kernel_rfl) (by kernel_rfl) (by kernel_rfl) (fun _ _ _ h => h) (Or.inl ⟨by rfl, fun w' _ => ?_⟩) hH ?_
  · go_simp
  refine wpAnyH_take (i := 6) (v := .int .i64 (n1 : Int)) rfl (by kernel_rfl) (by kernel_rfl) (by kernel_rfl) (fun _ _ _ h => h) (Or.inl ⟨by rfl, fun w' hS => ?_⟩) hH ?_
  · obtain ⟨_, k1, _, _⟩ := hS
    go_simp
  refine wpAnyH_take (i := 7) (v := .pointer (some ⟨w.heap.size + 1, 32, none⟩)) rfl (by kernel_rfl) (by kernel_rfl) (by kernel_rfl) (fun _ _ _ h => h) (Or.inl ⟨by rfl, fun w' _ => ?_⟩) hH ?_
  · go_simp
  refine wpAnyH_take (i := 8) (v := .int .i64 (n2 : Int)) rfl (by kernel_rfl) (by kernel_rfl) (by kernel_rfl) (fun _ _ _ h => h) (Or.inl ⟨by rfl, fun w' hS => ?_⟩) hH ?_
  · obtain ⟨_, _, _, k1⟩ := hS
    go_simp
  refine wpAnyH_take (i := 9) (v := .int .i64 ((n1 : Int) + n2)) rfl (by kernel_rfl) (by kernel_rfl) (by kernel_rfl) (fun _ _ _ h => h) (Or.inl ⟨by rfl, fun w' _ => ?_⟩) hH ?_
  · go_simp
  simp only [Act.put, List.setIfInBounds_toArray]
  refine wpAnyH_ready (rs := [4]) (by kernel_rfl) (by simp) ?_
  refine AllReadyH.cons rfl (fun K hK => ?_) AllReadyH.nil
  go_simp
  refine (HN.out _ (by exact HG1.out)).mono ?_
  rintro e' w7 ⟨rfl, hB7⟩
  have HB7 : Hid (Below W.heap.size W w7) := (⟨hB7.os, hB7.tape, hB7.output, hB7.size, hB7.block⟩ : Below W.heap.size W w7)
  obtain ⟨⟨q1, d1⟩, q2, d2⟩ := HK.out _ HB7.out
  have HR7 : Hid (Box w7 (w.heap.size + 1 + 1) 60 z33) := HR2.out.below HB7.out (by omega)
  clear hB7
  dsimp only
  refine hK.out _ _ ⟨q1, d1, q2, d2⟩ (fun hH2 => ?_)
  clear hK K
  refine wpAnyH_take (i := 10) (v := .agg T) rfl (by kernel_rfl) (by kernel_rfl) (by kernel_rfl) (fun _ _ _ h => h) (yieldsIf_build (by rfl) _ _ rfl T _ (by rfl) hbuild) hH2 ?_
  refine wpAnyH_ready (rs := [11]) (by kernel_rfl) (by simp) ?_
  refine AllReadyH.cons rfl (fun K hK => ?_) AllReadyH.nil
  refine wp_store_row 60 _ _ rfl (w.heap.size + 1 + 1) T rfl rfl 60 _ HR7.out (by rw [hTs]; kernel_rfl) (by rw [hTs]; rfl) hTo ?_
  have b1 := CA.out _ _ (setRow_other w7 (w.heap.size + 1 + 1) w.heap.size T (by omega) |>.trans (HA2.out.below HB7.out (by omega)))
  have b2 := CB.out _ _ (setRow_other w7 (w.heap.size + 1 + 1) (w.heap.size + 1) T (by omega) |>.trans (HB2.out.below HB7.out (by omega)))
  refine hK.out _ _ ⟨b1.1, b1.2, b2.1, b2.2⟩ (fun _ => ?_)
  clear hK K
  refine wpAnyH_done (by kernel_rfl) ?_ _
  refine NoPanic.normal ?_
  go_wp2_with fail
  refine bodyPost_ret (v := .agg T) (results_cell_row Tryd.results28 _ _ (w.heap.size + 1 + 1) 60 T (0, 0) _ rfl (setRow_heap _ _ _ _ _ _ HR7.out) Tryd.underlying60 rfl (by rw [hTs]; kernel_rfl)) rfl ⟨rfl, ?_⟩
  exact below_row (HW.out.trans (HB7.out.mono (by omega))) (by omega) _
end Go.Proofs.YtieepdhajjibpaaDoor
