
/- The state's cells, the package's variables as they are laid; what the state's words are as they are added one by one. Nothing of the program's code is named here. -/
import Derived.Test.YtieepdhajjibpaaDoorShaPrt
import Derived.Test.YtieepdhajjibpaaDoorShaRow
import Derived.Test.YtieepdhajjibpaaDoorShaWords
namespace Go.Proofs.YtieepdhajjibpaaDoor
open Go.RowKit

/-- The state's eight cells. -/
def V8.cells (v : V8) : Array Value := #[.int .u32 (v.a.toNat : Int), .int .u32 (v.b.toNat : Int), .int .u32 (v.c.toNat : Int), .int .u32 (v.d.toNat : Int), .int .u32 (v.e.toNat : Int), .int .u32 (v.f.toNat : Int), .int .u32 (v.g.toNat : Int), .int .u32 (v.h.toNat : Int)]
theorem V8.cells_one (v : V8) : v.cells.all (·.oneCell') = true := by
  unfold V8.cells
  rw [← Array.all_toList]
  rfl
theorem V8.cells_get (v : V8) (i : Nat) (h : i < 8) : v.cells[i]? = some (.int .u32 ((v.list.getD i 0).toNat : Int)) := by
  match i, h with
  | 0, _ => rfl
  | 1, _ => rfl
  | 2, _ => rfl
  | 3, _ => rfl
  | 4, _ => rfl
  | 5, _ => rfl
  | 6, _ => rfl
  | 7, _ => rfl

/-- The package's two tables hold what they were laid with. -/
def Glob (w : World) : Prop :=
  (∀ i, i < 8 → w.cell? ⟨0, i, none⟩ = some (.int .u32 ((iv.list.getD i 0).toNat : Int))) ∧ (∀ i, i < 64 → w.cell? ⟨1, i, none⟩ = some (.int .u32 ((kw.getD i 0).toNat : Int))) ∧ 2 ≤ w.heap.size
theorem Glob.keep {w w' : World} (h : Glob w) (h0 : w'.heap[0]? = w.heap[0]?) (h1 : w'.heap[1]? = w.heap[1]?) (hs : 2 ≤ w'.heap.size) : Glob w' :=
  ⟨fun i hi => (World.cell?_of_block (w := w) (w' := w') (a := ⟨0, i, none⟩) h0).trans (h.1 i hi), fun i hi => (World.cell?_of_block (w := w) (w' := w') (a := ⟨1, i, none⟩) h1).trans (h.2.1 i hi), hs⟩
theorem Glob.below {B : Nat} {w w' : World} (h : Glob w) (hb : Below B w w') (hB : 2 ≤ B) : Glob w' :=
  h.keep (hb.block 0 (by omega)) (hb.block 1 (by omega)) (Nat.le_trans h.2.2 hb.size)

/-- The state with the first i words of another one added. -/
def padd (s v : V8) (i : Nat) : Array Value := ((List.range 8).map fun j => Value.int .u32 (((if j < i then wA (s.list.getD j 0) (v.list.getD j 0) else s.list.getD j 0).toNat : Nat) : Int)).toArray
theorem padd_zero (s v : V8) : padd s v 0 = s.cells := rfl
theorem padd_all (s v : V8) : padd s v 8 = (addv s v).cells := rfl
theorem padd_get (s v : V8) (i : Nat) (h : i < 8) : (padd s v i)[i]? = some (.int .u32 ((s.list.getD i 0).toNat : Int)) := by
  simp [padd, h]
theorem padd_set (s v : V8) (i : Nat) : (padd s v i).setIfInBounds i (.int .u32 ((wA (s.list.getD i 0) (v.list.getD i 0)).toNat : Int)) = padd s v (i + 1) := by
  apply Array.ext'
  unfold padd
  simp only [List.setIfInBounds_toArray]
  apply List.ext_getElem
  · simp
  intro j h1 h2
  rw [List.getElem_set]
  simp only [List.getElem_map, List.getElem_range]
  by_cases hj : i = j
  · subst hj
    simp
  · rw [if_neg hj]
    have e : (j < i) = (j < i + 1) := by apply propext; omega
    simp only [e]
end Go.Proofs.YtieepdhajjibpaaDoor
