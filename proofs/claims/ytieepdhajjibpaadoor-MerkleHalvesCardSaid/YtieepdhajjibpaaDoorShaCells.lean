
/- The schedule's cells: what is there of it, and noughts. Nothing of the program is named here. -/
import Derived.Test.YtieepdhajjibpaaDoorShaSpec
namespace Go.Proofs.YtieepdhajjibpaaDoor
open Go.RowKit

def wcells (ws : List UInt32) : Array Value := (ws.map (fun x => Value.int .u32 (x.toNat : Int)) ++ List.replicate (64 - ws.length) (Value.int .u32 0)).toArray
theorem wcells_get (ws : List UInt32) (i : Nat) (hi : i < 64) : (wcells ws)[i]? = some (.int .u32 ((ws.getD i 0).toNat : Int)) := by
  unfold wcells
  rw [List.getElem?_toArray]
  by_cases h : i < ws.length
  · rw [List.getElem?_append_left (by simpa using h), List.getElem?_map, List.getElem?_eq_getElem h]
    simp [List.getD, h]
  · rw [List.getElem?_append_right (by simp; omega), List.getElem?_replicate, if_pos (by simp; omega)]
    simp [List.getD, List.getElem?_eq_none (show ws.length ≤ i by omega)]
theorem wcells_set (ws : List UInt32) (x : UInt32) (h : ws.length < 64) : (wcells ws).setIfInBounds ws.length (.int .u32 (x.toNat : Int)) = wcells (ws ++ [x]) := by
  apply Array.ext'
  unfold wcells
  simp only [List.setIfInBounds_toArray, List.map_append, List.length_append, List.length_singleton, List.map_cons, List.map_nil]
  rw [List.set_append_right _ _ (by simp)]
  simp only [List.length_map, Nat.sub_self]
  obtain ⟨m, hm⟩ : ∃ m, 64 - ws.length = m + 1 := ⟨63 - ws.length, by omega⟩
  rw [hm, List.replicate_succ, List.set_cons_zero, show 64 - (ws.length + 1) = m by omega]
  simp
/-- A cell beside the one that is stored into. -/
theorem other_cell (w : World) (b i j : Nat) (u v : Value) (h : i ≠ j) (hc : w.cell? ⟨b, j, none⟩ = some v) : ((w.setCell ⟨b, i, none⟩ u).drew).cell? ⟨b, j, none⟩ = some v := by
  have e : (w.setCell ⟨b, i, none⟩ u).cell? ⟨b, j, none⟩ = w.cell? ⟨b, j, none⟩ := World.cell?_setCell_other w ⟨b, i, none⟩ ⟨b, j, none⟩ u (by intro h'; injection h' with h1 h2; omega)
  exact e.trans hc
end Go.Proofs.YtieepdhajjibpaaDoor
