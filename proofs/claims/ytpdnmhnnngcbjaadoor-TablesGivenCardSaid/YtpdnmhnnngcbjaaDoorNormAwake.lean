
/- The document's example for counts answers true, in whatever world, and nothing that was there has turned. -/
import Derived.Test.YtpdnmhnnngcbjaaDoorNormWrite
import Derived.Test.YtpdnmhnnngcbjaaDoorNormMake
namespace Go.Proofs.YtpdnmhnnngcbjaaDoor
open Go.RowKit

/-- A new row of elements. -/
theorem datE_row {α : Type} (f : α → Value) (w : World) (xs : List α) (u : TypeId) (cs : Array Value) (hcs : cs.toList = xs.map f) : DatE f (w.alloc (.cells cs u)) w.heap.size (w.heap.size + 1) (some ⟨w.heap.size, 0, none⟩) xs := fun _ =>
  ⟨w.heap.size, 0, rfl, Nat.le_refl _, by omega, fun j hj => by
    have h := (Box.new w u cs).cell (0 + j)
    rw [h, Nat.zero_add, ← Array.getElem?_toList, hcs, List.getElem?_map, List.getElem?_eq_getElem hj]
    rfl⟩
theorem bits_back (l : List Bool) : ∃ rest, bitsOf (bytesOf l) = l ++ rest := ⟨(bitsOf (bytesOf l)).drop l.length, by
  have h := List.take_append_drop l.length (bitsOf (bytesOf l))
  rw [take_bits] at h
  exact h.symm⟩
/-- What is written is read. -/
theorem rdC_back {log : Int} {ps : List Int} (hm : mayB log ps = true) {most sy : Int} (h1 : log ≤ most) (h2 : (ps.length : Int) ≤ sy) (more : List Bool) :
    rdC (bitsOf (bytesOf (wrC log.toNat ps)) ++ more) most sy = .ok (log.toNat, ps, (wrC log.toNat ps).length) := by
  obtain ⟨rest, hr⟩ := bits_back (wrC log.toNat ps)
  exact rdC_wrC (rest := rest ++ more) hm (by rw [hr, List.append_assoc]) h1 h2

end Go.Proofs.YtpdnmhnnngcbjaaDoor
