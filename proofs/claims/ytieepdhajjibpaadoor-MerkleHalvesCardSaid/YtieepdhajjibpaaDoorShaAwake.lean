
/- The contract of the document's example: a digest that grows in two pieces is that of the whole, and begins and ends as it is told. -/
import Derived.Test.YtieepdhajjibpaaDoorShaSum
import Derived.Test.YtieepdhajjibpaaDoorShaAbc
import Derived.Stop.BytesEq
import Derived.Lib.SlBytesConst
namespace Go.Proofs.YtieepdhajjibpaaDoor
open Go.RowKit

theorem dat_mark (w : World) (ys : List UInt8) (u : TypeId) (fr : Nat × Nat) : Dat false (w.alloc (.cells (bcells ys) u fr)) w.heap.size (w.heap.size + 1) (some ⟨w.heap.size, 0, none⟩) ys := fun _ =>
  ⟨w.heap.size, 0, rfl, Nat.le_refl _, by omega, fun j hj => by
    rw [Nat.zero_add, cell_of_row _ _ j _ u fr (heap_alloc_new w _), bcells_get ys j hj]
    rfl, fun ho => by cases ho⟩

theorem range_all {w : World} {g : Nat} {t : TypeId} {Z : Array Value} (hb : Box w g t Z) : w.rangeAt g 0 Z.toList := by
  intro j v hv
  rw [Nat.zero_add, hb.cell]
  simpa using hv

theorem bytesOf_sha (xs : List UInt8) : (shaOf kw xs).length = 32 := by rw [← stOf_padded, bytesOf_length]
/-- Two digests of the same bytes are equal. -/
theorem eq32 (xs : List UInt8) (W : World) : (Op.equalIn 10000 25 (.agg (bcells (shaOf kw xs))) (.agg (bcells (shaOf kw xs)))).run Tryd.prog W = .ok true W := by
  have hsz : ∀ w, (sizeOf 5).run Tryd.prog w = .ok 1 w := by
    intro w
    obtain ⟨i0, hi0, _, hz1, _⟩ := info_parts u8_info
    simp [sizeOf, typeInfo, hi0, hz1]
  have h := run_equalIn_bytes (P := Tryd.prog) W 9998 25 5 32 Tryd.underlying25 Tryd.underlying5 hsz (shaOf kw xs) (shaOf kw xs) (bytesOf_sha xs) (bytesOf_sha xs)
  rw [beq_self_eq_true] at h
  exact h

end Go.Proofs.YtieepdhajjibpaaDoor
