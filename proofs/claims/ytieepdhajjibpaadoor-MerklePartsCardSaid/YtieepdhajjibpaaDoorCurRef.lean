
/- The contracts of the document's answers for the cursor: Take, Number, End, Put. -/
import Derived.Test.YtieepdhajjibpaaDoorCurWrite
namespace Go.Proofs.YtieepdhajjibpaaDoor
open Go.RowKit

theorem str_size (xs : List UInt8) : (str xs).size = xs.length := by simp [str, ByteArray.size]
theorem str_take (xs : List UInt8) (k : Nat) : (str xs).extract 0 k = str (xs.take k) := by
  apply ByteArray.ext
  simp [str, ByteArray.data_extract]
theorem str_from (xs : List UInt8) (k n : Nat) (hn : n = xs.length) : (str xs).extract k n = str (xs.drop k) := by
  subst hn
  apply ByteArray.ext
  simp only [str, ByteArray.data_extract]
  apply Array.ext'
  simp only [List.extract_toArray, List.extract_eq_take_drop]
  exact List.take_of_length_le (by simp)
/-- The reader of the document as a value. -/
def rv (s : ByteArray) (x : Int) : Value := .agg #[.string s, .int .i64 x]

/-- Two new blocks, read behind a call that leaves what was there. -/
theorem two_boxes {w w1 : World} {c1 c2 : Array Value} {t1 t2 : TypeId} (hB : Below ((w.alloc (.cells c1 t1)).alloc (.cells c2 t2)).heap.size ((w.alloc (.cells c1 t1)).alloc (.cells c2 t2)) w1) :
    Box w1 w.heap.size t1 c1 ∧ Box w1 (w.heap.size + 1) t2 c2 ∧ w.heap.size + 2 ≤ w1.heap.size ∧ Below w.heap.size w w1 := by
  have hs := hB.size
  simp only [World.size_alloc] at hs
  have h1 := ((Box.new w t1 c1).alloc (.cells c2 t2)).below hB (by simp only [World.size_alloc]; omega)
  have h2 := Box.new (w.alloc (.cells c1 t1)) t2 c2
  have h2' := h2.below hB (by simp only [World.size_alloc]; omega)
  simp only [World.size_alloc] at h2'
  exact ⟨h1, h2', by omega, (((Below.refl _ _).alloc (Nat.le_refl _) _).alloc (by simp) _).trans (hB.mono (by simp only [World.size_alloc]; omega))⟩

end Go.Proofs.YtieepdhajjibpaaDoor
