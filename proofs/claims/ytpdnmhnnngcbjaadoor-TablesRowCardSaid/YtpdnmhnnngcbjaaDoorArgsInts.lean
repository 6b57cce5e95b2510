
/- An argument of type []int, as a slice of elements. -/
import Derived.Test.YtpdnmhnnngcbjaaDoorArgs
import Derived.Test.YtpdnmhnnngcbjaaDoorEls
namespace Go.Proofs.YtpdnmhnnngcbjaaDoor
open Go.ChangeShapes Go.WideShapes Go.ChangeAt Go.RowKit

def icel (n : Int) : Value := .int .i64 n
/-- The ints of such a slice; each fits. -/
theorem ints_of_trod {H : Type} {enc : TypeId × Value → H} {W : World} {a : Option Addr} {len cap : Nat} {d : DataW H} {p : List MemPlace}
    (h : ∃ fuel, DataW.trod enc Tryd.prog W 0 (fun _ => true) true fuel 22 (Value.cells (.slice a len cap)).toList = some (d, p)) :
    ∃ ns : List Int, ns.length = len ∧ len ≤ cap ∧ cap ≤ maxLen ∧ DatE icel W 0 W.heap.size a ns ∧ ∀ n ∈ ns, -9223372036854775808 ≤ n ∧ n ≤ 9223372036854775807 := by
  have hrow : ∃ zs, IsRow .i64 W a len cap zs := by
    obtain ⟨fuel, hf⟩ := h
    rcases open_ints Tryd.underlying22 Tryd.underlying3 (by kernel_rfl) hf with ⟨hcs, _⟩ | ⟨x, l, c, zs, hcs, _, hl, hm, hz, _, hcell, hwz⟩
    · simp [Value.cells] at hcs
      obtain ⟨rfl, rfl, rfl⟩ := hcs
      exact ⟨[], .inl ⟨rfl, rfl, rfl, rfl⟩⟩
    · simp [Value.cells] at hcs
      obtain ⟨rfl, rfl, rfl⟩ := hcs
      exact ⟨zs, .inr ⟨_, rfl, hl, hm, by simpa using hz, hcell, hwz⟩⟩
  obtain ⟨zs, hr⟩ := hrow
  rcases hr with ⟨rfl, rfl, rfl, rfl⟩ | ⟨x, rfl, hl, hm, hz, hc, hw⟩
  · exact ⟨[], rfl, Nat.le_refl _, Nat.zero_le _, DatE.nil _ _ _ _ _, fun n hn => by cases hn⟩
  · refine ⟨zs.take len, by simp; omega, hl, hm, fun hx => ?_, fun n hn => int_bounds (hw n (List.mem_of_mem_take hn))⟩
    have hlen : (zs.take len).length = len := by simp; omega
    obtain ⟨b, off, rfl, hc'⟩ := ints_at hc (by omega)
    have hlt := World.block_lt_of_cell? W _ (hc' 0 (by omega))
    refine ⟨b, off, rfl, Nat.zero_le _, hlt, fun j hj => ?_⟩
    rw [hc' j (by omega), List.getElem_take]
    have hjz : j < zs.length := by omega
    simp [icel, List.getD, hjz]
end Go.Proofs.YtpdnmhnnngcbjaaDoor
