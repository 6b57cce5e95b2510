
/- An argument of type []uint16, as a slice of elements. -/
import Derived.Test.YtchpaeelpaicbaaArgsInts
namespace Go.Proofs.Ytchpaeelpaicbaa
open Go.ChangeShapes Go.WideShapes Go.ChangeAt Go.RowKit

def hcel (n : Nat) : Value := .int .u16 (n : Int)
theorem u16_bnd {n : Int} (h : (Lit.int .u16 n).wf = true) : 0 ≤ n ∧ n ≤ 65535 := by simpa [Lit.wf, IntKind.min, IntKind.max, IntKind.signed, IntKind.bits] using h
/-- The numbers of such a slice; each fits. -/
theorem u16s_of_trod {H : Type} {enc : TypeId × Value → H} {W : World} {a : Option Addr} {len cap : Nat} {d : DataW H} {p : List MemPlace}
    (h : ∃ fuel, DataW.trod enc Try.prog W 0 (fun _ => true) true fuel 70 (Value.cells (.slice a len cap)).toList = some (d, p)) :
    ∃ os : List Nat, os.length = len ∧ len ≤ cap ∧ cap ≤ maxLen ∧ DatE hcel W 0 W.heap.size a os ∧ ∀ o ∈ os, o ≤ 65535 := by
  have hrow : ∃ zs, IsRow .u16 W a len cap zs := by
    obtain ⟨fuel, hf⟩ := h
    rcases open_ints Try.underlying70 Try.underlying60 (by kernel_rfl) hf with ⟨hcs, _⟩ | ⟨x, l, c, zs, hcs, _, hl, hm, hz, _, hcell, hwz⟩
    · simp [Value.cells] at hcs
      obtain ⟨rfl, rfl, rfl⟩ := hcs
      exact ⟨[], .inl ⟨rfl, rfl, rfl, rfl⟩⟩
    · simp [Value.cells] at hcs
      obtain ⟨rfl, rfl, rfl⟩ := hcs
      exact ⟨zs, .inr ⟨_, rfl, hl, hm, by simpa using hz, hcell, hwz⟩⟩
  obtain ⟨zs, hr⟩ := hrow
  rcases hr with ⟨rfl, rfl, rfl, rfl⟩ | ⟨x, rfl, hl, hm, hz, hc, hw⟩
  · exact ⟨[], rfl, Nat.le_refl _, Nat.zero_le _, DatE.nil _ _ _ _ _, fun n hn => by cases hn⟩
  · refine ⟨(zs.take len).map Int.toNat, by simp; omega, hl, hm, fun hx => ?_, fun n hn => ?_⟩
    · have hlen : ((zs.take len).map Int.toNat).length = len := by simp; omega
      obtain ⟨b, off, rfl, hc'⟩ := ints_at hc (by omega)
      have hlt := World.block_lt_of_cell? W _ (hc' 0 (by omega))
      refine ⟨b, off, rfl, Nat.zero_le _, hlt, fun j hj => ?_⟩
      have hjz : j < zs.length := by omega
      have hb := u16_bnd (hw _ (List.getElem_mem hjz))
      rw [hc' j (by omega), List.getElem_map, List.getElem_take]
      unfold hcel
      rw [show ((zs[j].toNat : Nat) : Int) = zs[j] by omega]
      simp [List.getD, hjz]
    · obtain ⟨z, hz', rfl⟩ := List.mem_map.1 hn
      have := u16_bnd (hw z (List.mem_of_mem_take hz'))
      omega
end Go.Proofs.Ytchpaeelpaicbaa
