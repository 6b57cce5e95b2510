
/- Arguments of layer 6's laws: a slice of numbers of 32 bits; counts, by value. -/
import Derived.Test.YtafhabpckgmkgaaNormTail
import Derived.Test.YtafhabpckgmkgaaArgs
import Derived.Test.YtafhabpckgmkgaaArgsInts
namespace Go.Proofs.Ytafhabpckgmkgaa
open Go.ChangeShapes Go.WideShapes Go.ChangeAt Go.RowKit

theorem u32_bounds {n : Int} (h : (Lit.int .u32 n).wf = true) : 0 ≤ n ∧ n ≤ 4294967295 := by simpa [Lit.wf, IntKind.min, IntKind.max, IntKind.signed, IntKind.bits] using h
/-- The numbers of such a slice; each fits. -/
theorem u32s_of_trod {H : Type} {enc : TypeId × Value → H} {W : World} {a : Option Addr} {len cap : Nat} {d : DataW H} {p : List MemPlace}
    (h : ∃ fuel, DataW.trod enc Try.prog W 0 (fun _ => true) true fuel 42 (Value.cells (.slice a len cap)).toList = some (d, p)) :
    ∃ os : List Nat, os.length = len ∧ len ≤ cap ∧ cap ≤ maxLen ∧ DatE ucel W 0 W.heap.size a os ∧ ∀ o ∈ os, o ≤ 4294967295 := by
  have hrow : ∃ zs, IsRow .u32 W a len cap zs := by
    obtain ⟨fuel, hf⟩ := h
    rcases open_ints Try.underlying42 Try.underlying44 (by kernel_rfl) hf with ⟨hcs, _⟩ | ⟨x, l, c, zs, hcs, _, hl, hm, hz, _, hcell, hwz⟩
    · simp [Value.cells] at hcs
      obtain ⟨rfl, rfl, rfl⟩ := hcs
      exact ⟨[], .inl ⟨rfl, rfl, rfl, rfl⟩⟩
    · simp [Value.cells] at hcs
      obtain ⟨rfl, rfl, rfl⟩ := hcs
      exact ⟨zs, .inr ⟨_, rfl, hl, hm, by simpa using hz, hcell, hwz⟩⟩
  obtain ⟨zs, hr⟩ := hrow
  rcases hr with ⟨rfl, rfl, rfl, rfl⟩ | ⟨x, rfl, hl, hm, hz, hc, hw⟩
  · exact ⟨[], rfl, Nat.le_refl _, Nat.zero_le _, DatE.nil _ _ _ _ _, fun n hn => by cases hn⟩
  · refine ⟨(zs.take len).map Int.toNat, by simp; omega, hl, hm, fun hx => ?_, fun n hn => ?_⟩
    · have hlen : ((zs.take len).map Int.toNat).length = len := by simp; omega
      obtain ⟨b, off, rfl, hc'⟩ := ints_at hc (by omega)
      have hlt := World.block_lt_of_cell? W _ (hc' 0 (by omega))
      refine ⟨b, off, rfl, Nat.zero_le _, hlt, fun j hj => ?_⟩
      have hjz : j < zs.length := by omega
      have hb := u32_bounds (hw _ (List.getElem_mem hjz))
      rw [hc' j (by omega), List.getElem_map, List.getElem_take]
      unfold ucel
      rw [show ((zs[j].toNat : Nat) : Int) = zs[j] by omega]
      simp [List.getD, hjz]
    · obtain ⟨z, hz', rfl⟩ := List.mem_map.1 hn
      have := u32_bounds (hw z (List.mem_of_mem_take hz'))
      omega
theorem bitsOf_append (xs ys : List UInt8) : bitsOf (xs ++ ys) = bitsOf xs ++ bitsOf ys := by
  refine snoc_ind (P := fun ys => bitsOf (xs ++ ys) = bitsOf xs ++ bitsOf ys) (by simp [bitsOf]) (fun a x ih => ?_) ys
  rw [← List.append_assoc, bitsOf_snoc, ih, bitsOf_snoc, List.append_assoc]
theorem bitsOf_cut (xs : List UInt8) (k : Nat) : bitsOf (xs.take k) = (bitsOf xs).take (8 * k) := by
  by_cases h : k ≤ xs.length
  · have e : bitsOf xs = bitsOf (xs.take k) ++ bitsOf (xs.drop k) := by rw [← bitsOf_append, List.take_append_drop]
    have hl : (bitsOf (xs.take k)).length = 8 * k := by rw [bitsOf_length, List.length_take]; omega
    rw [e, ← hl, List.take_left]
  · rw [List.take_of_length_le (by omega), List.take_of_length_le (by rw [bitsOf_length]; omega)]
end Go.Proofs.Ytafhabpckgmkgaa
