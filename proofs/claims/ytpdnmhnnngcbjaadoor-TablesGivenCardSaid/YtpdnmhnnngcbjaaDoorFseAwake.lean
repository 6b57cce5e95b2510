
/- The document's examples for tables answer true, in whatever world, and nothing that was there has turned. -/
import Derived.Test.YtpdnmhnnngcbjaaDoorFseFirst
import Derived.Test.YtpdnmhnnngcbjaaDoorNormAwake
namespace Go.Proofs.YtpdnmhnnngcbjaaDoor
open Go.RowKit

section
variable {l : Nat} {ps : List Int}
theorem tab_fine (h : MayF l ps) : Fine (tab l ps) := fun i hi => by
  obtain ⟨s, b, e, h1, h2, _, h4, h5⟩ := tab_bd h i hi
  have hl := h.l15
  have hp : 2 ^ l ≤ 2 ^ 15 := Nat.pow_le_pow_right (by omega) hl
  exact ⟨s, b, e, h1, h2, by omega, by omega⟩
theorem tab_sym (h : MayF l ps) (i : Nat) (hi : i < (tab l ps).length) : (tab l ps)[i].s = (((syms l ps).getD i 0 : Nat) : Int) := by
  rw [tab_get h i hi]
  rfl
theorem tab_has (h : MayF l ps) (y : Nat) (hy : 1 ≤ (wi (ps.getD y 0)).toNat) : ∃ i, ∃ hi : i < (tab l ps).length, (tab l ps)[i].s = (y : Int) := by
  rw [← h.count y] at hy
  have hm : y ∈ syms l ps := List.count_pos_iff.1 hy
  obtain ⟨i, hi, e⟩ := List.getElem_of_mem hm
  have hl : i < (tab l ps).length := by rw [tab_length h, ← h.syms_len]; exact hi
  refine ⟨i, hl, ?_⟩
  rw [tab_sym h i hl, getD_of _ _ _ hi, e]
theorem tab_hasnt (h : MayF l ps) (y : Nat) (hy : ¬ 1 ≤ (wi (ps.getD y 0)).toNat) : ∀ i (hi : i < (tab l ps).length), (tab l ps)[i].s ≠ (y : Int) := by
  intro i hi e
  rw [← h.count y] at hy
  apply hy
  rw [tab_sym h i hi] at e
  have hl : i < (syms l ps).length := by rw [tab_length h, ← h.syms_len] at hi; exact hi
  have hm : y ∈ syms l ps := by
    rw [getD_of _ _ _ hl] at e
    have := List.getElem_mem hl
    have e2 : (syms l ps)[i] = y := by omega
    rw [e2] at this
    exact this
  exact List.count_pos_iff.2 hm
end

end Go.Proofs.YtpdnmhnnngcbjaaDoor
