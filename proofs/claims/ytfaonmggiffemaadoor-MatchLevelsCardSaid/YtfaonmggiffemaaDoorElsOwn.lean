
/- Cells of a slice of the call's own, of elements of one cell each: what they hold, storing, making. Nothing of the program is named here. -/
import Derived.Test.YtfaonmggiffemaaDoorEls
namespace Go.Proofs.YtfaonmggiffemaaDoor
open Go.RowKit

section
variable {α : Type} {f : α → Value} {w w' : World} {u base B d n c : Nat} {v : Value} {A : Option Addr} {xs : List α}
theorem OwE.cellA (h : OwE f w u base (.slice (some ⟨d, 0, none⟩) n c) xs) (i : Nat) (hi : i < xs.length) : w.cell? ⟨d, i, none⟩ = some (f xs[i]) ∧ w.frozen? ⟨d, i, none⟩ = false := by
  have hc := World.ownsRow.cells h (g := d) rfl i (f xs[i]) (by simp [hi])
  have ha : (⟨d, 0, none⟩ : Addr).add i = ⟨d, i, none⟩ := by unfold Addr.add; split <;> simp_all
  rw [ha] at hc
  refine ⟨hc, ?_⟩
  rcases h.2 with ⟨e, _⟩ | ⟨g', cap, cur, e, _, hh, _⟩
  · cases e
  · injection e with e
    injection e with e
    injection e with e
    subst e
    simp [World.frozen?, hh]
theorem OwE.putA (h : OwE f w u base (.slice (some ⟨d, 0, none⟩) n c) xs) (i : Nat) (y : α) : OwE f (w.setCell ⟨d, i, none⟩ (f y)) u base (.slice (some ⟨d, 0, none⟩) n c) (xs.set i y) := by
  have hl := h.1
  rcases h.2 with ⟨e, _⟩ | ⟨g', cap, cur, e, hb, hh, hnc, hcm, hcs, ht⟩
  · cases e
  · injection e with e1 e2 e3
    injection e1 with e1
    injection e1 with e1
    subst e1
    subst e3
    refine ⟨by simp, .inr ⟨d, c, cur.setIfInBounds i (f y), by rw [List.length_set, ← e2], hb, Box.put hh i _, by simpa using hnc, hcm, by simpa using hcs, ?_⟩⟩
    rw [Array.toList_setIfInBounds, List.take_set, List.length_set, ht, List.map_set]
theorem OwE.lenA (h : OwE f w u base (.slice A n c) xs) : xs.length = n := by
  obtain ⟨A', c', hv, _⟩ := h.form
  injection hv with _ h2 _
  exact h2.symm
theorem OwE.capA (h : OwE f w u base (.slice A n c) xs) : n ≤ c := by
  obtain ⟨A', c', hv, hc, _⟩ := h.form
  injection hv with _ h2 h3
  omega
theorem OwE.datA (h : OwE f w u base (.slice A n c) xs) : DatE f w base w.heap.size A xs := by
  obtain ⟨A', c', hv, hc, hd⟩ := h.form
  injection hv with h1 h2 h3
  subst h1
  exact hd
theorem OwE.belowA (h : OwE f w u base v xs) (hb : Below B w w') (hB : w.heap.size ≤ B) : OwE f w' u base v xs :=
  h.keep fun k hk => hb.block k (by have := (h.block k hk).2; omega)
/-- A row that has just been made, all of one element. -/
theorem OwE.madeA {z : α} {V : Value} (h : w.ownsRow base u 1 V n (madeCells #[f z] n).toList) : OwE f w u base V (List.replicate n z) := by
  unfold OwE
  rw [List.length_replicate, List.map_replicate]
  rw [toList_madeCells_one] at h
  exact h
end
end Go.Proofs.YtfaonmggiffemaaDoor
