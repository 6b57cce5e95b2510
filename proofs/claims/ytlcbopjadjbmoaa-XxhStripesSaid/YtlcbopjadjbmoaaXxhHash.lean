/- A sum that grows, on lists: what its numbers and its rest are; a step of a piece. Nothing of the program's code is named here. -/
import Derived.Test.YtlcbopjadjbmoaaXxhPlain
import Derived.Test.YtlcbopjadjbmoaaXxhCells
import Derived.ArgAppend
namespace Go.Proofs.Ytlcbopjadjbmoaa
open Go.RowKit

theorem stripe_drop (v : V4) (bs : List UInt8) (p : Nat) : stripe v bs p = stripe v (bs.drop p) 0 := by
  unfold stripe
  rw [num_drop, num_drop, num_drop, show num bs p 8 = num (bs.drop p) 0 8 by rw [← num_drop]; rfl]
theorem num_app (bs ys : List UInt8) (q n : Nat) (h : q + n ≤ bs.length) : num (bs ++ ys) q n = num bs q n := by
  unfold num
  rw [List.drop_append_of_le_length (by omega), List.take_append_of_le_length (by simp; omega)]
theorem stripe_app (v : V4) (bs ys : List UInt8) (p : Nat) (h : p + 32 ≤ bs.length) : stripe v (bs ++ ys) p = stripe v bs p := by
  unfold stripe
  rw [num_app _ _ _ _ (by omega), num_app _ _ _ _ (by omega), num_app _ _ _ _ (by omega), num_app _ _ _ _ (by omega)]
theorem stripes_app (bs ys : List UInt8) (n : Nat) (h : 32 * n ≤ bs.length) : stripes (bs ++ ys) n = stripes bs n := by
  induction n with
  | zero => rfl
  | succ n ih => rw [stripes, stripes, ih (by omega), stripe_app _ _ _ _ (by omega)]

/-- The sum's cells. -/
def hcells (v : V4) (r : List UInt8) (n : Nat) : Array Value := (v.cells.toList ++ (r.map cel ++ [Value.int .u64 (n : Int)])).toArray
/-- r is a rest of the bytes so far. -/
def Rst (xs r : List UInt8) : Prop := r.length = 32 ∧ r.take (xs.length % 32) = xs.drop (32 * (xs.length / 32))
/-- A rest with the piece p laid in from o on. -/
def lay (r : List UInt8) (o : Nat) (p : List UInt8) : List UInt8 := r.take o ++ p ++ r.drop (o + p.length)

theorem lay_length (r p : List UInt8) (o : Nat) (h : o + p.length ≤ r.length) : (lay r o p).length = r.length := by
  simp [lay]
  omega
theorem Rst.laid {xs r : List UInt8} (h : Rst xs r) (p : List UInt8) :
    (lay r (xs.length % 32) p).take (xs.length % 32 + p.length) = (xs ++ p).drop (32 * (xs.length / 32)) := by
  obtain ⟨hl, ht⟩ := h
  unfold lay
  rw [List.take_append_of_le_length (by simp; omega), List.take_of_length_le (by simp; omega), List.drop_append_of_le_length (by omega), ht]
/-- A piece that makes no stripe whole. -/
theorem Rst.part {xs r p : List UInt8} (h : Rst xs r) (hp : xs.length % 32 + p.length < 32) : Rst (xs ++ p) (lay r (xs.length % 32) p) ∧ stOf (xs ++ p) = stOf xs := by
  have hl := h.laid p
  have e1 : (xs ++ p).length % 32 = xs.length % 32 + p.length := by rw [List.length_append]; omega
  have e2 : (xs ++ p).length / 32 = xs.length / 32 := by rw [List.length_append]; omega
  refine ⟨⟨by rw [lay_length _ _ _ (by rw [h.1]; omega), h.1], by rw [e1, e2, hl]⟩, ?_⟩
  unfold stOf
  rw [e2, stripes_app _ _ _ (by omega)]
/-- A piece that makes a stripe whole. -/
theorem Rst.whole {xs r p : List UInt8} (h : Rst xs r) (hp : xs.length % 32 + p.length = 32) : Rst (xs ++ p) (lay r (xs.length % 32) p) ∧ stOf (xs ++ p) = stripe (stOf xs) (lay r (xs.length % 32) p) 0 := by
  have hl := h.laid p
  have e1 : (xs ++ p).length % 32 = 0 := by rw [List.length_append]; omega
  have e2 : (xs ++ p).length / 32 = xs.length / 32 + 1 := by rw [List.length_append]; omega
  have hr : (lay r (xs.length % 32) p).length = 32 := by rw [lay_length _ _ _ (by rw [h.1]; omega), h.1]
  refine ⟨⟨hr, ?_⟩, ?_⟩
  · rw [e1, e2, List.take_zero, List.drop_eq_nil_of_le (by rw [List.length_append]; omega)]
  · unfold stOf
    rw [e2, stripes, stripes_app _ _ _ (by omega), stripe_drop, ← hl, hp, List.take_of_length_le (by omega)]

theorem hcells_size (v : V4) (r : List UInt8) (n : Nat) (h : r.length = 32) : (hcells v r n).size = 37 := by
  simp [hcells, V4.cells, h]
theorem hcells_last (v : V4) (r : List UInt8) (n : Nat) (h : r.length = 32) : (hcells v r n)[36]? = some (.int .u64 (n : Int)) := by
  simp [hcells, V4.cells, h]
theorem hcells_low (v : V4) (r : List UInt8) (n i : Nat) (h : i < 4) : (hcells v r n)[i]? = v.cells[i]? := by
  unfold hcells
  rw [List.getElem?_toArray, List.getElem?_append_left (by simpa [V4.cells] using h)]
  simp
theorem hcells_mid (v : V4) (r : List UInt8) (n i : Nat) (h : i < r.length) : (hcells v r n)[4 + i]? = some (cel (r.getD i 0)) := by
  unfold hcells
  rw [List.getElem?_toArray, List.getElem?_append_right (by simp [V4.cells]), show 4 + i - v.cells.toList.length = i by simp [V4.cells], List.getElem?_append_left (by simpa using h)]
  simp [List.getD, h]
theorem hcells_over (v : V4) (r : List UInt8) (n o : Nat) (p : List UInt8) (h : o + p.length ≤ r.length) : over (hcells v r n) (4 + o) (p.map cel) = hcells v (lay r o p) n := by
  apply Array.ext'
  have e8 : v.cells.toList.length = 4 := rfl
  unfold over hcells lay
  simp only [List.map_append, List.map_take, List.map_drop, List.length_map]
  rw [show (4 + o) = v.cells.toList.length + o by rw [e8]]
  rw [List.take_length_add_append, Nat.add_assoc, List.drop_length_add_append, List.take_append_of_le_length (by simp; omega), List.drop_append_of_le_length (by simp; omega)]
  simp only [List.append_assoc]
theorem hcells_count (v : V4) (r : List UInt8) (n m : Nat) (h : r.length = 32) : (hcells v r n).setIfInBounds 36 (.int .u64 (m : Int)) = hcells v r m := by
  apply Array.ext'
  unfold hcells
  simp only [List.setIfInBounds_toArray]
  rw [List.set_append_right _ _ (by simp [V4.cells]), show 36 - v.cells.toList.length = 32 by simp [V4.cells], List.set_append_right _ _ (by simp [h])]
  simp [h]
theorem hcells_one (v : V4) (r : List UInt8) (n : Nat) : (hcells v r n).all (·.oneCell') = true := by
  rw [Array.all_eq_true_iff_forall_mem]
  intro x hx
  simp only [hcells, List.mem_toArray, List.mem_append, List.mem_singleton] at hx
  rcases hx with hx | hx | rfl
  · exact (Array.all_eq_true_iff_forall_mem.1 (V4.cells_one v)) x (by simpa using hx)
  · exact one_cel r x hx
  · rfl
theorem hcells_over_state (v u : V4) (r : List UInt8) (n : Nat) : over (hcells v r n) 0 u.cells.toList = hcells u r n := by
  apply Array.ext'
  unfold over hcells
  rw [List.take_zero, List.nil_append, Nat.zero_add, show u.cells.toList.length = v.cells.toList.length from rfl, List.drop_left]
theorem hcells_src {w : World} {g n : Nat} {t : TypeId} {v : V4} {r : List UInt8} (hb : Box w g t (hcells v r n)) : ∀ j x, v.cells.toList[j]? = some x → w.cell? ⟨g, 0 + j, none⟩ = some x := by
  intro j x hx
  have hj : j < 4 := by
    rcases Nat.lt_or_ge j 4 with h1 | h1
    · exact h1
    · rw [List.getElem?_eq_none (by simpa [V4.cells] using h1)] at hx; cases hx
  rw [Nat.zero_add, hb.cell, hcells_low _ _ _ _ hj]
  simpa using hx
theorem range_of_box {w : World} {g n : Nat} {t : TypeId} {v : V4} {R : List UInt8} (hb : Box w g t (hcells v R n)) : w.rangeAt g 4 (R.map cel) := by
  intro j x hx
  have hj : j < R.length := by
    rcases Nat.lt_or_ge j R.length with h1 | h1
    · exact h1
    · rw [List.getElem?_eq_none (by simpa using h1)] at hx; cases hx
  refine ((hb.cell (4 + j)).trans (hcells_mid _ _ _ _ hj)).trans ?_
  rw [← hx]
  simp [List.getD, hj]
/-- The rest's first n bytes, as a slice. -/
theorem dat_rest {w : World} {g m : Nat} {t : TypeId} {v : V4} {r : List UInt8} (h : Box w g t (hcells v r m)) (n : Nat) (hn : n ≤ r.length) : Dat true w 0 w.heap.size (some ⟨g, 4, none⟩) (r.take n) := fun _ =>
  ⟨g, 4, rfl, Nat.zero_le _, h.lt, fun j hj => by
    have hj' : j < n := by simp at hj; omega
    rw [h.cell (4 + j), hcells_mid _ _ _ _ (by omega)]
    simp [List.getD, hj'], fun _ j => h.free j⟩

/-- A source's cells, as a copy reads them. -/
theorem dat_src {own : Bool} {w : World} {lo hi : Nat} {A : Addr} {ys : List UInt8} (h : Dat own w lo hi (some A) ys) (k : Nat) : ∀ j v, ((ys.take k).map cel)[j]? = some v → w.cell? (A.add j) = some v := by
  intro j v hv
  have hj : j < k ∧ j < ys.length := by
    rcases Nat.lt_or_ge j ((ys.take k).map cel).length with h1 | h1
    · simp at h1; omega
    · rw [List.getElem?_eq_none h1] at hv; cases hv
  obtain ⟨d, o, hA, _, _, hc, _⟩ := h (by omega)
  injection hA with hA
  subst hA
  have ha : (⟨d, o, none⟩ : Addr).add j = ⟨d, o + j, none⟩ := by unfold Addr.add; split <;> simp_all
  rw [ha, hc j hj.2, ← hv]
  simp [List.getD, hj.1, hj.2]
theorem Dat.some_ {own : Bool} {w : World} {lo hi : Nat} {A : Option Addr} {ys : List UInt8} (h : Dat own w lo hi A ys) (hy : 0 < ys.length) : ∃ a, A = some a := by
  obtain ⟨d, o, hA, _⟩ := h hy
  exact ⟨_, hA⟩
end Go.Proofs.Ytlcbopjadjbmoaa
