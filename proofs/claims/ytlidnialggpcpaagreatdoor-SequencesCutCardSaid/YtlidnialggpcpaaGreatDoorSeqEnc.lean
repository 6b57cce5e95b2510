
/- The contract of the program's encode. -/
import Derived.Test.YtlidnialggpcpaaGreatDoorSeqEncP
import Derived.Test.YtlidnialggpcpaaGreatDoorSeqSmall
namespace Go.Proofs.YtlidnialggpcpaaGreatDoor
open Go.RowKit

/-- The rows as far as i sequences have been coded, and k values of the next. -/
def encR (qs : List Sq) (i k : Nat) : List Cq := (List.range qs.length).map fun j => if j < i then cqOf (qs.getD j ⟨0, 0, 0⟩) else if j = i then (cqOf (qs.getD j ⟨0, 0, 0⟩)).part k else ⟨⟨0, 0, 0⟩, ⟨0, 0, 0⟩, ⟨0, 0, 0⟩⟩
theorem encR_len (qs : List Sq) (i k : Nat) : (encR qs i k).length = qs.length := by simp [encR]
theorem encR_get (qs : List Sq) (i k j : Nat) (h : j < (encR qs i k).length) : (encR qs i k)[j] = if j < i then cqOf (qs.getD j ⟨0, 0, 0⟩) else if j = i then (cqOf (qs.getD j ⟨0, 0, 0⟩)).part k else ⟨⟨0, 0, 0⟩, ⟨0, 0, 0⟩, ⟨0, 0, 0⟩⟩ := by simp [encR]
theorem encR_set (qs : List Sq) (i k : Nat) (_hi : i < qs.length) : (encR qs i k).set i ((cqOf (qs.getD i ⟨0, 0, 0⟩)).part (k + 1)) = encR qs i (k + 1) := by
  apply List.ext_getElem
  · simp [encR]
  · intro j h1 h2
    rw [List.getElem_set]
    split
    · next e =>
      subst e
      rw [encR_get, if_neg (by omega), if_pos rfl]
    · next e =>
      rw [encR_get, encR_get, if_neg (show ¬ j = i from fun h => e h.symm), if_neg (show ¬ j = i from fun h => e h.symm)]
theorem encR_next (qs : List Sq) (i : Nat) : encR qs i 3 = encR qs (i + 1) 0 := by
  apply List.ext_getElem
  · simp [encR]
  · intro j h1 h2
    rw [encR_get, encR_get]
    by_cases h : j < i
    · rw [if_pos h, if_pos (by omega)]
    · rw [if_neg h]
      by_cases e : j = i
      · rw [if_pos e, if_pos (by omega), Cq.part_all]
      · rw [if_neg e, if_neg (by omega)]
        by_cases e2 : j = i + 1
        · rw [if_pos e2, Cq.part_zero]
        · rw [if_neg e2]
theorem encR_zero (qs : List Sq) : encR qs 0 0 = List.replicate qs.length ⟨⟨0, 0, 0⟩, ⟨0, 0, 0⟩, ⟨0, 0, 0⟩⟩ := by
  apply List.ext_getElem
  · simp [encR]
  · intro j h1 h2
    rw [encR_get, if_neg (by omega)]
    split
    · rw [Cq.part_zero]; simp
    · simp
theorem encR_all (qs : List Sq) : encR qs qs.length 0 = qs.map cqOf := by
  apply List.ext_getElem
  · simp [encR]
  · intro j h1 h2
    have hj : j < qs.length := by rw [encR_len] at h1; exact h1
    rw [encR_get, if_pos hj, List.getD_eq_getElem?_getD, List.getElem?_eq_getElem hj]
    simp
/-- Three cells of a coded sequence are stored. -/
theorem OwR.putC {w : World} {u base d n c : Nat} {rs : List Cq} (h : OwR 9 Cq.list w u base (.slice (some ⟨d, 0, none⟩) n c) rs) (j k : Nat) (hj : j < rs.length) (hk : k < 3) (q : Cq) (hq : rs[j] = q.part k) :
    OwR 9 Cq.list (((w.setCell ⟨d, j * 9 + k * 3, none⟩ (.int .i64 ((q.at k).c : Int))).setCell ⟨d, j * 9 + k * 3 + 1, none⟩ (.int .u32 ((q.at k).x : Int))).setCell ⟨d, j * 9 + k * 3 + 2, none⟩ (.int .i64 ((q.at k).b : Int))) u base (.slice (some ⟨d, 0, none⟩) n c) (rs.set j (q.part (k + 1))) := by
  have hs := q.part_step hk
  obtain ⟨q1, h1e⟩ : ∃ q1 : Cq, q1.list = (q.part k).list.set (k * 3) (.int .i64 ((q.at k).c : Int)) := by
    rcases (show k = 0 ∨ k = 1 ∨ k = 2 by omega) with rfl | rfl | rfl
    · exact ⟨⟨⟨q.l.c, 0, 0⟩, ⟨0, 0, 0⟩, ⟨0, 0, 0⟩⟩, rfl⟩
    · exact ⟨⟨q.l, ⟨q.o.c, 0, 0⟩, ⟨0, 0, 0⟩⟩, rfl⟩
    · exact ⟨⟨q.l, q.o, ⟨q.m.c, 0, 0⟩⟩, rfl⟩
  obtain ⟨q2, h2e⟩ : ∃ q2 : Cq, q2.list = q1.list.set (k * 3 + 1) (.int .u32 ((q.at k).x : Int)) := by
    rw [h1e]
    rcases (show k = 0 ∨ k = 1 ∨ k = 2 by omega) with rfl | rfl | rfl
    · exact ⟨⟨⟨q.l.c, q.l.x, 0⟩, ⟨0, 0, 0⟩, ⟨0, 0, 0⟩⟩, rfl⟩
    · exact ⟨⟨q.l, ⟨q.o.c, q.o.x, 0⟩, ⟨0, 0, 0⟩⟩, rfl⟩
    · exact ⟨⟨q.l, q.o, ⟨q.m.c, q.m.x, 0⟩⟩, rfl⟩
  have h1 := h.put Cq.list_len j (k * 3) hj (by omega) (.int .i64 ((q.at k).c : Int)) q1 (by rw [hq]; exact h1e)
  have h2 := h1.put Cq.list_len j (k * 3 + 1) (by simpa using hj) (by omega) (.int .u32 ((q.at k).x : Int)) q2 (by rw [List.getElem_set_self]; exact h2e)
  have h3 := h2.put Cq.list_len j (k * 3 + 2) (by simpa using hj) (by omega) (.int .i64 ((q.at k).b : Int)) (q.part (k + 1)) (by rw [List.getElem_set_self, h2e, h1e]; exact hs)
  rw [List.set_set, List.set_set] at h3
  rw [Nat.add_assoc (j * 9) (k * 3) 1, Nat.add_assoc (j * 9) (k * 3) 2]
  exact h3
theorem OwR.cellsC {w : World} {u base d n c : Nat} {rs : List Cq} (h : OwR 9 Cq.list w u base (.slice (some ⟨d, 0, none⟩) n c) rs) (j k : Nat) (hj : j < rs.length) (hk : k < 3) :
    (∃ v0 v1 v2, w.cell? ⟨d, j * 9 + k * 3, none⟩ = some v0 ∧ w.cell? ⟨d, j * 9 + k * 3 + 1, none⟩ = some v1 ∧ w.cell? ⟨d, j * 9 + k * 3 + 2, none⟩ = some v2) ∧
    w.frozen? ⟨d, j * 9 + k * 3, none⟩ = false ∧ w.frozen? ⟨d, j * 9 + k * 3 + 1, none⟩ = false ∧ w.frozen? ⟨d, j * 9 + k * 3 + 2, none⟩ = false := by
  have hc := rs[j].cell hk
  have e : ∀ i : Nat, (rs[j].list)[i]? = (rs[j].cells)[i]? := fun i => by show (rs[j].cells.toList)[i]? = _; rw [Array.getElem?_toList]
  have h0 := h.cellAt Cq.list_len j (k * 3) hj (by omega) _ ((e _).trans hc.1)
  have h1 := h.cellAt Cq.list_len j (k * 3 + 1) hj (by omega) _ ((e _).trans hc.2.1)
  have h2 := h.cellAt Cq.list_len j (k * 3 + 2) hj (by omega) _ ((e _).trans hc.2.2)
  rw [Nat.add_assoc (j * 9) (k * 3) 1, Nat.add_assoc (j * 9) (k * 3) 2]
  exact ⟨⟨_, _, _, h0.1, h1.1, h2.1⟩, h0.2, h1.2, h2.2⟩
end Go.Proofs.YtlidnialggpcpaaGreatDoor
