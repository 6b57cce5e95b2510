
/- The contracts of what the program's Of calls: tally, halves, scarcest, richest, shares, settle. -/
import Derived.Test.YtchpaeelpaicbaaNormOfP
import Derived.Test.YtchpaeelpaicbaaNormMay
import Derived.Deep.QuietTactic
import Derived.BigQuiet
namespace Go.Proofs.Ytchpaeelpaicbaa
open Go.RowKit

def ucel (n : Nat) : Value := .int .u32 (n : Int)
theorem sum_le (l : List Nat) (B : Nat) (h : ∀ o ∈ l, o ≤ B) : l.sum ≤ B * l.length := by
  induction l with
  | nil => simp
  | cons x r ih =>
    have h1 := h x (by simp)
    have h2 := ih fun o ho => h o (by simp [ho])
    rw [List.sum_cons, List.length_cons, Nat.mul_succ]
    omega
theorem take_snoc' {α : Type} (l : List α) (k : Nat) (h : k < l.length) : l.take (k + 1) = l.take k ++ [l[k]] := List.take_succ_eq_append_getElem h

theorem getD_eq {α : Type} (l : List α) (k : Nat) (d : α) (h : k < l.length) : l.getD k d = l[k] := by rw [List.getD_eq_getElem?_getD, List.getElem?_eq_getElem h]; rfl

/-- An index below n of which P holds; the world has drawn alone. -/
def Chosen (w : World) (n : Nat) (P : Nat → Prop) (e : Ending) (w' : World) : Prop := ∃ b q : Nat, e = .returned (.int .i64 (b : Int)) ∧ b < n ∧ P b ∧ w' = w.drewN q
/-- A product of a number of 32 bits and some halves, as 64 bits have it. -/
theorem mul_fits (a : Nat) (p : Int) (ha : a ≤ 2147483647) (h0 : 0 ≤ p) (h1 : p ≤ 200000001) : 0 ≤ (a : Int) * p ∧ IntKind.u64.wrap ((a : Int) * p) = (a : Int) * p := by
  obtain ⟨b, rfl⟩ := Int.eq_ofNat_of_zero_le h0
  have h := Nat.mul_le_mul ha (show b ≤ 200000001 by omega)
  have e : (a : Int) * (b : Int) = ((a * b : Nat) : Int) := by simp
  rw [e, IntKind.wrap_u64]
  omega

/-! Cells of a slice of the call's own. -/
theorem OwE.cellAt {α : Type} {f : α → Value} {w : World} {u base d n c : Nat} {xs : List α} (h : OwE f w u base (.slice (some ⟨d, 0, none⟩) n c) xs) (i : Nat) (hi : i < xs.length) :
    w.cell? ⟨d, i, none⟩ = some (f xs[i]) ∧ w.frozen? ⟨d, i, none⟩ = false := by
  have hc := World.ownsRow.cells h (g := d) rfl i (f xs[i]) (by simp [hi])
  have ha : (⟨d, 0, none⟩ : Addr).add i = ⟨d, i, none⟩ := by unfold Addr.add; split <;> simp_all
  rw [ha] at hc
  refine ⟨hc, ?_⟩
  rcases h.2 with ⟨e, _⟩ | ⟨g', cap, cur, e, _, hh, _⟩
  · cases e
  · injection e with e
    injection e with e
    injection e with e
    subst e
    simp [World.frozen?, hh]
theorem OwE.put {α : Type} {f : α → Value} {w : World} {u base d n c : Nat} {xs : List α} (h : OwE f w u base (.slice (some ⟨d, 0, none⟩) n c) xs) (i : Nat) (y : α) :
    OwE f (w.setCell ⟨d, i, none⟩ (f y)) u base (.slice (some ⟨d, 0, none⟩) n c) (xs.set i y) := by
  have hl := h.1
  rcases h.2 with ⟨e, _⟩ | ⟨g', cap, cur, e, hb, hh, hnc, hcm, hcs, ht⟩
  · cases e
  · injection e with e1 e2 e3
    injection e1 with e1
    injection e1 with e1
    subst e1
    subst e3
    refine ⟨by simp, .inr ⟨d, c, cur.setIfInBounds i (f y), by rw [List.length_set, ← e2], hb, Box.put hh i _, by simpa using hnc, hcm, by simpa using hcs, ?_⟩⟩
    rw [Array.toList_setIfInBounds, List.take_set, List.length_set, ht, List.map_set]
theorem OwE.len {α : Type} {f : α → Value} {w : World} {u base n c : Nat} {A : Option Addr} {xs : List α} (h : OwE f w u base (.slice A n c) xs) : xs.length = n := by
  obtain ⟨A', c', hv, _⟩ := h.form
  injection hv with _ h2 _
  exact h2.symm
theorem OwE.place {α : Type} {f : α → Value} {w : World} {u base : Nat} {v : Value} {xs : List α} (h : OwE f w u base v xs) (hx : 0 < xs.length) : ∃ d c, v = .slice (some ⟨d, 0, none⟩) xs.length c ∧ base ≤ d ∧ d < w.heap.size := by
  rcases h.2 with ⟨_, h0⟩ | ⟨g, cap, cur, rfl, hb, hh, _⟩
  · omega
  · exact ⟨g, cap, rfl, hb, (Array.getElem?_eq_some_iff.1 hh).1⟩
theorem OwE.drawn {α : Type} {f : α → Value} {w : World} {u base : Nat} {v : Value} {xs : List α} (h : OwE f w u base v xs) (q : Nat) : OwE f (w.drewN q) u base v xs := h
end Go.Proofs.Ytchpaeelpaicbaa
