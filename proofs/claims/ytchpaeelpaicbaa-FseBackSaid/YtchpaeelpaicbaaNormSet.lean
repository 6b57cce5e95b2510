
/- The contracts of the program's shares and settle. -/
import Derived.Test.YtchpaeelpaicbaaNormOf
namespace Go.Proofs.Ytchpaeelpaicbaa
open Go.RowKit

theorem fill_set (l : List Int) (k n : Nat) (y : Int) (hk : k < n) (hl : l.length = n) (hy : l[k]? = some y) : (l.take k ++ List.replicate (n - k) 0).set k y = l.take (k + 1) ++ List.replicate (n - (k + 1)) 0 := by
  obtain ⟨m, hm⟩ : ∃ m, n - k = m + 1 := ⟨n - k - 1, by omega⟩
  have hlk : k < l.length := by omega
  rw [List.getElem?_eq_getElem hlk] at hy
  injection hy with hy
  rw [hm, List.replicate_succ, List.set_append_right _ _ (by simp; omega), List.take_succ_eq_append_getElem hlk, show n - (k + 1) = m by omega, hy]
  have : k - (l.take k).length = 0 := by simp; omega
  rw [this, List.set_cons_zero, List.append_assoc]
  rfl
theorem set_self (l : List Int) (k : Nat) (y : Int) (h : l[k]? = some y) : l.set k y = l := by
  apply List.ext_getElem?
  intro i
  rw [List.getElem?_set]
  split
  · next e => subst e; rw [h]; split
              · rfl
              · next hn => rw [List.getElem?_eq_none (by omega)] at h; cases h
  · rfl
theorem made_ints (L : Nat) : (madeCells #[Value.int .i64 0] L).toList = (List.replicate L (0 : Int)).map icel := by
  apply List.ext_getElem
  · simp [madeCells]
  · intro i h1 h2
    simp [madeCells, icel, Nat.mod_one]

theorem isum_le (l : List Int) (B : Int) (h : ∀ p ∈ l, 0 ≤ p ∧ p ≤ B) : 0 ≤ l.sum ∧ l.sum ≤ B * l.length := by
  induction l with
  | nil => simp
  | cons p r ih =>
    obtain ⟨i1, i2⟩ := ih fun q hq => h q (by simp [hq])
    have hp := h p (by simp)
    rw [List.sum_cons, List.length_cons]
    have : B * ((r.length + 1 : Nat) : Int) = B * r.length + B := by rw [Int.natCast_add, Int.mul_add]; simp
    omega
theorem isum_take (l : List Int) (k : Nat) (h : k < l.length) : (l.take (k + 1)).sum = (l.take k).sum + l[k] := by
  rw [List.take_succ_eq_append_getElem h, List.sum_append]
  simp
theorem OwE.dat {α : Type} {f : α → Value} {w : World} {u base n c : Nat} {A : Option Addr} {xs : List α} (h : OwE f w u base (.slice A n c) xs) : DatE f w base w.heap.size A xs := by
  obtain ⟨A', c', hv, _, hd⟩ := h.form
  injection hv with h1 _ _
  rw [h1]
  exact hd
theorem OwE.lt {α : Type} {f : α → Value} {w : World} {u base d n c : Nat} {xs : List α} (h : OwE f w u base (.slice (some ⟨d, 0, none⟩) n c) xs) : base ≤ d ∧ d < w.heap.size := h.block d rfl

/-- What settle leaves. -/
def Settled (w : World) (base d n c Z : Nat) (os : List Nat) (e : Ending) (w' : World) : Prop :=
  e = .returned (.tuple #[]) ∧ ∃ ps, OwE icel w' 3 base (.slice (some ⟨d, 0, none⟩) n c) ps ∧ Good os ps ∧ ps.sum = Z ∧ Stp w w' d

end Go.Proofs.Ytchpaeelpaicbaa
