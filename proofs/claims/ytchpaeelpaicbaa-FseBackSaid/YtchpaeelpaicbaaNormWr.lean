
/- The contracts of the program's writers: writePart, writeRow, noughtsAhead. -/
import Derived.Test.YtchpaeelpaicbaaNormMay
namespace Go.Proofs.Ytchpaeelpaicbaa
open Go.RowKit

theorem nz_zero (ps : List Int) (k : Nat) (h : k < nz ps) : ps[k]? = some 0 := by
  have hs := nz_split ps
  have hk : ps[k]? = (List.replicate (nz ps) 0 ++ ps.drop (nz ps))[k]? := by rw [← hs]
  rw [List.getElem?_append_left (by simpa using h), List.getElem?_replicate, if_pos h] at hk
  exact hk
theorem nz_stop : ∀ (ps : List Int), ps[nz ps]? ≠ some 0
  | [] => by simp
  | p :: r => by
    by_cases hp : p = 0
    · subst hp
      have e : nz (0 :: r) = nz r + 1 := by simp [nz]
      rw [e, List.getElem?_cons_succ]
      exact nz_stop r
    · have e : nz (p :: r) = 0 := by simp [nz, hp]
      rw [e, List.getElem?_cons_zero]
      simpa using hp

section
variable {w : World} {base g : Nat} {v : Value} {l : List Bool}
/-- What a Writer's method leaves when it has written the bits b. -/
def Wrote (w : World) (base g : Nat) (v : Value) (l b : List Bool) (e : Ending) (w' : World) : Prop :=
  e = .returned (.tuple #[]) ∧ ∃ v', WR w' base g v' (l ++ b) ∧ Foot w w' g v.ownBlock ∧ Near w v.ownBlock v'.ownBlock

theorem Foot.drawn {w w' : World} {g : Nat} {r : Option Nat} (n : Nat) (h : Foot (w.drewN n) w' g r) : Foot w w' g r := ⟨h.os, h.tape, h.output, h.size, h.block⟩
theorem Near.drawn {w : World} {r r' : Option Nat} (n : Nat) (h : Near (w.drewN n) r r') : Near w r r' := h
theorem WR.drawn (h : WR w base g v l) (n : Nat) : WR (w.drewN n) base g v l := h

theorem rowBits_three (r : Nat) : rowBits (r + 3) = low 3 2 ++ rowBits r := rfl
theorem rowBits_less {r : Nat} (h : r < 3) : rowBits r = low r 2 := by
  match r, h with
  | 0, _ => rfl
  | 1, _ => rfl
  | 2, _ => rfl
  | s + 3, h => omega
theorem rowBits_len (r : Nat) : (rowBits r).length ≤ r + 2 := by
  induction r using Nat.strongRecOn with
  | ind r ih =>
    by_cases h : r < 3
    · rw [rowBits_less h, low_length]; omega
    · obtain ⟨s, rfl⟩ : ∃ s, r = s + 3 := ⟨r - 3, by omega⟩
      have := ih s (by omega)
      rw [rowBits_three, List.length_append, low_length]
      omega
theorem partBits_len (p : Int) (left : Nat) (h : left ≤ 32768) : (partBits p left).length ≤ 16 := by
  have : ln left < 16 := ln_lt (by omega)
  unfold partBits
  split
  · rw [low_length]; omega
  · split <;> rw [low_length] <;> omega

end
end Go.Proofs.Ytchpaeelpaicbaa
