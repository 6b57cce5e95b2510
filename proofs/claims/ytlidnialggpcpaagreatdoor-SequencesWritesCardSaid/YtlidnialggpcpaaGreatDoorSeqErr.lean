
/- Errors of what a section tells; readS by its parts. -/
import Derived.Test.YtlidnialggpcpaaGreatDoorSeqTabs
namespace Go.Proofs.YtlidnialggpcpaaGreatDoor

theorem rts_le {m : Nat} {xs r : List UInt8} : ∀ {k : Nat} {l : List Tb}, rts m xs k = .ok (l, r) → r.length ≤ xs.length
  | 0, l, h => by
    injection h with h
    injection h with _ h2
    subst h2
    exact Nat.le_refl _
  | k + 1, l, h => by
    rw [rts] at h
    split at h
    · cases h
    · next l' r' hl =>
      split at h
      · cases h
      · injection h with h
        injection h with _ h2
        subst h2
        have := rts_le hl
        simp only [List.length_drop]
        omega
theorem body_nob {ys : List UInt8} {T : T3} {n : Nat} (h : noBack ys = true) : bodyS ys T n = .error 11 := by unfold bodyS; rw [if_pos h]
theorem countS_err {xs : List UInt8} {er : Int} (h : countS xs = .error er) : er ≠ 0 := by
  unfold countS at h
  split at h
  · injection h with h; omega
  · split at h
    · cases h
    · split at h
      · split at h
        · injection h with h; omega
        · cases h
      · split at h
        · cases h
        · injection h with h; omega
theorem readTs_err {m : Nat} {xs : List UInt8} {er : Int} (h : readTs m xs = .error er) : er ≠ 0 := by
  unfold readTs at h
  split at h
  · next e he => injection h with h; subst h; exact readT_err he
  · split at h
    · next e he => injection h with h; subst h; exact readT_err he
    · split at h
      · next e he => injection h with h; subst h; exact readT_err he
      · cases h
theorem readM_err {xs : List UInt8} {er : Int} (h : readM xs = .error er) : er ≠ 0 := by
  unfold readM at h
  split at h
  · injection h with h; omega
  · split at h
    · injection h with h; omega
    · exact readTs_err h
theorem readM_ok {xs r : List UInt8} {T : T3} (h : readM xs = .ok (T, r)) : T3Ok T ∧ r.length ≤ xs.length := by
  unfold readM at h
  split at h
  · cases h
  · split at h
    · cases h
    · have := readTs_ok h
      exact ⟨this.1, by simp only [List.length_cons]; omega⟩
theorem body_err {ys : List UInt8} {T : T3} {n : Nat} {er : Int} (h : bodyS ys T n = .error er) : er ≠ 0 := by
  unfold bodyS at h
  split at h
  · injection h with h; omega
  · split at h
    · injection h with h; omega
    · split at h
      · injection h with h; omega
      · cases h
theorem readS_eq (xs : List UInt8) : readS xs = (match countS xs with
    | .error e => .error e
    | .ok (n, r) => if n = 0 then (if 0 < r.length then .error 15 else .ok ([], none)) else
      match readM r with
      | .error e => .error e
      | .ok (T, r3) => match bodyS r3 T n with
        | .error e => .error e
        | .ok q => .ok (q, some T)) := by
  unfold readS
  cases countS xs with
  | error e => rfl
  | ok p =>
    obtain ⟨n, r⟩ := p
    dsimp only
    split
    · rfl
    · cases r with
      | nil => rfl
      | cons m r2 =>
        unfold readM
        dsimp only
        split <;> rfl
end Go.Proofs.YtlidnialggpcpaaGreatDoor
