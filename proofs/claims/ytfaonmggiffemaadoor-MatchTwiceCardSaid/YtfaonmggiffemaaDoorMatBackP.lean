
/- The map of the places where bytes stood last, on lists: what holds of it round by round. -/
import Derived.Test.YtfaonmggiffemaaDoorMatPlain
namespace Go.Proofs.YtfaonmggiffemaaDoor
open Go.RowKit Go.Maps

abbrev Dm := DataW Unit
abbrev zI (z : Int) : Dm := .lit (.int .i64 z)
/-- Of the places from fr on, below k, each start is there, and says that it stood nowhere. -/
structure M1 (xs : List UInt8) (fr k : Nat) (D : Dm) : Prop where
  map : IsMap D
  keys : ∀ s, has D (kl s) = true ↔ ∃ p, fr ≤ p ∧ p < k ∧ st xs p = s
  vals : ∀ s, has D (kl s) = true → D.atKey (kl s) (zI 0) = zI (-1)
/-- The starts of the places from fr on, below pl, are there; each says where it stood last, below k. -/
structure M2 (xs : List UInt8) (fr pl k : Nat) (D : Dm) : Prop where
  map : IsMap D
  keys : ∀ s, has D (kl s) = true ↔ ∃ p, fr ≤ p ∧ p < pl ∧ st xs p = s
  vals : ∀ s, has D (kl s) = true → ∃ z : Int, D.atKey (kl s) (zI 0) = zI z ∧ ((z = -1 ∧ ∀ j, j < k → st xs j ≠ s) ∨ ∃ j : Nat, j < k ∧ z = j ∧ st xs j = s)
/-- What a place may say. -/
structure Bt (xs : List UInt8) (fr p v : Nat) : Prop where
  back : v ≠ 0 → v ≤ p ∧ p + 4 ≤ xs.length ∧ st xs (p - v) = st xs p
  some : ∀ q, fr ≤ p → p + 4 ≤ xs.length → q < p → st xs q = st xs p → v ≠ 0

section
variable {xs : List UInt8} {fr pl k : Nat} {D : Dm}
theorem M1.start (xs : List UInt8) (fr : Nat) : M1 xs fr fr (.map []) := by
  refine ⟨isMap_empty, fun s => ⟨fun h => (by simp [has] at h), fun ⟨p, h1, h2, _⟩ => by omega⟩, fun s h => (by simp [has] at h)⟩
theorem M1.step (h : M1 xs fr k D) (hk : fr ≤ k) : M1 xs fr (k + 1) (D.put (kl (st xs k)) (zI (-1))) := by
  refine ⟨h.map.put _ _, fun s => ?_, fun s hs => ?_⟩
  · by_cases e : s = st xs k
    · subst e
      exact ⟨fun _ => ⟨k, hk, by omega, rfl⟩, fun _ => has_put_same h.map (kl_key _) _⟩
    · rw [has_put_other (kl_ne e), h.keys]
      constructor
      · rintro ⟨p, h1, h2, h3⟩
        exact ⟨p, h1, by omega, h3⟩
      · rintro ⟨p, h1, h2, h3⟩
        refine ⟨p, h1, ?_, h3⟩
        rcases Nat.lt_or_ge p k with q | q
        · exact q
        · have : p = k := by omega
          subst this
          exact absurd h3.symm e
  · by_cases e : s = st xs k
    · subst e
      exact atKey_put_same h.map (kl_key _) _ _
    · rw [has_put_other (kl_ne e)] at hs
      rw [atKey_put_other (kl_ne e)]
      exact h.vals s hs
theorem M2.start (h : M1 xs fr k D) (hk : ∀ p, fr ≤ p → (p < k ↔ p < pl)) : M2 xs fr pl 0 D := by
  refine ⟨h.map, fun s => ?_, fun s hs => ⟨-1, h.vals s hs, .inl ⟨rfl, fun j hj => by omega⟩⟩⟩
  rw [h.keys]
  constructor
  · rintro ⟨p, h1, h2, h3⟩
    exact ⟨p, h1, (hk p h1).1 h2, h3⟩
  · rintro ⟨p, h1, h2, h3⟩
    exact ⟨p, h1, (hk p h1).2 h2, h3⟩
theorem M2.none (h : M2 xs fr pl k D) (hn : has D (kl (st xs k)) = false) : M2 xs fr pl (k + 1) D := by
  refine ⟨h.map, h.keys, fun s hs => ?_⟩
  have e : s ≠ st xs k := fun e => by rw [e, hn] at hs; cases hs
  obtain ⟨z, hz, h1 | ⟨j, h1, h2, h3⟩⟩ := h.vals s hs
  · refine ⟨z, hz, .inl ⟨h1.1, fun j hj => ?_⟩⟩
    rcases Nat.lt_or_ge j k with q | q
    · exact h1.2 j q
    · have : j = k := by omega
      subst this
      exact fun e' => e e'.symm
  · exact ⟨z, hz, .inr ⟨j, by omega, h2, h3⟩⟩
theorem M2.put (h : M2 xs fr pl k D) (hn : has D (kl (st xs k)) = true) : M2 xs fr pl (k + 1) (D.put (kl (st xs k)) (zI (k : Int))) := by
  refine ⟨h.map.put _ _, fun s => ?_, fun s hs => ?_⟩
  · by_cases e : s = st xs k
    · subst e
      rw [has_put_same h.map (kl_key _), ← h.keys, hn]
    · rw [has_put_other (kl_ne e), h.keys]
  · by_cases e : s = st xs k
    · subst e
      exact ⟨k, atKey_put_same h.map (kl_key _) _ _, .inr ⟨k, by omega, rfl, rfl⟩⟩
    · rw [has_put_other (kl_ne e)] at hs
      rw [atKey_put_other (kl_ne e)]
      obtain ⟨z, hz, h1 | ⟨j, h1, h2, h3⟩⟩ := h.vals s hs
      · refine ⟨z, hz, .inl ⟨h1.1, fun j hj => ?_⟩⟩
        rcases Nat.lt_or_ge j k with q | q
        · exact h1.2 j q
        · have : j = k := by omega
          subst this
          exact fun e' => e e'.symm
      · exact ⟨z, hz, .inr ⟨j, by omega, h2, h3⟩⟩
theorem Bt.far (fr : Nat) {p : Nat} (h : xs.length < p + 4) : Bt xs fr p 0 := ⟨fun h0 => absurd rfl h0, fun q _ h2 => by omega⟩
theorem Bt.none (h : M2 xs fr pl k D) (hk : k < pl) (hn : has D (kl (st xs k)) = false) : Bt xs fr k 0 :=
  ⟨fun h0 => absurd rfl h0, fun q h1 _ _ _ => by
    have := (h.keys (st xs k)).2 ⟨k, h1, hk, rfl⟩
    rw [hn] at this
    cases this⟩
theorem Bt.neg {z : Int} (h : M2 xs fr pl k D) (hn : has D (kl (st xs k)) = true) (hz : D.atKey (kl (st xs k)) (zI 0) = zI z) (h0 : z < 0) : Bt xs fr k 0 := by
  obtain ⟨y, hy, h1 | ⟨j, h1, h2, h3⟩⟩ := h.vals _ hn
  · exact ⟨fun h0 => absurd rfl h0, fun q _ _ hq hs => absurd hs (h1.2 q hq)⟩
  · rw [hz] at hy
    injection hy with hy
    injection hy with _ hy
    omega
theorem Bt.pos {z : Int} (h : M2 xs fr pl k D) (hn : has D (kl (st xs k)) = true) (hz : D.atKey (kl (st xs k)) (zI 0) = zI z) (h0 : 0 ≤ z) (hk : k + 4 ≤ xs.length) : ∃ j : Nat, z = j ∧ j < k ∧ Bt xs fr k (k - j) := by
  obtain ⟨y, hy, h1 | ⟨j, h1, h2, h3⟩⟩ := h.vals _ hn
  · rw [hz] at hy
    injection hy with hy
    injection hy with _ hy
    omega
  · rw [hz] at hy
    injection hy with hy
    injection hy with _ hy
    refine ⟨j, by omega, h1, fun _ => ⟨by omega, hk, by rw [show k - (k - j) = j by omega]; exact h3⟩, fun q _ _ _ _ => by omega⟩
/-- What all places say. -/
theorem Bk.of {B : List Nat} (hl : B.length = xs.length) (h : ∀ p, p < xs.length → Bt xs fr p (B.getD p 0)) : Bk xs fr B :=
  ⟨hl, fun p hp hn => (h p hp).back hn, fun p q h1 h2 h3 h4 => (h p (by omega)).some q h1 h2 h3 h4⟩
end
end Go.Proofs.YtfaonmggiffemaaDoor
