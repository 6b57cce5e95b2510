
/- How often each code stands in a table, and how many bits it has there; arrays of 53 numbers. Nothing of the program's code is named here. -/
import Derived.Test.YtpdnmhnnngcbjaaDoorTabPlain
namespace Go.Proofs.YtpdnmhnnngcbjaaDoor
open Go.RowKit

/-- An array of 53 numbers. -/
def a53 (k : IntKind) (f : Nat → Nat) : Array Value := ((List.range 53).map fun s => Value.int k (f s : Int)).toArray
theorem a53_size (k : IntKind) (f : Nat → Nat) : (a53 k f).size = 53 := by simp [a53]
theorem a53_get (k : IntKind) (f : Nat → Nat) (s : Nat) (h : s < 53) : (a53 k f)[s]? = some (.int k (f s : Int)) := by simp [a53, h]
theorem a53_one (k : IntKind) (f : Nat → Nat) : (a53 k f).all (·.oneCell') = true := by
  rw [Array.all_eq_true']
  intro x hx
  simp only [a53, List.mem_toArray, List.mem_map] at hx
  obtain ⟨s, _, rfl⟩ := hx
  rfl
theorem a53_set (k : IntKind) (f : Nat → Nat) (s x : Nat) : (a53 k f).setIfInBounds s (.int k (x : Int)) = a53 k (fun i => if i = s then x else f i) := by
  apply Array.ext'
  unfold a53
  simp only [List.setIfInBounds_toArray]
  apply List.ext_getElem
  · simp
  intro j h1 h2
  rw [List.getElem_set]
  simp only [List.getElem_map, List.getElem_range]
  by_cases hj : s = j
  · subst hj; simp
  · rw [if_neg hj, if_neg (fun e => hj e.symm)]
theorem a53_cells (k : IntKind) (f : Nat → Nat) : (Value.agg (a53 k f)).cells = a53 k f := by
  first | rfl | simp [Value.cells, a53]

/-- How many of the first j states have symbol s, and how many bits these have. -/
def stF (es : List En) : Nat → Nat → Nat
  | 0, _ => 0
  | j + 1, s => stF es j s + if (es.getD j ⟨0, 0, 0⟩).s = (s : Int) then 1 else 0
def btF (es : List En) : Nat → Nat → Nat
  | 0, _ => 0
  | j + 1, s => btF es j s + if (es.getD j ⟨0, 0, 0⟩).s = (s : Int) then (es.getD j ⟨0, 0, 0⟩).b.toNat else 0
theorem stF_le (es : List En) : ∀ j s, stF es j s ≤ j
  | 0, _ => Nat.le_refl _
  | j + 1, s => by
    have := stF_le es j s
    rw [stF]
    split <;> omega
theorem btF_le (es : List En) (hb : ∀ i, (es.getD i ⟨0, 0, 0⟩).b ≤ 15) : ∀ j s, btF es j s ≤ 15 * j
  | 0, _ => Nat.le_refl _
  | j + 1, s => by
    have := btF_le es hb j s
    have := hb j
    rw [btF]
    split <;> omega
theorem stF_pos (es : List En) : ∀ j s, 0 < stF es j s ↔ ∃ i, i < j ∧ (es.getD i ⟨0, 0, 0⟩).s = (s : Int)
  | 0, s => by simp [stF]
  | j + 1, s => by
    have ih := stF_pos es j s
    rw [stF]
    constructor
    · intro h
      by_cases h0 : (es.getD j ⟨0, 0, 0⟩).s = (s : Int)
      · exact ⟨j, by omega, h0⟩
      · rw [if_neg h0] at h
        obtain ⟨i, h1, h2⟩ := ih.1 (by omega)
        exact ⟨i, by omega, h2⟩
    · rintro ⟨i, h1, h2⟩
      by_cases h0 : i = j
      · subst h0
        rw [if_pos h2]
        omega
      · have := ih.2 ⟨i, by omega, h2⟩
        omega
theorem stF_step (es : List En) (j s : Nat) (hs : (es.getD j ⟨0, 0, 0⟩).s = (s : Int)) : (fun i => if i = s then stF es j s + 1 else stF es j i) = stF es (j + 1) := by
  funext i
  rw [stF]
  by_cases h : i = s
  · subst h
    rw [if_pos rfl, if_pos hs]
  · rw [if_neg h, if_neg (fun q => h (by omega))]
    rfl
theorem btF_step (es : List En) (j s b : Nat) (hs : (es.getD j ⟨0, 0, 0⟩).s = (s : Int)) (hb : (es.getD j ⟨0, 0, 0⟩).b = (b : Int)) : (fun i => if i = s then btF es j s + b else btF es j i) = btF es (j + 1) := by
  funext i
  rw [btF]
  by_cases h : i = s
  · subst h
    rw [if_pos rfl, if_pos hs, hb]
    rfl
  · rw [if_neg h, if_neg (fun q => h (by omega))]
    rfl

/-- A table's entries that a way may have: symbols below 53, bits up to 15. -/
def Small (es : List En) : Prop := ∀ i, ∃ s b : Nat, (es.getD i ⟨0, 0, 0⟩).s = (s : Int) ∧ (es.getD i ⟨0, 0, 0⟩).b = (b : Int) ∧ s < 53 ∧ b ≤ 15
/-- Each code that is there is a symbol. -/
def HasAll (es : List En) (f : Nat → Nat) : Prop := ∀ s, s < 53 → 0 < f s → 0 < stF es es.length s

/-- What codes from i on, k of them, have behind s bits. -/
def cvT (es : List En) (f : Nat → Nat) : Nat → Nat → Int → Int
  | 0, _, s => s
  | k + 1, i, s => if f i = 0 then cvT es f k (i + 1) s else if stF es es.length i = 0 then 9223372036854775807 else cvT es f k (i + 1) (s + ((f i * btF es es.length i / stF es es.length i : Nat) : Int))
theorem cvT_lt {es : List En} {f : Nat → Nat} (hs : Small es) (hn : es.length ≤ 65536) (hf : ∀ s, f s ≤ 4294967295) (k : Nat) : ∀ (i : Nat) (s : Int), s ≤ 10000000 + (i : Int) * 4503599627370496 → i + k ≤ 53 → (cvT es f k i s < 9223372036854775807 ↔ ∀ y, i ≤ y → y < i + k → 0 < f y → 0 < stF es es.length y) := by
  induction k with
  | zero =>
    intro i s h h2
    rw [cvT]
    exact ⟨fun _ y h3 h4 => by omega, fun _ => by omega⟩
  | succ k ih =>
    intro i s h h2
    rw [cvT]
    have hbt := btF_le es (fun i => by obtain ⟨_, b', _, h, _, h'⟩ := hs i; omega) es.length i
    have hP := Nat.mul_le_mul (hf i) (show btF es es.length i ≤ 983040 by omega)
    have hQ := Nat.div_le_self (f i * btF es es.length i) (stF es es.length i)
    generalize f i * btF es es.length i / stF es es.length i = Q at *
    generalize f i * btF es es.length i = M at *
    have hM : (Q : Int) ≤ 4503599627370496 := by omega
    have hnx : ∀ s' : Int, s' ≤ s + 4503599627370496 → s' ≤ 10000000 + ((i + 1 : Nat) : Int) * 4503599627370496 := fun s' h' => by omega
    by_cases h0 : f i = 0
    · rw [if_pos h0, ih (i + 1) s (hnx s (by omega)) (by omega)]
      constructor
      · intro q y h3 h4 h5
        by_cases e : y = i
        · subst e; omega
        · exact q y (by omega) (by omega) h5
      · intro q y h3 h4 h5
        exact q y (by omega) (by omega) h5
    · rw [if_neg h0]
      by_cases h1 : stF es es.length i = 0
      · rw [if_pos h1]
        constructor
        · intro q; exact absurd q (Int.lt_irrefl _)
        · intro q
          have := q i (Nat.le_refl _) (by omega) (by omega)
          omega
      · rw [if_neg h1, ih (i + 1) _ (hnx _ (by omega)) (by omega)]
        constructor
        · intro q y h3 h4 h5
          by_cases e : y = i
          · subst e; omega
          · exact q y (by omega) (by omega) h5
        · intro q y h3 h4 h5
          exact q y (by omega) (by omega) h5
end Go.Proofs.YtpdnmhnnngcbjaaDoor
