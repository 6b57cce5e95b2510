
/- What is written backwards of symbols is read as it was: plain lemmas. Nothing of the program's code is named here. -/
import Derived.Test.YtchpaeelpaicbaaFseRead
namespace Go.Proofs.Ytchpaeelpaicbaa

/-- From state s on, which is one of the first symbol, these bits, read from the back, lead through states of all of them. -/
def Chain (es : List En) : List Nat → Nat → List Bool → Prop
  | [], _, _ => False
  | [y], s, bits => (∃ h : s < es.length, es[s].s = (y : Int)) ∧ bits = []
  | y :: y2 :: r, s, bits => ∃ (h : s < es.length) (b e x : Nat) (bits' : List Bool), es[s] = ⟨y, b, e⟩ ∧ x < 2 ^ b ∧ b ≤ 15 ∧ bits = bits' ++ low x b ∧ Chain es (y2 :: r) (e + x) bits'
theorem Chain.head {es : List En} {y : Nat} {r : List Nat} {s : Nat} {bits : List Bool} (h : Chain es (y :: r) s bits) : ∃ hs : s < es.length, es[s].s = (y : Int) := by
  cases r with
  | nil => exact h.1
  | cons y2 r =>
    obtain ⟨hs, b, e, x, bits', h1, _⟩ := h
    exact ⟨hs, by rw [h1]⟩
theorem Chain.back {es : List En} {y y2 : Nat} {r : List Nat} {st p b e : Nat} {bits : List Bool} (h : Chain es (y2 :: r) st bits) (hp : p < es.length) (hx : es[p] = ⟨y, b, e⟩) (hb : b ≤ 15) (h1 : e ≤ st) (h2 : st < e + 2 ^ b) :
    Chain es (y :: y2 :: r) p (bits ++ low (st - e) b) :=
  ⟨hp, b, e, st - e, bits, hx, by omega, hb, rfl, by rw [show e + (st - e) = st by omega]; exact h⟩
theorem lows_low (x b : Nat) (hb : b ≤ 15) : lows x (b : Int) = low x b := by
  unfold lows
  by_cases h : b = 0
  · subst h
    rw [if_neg (by simp [wid])]
    simp [low]
  · rw [if_pos (by simp [wid]; omega)]
    rfl
theorem take_closed' (l : List Bool) : (bitsOf (bytesOf (l ++ [true]))).take l.length = l := by
  have h := take_bits (l ++ [true])
  have h2 : ((bitsOf (bytesOf (l ++ [true]))).take (l ++ [true]).length).take l.length = (l ++ [true]).take l.length := by rw [h]
  rw [List.take_take, Nat.min_eq_left (by simp), List.take_left] at h2
  exact h2
theorem closed_back' (l : List Bool) : noBack (bytesOf (l ++ [true])) = false := by
  have hlen : (bytesOf (l ++ [true])).length = l.length / 8 + 1 := by rw [bytesOf_length]; simp; omega
  have hset : bitAt (bytesOf (l ++ [true])) l.length = true := by rw [bitAt_bytesOf]; simp [List.getD]
  unfold noBack
  rw [hlen]
  have hz : (bytesOf (l ++ [true])).getD (l.length / 8 + 1 - 1) 0 ≠ 0 := by
    intro e
    unfold bitAt at hset
    rw [show l.length / 8 + 1 - 1 = l.length / 8 by omega] at e
    rw [e] at hset
    simp at hset
  simp only [Bool.or_eq_false_iff, decide_eq_false_iff_not]
  exact ⟨by omega, hz⟩
/-- The last bits that were written are those that are read first. -/
theorem bread_last {xs : List UInt8} {bits bits' : List Bool} {x b : Nat} (h : (bitsOf xs).take bits.length = bits) (hb : bits = bits' ++ low x b) (hx : x < 2 ^ b) (h15 : b ≤ 15) :
    bread xs (bits.length : Int) (b : Int) = (x, (bits'.length : Int)) ∧ (bitsOf xs).take bits'.length = bits' := by
  have hl : bits.length = bits'.length + b := by rw [hb, List.length_append, low_length]
  refine ⟨?_, ?_⟩
  · unfold bread
    by_cases h0 : b = 0
    · subst h0
      rw [if_neg (by simp [wid])]
      have : x = 0 := by simp at hx; exact hx
      rw [this, hl]
      simp
    · rw [if_pos (by simp [wid]; omega)]
      have ht : there (bits.length : Int) (b : Int) = b := by unfold there; omega
      rw [ht, show ((bits.length : Int)).toNat - b = bits'.length by omega]
      have e : ((bitsOf xs).drop bits'.length).take b = low x b := by
        have h2 : ((bitsOf xs).take bits.length).drop bits'.length = low x b := by rw [h, hb, List.drop_left]
        rw [List.drop_take, hl, Nat.add_sub_cancel_left] at h2
        exact h2
      rw [e, num_low, Nat.mod_eq_of_lt hx, show ((b : Int)).toNat - b = 0 by omega, Nat.pow_zero, Nat.mul_one]
      congr 1
      omega
  · have h2 := congrArg (List.take bits'.length) h
    rw [List.take_take, Nat.min_eq_left (by omega), hb, List.take_left] at h2
    exact h2
end Go.Proofs.Ytchpaeelpaicbaa
