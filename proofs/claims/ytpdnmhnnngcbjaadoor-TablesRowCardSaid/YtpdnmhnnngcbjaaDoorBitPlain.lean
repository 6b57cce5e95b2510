
/- Plain lemmas for the bits layer: bits of bytes, numbers of bits, bytes of bits. Nothing of the program is named here. -/
import Derived.Test.YtpdnmhnnngcbjaaDoorCurPlain
namespace Go.Proofs.YtpdnmhnnngcbjaaDoor
open Go.RowKit

/-- Bit i of bytes, those of the first byte first, the lowest of each byte first. -/
def bitAt (xs : List UInt8) (i : Nat) : Bool := (xs.getD (i / 8) 0).toNat.testBit (i % 8)
/-- The bits of bytes. -/
def bitsOf (xs : List UInt8) : List Bool := (List.range (8 * xs.length)).map (bitAt xs)
/-- The number of bits, the first one the lowest. -/
def num : List Bool → Nat
  | [] => 0
  | b :: r => b.toNat + 2 * num r
/-- The lowest n bits of x. -/
def low (x n : Nat) : List Bool := (List.range n).map x.testBit
/-- The bytes of bits, filled up with noughts. -/
def bytesOf (l : List Bool) : List UInt8 := (List.range ((l.length + 7) / 8)).map fun i => UInt8.ofNat (num ((l.drop (8 * i)).take 8))

theorem bitsOf_length (xs : List UInt8) : (bitsOf xs).length = 8 * xs.length := by simp [bitsOf]
theorem low_length (x n : Nat) : (low x n).length = n := by simp [low]
theorem bytesOf_length (l : List Bool) : (bytesOf l).length = (l.length + 7) / 8 := by simp [bytesOf]
theorem bitsOf_get (xs : List UInt8) (i : Nat) (h : i < (bitsOf xs).length) : (bitsOf xs)[i] = bitAt xs i := by simp [bitsOf]
theorem low_succ (x n : Nat) : low x (n + 1) = low x n ++ [x.testBit n] := by simp [low, List.range_succ]

theorem toNat_lt2 (b : Bool) : b.toNat < 2 := by cases b <;> decide
theorem num_lt (l : List Bool) : num l < 2 ^ l.length := by
  induction l with
  | nil => simp [num]
  | cons b r ih =>
    have := toNat_lt2 b
    simp only [num, List.length_cons, Nat.pow_succ]
    omega
theorem num_append (l r : List Bool) : num (l ++ r) = num l + 2 ^ l.length * num r := by
  induction l with
  | nil => simp [num]
  | cons b l ih =>
    simp only [List.cons_append, num, ih, List.length_cons, Nat.pow_succ, Nat.mul_add]
    have : 2 * (2 ^ l.length * num r) = 2 ^ l.length * 2 * num r := by rw [Nat.mul_comm (2 ^ l.length) 2, Nat.mul_assoc]
    omega
theorem num_snoc (l : List Bool) (b : Bool) : num (l ++ [b]) = num l + b.toNat * 2 ^ l.length := by
  rw [num_append]; simp [num, Nat.mul_comm]
theorem num_testBit (l : List Bool) (i : Nat) : (num l).testBit i = l.getD i false := by
  induction l generalizing i with
  | nil => simp [num]
  | cons b r ih =>
    rw [num]
    have hb := toNat_lt2 b
    cases i with
    | zero =>
      rw [Nat.testBit_zero]
      cases b <;> simp [Bool.toNat] <;> omega
    | succ i =>
      rw [Nat.testBit_succ, show (b.toNat + 2 * num r) / 2 = num r by omega, ih]
      simp
theorem num_low (x n : Nat) : num (low x n) = x % 2 ^ n := by
  apply Nat.eq_of_testBit_eq
  intro i
  rw [num_testBit, Nat.testBit_mod_two_pow]
  by_cases h : i < n
  · simp [low, List.getD, h]
  · simp [low, List.getD, h]
theorem low_num (l : List Bool) : low (num l) l.length = l := by
  apply List.ext_getElem
  · simp [low]
  · intro i h1 h2
    simp [low, num_testBit, List.getD, h2]
theorem testBit_toNat (x i : Nat) : (x.testBit i).toNat = x / 2 ^ i % 2 := by
  rw [Nat.testBit_eq_decide_div_mod_eq]
  have := Nat.mod_lt (x / 2 ^ i) (show 0 < 2 by omega)
  by_cases h : x / 2 ^ i % 2 = 1
  · simp [h]
  · rw [show x / 2 ^ i % 2 = 0 by omega]; simp

/-- Where a number of bits goes on by one. -/
theorem take_more {α : Type} (L : List α) (a n : Nat) (h : a + n < L.length) : (L.drop a).take (n + 1) = (L.drop a).take n ++ [L[a + n]] := by
  rw [List.take_succ_eq_append_getElem (by simp; omega)]
  simp
theorem num_more (xs : List UInt8) (a n : Nat) (h : a + n < 8 * xs.length) :
    num (((bitsOf xs).drop a).take (n + 1)) = num (((bitsOf xs).drop a).take n) + (bitAt xs (a + n)).toNat * 2 ^ n := by
  have hl : a + n < (bitsOf xs).length := by rw [bitsOf_length]; exact h
  rw [take_more _ _ _ hl, num_snoc, bitsOf_get, List.length_take, List.length_drop, Nat.min_eq_left (by omega)]

/-- A bit that is laid above those that are there. -/
theorem or_above (x b k : Nat) (hx : x < 2 ^ k) : x ||| b * 2 ^ k = x + b * 2 ^ k := by
  rw [Nat.or_comm, nat_join k _ _ (Nat.mul_mod_left _ _) hx, Nat.add_comm]

theorem bitsOf_snoc (xs : List UInt8) (c : UInt8) : bitsOf (xs ++ [c]) = bitsOf xs ++ low c.toNat 8 := by
  apply List.ext_getElem
  · simp [bitsOf, low]; omega
  · intro i h1 h2
    rw [bitsOf_get]
    by_cases hi : i < (bitsOf xs).length
    · rw [List.getElem_append_left hi, bitsOf_get]
      rw [bitsOf_length] at hi
      unfold bitAt
      congr 2
      simp [List.getD, List.getElem?_append_left (show i / 8 < xs.length by omega)]
    · rw [List.getElem_append_right (by omega)]
      rw [bitsOf_length] at hi
      have h8 : i < 8 * xs.length + 8 := by simp [bitsOf] at h1; omega
      simp only [low, List.getElem_map, List.getElem_range, bitsOf_length]
      unfold bitAt
      have e1 : i / 8 = xs.length := by omega
      have e2 : i % 8 = i - 8 * xs.length := by omega
      rw [e1, e2]
      simp [List.getD]

theorem bytesOf_get (l : List Bool) (i : Nat) (h : i < (bytesOf l).length) : (bytesOf l)[i] = UInt8.ofNat (num ((l.drop (8 * i)).take 8)) := by simp [bytesOf]
theorem num8_lt (l : List Bool) : num (l.take 8) < 256 := Nat.lt_of_lt_of_le (num_lt _) (by
  have : (l.take 8).length ≤ 8 := by simp; omega
  exact Nat.le_trans (Nat.pow_le_pow_right (by omega) this) (by decide))
/-- Bit i of the bytes of bits. -/
theorem bitAt_bytesOf (l : List Bool) (i : Nat) : bitAt (bytesOf l) i = l.getD i false := by
  unfold bitAt
  by_cases h : i / 8 < (bytesOf l).length
  · rw [show (bytesOf l).getD (i / 8) 0 = (bytesOf l)[i / 8] by simp [List.getD, h], bytesOf_get]
    have := num8_lt (l.drop (8 * (i / 8)))
    rw [show (UInt8.ofNat (num ((l.drop (8 * (i / 8))).take 8))).toNat = num ((l.drop (8 * (i / 8))).take 8) by simp; omega, num_testBit]
    simp only [List.getD_eq_getElem?_getD, List.getElem?_take, List.getElem?_drop]
    rw [if_pos (by omega), show 8 * (i / 8) + i % 8 = i by omega]
  · rw [show (bytesOf l).getD (i / 8) 0 = 0 by rw [List.getD_eq_getElem?_getD, List.getElem?_eq_none (by omega)]; rfl]
    rw [bytesOf_length] at h
    have : l.length ≤ i := by omega
    simp [List.getD, this]
/-- The bits of the bytes of bits are these bits, and noughts. -/
theorem take_bits (l : List Bool) : (bitsOf (bytesOf l)).take l.length = l := by
  apply List.ext_getElem
  · simp [bitsOf, bytesOf]; omega
  · intro i h1 h2
    rw [List.getElem_take, bitsOf_get, bitAt_bytesOf]
    simp [List.getD, h2]

/-- One bit more, where the last byte is full: a new one. -/
theorem bytesOf_new (l : List Bool) (b : Bool) (h : l.length % 8 = 0) : bytesOf (l ++ [b]) = bytesOf l ++ [UInt8.ofNat b.toNat] := by
  apply List.ext_getElem
  · simp [bytesOf]; omega
  · intro i h1 h2
    rw [bytesOf_get]
    by_cases hi : i < (bytesOf l).length
    · rw [List.getElem_append_left hi, bytesOf_get]
      rw [bytesOf_length] at hi
      congr 2
      rw [List.drop_append_of_le_length (by omega), List.take_append_of_le_length (by simp; omega)]
    · rw [List.getElem_append_right (by omega)]
      rw [bytesOf_length] at hi
      have hl : i < (l.length + 1 + 7) / 8 := by simpa [bytesOf] using h1
      have e : 8 * i = l.length := by omega
      rw [e]
      simp [num]
/-- One bit more, where the last byte has room: it is laid into it. -/
theorem bytesOf_more (l : List Bool) (b : Bool) (h : l.length % 8 ≠ 0) :
    bytesOf (l ++ [b]) = (bytesOf l).set (l.length / 8) (UInt8.ofNat (((bytesOf l).getD (l.length / 8) 0).toNat ||| b.toNat * 2 ^ (l.length % 8))) := by
  apply List.ext_getElem
  · simp [bytesOf]; omega
  · intro i h1 h2
    rw [bytesOf_get, List.getElem_set]
    have hi : i < (bytesOf l).length := by simpa using h2
    have hq : l.length / 8 < (bytesOf l).length := by rw [bytesOf_length]; omega
    split
    · next e =>
      subst e
      rw [show (bytesOf l).getD (l.length / 8) 0 = (bytesOf l)[l.length / 8] by simp [List.getD, hq], bytesOf_get]
      have h8 := num8_lt (l.drop (8 * (l.length / 8)))
      rw [show (UInt8.ofNat (num ((l.drop (8 * (l.length / 8))).take 8))).toNat = num ((l.drop (8 * (l.length / 8))).take 8) by simp; omega]
      have hd : (l.drop (8 * (l.length / 8))).length = l.length % 8 := by simp; omega
      have ht : (l.drop (8 * (l.length / 8))).take 8 = l.drop (8 * (l.length / 8)) := List.take_of_length_le (by omega)
      have hn := num_lt (l.drop (8 * (l.length / 8)))
      rw [hd] at hn
      rw [ht, List.drop_append_of_le_length (by omega), List.take_of_length_le (by simp; omega), num_snoc, hd, or_above _ _ _ hn]
    · next e =>
      rw [bytesOf_get]
      rw [bytesOf_length] at hi
      congr 2
      rw [List.drop_append_of_le_length (by omega), List.take_append_of_le_length (by simp; omega)]

/-- The bytes of bits, with room for one bit more. -/
def pad (l : List Bool) : List UInt8 := if l.length % 8 = 0 then bytesOf l ++ [0] else bytesOf l
theorem pad_length (l : List Bool) : (pad l).length = l.length / 8 + 1 := by
  unfold pad
  split <;> simp [bytesOf] <;> omega
theorem bytesOf_put (l : List Bool) (b : Bool) : bytesOf (l ++ [b]) = (pad l).set (l.length / 8) (UInt8.ofNat (((pad l).getD (l.length / 8) 0).toNat ||| b.toNat * 2 ^ (l.length % 8))) := by
  by_cases h : l.length % 8 = 0
  · have hp : pad l = bytesOf l ++ [0] := by simp [pad, h]
    have hl : l.length / 8 = (bytesOf l).length := by rw [bytesOf_length]; omega
    rw [hp, bytesOf_new l b h, hl, h]
    simp [List.getD]
  · have hp : pad l = bytesOf l := by simp [pad, h]
    rw [hp, bytesOf_more l b h]

/-- How many bits a byte takes. -/
def len8 (x : Nat) : Nat := if x = 0 then 0 else x.log2 + 1
/-- How many bits stand ahead of the highest one that is set in the last byte. -/
def top (xs : List UInt8) : Nat := 8 * (xs.length - 1) + (xs.getD (xs.length - 1) 0).toNat.log2
theorem log2_lt8 (c : UInt8) : c.toNat.log2 < 8 := by
  have := c.toNat_lt
  by_cases h : c.toNat = 0
  · rw [h]; decide
  · rw [Nat.log2_lt h]; omega
theorem top_lt (xs : List UInt8) (h : 0 < xs.length) : top xs < 8 * xs.length := by
  have := log2_lt8 (xs.getD (xs.length - 1) 0)
  unfold top
  omega
theorem bit_top (xs : List UInt8) (hz : xs.getD (xs.length - 1) 0 ≠ 0) : bitAt xs (top xs) = true := by
  have hl := log2_lt8 (xs.getD (xs.length - 1) 0)
  have hne : (xs.getD (xs.length - 1) 0).toNat ≠ 0 := fun e => hz (UInt8.toNat_inj.1 (by simpa using e))
  unfold bitAt top
  rw [show (8 * (xs.length - 1) + (xs.getD (xs.length - 1) 0).toNat.log2) / 8 = xs.length - 1 by omega, show (8 * (xs.length - 1) + (xs.getD (xs.length - 1) 0).toNat.log2) % 8 = (xs.getD (xs.length - 1) 0).toNat.log2 by omega]
  exact Nat.testBit_log2 hne
theorem bit_above (xs : List UInt8) (i : Nat) (h : top xs < i) (hi : i < 8 * xs.length) : bitAt xs i = false := by
  have hl := log2_lt8 (xs.getD (xs.length - 1) 0)
  unfold top at h
  have e : i / 8 = xs.length - 1 := by omega
  unfold bitAt
  rw [e]
  apply Nat.testBit_lt_two_pow
  by_cases hz : (xs.getD (xs.length - 1) 0).toNat = 0
  · rw [hz]; exact Nat.two_pow_pos _
  · exact (Nat.log2_lt hz).1 (by omega)
/-- What closed bits leave. -/
theorem top_closed (l : List Bool) : top (bytesOf (l ++ [true])) = l.length := by
  have hlen : (bytesOf (l ++ [true])).length = l.length / 8 + 1 := by rw [bytesOf_length]; simp; omega
  have hl : l.length < 8 * (bytesOf (l ++ [true])).length := by rw [hlen]; omega
  have hset : bitAt (bytesOf (l ++ [true])) l.length = true := by rw [bitAt_bytesOf]; simp [List.getD]
  have habove : ∀ i, l.length < i → bitAt (bytesOf (l ++ [true])) i = false := fun i hi => by
    rw [bitAt_bytesOf]
    rw [List.getD_eq_getElem?_getD, List.getElem?_eq_none (by simp; omega)]
    rfl
  have hz : (bytesOf (l ++ [true])).getD ((bytesOf (l ++ [true])).length - 1) 0 ≠ 0 := by
    intro e
    unfold bitAt at hset
    rw [show l.length / 8 = (bytesOf (l ++ [true])).length - 1 by omega, e] at hset
    simp at hset
  have ht := bit_top (bytesOf (l ++ [true])) hz
  rcases Nat.lt_trichotomy (top (bytesOf (l ++ [true]))) l.length with h | h | h
  · have := bit_above _ _ h hl
    rw [hset] at this
    cases this
  · exact h
  · rw [habove _ h] at ht
    cases ht
end Go.Proofs.YtpdnmhnnngcbjaaDoor
