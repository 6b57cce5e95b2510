/- The contracts of BitPlain, BitNum, BitFwd, BitWr, BitBwd, BitRefB, BitRefP, BitRefF, in one text. -/
import Derived.Test.YtlidnialggpcpaaGreatDoorPileA
import Derived.Test.YtlidnialggpcpaaGreatDoorRows
import Derived.WalkKit
import Derived.WalkSpells
import Derived.WalkLawsBesides
import Derived.Laws.BitsAllLaws
import Derived.Lib.Tables
import Derived.Lib.Hide
import Derived.Deep.QuietTactic
import Derived.BigQuiet
import Derived.StillTailTactics
import Derived.Deep.RegionWith
import Derived.Deep.RegionHeld3
import Derived.Deep.LoopGhost
import Derived.Deep.CutRange
import Derived.Deep.DeepCutAuto
/- Plain lemmas for the bits layer: bits of bytes, numbers of bits, bytes of bits. Nothing of the program is named here. -/
namespace Go.Proofs.YtlidnialggpcpaaGreatDoor
open Go.RowKit

/-- Bit i of bytes, those of the first byte first, the lowest of each byte first. -/
def bitAt (xs : List UInt8) (i : Nat) : Bool := (xs.getD (i / 8) 0).toNat.testBit (i % 8)
/-- The bits of bytes. -/
def bitsOf (xs : List UInt8) : List Bool := (List.range (8 * xs.length)).map (bitAt xs)
/-- The number of bits, the first one the lowest. -/
def num : List Bool → Nat
  | [] => 0
  | b :: r => b.toNat + 2 * num r
/-- The lowest n bits of x. -/
def low (x n : Nat) : List Bool := (List.range n).map x.testBit
/-- The bytes of bits, filled up with noughts. -/
def bytesOf (l : List Bool) : List UInt8 := (List.range ((l.length + 7) / 8)).map fun i => UInt8.ofNat (num ((l.drop (8 * i)).take 8))

theorem bitsOf_length (xs : List UInt8) : (bitsOf xs).length = 8 * xs.length := by simp [bitsOf]
theorem low_length (x n : Nat) : (low x n).length = n := by simp [low]
theorem bytesOf_length (l : List Bool) : (bytesOf l).length = (l.length + 7) / 8 := by simp [bytesOf]
theorem bitsOf_get (xs : List UInt8) (i : Nat) (h : i < (bitsOf xs).length) : (bitsOf xs)[i] = bitAt xs i := by simp [bitsOf]
theorem low_succ (x n : Nat) : low x (n + 1) = low x n ++ [x.testBit n] := by simp [low, List.range_succ]

theorem toNat_lt2 (b : Bool) : b.toNat < 2 := by cases b <;> decide
theorem num_lt (l : List Bool) : num l < 2 ^ l.length := by
  induction l with
  | nil => simp [num]
  | cons b r ih =>
    have := toNat_lt2 b
    simp only [num, List.length_cons, Nat.pow_succ]
    omega
theorem num_append (l r : List Bool) : num (l ++ r) = num l + 2 ^ l.length * num r := by
  induction l with
  | nil => simp [num]
  | cons b l ih =>
    simp only [List.cons_append, num, ih, List.length_cons, Nat.pow_succ, Nat.mul_add]
    have : 2 * (2 ^ l.length * num r) = 2 ^ l.length * 2 * num r := by rw [Nat.mul_comm (2 ^ l.length) 2, Nat.mul_assoc]
    omega
theorem num_snoc (l : List Bool) (b : Bool) : num (l ++ [b]) = num l + b.toNat * 2 ^ l.length := by
  rw [num_append]; simp [num, Nat.mul_comm]
theorem num_testBit (l : List Bool) (i : Nat) : (num l).testBit i = l.getD i false := by
  induction l generalizing i with
  | nil => simp [num]
  | cons b r ih =>
    rw [num]
    have hb := toNat_lt2 b
    cases i with
    | zero =>
      rw [Nat.testBit_zero]
      cases b <;> simp [Bool.toNat] <;> omega
    | succ i =>
      rw [Nat.testBit_succ, show (b.toNat + 2 * num r) / 2 = num r by omega, ih]
      simp
theorem num_low (x n : Nat) : num (low x n) = x % 2 ^ n := by
  apply Nat.eq_of_testBit_eq
  intro i
  rw [num_testBit, Nat.testBit_mod_two_pow]
  by_cases h : i < n
  · simp [low, List.getD, h]
  · simp [low, List.getD, h]
theorem testBit_toNat (x i : Nat) : (x.testBit i).toNat = x / 2 ^ i % 2 := by
  rw [Nat.testBit_eq_decide_div_mod_eq]
  have := Nat.mod_lt (x / 2 ^ i) (show 0 < 2 by omega)
  by_cases h : x / 2 ^ i % 2 = 1
  · simp [h]
  · rw [show x / 2 ^ i % 2 = 0 by omega]; simp

/-- Where a number of bits goes on by one. -/
theorem take_more {α : Type} (L : List α) (a n : Nat) (h : a + n < L.length) : (L.drop a).take (n + 1) = (L.drop a).take n ++ [L[a + n]] := by
  rw [List.take_succ_eq_append_getElem (by simp; omega)]
  simp
theorem num_more (xs : List UInt8) (a n : Nat) (h : a + n < 8 * xs.length) :
    num (((bitsOf xs).drop a).take (n + 1)) = num (((bitsOf xs).drop a).take n) + (bitAt xs (a + n)).toNat * 2 ^ n := by
  have hl : a + n < (bitsOf xs).length := by rw [bitsOf_length]; exact h
  rw [take_more _ _ _ hl, num_snoc, bitsOf_get, List.length_take, List.length_drop, Nat.min_eq_left (by omega)]

/-- A bit that is laid above those that are there. -/
theorem or_above (x b k : Nat) (hx : x < 2 ^ k) : x ||| b * 2 ^ k = x + b * 2 ^ k := by
  rw [Nat.or_comm, nat_join k _ _ (Nat.mul_mod_left _ _) hx, Nat.add_comm]

theorem bitsOf_snoc (xs : List UInt8) (c : UInt8) : bitsOf (xs ++ [c]) = bitsOf xs ++ low c.toNat 8 := by
  apply List.ext_getElem
  · simp [bitsOf, low]; omega
  · intro i h1 h2
    rw [bitsOf_get]
    by_cases hi : i < (bitsOf xs).length
    · rw [List.getElem_append_left hi, bitsOf_get]
      rw [bitsOf_length] at hi
      unfold bitAt
      congr 2
      simp [List.getD, List.getElem?_append_left (show i / 8 < xs.length by omega)]
    · rw [List.getElem_append_right (by omega)]
      rw [bitsOf_length] at hi
      have h8 : i < 8 * xs.length + 8 := by simp [bitsOf] at h1; omega
      simp only [low, List.getElem_map, List.getElem_range, bitsOf_length]
      unfold bitAt
      have e1 : i / 8 = xs.length := by omega
      have e2 : i % 8 = i - 8 * xs.length := by omega
      rw [e1, e2]
      simp [List.getD]

theorem bytesOf_get (l : List Bool) (i : Nat) (h : i < (bytesOf l).length) : (bytesOf l)[i] = UInt8.ofNat (num ((l.drop (8 * i)).take 8)) := by simp [bytesOf]
theorem num8_lt (l : List Bool) : num (l.take 8) < 256 := Nat.lt_of_lt_of_le (num_lt _) (by
  have : (l.take 8).length ≤ 8 := by simp; omega
  exact Nat.le_trans (Nat.pow_le_pow_right (by omega) this) (by decide))
/-- Bit i of the bytes of bits. -/
theorem bitAt_bytesOf (l : List Bool) (i : Nat) : bitAt (bytesOf l) i = l.getD i false := by
  unfold bitAt
  by_cases h : i / 8 < (bytesOf l).length
  · rw [show (bytesOf l).getD (i / 8) 0 = (bytesOf l)[i / 8] by simp [List.getD, h], bytesOf_get]
    have := num8_lt (l.drop (8 * (i / 8)))
    rw [show (UInt8.ofNat (num ((l.drop (8 * (i / 8))).take 8))).toNat = num ((l.drop (8 * (i / 8))).take 8) by simp; omega, num_testBit]
    simp only [List.getD_eq_getElem?_getD, List.getElem?_take, List.getElem?_drop]
    rw [if_pos (by omega), show 8 * (i / 8) + i % 8 = i by omega]
  · rw [show (bytesOf l).getD (i / 8) 0 = 0 by rw [List.getD_eq_getElem?_getD, List.getElem?_eq_none (by omega)]; rfl]
    rw [bytesOf_length] at h
    have : l.length ≤ i := by omega
    simp [List.getD, this]
/-- The bits of the bytes of bits are these bits, and noughts. -/
theorem take_bits (l : List Bool) : (bitsOf (bytesOf l)).take l.length = l := by
  apply List.ext_getElem
  · simp [bitsOf, bytesOf]; omega
  · intro i h1 h2
    rw [List.getElem_take, bitsOf_get, bitAt_bytesOf]
    simp [List.getD, h2]

/-- One bit more, where the last byte is full: a new one. -/
theorem bytesOf_new (l : List Bool) (b : Bool) (h : l.length % 8 = 0) : bytesOf (l ++ [b]) = bytesOf l ++ [UInt8.ofNat b.toNat] := by
  apply List.ext_getElem
  · simp [bytesOf]; omega
  · intro i h1 h2
    rw [bytesOf_get]
    by_cases hi : i < (bytesOf l).length
    · rw [List.getElem_append_left hi, bytesOf_get]
      rw [bytesOf_length] at hi
      congr 2
      rw [List.drop_append_of_le_length (by omega), List.take_append_of_le_length (by simp; omega)]
    · rw [List.getElem_append_right (by omega)]
      rw [bytesOf_length] at hi
      have hl : i < (l.length + 1 + 7) / 8 := by simpa [bytesOf] using h1
      have e : 8 * i = l.length := by omega
      rw [e]
      simp [num]
/-- One bit more, where the last byte has room: it is laid into it. -/
theorem bytesOf_more (l : List Bool) (b : Bool) (h : l.length % 8 ≠ 0) :
    bytesOf (l ++ [b]) = (bytesOf l).set (l.length / 8) (UInt8.ofNat (((bytesOf l).getD (l.length / 8) 0).toNat ||| b.toNat * 2 ^ (l.length % 8))) := by
  apply List.ext_getElem
  · simp [bytesOf]; omega
  · intro i h1 h2
    rw [bytesOf_get, List.getElem_set]
    have hi : i < (bytesOf l).length := by simpa using h2
    have hq : l.length / 8 < (bytesOf l).length := by rw [bytesOf_length]; omega
    split
    · next e =>
      subst e
      rw [show (bytesOf l).getD (l.length / 8) 0 = (bytesOf l)[l.length / 8] by simp [List.getD, hq], bytesOf_get]
      have h8 := num8_lt (l.drop (8 * (l.length / 8)))
      rw [show (UInt8.ofNat (num ((l.drop (8 * (l.length / 8))).take 8))).toNat = num ((l.drop (8 * (l.length / 8))).take 8) by simp; omega]
      have hd : (l.drop (8 * (l.length / 8))).length = l.length % 8 := by simp; omega
      have ht : (l.drop (8 * (l.length / 8))).take 8 = l.drop (8 * (l.length / 8)) := List.take_of_length_le (by omega)
      have hn := num_lt (l.drop (8 * (l.length / 8)))
      rw [hd] at hn
      rw [ht, List.drop_append_of_le_length (by omega), List.take_of_length_le (by simp; omega), num_snoc, hd, or_above _ _ _ hn]
    · next e =>
      rw [bytesOf_get]
      rw [bytesOf_length] at hi
      congr 2
      rw [List.drop_append_of_le_length (by omega), List.take_append_of_le_length (by simp; omega)]

/-- The bytes of bits, with room for one bit more. -/
def pad (l : List Bool) : List UInt8 := if l.length % 8 = 0 then bytesOf l ++ [0] else bytesOf l
theorem pad_length (l : List Bool) : (pad l).length = l.length / 8 + 1 := by
  unfold pad
  split <;> simp [bytesOf] <;> omega
theorem bytesOf_put (l : List Bool) (b : Bool) : bytesOf (l ++ [b]) = (pad l).set (l.length / 8) (UInt8.ofNat (((pad l).getD (l.length / 8) 0).toNat ||| b.toNat * 2 ^ (l.length % 8))) := by
  by_cases h : l.length % 8 = 0
  · have hp : pad l = bytesOf l ++ [0] := by simp [pad, h]
    have hl : l.length / 8 = (bytesOf l).length := by rw [bytesOf_length]; omega
    rw [hp, bytesOf_new l b h, hl, h]
    simp [List.getD]
  · have hp : pad l = bytesOf l := by simp [pad, h]
    rw [hp, bytesOf_more l b h]

/-- How many bits a byte takes. -/
def len8 (x : Nat) : Nat := if x = 0 then 0 else x.log2 + 1
/-- How many bits stand ahead of the highest one that is set in the last byte. -/
def top (xs : List UInt8) : Nat := 8 * (xs.length - 1) + (xs.getD (xs.length - 1) 0).toNat.log2
theorem log2_lt8 (c : UInt8) : c.toNat.log2 < 8 := by
  have := c.toNat_lt
  by_cases h : c.toNat = 0
  · rw [h]; decide
  · rw [Nat.log2_lt h]; omega
theorem top_lt (xs : List UInt8) (h : 0 < xs.length) : top xs < 8 * xs.length := by
  have := log2_lt8 (xs.getD (xs.length - 1) 0)
  unfold top
  omega
theorem bit_top (xs : List UInt8) (hz : xs.getD (xs.length - 1) 0 ≠ 0) : bitAt xs (top xs) = true := by
  have hl := log2_lt8 (xs.getD (xs.length - 1) 0)
  have hne : (xs.getD (xs.length - 1) 0).toNat ≠ 0 := fun e => hz (UInt8.toNat_inj.1 (by simpa using e))
  unfold bitAt top
  rw [show (8 * (xs.length - 1) + (xs.getD (xs.length - 1) 0).toNat.log2) / 8 = xs.length - 1 by omega, show (8 * (xs.length - 1) + (xs.getD (xs.length - 1) 0).toNat.log2) % 8 = (xs.getD (xs.length - 1) 0).toNat.log2 by omega]
  exact Nat.testBit_log2 hne
theorem bit_above (xs : List UInt8) (i : Nat) (h : top xs < i) (hi : i < 8 * xs.length) : bitAt xs i = false := by
  have hl := log2_lt8 (xs.getD (xs.length - 1) 0)
  unfold top at h
  have e : i / 8 = xs.length - 1 := by omega
  unfold bitAt
  rw [e]
  apply Nat.testBit_lt_two_pow
  by_cases hz : (xs.getD (xs.length - 1) 0).toNat = 0
  · rw [hz]; exact Nat.two_pow_pos _
  · exact (Nat.log2_lt hz).1 (by omega)
/-- What closed bits leave. -/
theorem top_closed (l : List Bool) : top (bytesOf (l ++ [true])) = l.length := by
  have hlen : (bytesOf (l ++ [true])).length = l.length / 8 + 1 := by rw [bytesOf_length]; simp; omega
  have hl : l.length < 8 * (bytesOf (l ++ [true])).length := by rw [hlen]; omega
  have hset : bitAt (bytesOf (l ++ [true])) l.length = true := by rw [bitAt_bytesOf]; simp [List.getD]
  have habove : ∀ i, l.length < i → bitAt (bytesOf (l ++ [true])) i = false := fun i hi => by
    rw [bitAt_bytesOf]
    rw [List.getD_eq_getElem?_getD, List.getElem?_eq_none (by simp; omega)]
    rfl
  have hz : (bytesOf (l ++ [true])).getD ((bytesOf (l ++ [true])).length - 1) 0 ≠ 0 := by
    intro e
    unfold bitAt at hset
    rw [show l.length / 8 = (bytesOf (l ++ [true])).length - 1 by omega, e] at hset
    simp at hset
  have ht := bit_top (bytesOf (l ++ [true])) hz
  rcases Nat.lt_trichotomy (top (bytesOf (l ++ [true]))) l.length with h | h | h
  · have := bit_above _ _ h hl
    rw [hset] at this
    cases this
  · exact h
  · rw [habove _ h] at ht
    cases ht
end Go.Proofs.YtlidnialggpcpaaGreatDoor

/- The contracts of the program's number, isWidth, Len8 and Clone. -/
namespace Go.Proofs.YtlidnialggpcpaaGreatDoor
open Go.RowKit

/-- Whether so many bits may be. -/
def wid (m : Int) : Bool := decide (1 ≤ m ∧ m ≤ 56)

theorem isWidth_yes (n : Int) (w : World) (h1 : 1 ≤ n) (h2 : n ≤ 56) :
    Calls Tryz.prog 103 #[.int .i64 n] w fun e w' => e = .returned (.bool true) ∧ w = w' := by
  go_enter Tryz.func103, Tryz.ntmps103
  go_wp2
  go_ret
  exact ⟨rfl, rfl⟩
theorem isWidth_no (n : Int) (w : World) (h : n < 1 ∨ 56 < n) :
    Calls Tryz.prog 103 #[.int .i64 n] w fun e w' => e = .returned (.bool false) ∧ w = w' := by
  rcases h with h | h
  · go_enter Tryz.func103, Tryz.ntmps103
    go_wp2
    go_ret
    exact ⟨rfl, rfl⟩
  · have h1 : 1 ≤ n := by omega
    have hd : decide (n ≤ 56) = false := by simp; omega
    go_enter Tryz.func103, Tryz.ntmps103
    go_wp2
    go_ret
    exact ⟨rfl, rfl⟩
theorem u8_info : (Tryz.prog.info? 5).map (fun i => (i.zero, i.size, i.bytes)) = some (some (.int .u8 0), 1, 1) := by kernel_rfl

/-- The new row that 'buildSlice' of no elements makes is the call's own. -/
theorem own_empty (w : World) (u base : Nat) (h : base ≤ w.heap.size) : OwB (w.alloc (.cells #[] u)) u base (.slice (some ⟨w.heap.size, 0, none⟩) 0 0) [] :=
  World.ownsRow_made (base := base) (e := u) (size := 1) w #[] 0 h (by simp [maxLen]) (by simp)

theorem clone_some {own : Bool} {w : World} {lo hi : Nat} {a : Addr} {n c : Nat} {xs : List UInt8} (hd : Dat own w lo hi (some a) xs) (hn : xs.length = n) (hb : xs.length ≤ 1099511627776) (hhi : hi ≤ w.heap.size) :
    Calls Tryz.prog 42 #[.slice (some a) n c] w fun e w' => ∃ v, e = .returned v ∧ OwB w' 5 w.heap.size v xs ∧ Below w.heap.size w w' := by
  obtain ⟨i0, hi0, hz0, hz1, hz2⟩ := info_parts u8_info
  have hq := Lib.run_eql_slice_nil (P := Tryz.prog) w 22 5 (some a) n c 0 0 Tryz.underlying22
  have hO := Lib.hid (own_empty w 5 w.heap.size (Nat.le_refl _))
  have hD := Lib.hid (hd.alloc hhi (.cells #[] 5))
  clear hd
  have HN := Lib.hid hn
  clear hn
  go_enter Tryz.func42, Tryz.ntmps42
  go_wp2_with (at_builtin; refine list_app _ rfl _ _ 22 rfl i0 Tryz.underlying22 hi0 hz0 hz1 hz2 rfl hO.out rfl hD.out HN.out ?_ ?_ ?_)
  · simp only [List.length_nil]; have := HN.out; omega
  · simp
  intro v' w1 ho hg _
  have HO := Lib.hid ho
  have HG := Lib.hid hg
  clear ho hg hO hD
  go_wp2
  go_ret
  exact ⟨_, rfl, HO.out, ((Below.refl _ _).alloc (Nat.le_refl _) _).grown HG.out (by simp) (by intro k hk; simp [Value.ownBlock] at hk; omega)⟩

theorem clone_nil (w : World) (n c : Nat) :
    Calls Tryz.prog 42 #[.slice none n c] w fun e w' => e = .returned (.slice none 0 0) ∧ w = w' := by
  have hq := Lib.run_eql_slice_nil (P := Tryz.prog) w 22 5 none n c 0 0 Tryz.underlying22
  go_enter Tryz.func42, Tryz.ntmps42
  go_wp2
  go_ret
  exact ⟨rfl, rfl⟩

theorem clone_any {own : Bool} {w : World} {lo hi : Nat} {A : Option Addr} {n c : Nat} {xs : List UInt8} (hd : Dat own w lo hi A xs) (hn : xs.length = n) (hb : xs.length ≤ 1099511627776) (hhi : hi ≤ w.heap.size) :
    Calls Tryz.prog 42 #[.slice A n c] w fun e w' => ∃ v, e = .returned v ∧ OwB w' 5 w.heap.size v xs ∧ Below w.heap.size w w' := by
  rcases A with _ | a
  · refine (clone_nil w n c).mono fun e w' ⟨he, hw⟩ => ?_
    subst hw
    have hx : xs = [] := by
      rcases xs with _ | ⟨y, r⟩
      · rfl
      · obtain ⟨_, _, h', _⟩ := hd (by simp)
        cases h'
    subst hx
    exact ⟨_, he, OwB.nil _ _ _, Below.refl _ _⟩
  · exact clone_some hd hn hb hhi

/-- One bit of a byte. -/
theorem bit_one (c k : Nat) (hc : c < 256) : bits .and .u8 ((c : Int) / 2 ^ k) 1 = ((c.testBit k).toNat : Int) := by
  have h1 : (c : Int) / 2 ^ k = ((c / 2 ^ k : Nat) : Int) := by simp
  have h2 : c / 2 ^ k < 256 := Nat.lt_of_le_of_lt (Nat.div_le_self _ _) hc
  rw [h1, show (1 : Int) = ((1 : Nat) : Int) by rfl, u8_and_nat _ _ h2 (by decide), Nat.and_one_is_mod, testBit_toNat]
/-- A bit is laid above those that are there. -/
theorem number_step (X c k j : Nat) (hX : X < 2 ^ j) (hc : c < 256) (hj : j < 56) :
    bits .or .u64 (X : Int) (IntKind.u64.wrap (IntKind.u64.wrap (bits .and .u8 ((c : Int) / 2 ^ k) 1) * 2 ^ j)) = ((X + (c.testBit k).toNat * 2 ^ j : Nat) : Int) := by
  rw [bit_one c k hc]
  generalize hb : (c.testBit k).toNat = b
  have hb2 : b < 2 := by rw [← hb]; exact toNat_lt2 _
  have hp : 2 ^ j ≤ 2 ^ 55 := Nat.pow_le_pow_right (by omega) (by omega)
  have hm : b * 2 ^ j ≤ 1 * 2 ^ 55 := Nat.mul_le_mul (by omega) hp
  have h1 : IntKind.u64.wrap (b : Int) = (b : Int) := by rw [IntKind.wrap_u64]; omega
  have h2 : (b : Int) * 2 ^ j = ((b * 2 ^ j : Nat) : Int) := by simp
  have h3 : IntKind.u64.wrap ((b * 2 ^ j : Nat) : Int) = ((b * 2 ^ j : Nat) : Int) := by rw [IntKind.wrap_u64]; omega
  rw [h1, h2, h3, u64_or_nat _ _ (by omega) (by omega), or_above X b j hX]

theorem number_any {own : Bool} {w : World} {lo hi : Nat} {A : Option Addr} {n c : Nat} {xs : List UInt8} (a k : Nat) (hd : Dat own w lo hi A xs) (hn : xs.length = n) (h : a + k ≤ 8 * n) (hk : k ≤ 56) (hb : n ≤ 1099511627776) :
    Calls Tryz.prog 114 #[.slice A n c, .int .i64 a, .int .i64 k] w fun e w' => e = .returned (.int .u64 (num (((bitsOf xs).drop a).take k) : Nat)) ∧ w = w' := by
  have HD := Lib.hid hd
  have HN := Lib.hid hn
  clear hd hn
  go_enter Tryz.func114, Tryz.ntmps114
  go_wp2
  go_loop [7, 12] (fun x i => ∃ j : Nat, j ≤ k ∧ i = .int .i64 j ∧ x = .int .u64 (num (((bitsOf xs).drop a).take j) : Nat)) (fun _ i => k - (intOf i).toNat)
  case atStart => exact ⟨0, Nat.zero_le _, rfl, by simp [num]⟩
  case round =>
    obtain ⟨j, hj, rfl, rfl⟩ := hrel
    by_cases hlt : j < k
    · have hnl := HN.out
      have hlt8 : (a + j) / 8 < n := by omega
      obtain ⟨d, o, rfl, _, _, hc, _⟩ := HD.out (by omega)
      have hck := hc ((a + j) / 8) (by omega)
      have hb := (xs.getD ((a + j) / 8) 0).toNat_lt
      unfold cel at hck
      clear hc HD hnl
      go_wp2
      go_round
      case rel =>
        have hX := num_lt (((bitsOf xs).drop a).take j)
        rw [show (((bitsOf xs).drop a).take j).length = j by rw [List.length_take, List.length_drop, bitsOf_length, HN.out]; omega] at hX
        refine ⟨j + 1, by omega, by go_num, ?_⟩
        rw [num_more _ _ _ (by rw [HN.out]; omega), ← List.getD_eq_getElem?_getD, number_step _ _ _ _ hX (by simpa using hb) (by omega)]
        rfl
      case measure => simp [intOf]; omega
    · go_wp2
      go_ret
      obtain rfl : j = k := by omega
      exact ⟨rfl, rfl⟩
theorem len8_tab : ∀ x : Fin 256, Lib.len8 (x.val : Int) = (len8 x.val : Nat) := by decide +kernel
theorem len8_any (x : UInt8) (w : World) : Calls Tryz.prog 82 #[.int .u8 (x.toNat : Int)] w fun e w' => e = .returned (.int .i64 (len8 x.toNat : Nat)) ∧ w = w' := by
  have hx : (x.toNat : Int) ≤ 255 := by have := x.toNat_lt; omega
  have H := Lib.hid (len8_tab ⟨x.toNat, by omega⟩)
  have hb : len8 x.toNat ≤ 8 := by
    have := log2_lt8 x
    unfold len8
    split <;> omega
  go_enter Tryz.func82, Tryz.ntmps82
  go_wp2
  go_ret
  refine ⟨?_, rfl⟩
  show Ending.returned (.int .i64 (wrap64 _)) = _
  rw [H.out]
  have : wrap64 ((len8 x.toNat : Nat) : Int) = ((len8 x.toNat : Nat) : Int) := by unfold wrap64; omega
  rw [this]
/-- The new row of one byte. -/
theorem dat_one (w : World) (x : UInt8) (u : TypeId) : Dat true (w.alloc (.cells #[cel x] u)) w.heap.size (w.heap.size + 1) (some ⟨w.heap.size, 0, none⟩) [x] := fun _ =>
  ⟨w.heap.size, 0, rfl, Nat.le_refl _, by omega, fun j hj => by
    have h := (Box.new w u #[cel x]).cell (0 + j)
    have hj0 : j = 0 := by simp at hj; omega
    subst hj0
    exact h, fun _ j => (Box.new w u #[cel x]).free j⟩

end Go.Proofs.YtlidnialggpcpaaGreatDoor

/- The contracts of the program's Forward: each method at any one, and of nil. -/
namespace Go.Proofs.YtlidnialggpcpaaGreatDoor
open Go.RowKit

/-- What a Forward at bit 'at' of the bytes xs reads: the number, the error, where it stands then. -/
def fread (xs : List UInt8) (at_ : Nat) (n : Int) : Nat × Int × Nat :=
  if n < 0 ∨ 32 < n then (0, 1, at_) else if (8 * xs.length : Int) - at_ < n then (0, 10, at_) else (num (((bitsOf xs).drop at_).take n.toNat), 0, at_ + n.toNat)
/-- Block g is a Forward: a slice at A of n bytes, capacity c; it stands at bit 'at'. -/
def Fwd (w : World) (g : Nat) (A : Option Addr) (n c at_ : Nat) : Prop := Box w g 235 #[.slice A n c, .int .i64 (at_ : Int)]
/-- Block g is a Forward of the bytes xs, which lie from block lo on and below g; it stands at bit 'at'. -/
def FW (w : World) (lo g : Nat) (xs : List UInt8) (at_ : Nat) : Prop := lo ≤ g ∧ at_ ≤ 8 * xs.length ∧ xs.length ≤ 1099511627776 ∧ ∃ A c, Fwd w g A xs.length c at_ ∧ xs.length ≤ c ∧ Dat true w lo g A xs

/-- Only block g has turned, and none has come. -/
def Stp (w w' : World) (g : Nat) : Prop := w.grownBy w' (some g) ∧ w'.heap.size = w.heap.size
theorem Stp.refl (w : World) (g : Nat) : Stp w w g := ⟨World.grownBy.refl w _, rfl⟩
theorem Stp.set (w : World) (g i : Nat) (u : Value) : Stp w (w.setCell ⟨g, i, none⟩ u) g :=
  ⟨⟨rfl, rfl, rfl, by simp [World.setCell], fun k _ hk => Below.heap_setCell w _ u k (fun h => hk (by rw [h]))⟩, by simp [World.setCell]⟩
theorem Stp.drawn {w w' : World} {g : Nat} (n : Nat) (h : Stp (w.drewN n) w' g) : Stp w w' g := ⟨⟨h.1.os, h.1.tape, h.1.output, h.1.size, h.1.block⟩, h.2⟩
theorem Stp.below {w w' : World} {g B : Nat} (h : Stp w w' g) (hB : B ≤ w.heap.size) (hg : B ≤ g) : Below B w w' := (Below.refl _ _).grown h.1 hB (by intro k hk; injection hk with hk; omega)

section
variable {w w' : World} {lo g at_ : Nat} {xs : List UInt8}
theorem FW.lt (h : FW w lo g xs at_) : g < w.heap.size := by
  obtain ⟨_, _, _, A, c, h1, _⟩ := h
  exact Box.lt h1
theorem FW.keep (h : FW w lo g xs at_) (he : ∀ k, lo ≤ k → k ≤ g → w'.heap[k]? = w.heap[k]?) : FW w' lo g xs at_ := by
  obtain ⟨h0, h1, hb, A, c, h2, h3, h4⟩ := h
  exact ⟨h0, h1, hb, A, c, Box.keep h2 (he g h0 (Nat.le_refl _)), h3, h4.keep fun k hl hg => he k hl (by omega)⟩
theorem FW.below {B : Nat} (h : FW w lo g xs at_) (hb : Below B w w') (hg : g < B) : FW w' lo g xs at_ := h.keep fun k _ hk => hb.block k (by omega)
theorem FW.stp {k : Nat} (h : FW w lo g xs at_) (hs : Stp w w' k) (hk : k < lo ∨ g < k) : FW w' lo g xs at_ := by
  have hg := h.lt
  exact h.keep fun j h1 h2 => hs.1.block j (by omega) (by intro e; injection e with e; omega)
theorem FW.put (h : FW w lo g xs at_) (b : Nat) (hb : b ≤ 8 * xs.length) : FW (w.setCell ⟨g, 1, none⟩ (.int .i64 (b : Int))) lo g xs b := by
  obtain ⟨h0, h1, hb', A, c, h2, h3, h4⟩ := h
  exact ⟨h0, hb, hb', A, c, Box.put h2 1 _, h3, h4.far (by simp) _⟩
theorem FW.drawn (h : FW w lo g xs at_) (n : Nat) : FW (w.drewN n) lo g xs at_ := h
end

theorem newForward_any {own : Bool} {w : World} {lo hi : Nat} {A : Option Addr} {n c : Nat} {xs : List UInt8} (hd : Dat own w lo hi A xs) (hn : xs.length = n) (hb : xs.length ≤ 1099511627776) (hhi : hi ≤ w.heap.size) :
    Calls Tryz.prog 125 #[.slice A n c] w fun e w' =>
      ∃ g, e = .returned (.pointer (some ⟨g, 0, none⟩)) ∧ FW w' w.heap.size g xs 0 ∧ Below w.heap.size w w' := by
  have hC := Lib.hid (clone_any (c := c) hd hn hb hhi)
  clear hd hn hhi
  go_enter Tryz.func125, Tryz.ntmps125
  go_wp2_with (go_at_call 42; refine hC.out.mono ?_; rintro e w1 ⟨v, rfl, ho, hB⟩; obtain ⟨A', c', rfl, hc', hD⟩ := ho.form; clear ho; have HB := Lib.hid hB; have HD := Lib.hid hD; clear hB hD)
  go_ret
  refine ⟨w1.heap.size, rfl, ⟨HB.out.size, by omega, hb, A', c', Box.new _ _ _, hc', HD.out.alloc (Nat.le_refl _) _⟩, HB.out.alloc HB.out.size _⟩

theorem used_any {w : World} {lo g at_ : Nat} {xs : List UInt8} (h : FW w lo g xs at_) :
    Calls Tryz.prog 128 #[.pointer (some ⟨g, 0, none⟩)] w fun e w' => e = .returned (.int .i64 ((at_ + 7) / 8 : Nat)) ∧ w = w' := by
  obtain ⟨_, ha, hb, A, c, h1, _⟩ := h
  have c1 : w.cell? ⟨g, 1, none⟩ = some (.int .i64 (at_ : Int)) := Box.cell h1 1
  clear h1
  go_enter Tryz.func128, Tryz.ntmps128
  go_wp2
  go_ret
  refine ⟨?_, rfl⟩
  show Ending.returned (.int .i64 _) = _
  congr 2
  omega

theorem fread_any {w : World} {lo g at_ : Nat} {xs : List UInt8} (n : Int) (h : FW w lo g xs at_) :
    Calls Tryz.prog 138 #[.pointer (some ⟨g, 0, none⟩), .int .i64 n] w fun e w' =>
      e = .returned (.tuple #[.int .u64 ((fread xs at_ n).1 : Int), .int .i64 (fread xs at_ n).2.1]) ∧ FW w' lo g xs (fread xs at_ n).2.2 ∧ Stp w w' g := by
  have H := Lib.hid h
  obtain ⟨hlg, ha, hb, A, c, h1, hc, hd⟩ := h
  have c0 : w.cell? ⟨g, 0, none⟩ = some (.slice A xs.length c) := Box.cell h1 0
  have c1 : w.cell? ⟨g, 1, none⟩ = some (.int .i64 (at_ : Int)) := Box.cell h1 1
  have f1 := Box.free h1 1
  have HX := Lib.hid h1
  have HD := Lib.hid hd
  clear h1 hd
  by_cases hw : n < 0 ∨ 32 < n
  · have hf : fread xs at_ n = (0, 1, at_) := by simp [fread, hw]
    rw [hf]
    clear hf
    rcases hw with hw | hw
    · go_enter Tryz.func138, Tryz.ntmps138
      go_wp2
      go_ret2
      exact ⟨rfl, H.out, Stp.refl _ _⟩
    · have hd0 : decide (n < 0) = false := by simp; omega
      go_enter Tryz.func138, Tryz.ntmps138
      go_wp2
      go_ret2
      exact ⟨rfl, H.out, Stp.refl _ _⟩
  · have hd0 : decide (n < 0) = false := by simp; omega
    have hd1 : decide (32 < n) = false := by simp; omega
    by_cases hs : (8 * xs.length : Int) - at_ < n
    · have hf : fread xs at_ n = (0, 10, at_) := by simp [fread, hw, hs]
      rw [hf]
      clear hf
      have e1 : IntKind.i64.wrap (8 * (xs.length : Int)) = 8 * (xs.length : Int) := IntWalk.i64_in _ (by omega)
      have e2 : IntKind.i64.wrap (8 * (xs.length : Int) - (at_ : Int)) = 8 * (xs.length : Int) - (at_ : Int) := IntWalk.i64_in _ (by omega)
      go_enter Tryz.func138, Tryz.ntmps138
      go_wp2
      go_quiet (fail)
      go_wp2
      go_ret2
      exact ⟨rfl, H.out, (Stp.refl _ _).drawn _⟩
    · obtain ⟨k, rfl⟩ := Int.eq_ofNat_of_zero_le (show 0 ≤ n by omega)
      have hf : fread xs at_ k = (num (((bitsOf xs).drop at_).take k), 0, at_ + k) := by simp [fread, hw, hs]
      rw [hf]
      clear hf
      have e1 : IntKind.i64.wrap (8 * (xs.length : Int)) = 8 * (xs.length : Int) := IntWalk.i64_in _ (by omega)
      have e2 : IntKind.i64.wrap (8 * (xs.length : Int) - (at_ : Int)) = 8 * (xs.length : Int) - (at_ : Int) := IntWalk.i64_in _ (by omega)
      have hk : k ≤ 32 := by omega
      have hak : at_ + k ≤ 8 * xs.length := by omega
      go_enter Tryz.func138, Tryz.ntmps138
      go_wp2
      go_quiet (fail)
      go_wp2
      go_quiet ((go_at_call 114; exact quiet_left (number_any at_ k (show Dat true (w.drewN _) lo g A xs from HD.out) rfl hak (by omega) hb)))
      go_wp2
      go_ret2
      exact ⟨rfl, (H.out.drawn _).put _ (by omega), (Stp.set _ _ _ _).drawn _⟩
end Go.Proofs.YtlidnialggpcpaaGreatDoor

/- The contracts of the program's Writer: each method at any one, and of nil. -/
namespace Go.Proofs.YtlidnialggpcpaaGreatDoor
open Go.RowKit

/-- Block g is a Writer that has the bits l: its slice is v, in memory of its own from block base on. -/
def WR (w : World) (base g : Nat) (v : Value) (l : List Bool) : Prop :=
  base ≤ g ∧ Box w g 193 #[v, .int .i64 (l.length : Nat)] ∧ OwB w 5 base v (bytesOf l)
/-- Only block g, and the row r, have turned, and new ones have come. -/
structure Foot (w w' : World) (g : Nat) (r : Option Nat) : Prop where
  os : w'.os = w.os
  tape : w'.tape = w.tape
  output : w'.output = w.output
  size : w.heap.size ≤ w'.heap.size
  block : ∀ k, k < w.heap.size → k ≠ g → some k ≠ r → w'.heap[k]? = w.heap[k]?
/-- The row is what it was, or a new one. -/
def Near (w : World) (r r' : Option Nat) : Prop := r' = r ∨ ∃ k, r' = some k ∧ w.heap.size ≤ k

section
variable {w w' w'' : World} {base g : Nat} {r r' : Option Nat} {v : Value} {l : List Bool}
theorem Foot.refl (w : World) (g : Nat) (r : Option Nat) : Foot w w g r := ⟨rfl, rfl, rfl, Nat.le_refl _, fun _ _ _ _ => rfl⟩
theorem Foot.trans (h : Foot w w' g r) (hn : Near w r r') (h' : Foot w' w'' g r') : Foot w w'' g r :=
  ⟨h'.os.trans h.os, h'.tape.trans h.tape, h'.output.trans h.output, Nat.le_trans h.size h'.size, fun k hk hg hr => by
    have := h.size
    refine (h'.block k (by omega) hg ?_).trans (h.block k hk hg hr)
    rcases hn with e | ⟨j, e, hj⟩
    · rw [e]; exact hr
    · rw [e]; intro e2; injection e2 with e2; omega⟩
theorem Foot.below {B : Nat} (h : Foot w w' g r) (hB : B ≤ w.heap.size) (hg : B ≤ g) (hr : ∀ k, r = some k → B ≤ k) : Below B w w' :=
  ⟨h.os, h.tape, h.output, h.size, fun k hk => h.block k (by omega) (by omega) (by intro e; have := hr k e.symm; omega)⟩
theorem Foot.stp (h : Stp w w' g) : Foot w w' g r := ⟨h.1.os, h.1.tape, h.1.output, h.1.size, fun k hk hg _ => h.1.block k hk (by intro e; injection e with e; exact hg e)⟩
theorem Foot.grown (h : w.grownBy w' r) : Foot w w' g r := ⟨h.os, h.tape, h.output, h.size, fun k hk _ hr => h.block k hk hr⟩
theorem Foot.drew (w : World) (g : Nat) (r : Option Nat) : Foot w w.drew g r := ⟨rfl, rfl, rfl, Nat.le_refl _, fun _ _ _ _ => rfl⟩
theorem Near.refl (w : World) (r : Option Nat) : Near w r r := .inl rfl
theorem Near.trans {r'' : Option Nat} (h : Near w r r') (h' : Near w' r' r'') (hs : w.heap.size ≤ w'.heap.size) : Near w r r'' := by
  rcases h' with e | ⟨k, e, hk⟩
  · rw [e]; exact h
  · exact .inr ⟨k, e, by omega⟩
theorem WR.lt (h : WR w base g v l) : g < w.heap.size := h.2.1.lt
theorem WR.keep (h : WR w base g v l) (he : ∀ k, base ≤ k → k < w.heap.size → w'.heap[k]? = w.heap[k]?) : WR w' base g v l := by
  obtain ⟨hb, h1, h2⟩ := h
  refine ⟨hb, h1.keep (he g hb h1.lt), h2.1, ?_⟩
  rcases h2.2 with hn | ⟨g', cap, cur, hv, hbg, hh, q⟩
  · exact .inl hn
  · exact .inr ⟨g', cap, cur, hv, hbg, (he g' hbg (Array.getElem?_eq_some_iff.1 hh).1).trans hh, q⟩
theorem WR.below {B : Nat} (h : WR w base g v l) (hb : Below B w w') (hB : w.heap.size ≤ B) : WR w' base g v l := h.keep fun k _ h2 => hb.block k (by omega)
theorem WR.row (h : WR w base g v l) : ∀ k, v.ownBlock = some k → base ≤ k ∧ k < w.heap.size := h.2.2.block
theorem WR.form (h : WR w base g v l) : ∃ A c, v = .slice A (bytesOf l).length c ∧ (bytesOf l).length ≤ c ∧ Dat true w base w.heap.size A (bytesOf l) := h.2.2.form
end

theorem newWriter_any (w : World) :
    Calls Tryz.prog 67 #[] w fun e w' => e = .returned (.pointer (some ⟨w.heap.size, 0, none⟩)) ∧ WR w' w.heap.size w.heap.size (.slice none 0 0) [] ∧ Below w.heap.size w w' := by
  go_enter Tryz.func67, Tryz.ntmps67
  go_wp2
  go_ret
  exact ⟨rfl, ⟨Nat.le_refl _, Box.new _ _ _, OwB.nil _ _ _⟩, (Below.refl _ _).alloc (Nat.le_refl _) _⟩

theorem out_nil (w : World) :
    Calls Tryz.prog 105 #[.pointer none] w fun e w' => e = .returned (.slice none 0 0) ∧ w = w' := by
  go_enter Tryz.func105, Tryz.ntmps105
  go_wp2
  go_ret
  exact ⟨rfl, rfl⟩
theorem write_no {w : World} {g : Nat} (x n : Int) (hn : wid n = false) :
    Calls Tryz.prog 71 #[.pointer (some ⟨g, 0, none⟩), .int .u64 x, .int .i64 n] w fun e w' => e = .returned (.tuple #[]) ∧ w = w' := by
  have h : n < 1 ∨ 56 < n := by unfold wid at hn; simp at hn; omega
  clear hn
  go_enter Tryz.func71, Tryz.ntmps71
  go_wp2_with (go_at_call 103; refine (isWidth_no _ _ h).mono ?_; rintro e w' ⟨rfl, rfl⟩)
  refine bodyPost_ret (results_none rfl _ _ _) rfl ?_
  exact ⟨rfl, rfl⟩

/-- What a byte becomes when a bit is laid into it. -/
theorem put_step (x j Z p : Nat) (hx : x < 18446744073709551616) (hZ : Z < 256) (hp : p < 8) :
    bits .or .u8 (Z : Int) (bits .and .u64 ((x : Int) / 2 ^ j) 1 % 256 * 2 ^ p % 256) = (((UInt8.ofNat (Z ||| (x.testBit j).toNat * 2 ^ p)).toNat : Nat) : Int) := by
  have h1 : (x : Int) / 2 ^ j = ((x / 2 ^ j : Nat) : Int) := by simp
  have h2 : x / 2 ^ j < 18446744073709551616 := Nat.lt_of_le_of_lt (Nat.div_le_self _ _) hx
  rw [h1, show (1 : Int) = ((1 : Nat) : Int) by rfl, u64_and_nat _ _ h2 (by decide), Nat.and_one_is_mod, ← testBit_toNat]
  generalize hb : (x.testBit j).toNat = b
  have hb2 : b < 2 := by rw [← hb]; exact toNat_lt2 _
  have hpp : 2 ^ p ≤ 2 ^ 7 := Nat.pow_le_pow_right (by omega) (by omega)
  have hm : b * 2 ^ p ≤ 1 * 2 ^ 7 := Nat.mul_le_mul (by omega) hpp
  have h3 : (b : Int) % 256 = (b : Int) := by omega
  have h4 : (b : Int) * 2 ^ p = ((b * 2 ^ p : Nat) : Int) := by simp
  have h5 : ((b * 2 ^ p : Nat) : Int) % 256 = ((b * 2 ^ p : Nat) : Int) := by omega
  rw [h3, h4, h5, u8_or_nat _ _ hZ (by omega)]
  have h6 : Z ||| b * 2 ^ p < 2 ^ 8 := Nat.or_lt_two_pow hZ (by omega)
  generalize Z ||| b * 2 ^ p = y at *
  simp
  omega

/-- A Writer in the midst of a bit: its slice has room for it. -/
def Mid (w : World) (base g : Nat) (v : Value) (l : List Bool) : Prop :=
  base ≤ g ∧ Box w g 193 #[v, .int .i64 (l.length : Nat)] ∧ OwB w 5 base v (pad l)

theorem Mid.open_ {w : World} {base g : Nat} {v : Value} {l : List Bool} (h : Mid w base g v l) : ∃ d c, v = .slice (some ⟨d, 0, none⟩) (l.length / 8 + 1) c ∧ d ≠ g ∧
    w.cell? ⟨g, 0, none⟩ = some (.slice (some ⟨d, 0, none⟩) (l.length / 8 + 1) c) ∧ w.cell? ⟨g, 1, none⟩ = some (.int .i64 (l.length : Nat)) ∧
    w.frozen? ⟨g, 0, none⟩ = false ∧ w.frozen? ⟨g, 1, none⟩ = false ∧
    w.cell? ⟨d, l.length / 8, none⟩ = some (.int .u8 (((pad l).getD (l.length / 8) 0).toNat : Int)) ∧ w.frozen? ⟨d, l.length / 8, none⟩ = false := by
  obtain ⟨hb, h1, h2⟩ := h
  have hlen : (pad l).length = l.length / 8 + 1 := pad_length l
  have hne := h2.ne_box h1 (by decide)
  obtain ⟨d, c, hv, hd, hlt⟩ := World.ownsRow.form h2 (by omega)
  subst hv
  have hcell := World.ownsRow.cells h2 (g := d) rfl (l.length / 8) (cel ((pad l).getD (l.length / 8) 0)) (by
    have hl2 : l.length / 8 < (pad l).length := by omega
    simp [List.getD, hl2])
  have hf : w.frozen? ⟨d, l.length / 8, none⟩ = false := by
    rcases h2.2 with ⟨e, _⟩ | ⟨g', cap, cur, e, _, hh, _⟩
    · cases e
    · injection e with e
      injection e with e
      injection e with e
      subst e
      simp [World.frozen?, hh]
  have ha : (⟨d, 0, none⟩ : Addr).add (l.length / 8) = ⟨d, l.length / 8, none⟩ := by unfold Addr.add; split <;> simp_all
  rw [ha] at hcell
  refine ⟨d, c, by rw [hlen], fun e => hne (by rw [e]; rfl), ?_, h1.cell 1, h1.free 0, h1.free 1, hcell, hf⟩
  have := h1.cell 0
  rw [hlen] at this
  exact this

theorem OwB.slice {w : World} {u base : Nat} {v : Value} {xs : List UInt8} (h : OwB w u base v xs) : ∃ A n c, v = .slice A n c := by
  obtain ⟨A, c, hv, _⟩ := h.form
  exact ⟨A, _, c, hv⟩
theorem OwB.put {w : World} {u base : Nat} {n c : Nat} {xs : List UInt8} {d : Nat} (h : OwB w u base (.slice (some ⟨d, 0, none⟩) n c) xs) (i : Nat) (y : UInt8) :
    OwB (w.setCell ⟨d, i, none⟩ (cel y)) u base (.slice (some ⟨d, 0, none⟩) n c) (xs.set i y) := by
  have hl := h.1
  rcases h.2 with ⟨e, _⟩ | ⟨g', cap, cur, e, hb, hh, hnc, hcm, hcs, ht⟩
  · cases e
  · injection e with e1 e2 e3
    injection e1 with e1
    injection e1 with e1
    subst e1
    subst e3
    refine ⟨by simp, .inr ⟨d, c, cur.setIfInBounds i (cel y), by rw [List.length_set, ← e2], hb, Box.put hh i _, by simpa using hnc, hcm, by simpa using hcs, ?_⟩⟩
    rw [Array.toList_setIfInBounds, List.take_set, List.length_set, ht, List.map_set]

/-- The bit is laid in, and counted. -/
theorem Mid.end_ {w : World} {base g d c m p x k : Nat} {Z : UInt8} {l : List Bool} (h : Mid w base g (.slice (some ⟨d, 0, none⟩) (l.length / 8 + 1) c) l) (hdg : d ≠ g) (hx : x < 18446744073709551616)
    (hZ : Z = (pad l).getD (l.length / 8) 0) (hm : m = l.length / 8) (hp : p = l.length % 8) :
    WR ((w.setCell ⟨d, m, none⟩ (.int .u8 (bits .or .u8 (Z.toNat : Int) (bits .and .u64 ((x : Int) / 2 ^ k) 1 % 256 * 2 ^ p % 256)))).setCell ⟨g, 1, none⟩ (.int .i64 ((l.length : Int) + 1))).drew base g
      (.slice (some ⟨d, 0, none⟩) (l.length / 8 + 1) c) (l ++ [x.testBit k]) ∧
    Foot w ((w.setCell ⟨d, m, none⟩ (.int .u8 (bits .or .u8 (Z.toNat : Int) (bits .and .u64 ((x : Int) / 2 ^ k) 1 % 256 * 2 ^ p % 256)))).setCell ⟨g, 1, none⟩ (.int .i64 ((l.length : Int) + 1))).drew g (some d) := by
  subst hm hp
  rw [put_step x k Z.toNat (l.length % 8) hx (UInt8.toNat_lt _) (Nat.mod_lt _ (by omega))]
  obtain ⟨hb, h1, h2⟩ := h
  refine ⟨⟨hb, ?_, ?_⟩, ⟨rfl, rfl, rfl, by simp [World.drew, World.setCell], fun j hj hg hr => ?_⟩⟩
  · have := (h1.far (p := ⟨d, l.length / 8, none⟩) (fun e => hdg e.symm) (.int .u8 (((UInt8.ofNat (Z.toNat ||| (x.testBit k).toNat * 2 ^ (l.length % 8))).toNat : Nat) : Int))).put 1 (.int .i64 ((l.length : Int) + 1))
    rw [List.length_append]
    exact this
  · have := (OwB.put h2 (l.length / 8) (UInt8.ofNat (Z.toNat ||| (x.testBit k).toNat * 2 ^ (l.length % 8)))).grown (w' := (w.setCell ⟨d, l.length / 8, none⟩ (cel (UInt8.ofNat (Z.toNat ||| (x.testBit k).toNat * 2 ^ (l.length % 8))))).setCell ⟨g, 1, none⟩ (.int .i64 ((l.length : Int) + 1))) (row := some g)
      (Stp.set _ g 1 _).1 (.inr (by simpa [Value.ownBlock] using hdg))
    rw [bytesOf_put, ← hZ]
    exact this
  · show ((w.setCell _ _).setCell _ _).heap[j]? = _
    rw [Below.heap_setCell _ _ _ j hg, Below.heap_setCell _ _ _ j (by intro e; exact hr (by rw [e]))]

theorem Mid.facts {w : World} {base g d c m : Nat} {l : List Bool} (h : Mid w base g (.slice (some ⟨d, 0, none⟩) (l.length / 8 + 1) c) l) (hm : m = l.length / 8) :
    w.cell? ⟨g, 0, none⟩ = some (.slice (some ⟨d, 0, none⟩) (m + 1) c) ∧ w.cell? ⟨g, 1, none⟩ = some (.int .i64 (l.length : Nat)) ∧
    w.frozen? ⟨g, 0, none⟩ = false ∧ w.frozen? ⟨g, 1, none⟩ = false ∧
    w.cell? ⟨d, m, none⟩ = some (.int .u8 (((pad l).getD (l.length / 8) 0).toNat : Int)) ∧ w.frozen? ⟨d, m, none⟩ = false := by
  subst hm
  obtain ⟨d', c', e, _, h1, h2, h3, h4, h5, h6⟩ := h.open_
  injection e with e _ e2
  injection e with e
  injection e with e
  subst e e2
  exact ⟨h1, h2, h3, h4, h5, h6⟩

/-- Behind an append of a new byte. -/
theorem mid_new {wr w0 w1 : World} {base g : Nat} {v v' : Value} {l : List Bool} (hB : Below wr.heap.size wr w0) (h : WR wr base g v l) (h8 : l.length % 8 = 0)
    (ho : OwB w1 5 base v' (bytesOf l ++ [0])) (hgr : w0.grownBy w1 v.ownBlock) {H : Nat} (hH : w0.heap.size = H) (hat : v'.ownBlock = v.ownBlock ∨ v'.ownBlock = some H) :
    w1.cell? ⟨g, 0, none⟩ = some v ∧ w1.cell? ⟨g, 1, none⟩ = some (.int .i64 (l.length : Nat)) ∧ w1.frozen? ⟨g, 0, none⟩ = false ∧ w1.frozen? ⟨g, 1, none⟩ = false ∧
    ∃ d c, v' = .slice (some ⟨d, 0, none⟩) (l.length / 8 + 1) c ∧ d ≠ g ∧ w1.cell? ⟨d, l.length / 8, none⟩ = some (.int .u8 (((pad l).getD (l.length / 8) 0).toNat : Int)) ∧ w1.frozen? ⟨d, l.length / 8, none⟩ = false ∧
      Hid (Mid (w1.setCell ⟨g, 0, none⟩ v') base g v' l ∧ Foot wr (w1.setCell ⟨g, 0, none⟩ v') g v.ownBlock ∧ Near wr v.ownBlock v'.ownBlock) := by
  subst hH
  obtain ⟨hb, h1, h2⟩ := h
  have hpad : pad l = bytesOf l ++ [0] := by simp [pad, h8]
  have hne := h2.ne_box h1 (by decide)
  have hlt := h1.lt
  have hx0 := h1.below hB hlt
  have hx1 := hx0.grown hgr (fun e => hne e.symm)
  have hsz := hB.size
  have hlen : (bytesOf l ++ [0]).length = l.length / 8 + 1 := by rw [← hpad, pad_length]
  obtain ⟨d, c, hv, hd, hdlt⟩ := World.ownsRow.form ho (by omega)
  have hdg : d ≠ g := by
    intro e
    subst e
    rcases hat with e | e
    · exact hne (by rw [← e, hv]; rfl)
    · rw [hv] at e
      simp only [Value.ownBlock, Option.some.injEq] at e
      omega
  rw [hlen] at hv
  have hcell := World.ownsRow.cells ho (g := d) (by rw [hv]; rfl) (l.length / 8) (cel ((bytesOf l ++ [0]).getD (l.length / 8) 0)) (by
    have hl2 : l.length / 8 < (bytesOf l ++ [0]).length := by omega
    rw [List.getElem?_map, List.getElem?_eq_getElem hl2]
    simp [List.getD, List.getElem?_eq_getElem hl2])
  have ha : (⟨d, 0, none⟩ : Addr).add (l.length / 8) = ⟨d, l.length / 8, none⟩ := by unfold Addr.add; split <;> simp_all
  rw [ha] at hcell
  have hf : w1.frozen? ⟨d, l.length / 8, none⟩ = false := by
    rcases ho.2 with ⟨e, _⟩ | ⟨g', cap, cur, e, _, hh, _⟩
    · rw [hv] at e; cases e
    · rw [hv] at e
      injection e with e
      injection e with e
      injection e with e
      subst e
      simp [World.frozen?, hh]
  refine ⟨hx1.cell 0, hx1.cell 1, hx1.free 0, hx1.free 1, d, c, hv, hdg, by rw [hpad]; exact hcell, hf, ⟨hb, hx1.put 0 _, by rw [hpad]; exact ho.grown (Stp.set _ g 0 _).1 (.inr (by rw [hv]; simpa [Value.ownBlock] using hdg))⟩, ?_, ?_⟩
  · refine ⟨hgr.os.trans hB.os, hgr.tape.trans hB.tape, hgr.output.trans hB.output, by have := hgr.size; simp [World.setCell]; omega, fun j hj hg hr => ?_⟩
    rw [Below.heap_setCell _ _ _ j hg]
    exact (hgr.block j (by omega) hr).trans (hB.block j hj)
  · rcases hat with e | e
    · exact .inl e
    · exact .inr ⟨_, e, by omega⟩

theorem mod_twice (z : Int) : z % 256 * 2 ^ 0 % 256 = z % 256 := by simp

set_option maxRecDepth 100000 in
set_option maxHeartbeats 800000 in
theorem write_yes {w : World} {base g : Nat} {v : Value} {l : List Bool} (x n : Nat) (h : WR w base g v l) (h1 : 1 ≤ n) (h2 : n ≤ 56) (hx : x < 18446744073709551616) (hb : l.length ≤ 1000000000000) :
    Calls Tryz.prog 71 #[.pointer (some ⟨g, 0, none⟩), .int .u64 (x : Int), .int .i64 (n : Int)] w fun e w' => e = .returned (.tuple #[]) ∧
      ∃ v', WR w' base g v' (l ++ low x n) ∧ Foot w w' g v.ownBlock ∧ Near w v.ownBlock v'.ownBlock := by
  obtain ⟨i0, hi0, hz0, hz1, hz2⟩ := info_parts u8_info
  have hg0 := h.1
  have hbg : base ≤ w.heap.size := by have := h.lt; omega
  have H0 := Lib.hid h
  clear h
  go_enter Tryz.func71, Tryz.ntmps71
  go_wp2_with (go_at_call 103; refine (isWidth_yes _ _ (by omega) (by omega)).mono ?_; rintro e w' ⟨rfl, rfl⟩)
  go_loopw [16] (fun i wr => ∃ k : Nat, k ≤ n ∧ i = .int .i64 k ∧ ∃ v', WR wr base g v' (l ++ low x k) ∧ Foot w wr g v.ownBlock ∧ Near w v.ownBlock v'.ownBlock) (fun i _ => n - (intOf i).toNat)
  case atStart => exact ⟨0, Nat.zero_le _, rfl, v, by simpa [low] using H0.out, Foot.refl _ _ _, Near.refl _ _⟩
  case round =>
    obtain ⟨k, hk, rfl, v', hw, hF, hN⟩ := hrel
    have HF := Lib.hid hF
    have HN := Lib.hid hN
    have HW := Lib.hid hw
    clear hF hN
    by_cases hkn : k < n
    · obtain ⟨L, hL⟩ : ∃ L, L = l ++ low x k := ⟨_, rfl⟩
      rw [← hL] at hw HW
      have hLl : L.length ≤ 1000000000056 := by rw [hL]; simp [low_length]; omega
      have HL := Lib.hid hL
      clear hL
      by_cases h8 : L.length % 8 = 0
      · obtain ⟨A, c', hv', _, _⟩ := hw.form
        subst hv'
        have c0 : wr.cell? ⟨g, 0, none⟩ = some (.slice A (bytesOf L).length c') := hw.2.1.cell 0
        have c1 : wr.cell? ⟨g, 1, none⟩ = some (.int .i64 (L.length : Nat)) := hw.2.1.cell 1
        have f0 := hw.2.1.free 0
        have H8 := Lib.hid h8
        have hbw : base ≤ wr.heap.size := by have := hw.lt; omega
        have h8' : ((L.length : Nat) : Int) % 8 = 0 := by omega
        have HD := Lib.hid (dat_one wr 0 5)
        have HO := Lib.hid (hw.2.2.alloc (.cells #[cel 0] 5))
        have HBl : Hid ((bytesOf L).length ≤ 1000000000000) := by
          show (bytesOf L).length ≤ 1000000000000
          rw [bytesOf_length]
          omega
        clear hw h8
        go_wp2_with (at_builtin; refine list_app _ rfl _ _ 22 rfl i0 Tryz.underlying22 hi0 hz0 hz1 hz2 rfl HO.out rfl HD.out rfl ?_ ?_ ?_)
        · have := HBl.out; simp; omega
        · simp; omega
        intro v1 w1 ho hgr hat
        obtain ⟨q0, q1, g0, g1, d, c, rfl, hdg, cd, fd, HM⟩ := mid_new ((Below.refl _ _).alloc (Nat.le_refl _) _) HW.out H8.out ho hgr (by simp) hat
        clear ho hgr hat
        obtain ⟨m, hme⟩ : ∃ m, m = L.length / 8 := ⟨_, rfl⟩
        have hm8 : m ≤ 1000000000056 := by omega
        have HM' : Hid (Mid (w1.setCell ⟨g, 0, none⟩ (.slice (some ⟨d, 0, none⟩) (m + 1) c)) base g (.slice (some ⟨d, 0, none⟩) (L.length / 8 + 1) c) L) := by rw [hme]; exact HM.out.1
        have HF' : Hid (Foot wr (w1.setCell ⟨g, 0, none⟩ (.slice (some ⟨d, 0, none⟩) (m + 1) c)) g (Value.slice A (bytesOf L).length c').ownBlock ∧ Near wr (Value.slice A (bytesOf L).length c').ownBlock (some d)) := by rw [hme]; exact HM.out.2
        rw [← hme] at cd fd
        rw [← hme]
        have HMm := Lib.hid hme
        clear hme HM cd fd
        go_wp2
        obtain ⟨p0, p1, pf0, pf1, pd, pfd⟩ := HM'.out.facts HMm.out
        generalize w1.setCell ⟨g, 0, none⟩ (.slice (some ⟨d, 0, none⟩) (m + 1) c) = w2 at *
        have hZ : ((pad L).getD (L.length / 8) 0).toNat < 256 := UInt8.toNat_lt _
        obtain ⟨Z, hZe⟩ : ∃ Z, Z = (pad L).getD (L.length / 8) 0 := ⟨_, rfl⟩
        rw [← hZe] at hZ pd
        have HZ := Lib.hid hZe
        have ew : IntKind.i64.wrap (m : Int) = (m : Int) := IntWalk.i64_in _ (by omega)
        have em : (m : Int) < (m : Int) + 1 := by omega
        clear hZe q0 q1 g0 g1 c0 c1 f0
        go_still_tail 21, (by kernel_rfl)
        change wpList _ _ _ _ _ w2.drew
        go_wp2
        go_roundw
        case rel =>
          have he := Mid.end_ (k := k) (p := 0) HM'.out hdg hx HZ.out HMm.out H8.out.symm
          rw [mod_twice] at he
          refine ⟨k + 1, by omega, by go_num, _, ?_, HF.out.trans HN.out (HF'.out.1.trans HF'.out.2 he.2), HN.out.trans (show Near wr _ (Value.slice (some ⟨d, 0, none⟩) (L.length / 8 + 1) c).ownBlock from HF'.out.2) HF.out.size⟩
          rw [low_succ, ← List.append_assoc, ← HL.out]
          exact he.1
        case measure => simp [intOf]; omega
      · have hmid : Mid wr base g v' L := ⟨hw.1, hw.2.1, by rw [show pad L = bytesOf L by simp [pad, h8]]; exact hw.2.2⟩
        obtain ⟨d, c, rfl, hdg, c0, c1, f0, f1, cd, fd⟩ := hmid.open_
        have HM := Lib.hid hmid
        have hZ : ((pad L).getD (L.length / 8) 0).toNat < 256 := UInt8.toNat_lt _
        clear hmid hw
        obtain ⟨Z, hZe⟩ : ∃ Z, Z = (pad L).getD (L.length / 8) 0 := ⟨_, rfl⟩
        obtain ⟨m, hme⟩ : ∃ m, m = L.length / 8 := ⟨_, rfl⟩
        obtain ⟨p, hpe⟩ : ∃ p, p = L.length % 8 := ⟨_, rfl⟩
        have hp8 : p < 8 := by omega
        have h8' : ((p : Int) == 0) = false := by simp; omega
        have hm8 : m ≤ 1000000000056 := by omega
        have e7 : ((L.length : Nat) : Int) % 8 = (p : Int) := by omega
        rw [← hZe] at hZ cd
        rw [← hme] at c0 cd fd
        have HZ := Lib.hid hZe
        have HMm := Lib.hid hme
        have HP := Lib.hid hpe
        clear hZe hme hpe h8
        have ew : IntKind.i64.wrap (m : Int) = (m : Int) := IntWalk.i64_in _ (by omega)
        have em : (m : Int) < (m : Int) + 1 := by omega
        go_wp2
        go_still_tail 21, (by kernel_rfl)
        change wpList _ _ _ _ _ wr.drew
        go_wp2
        go_roundw
        case rel =>
          have he := Mid.end_ (k := k) HM.out hdg hx HZ.out HMm.out HP.out
          refine ⟨k + 1, by omega, by go_num, _, ?_, HF.out.trans HN.out he.2, HN.out⟩
          rw [low_succ, ← List.append_assoc, ← HL.out]
          exact he.1
        case measure => simp [intOf]; omega
    · go_wp2
      go_end0
      obtain rfl : k = n := by omega
      exact ⟨rfl, v', HW.out, HF.out, HN.out⟩

/-- What is written of a number: nothing, where it may not have so many bits. -/
def lows (x : Nat) (n : Int) : List Bool := if wid n then low x n.toNat else []
theorem write_any {w : World} {base g : Nat} {v : Value} {l : List Bool} (x : Nat) (n : Int) (h : WR w base g v l) (hx : x < 18446744073709551616) (hb : l.length ≤ 1000000000000) :
    Calls Tryz.prog 71 #[.pointer (some ⟨g, 0, none⟩), .int .u64 (x : Int), .int .i64 n] w fun e w' => e = .returned (.tuple #[]) ∧
      ∃ v', WR w' base g v' (l ++ lows x n) ∧ Foot w w' g v.ownBlock ∧ Near w v.ownBlock v'.ownBlock := by
  by_cases hn : wid n = true
  · have hn' : 1 ≤ n ∧ n ≤ 56 := by simpa [wid] using hn
    rw [show lows x n = low x n.toNat by simp [lows, hn]]
    obtain ⟨k, rfl⟩ := Int.eq_ofNat_of_zero_le (show 0 ≤ n by omega)
    exact write_yes x k h (by omega) (by omega) hx hb
  · have hn' : wid n = false := by simpa using hn
    rw [show lows x n = [] by simp [lows, hn']]
    refine (write_no _ _ hn').mono fun e w' ⟨he, hw⟩ => ?_
    subst hw
    exact ⟨he, v, by simpa using h, Foot.refl _ _ _, Near.refl _ _⟩

theorem out_any {w : World} {base g : Nat} {v : Value} {l : List Bool} (h : WR w base g v l) (hb : l.length ≤ 1000000000000) :
    Calls Tryz.prog 105 #[.pointer (some ⟨g, 0, none⟩)] w fun e w' => ∃ v', e = .returned v' ∧ OwB w' 5 w.heap.size v' (bytesOf l) ∧ Below w.heap.size w w' := by
  obtain ⟨hg, h1, h2⟩ := h
  obtain ⟨A, c, rfl, hc, hd⟩ := h2.form
  have hc0 : w.cell? ⟨g, 0, none⟩ = some (.slice A (bytesOf l).length c) := h1.cell 0
  have hC := Lib.hid (clone_any (c := c) hd rfl (by rw [bytesOf_length]; omega) (Nat.le_refl _))
  clear h1 h2 hd hb
  go_enter Tryz.func105, Tryz.ntmps105
  go_wp2_with (go_at_call 42; refine hC.out.mono ?_; rintro e w1 ⟨v, rfl, hq⟩)
  go_ret
  exact ⟨_, rfl, hq⟩

theorem OwB.mono {w : World} {u base b : Nat} {v : Value} {xs : List UInt8} (h : OwB w u base v xs) (hb : b ≤ base) : OwB w u b v xs := by
  refine ⟨h.1, ?_⟩
  rcases h.2 with hn | ⟨g, cap, cur, hv, hg, q⟩
  · exact .inl hn
  · exact .inr ⟨g, cap, cur, hv, by omega, q⟩
/-- What Closed closes: where its block came behind the bytes. -/
theorem closed_behind {w w1 : World} {v1 : Value} {l : List Bool} (ho : OwB w1 5 w.heap.size v1 (bytesOf l)) (hB : Below w.heap.size w.drew w1) :
    ∃ bv v, Value.pointer (some ⟨w1.heap.size, 0, none⟩) = .pointer (some ⟨bv, 0, none⟩) ∧ WR (w1.alloc (.cells #[v1, .int .i64 (l.length : Nat)] 193)) w.heap.size bv v l ∧ Below w.heap.size w (w1.alloc (.cells #[v1, .int .i64 (l.length : Nat)] 193)) :=
  ⟨_, v1, rfl, ⟨hB.size, Box.new _ _ _, ho.alloc _⟩, (((Below.refl _ _).drew).trans hB).alloc hB.size _⟩
theorem closed_ahead {w w1 : World} {v1 : Value} {l : List Bool} {z0 z1 : Value} {B : Nat} (hBe : B = w.heap.size + 1) (ho : OwB w1 5 B v1 (bytesOf l)) (hB : Below B (w.alloc (.cells #[z0, z1] 193)).drew w1) :
    ∃ bv v, Value.pointer (some ⟨w.heap.size, 0, none⟩) = .pointer (some ⟨bv, 0, none⟩) ∧ WR ((w1.setCell ⟨w.heap.size, 0, none⟩ v1).setCell ⟨w.heap.size, 1, none⟩ (.int .i64 (l.length : Nat))) w.heap.size bv v l ∧
      Below w.heap.size w ((w1.setCell ⟨w.heap.size, 0, none⟩ v1).setCell ⟨w.heap.size, 1, none⟩ (.int .i64 (l.length : Nat))) := by
  have hb : Box w1 w.heap.size 193 #[z0, z1] := Box.below (w := (w.alloc (.cells #[z0, z1] 193)).drew) (Box.new w _ _) hB (by omega)
  have hB' : Below w.heap.size w w1 := (((Below.refl _ _).alloc (Nat.le_refl _) _).drew).trans (hB.mono (by omega))
  have hne : v1.ownBlock ≠ some w.heap.size := fun e => by have := (ho.block _ e).1; omega
  refine ⟨_, v1, rfl, ⟨Nat.le_refl _, (hb.put 0 _).put 1 _, ?_⟩, (hB'.setCell (Nat.le_refl _) _).setCell (Nat.le_refl _) _⟩
  exact ((ho.mono (by omega)).grown (Stp.set _ w.heap.size 0 _).1 (.inr hne)).grown (Stp.set _ w.heap.size 1 _).1 (.inr hne)

theorem behind_new {w w1 : World} {g : Nat} {u z0 z1 : Value} {t : TypeId} (hlt : g < w.heap.size) (c1 : w.cell? ⟨g, 1, none⟩ = some u) (hB : Below (w.alloc (.cells #[z0, z1] t)).drew.heap.size (w.alloc (.cells #[z0, z1] t)).drew w1) :
    w1.cell? ⟨g, 1, none⟩ = some u ∧ w1.cell? ⟨w.heap.size, 0, none⟩ = some z0 ∧ w1.cell? ⟨w.heap.size, 1, none⟩ = some z1 ∧ w1.frozen? ⟨w.heap.size, 0, none⟩ = false ∧ w1.frozen? ⟨w.heap.size, 1, none⟩ = false := by
  have hb : Box w1 w.heap.size t #[z0, z1] := Box.below (w := (w.alloc (.cells #[z0, z1] t)).drew) (Box.new w _ _) hB (by simp [World.drew])
  refine ⟨?_, hb.cell 0, hb.cell 1, hb.free 0, hb.free 1⟩
  have hB' : Below w.heap.size w w1 := (((Below.refl _ _).alloc (Nat.le_refl _) _).drew).trans (hB.mono (by simp [World.drew]))
  exact (hB'.cell (p := ⟨g, 1, none⟩) hlt).trans c1

theorem cell?_far {w : World} {g h i : Nat} (j : Nat) (u : Value) (hne : g ≠ h) : (w.setCell ⟨h, j, none⟩ u).cell? ⟨g, i, none⟩ = w.cell? ⟨g, i, none⟩ :=
  World.cell?_of_block (Below.heap_setCell w _ u g hne)
set_option maxHeartbeats 800000 in
theorem closed_any {w : World} {base g : Nat} {v : Value} {l : List Bool} (h : WR w base g v l) (hb : l.length ≤ 1000000000) :
    Calls Tryz.prog 73 #[.pointer (some ⟨g, 0, none⟩)] w fun e w' => ∃ v', e = .returned v' ∧ OwB w' 5 w.heap.size v' (bytesOf (l ++ [true])) ∧ Below w.heap.size w w' := by
  have hO := Lib.hid (out_any (w := w.drew) (h : WR w.drew base g v l) (by omega))
  have hO2 := Lib.hid (out_any (w := (w.alloc (.cells #[.slice none 0 0, .int .i64 0] 193)).drew) (h.keep (w' := (w.alloc (.cells #[.slice none 0 0, .int .i64 0] 193)).drew) fun k _ hk => Below.heap_alloc w _ k hk) (by omega))
  have hlt := h.lt
  have hgn : g ≠ w.heap.size := by omega
  have hgn' : w.heap.size ≠ g := by omega
  have c1 : w.cell? ⟨g, 1, none⟩ = some (.int .i64 (l.length : Nat)) := h.2.1.cell 1
  clear h
  go_enter Tryz.func73, Tryz.ntmps73
  go_upto_region 3 with fail
  go_cut [3] (fun x wx => ∃ bv v, x = .pointer (some ⟨bv, 0, none⟩) ∧ WR wx w.heap.size bv v l ∧ Below w.heap.size w wx)
  case first =>
    go_region_held3 (fun w' => w'.cell? ⟨g, 1, none⟩ = some (.int .i64 (l.length : Nat))) (first | exact c1 | go_keep | (rw [cell?_far _ _ hgn, cell?_far _ _ hgn]; assumption)) (first | (go_at_call 105; refine hO.out.mono ?_; rintro e' w1 ⟨v1, rfl, ho, hB⟩; have hk1 : w1.cell? ⟨g, 1, none⟩ = some (.int .i64 (l.length : Nat)) := (hB.cell (p := ⟨g, 1, none⟩) (by exact hlt)).trans c1; obtain ⟨A1, n1, cc1, hv1⟩ := ho.slice; subst hv1; have HB := Lib.hid hB; have HO1 := Lib.hid ho; clear hB ho) | (go_at_call 105; refine hO2.out.mono ?_; rintro e' w1 ⟨v1, rfl, ho, hB⟩; obtain ⟨hk1, z0, z1, y0, y1⟩ := behind_new hlt c1 hB; obtain ⟨A1, n1, cc1, hv1⟩ := ho.slice; subst hv1; have HB := Lib.hid hB; have HO1 := Lib.hid ho; clear hB ho))
    all_goals go_wp2_with fail
    all_goals go_meet
    all_goals first | exact closed_behind HO1.out HB.out | exact closed_ahead (by simp [World.drew]) HO1.out HB.out
  case rest =>
    obtain ⟨bv, v, rfl, hw, hB⟩ := hcut
    have HB := Lib.hid hB
    have HW := Lib.hid hw
    clear hB hw
    go_wp2_with fail
    refine (write_any (x := 1) 1 HW.out (by decide) (by omega)).mono ?_
    rintro e' w2 ⟨rfl, v2, hw2, hF, hN⟩
    rw [show lows 1 1 = [true] by decide] at hw2
    have hrow := HW.out.row
    have hsz := HB.out.size
    have hbv := HW.out.1
    have HF := Lib.hid (HB.out.trans (hF.below hsz hbv (fun k hk => (hrow k hk).1)))
    obtain ⟨A2, n2, c2, hv2⟩ := hw2.2.2.slice
    subst hv2
    have q0 : w2.cell? ⟨bv, 0, none⟩ = some (.slice A2 n2 c2) := hw2.2.1.cell 0
    have HO := Lib.hid hw2.2.2
    clear hw2 hF hN hrow
    go_wp2_with fail
    go_ret
    exact ⟨_, rfl, HO.out, HF.out⟩
end Go.Proofs.YtlidnialggpcpaaGreatDoor

/- The contracts of the program's Backward: each method at any one, and of nil. -/
namespace Go.Proofs.YtlidnialggpcpaaGreatDoor
open Go.RowKit

/-- How many of n bits there are. -/
def there (left n : Int) : Nat := min n.toNat left.toNat
/-- What a Backward with so many bits left of the bytes xs reads: the number, and how many are left then. -/
def bread (xs : List UInt8) (left n : Int) : Nat × Int :=
  if wid n then (num (((bitsOf xs).drop (left.toNat - there left n)).take (there left n)) * 2 ^ (n.toNat - there left n), left - n) else (0, left)

/-- Block g is a Backward of the bytes xs, which lie from block lo on and below g, with so many bits left. -/
def BW (w : World) (lo g : Nat) (xs : List UInt8) (left : Int) : Prop :=
  lo ≤ g ∧ left ≤ 8 * xs.length ∧ xs.length ≤ 1099511627776 ∧ ∃ A c, Box w g 171 #[.slice A xs.length c, .int .i64 left] ∧ xs.length ≤ c ∧ Dat true w lo g A xs

section
variable {w w' : World} {lo g : Nat} {left : Int} {xs : List UInt8}
theorem BW.lt (h : BW w lo g xs left) : g < w.heap.size := by
  obtain ⟨_, _, _, A, c, h1, _⟩ := h
  exact Box.lt h1
theorem BW.keep (h : BW w lo g xs left) (he : ∀ k, lo ≤ k → k ≤ g → w'.heap[k]? = w.heap[k]?) : BW w' lo g xs left := by
  obtain ⟨h0, h1, hb, A, c, h2, h3, h4⟩ := h
  exact ⟨h0, h1, hb, A, c, Box.keep h2 (he g h0 (Nat.le_refl _)), h3, h4.keep fun k hl hg => he k hl (by omega)⟩
theorem BW.below {B : Nat} (h : BW w lo g xs left) (hb : Below B w w') (hg : g < B) : BW w' lo g xs left := h.keep fun k _ hk => hb.block k (by omega)
theorem BW.stp {k : Nat} (h : BW w lo g xs left) (hs : Stp w w' k) (hk : k < lo ∨ g < k) : BW w' lo g xs left := by
  have hg := h.lt
  exact h.keep fun j h1 h2 => hs.1.block j (by omega) (by intro e; injection e with e; omega)
theorem BW.put (h : BW w lo g xs left) (b : Int) (hb : b ≤ 8 * xs.length) : BW (w.setCell ⟨g, 1, none⟩ (.int .i64 b)) lo g xs b := by
  obtain ⟨h0, h1, hb', A, c, h2, h3, h4⟩ := h
  exact ⟨h0, hb, hb', A, c, Box.put h2 1 _, h3, h4.far (by simp) _⟩
theorem BW.drawn (h : BW w lo g xs left) (n : Nat) : BW (w.drewN n) lo g xs left := h
end

theorem left_nil (w : World) : Calls Tryz.prog 53 #[.pointer none] w fun e w' => e = .returned (.int .i64 0) ∧ w = w' := by
  go_enter Tryz.func53, Tryz.ntmps53
  go_wp2
  go_ret
  exact ⟨rfl, rfl⟩
theorem left_any {w : World} {lo g : Nat} {left : Int} {xs : List UInt8} (h : BW w lo g xs left) :
    Calls Tryz.prog 53 #[.pointer (some ⟨g, 0, none⟩)] w fun e w' => e = .returned (.int .i64 left) ∧ w = w' := by
  obtain ⟨_, ha, hb, A, c, h1, _⟩ := h
  have c1 : w.cell? ⟨g, 1, none⟩ = some (.int .i64 left) := Box.cell h1 1
  clear h1
  go_enter Tryz.func53, Tryz.ntmps53
  go_wp2
  go_ret
  exact ⟨rfl, rfl⟩

theorem shl_in (X k m : Nat) (hX : X < 2 ^ k) (h : k + m ≤ 56) : IntKind.u64.wrap ((X : Int) * 2 ^ m) = ((X * 2 ^ m : Nat) : Int) := by
  have h1 : X * 2 ^ m < 2 ^ (k + m) := by rw [Nat.pow_add]; exact Nat.mul_lt_mul_of_pos_right hX (Nat.two_pow_pos m)
  have h2 : 2 ^ (k + m) ≤ 2 ^ 56 := Nat.pow_le_pow_right (by omega) h
  have h3 : (X : Int) * 2 ^ m = ((X * 2 ^ m : Nat) : Int) := by simp
  rw [h3, IntKind.wrap_u64]
  omega

theorem number_none (A : Option Addr) (n c : Nat) (a : Int) (w : World) :
    Calls Tryz.prog 114 #[.slice A n c, .int .i64 a, .int .i64 0] w fun e w' => e = .returned (.int .u64 0) ∧ w = w' := by
  go_enter Tryz.func114, Tryz.ntmps114
  go_wp2
  go_loop [7, 12] (fun x i => i = .int .i64 0 ∧ x = .int .u64 0) (fun _ i => 0)
  case atStart => exact ⟨rfl, rfl⟩
  case round =>
    obtain ⟨rfl, rfl⟩ := hrel
    go_wp2
    go_ret
    exact ⟨rfl, rfl⟩
theorem number_int {own : Bool} {w : World} {lo hi : Nat} {A : Option Addr} {n c : Nat} {xs : List UInt8} (a k : Int) (h0 : 0 ≤ a) (h1 : 0 ≤ k) (hd : Dat own w lo hi A xs) (hn : xs.length = n) (h : a + k ≤ 8 * n) (hk : k ≤ 56) (hb : n ≤ 1099511627776) :
    Calls Tryz.prog 114 #[.slice A n c, .int .i64 a, .int .i64 k] w fun e w' => e = .returned (.int .u64 (num (((bitsOf xs).drop a.toNat).take k.toNat) : Nat)) ∧ w = w' := by
  obtain ⟨a, rfl⟩ := Int.eq_ofNat_of_zero_le h0
  obtain ⟨k, rfl⟩ := Int.eq_ofNat_of_zero_le h1
  exact number_any a k hd hn (by omega) (by omega) hb

theorem quiet_one {P : Program} {f : FuncId} {args : Array Value} {w : World} {n : Nat} {v : Value}
    (h : Calls P f args (w.drewN n) fun e w' => e = .returned v ∧ w.drewN n = w') : Calls P f args (w.drewN n) fun e w'' => e = .returned v ∧ ∃ m, w'' = w.drewN m :=
  h.mono fun _ _ ⟨he, hm⟩ => ⟨he, n, hm.symm⟩

/-- Where nothing is left. -/
theorem bread_none {w : World} {lo g : Nat} {left : Int} {xs : List UInt8} (n : Int) (h : BW w lo g xs left) (hl : -1000000000000 ≤ left) (hw1 : 1 ≤ n) (hw2 : n ≤ 56) (h0 : left < 0) :
    Calls Tryz.prog 86 #[.pointer (some ⟨g, 0, none⟩), .int .i64 n] w fun e w' => e = .returned (.int .u64 0) ∧ BW w' lo g xs (left - n) ∧ Stp w w' g := by
  have H := Lib.hid h
  obtain ⟨hlg, ha, hb, A, c, h1, hc, hd⟩ := h
  have c0 : w.cell? ⟨g, 0, none⟩ = some (.slice A xs.length c) := Box.cell h1 0
  have c1 : w.cell? ⟨g, 1, none⟩ = some (.int .i64 left) := Box.cell h1 1
  have f1 := Box.free h1 1
  clear h1 hd
  have e1 : IntKind.i64.wrap left = left := IntWalk.i64_in _ (by omega)
  go_enter Tryz.func86, Tryz.ntmps86
  go_wp2_with (go_at_call 103; refine (isWidth_yes _ _ hw1 hw2).mono ?_; rintro e w' ⟨rfl, rfl⟩)
  go_quiet ((go_at_call 114; exact quiet_one (number_none _ _ _ _ _)))
  go_wp2
  go_ret
  exact ⟨rfl, (H.out.drawn _).put _ (by omega), (Stp.set _ _ _ _).drawn _⟩

/-- Where there are enough. -/
theorem bread_full {w : World} {lo g : Nat} {left : Int} {xs : List UInt8} (n : Int) (h : BW w lo g xs left) (hw1 : 1 ≤ n) (hw2 : n ≤ 56) (h0 : n ≤ left) :
    Calls Tryz.prog 86 #[.pointer (some ⟨g, 0, none⟩), .int .i64 n] w fun e w' =>
      e = .returned (.int .u64 (num (((bitsOf xs).drop (left - n).toNat).take n.toNat) : Nat)) ∧ BW w' lo g xs (left - n) ∧ Stp w w' g := by
  have H := Lib.hid h
  obtain ⟨hlg, ha, hb, A, c, h1, hc, hd⟩ := h
  have c0 : w.cell? ⟨g, 0, none⟩ = some (.slice A xs.length c) := Box.cell h1 0
  have c1 : w.cell? ⟨g, 1, none⟩ = some (.int .i64 left) := Box.cell h1 1
  have f1 := Box.free h1 1
  have HD := Lib.hid hd
  clear h1 hd
  have hpos : 0 < left := by omega
  have hfit : num (((bitsOf xs).drop (left - n).toNat).take n.toNat) < 2 ^ 56 :=
    Nat.lt_of_lt_of_le (num_lt _) (Nat.pow_le_pow_right (by omega) (by simp; omega))
  have HF := Lib.hid (shl_in _ 56 0 hfit (by omega))
  clear hfit
  have e1 : IntKind.i64.wrap (left - n) = left - n := IntWalk.i64_in _ (by omega)
  go_enter Tryz.func86, Tryz.ntmps86
  go_wp2_with (go_at_call 103; refine (isWidth_yes _ _ hw1 hw2).mono ?_; rintro e w' ⟨rfl, rfl⟩)
  go_quiet ((go_at_call 114; exact quiet_one (number_int _ _ (by omega) (by omega) (show Dat true (w.drewN _) lo g A xs from HD.out) rfl (by omega) hw2 hb)))
  go_wp2
  go_ret
  refine ⟨?_, (H.out.drawn _).put _ (by omega), (Stp.set _ _ _ _).drawn _⟩
  have hf := HF.out
  simp only [Int.pow_zero, Nat.pow_zero, Int.mul_one, Nat.mul_one] at hf
  show Ending.returned (.int .u64 (IntKind.u64.wrap _)) = _
  rw [hf]

/-- Where there are some, and some lack. -/
theorem bread_part {w : World} {lo g : Nat} {left : Int} {xs : List UInt8} (n : Int) (h : BW w lo g xs left) (hw1 : 1 ≤ n) (hw2 : n ≤ 56) (h0 : 0 ≤ left) (hn : left < n) :
    Calls Tryz.prog 86 #[.pointer (some ⟨g, 0, none⟩), .int .i64 n] w fun e w' =>
      e = .returned (.int .u64 (num (((bitsOf xs).drop (0 : Int).toNat).take left.toNat) * 2 ^ (n - left).toNat : Nat)) ∧ BW w' lo g xs (left - n) ∧ Stp w w' g := by
  have H := Lib.hid h
  obtain ⟨hlg, ha, hb, A, c, h1, hc, hd⟩ := h
  have c0 : w.cell? ⟨g, 0, none⟩ = some (.slice A xs.length c) := Box.cell h1 0
  have c1 : w.cell? ⟨g, 1, none⟩ = some (.int .i64 left) := Box.cell h1 1
  have f1 := Box.free h1 1
  have HD := Lib.hid hd
  clear h1 hd
  have hfit : num (((bitsOf xs).drop (0 : Int).toNat).take left.toNat) < 2 ^ left.toNat :=
    Nat.lt_of_lt_of_le (num_lt _) (Nat.pow_le_pow_right (by omega) (by simp; omega))
  have HF := Lib.hid (shl_in _ _ (n - left).toNat hfit (by omega))
  clear hfit
  go_enter Tryz.func86, Tryz.ntmps86
  go_wp2_with (go_at_call 103; refine (isWidth_yes _ _ hw1 hw2).mono ?_; rintro e w' ⟨rfl, rfl⟩)
  go_quiet ((go_at_call 114; exact quiet_one (number_int _ _ (by omega) (by omega) (show Dat true (w.drewN _) lo g A xs from HD.out) rfl (by omega) (by omega) hb)))
  go_wp2
  go_ret
  exact ⟨by rw [← HF.out]; rfl, (H.out.drawn _).put _ (by omega), (Stp.set _ _ _ _).drawn _⟩

theorem bread_any {w : World} {lo g : Nat} {left : Int} {xs : List UInt8} (n : Int) (h : BW w lo g xs left) (hl : -1000000000000 ≤ left) :
    Calls Tryz.prog 86 #[.pointer (some ⟨g, 0, none⟩), .int .i64 n] w fun e w' =>
      e = .returned (.int .u64 ((bread xs left n).1 : Int)) ∧ BW w' lo g xs (bread xs left n).2 ∧ Stp w w' g := by
  by_cases hw : 1 ≤ n ∧ n ≤ 56
  · obtain ⟨hw1, hw2⟩ := hw
    have hf : bread xs left n = (num (((bitsOf xs).drop (left.toNat - there left n)).take (there left n)) * 2 ^ (n.toNat - there left n), left - n) := by
      rw [bread, if_pos (by simp [wid, hw1, hw2])]
    rw [hf]
    by_cases h0 : left < 0
    · have ht : there left n = 0 := by unfold there; omega
      rw [ht, List.take_zero, num, Nat.zero_mul]
      exact bread_none n h hl hw1 hw2 h0
    · by_cases h1 : n ≤ left
      · have ht : there left n = n.toNat := by unfold there; omega
        rw [ht, Nat.sub_self, Nat.pow_zero, Nat.mul_one, show left.toNat - n.toNat = (left - n).toNat by omega]
        exact bread_full n h hw1 hw2 h1
      · have ht : there left n = left.toNat := by unfold there; omega
        rw [ht, show left.toNat - left.toNat = (0 : Int).toNat by simp, show n.toNat - left.toNat = (n - left).toNat by omega]
        exact bread_part n h hw1 hw2 (by omega) (by omega)
  · have hf : bread xs left n = (0, left) := by rw [bread, if_neg (by simp only [wid, decide_eq_true_eq]; exact hw)]
    rw [hf]
    have H := Lib.hid h
    clear hf h
    go_enter Tryz.func86, Tryz.ntmps86
    go_wp2_with (go_at_call 103; refine (isWidth_no _ _ (by omega)).mono ?_; rintro e w' ⟨rfl, rfl⟩)
    go_ret
    exact ⟨rfl, H.out, Stp.refl _ _⟩

/-- Bytes that have no back. -/
def noBack (xs : List UInt8) : Bool := decide (xs.length = 0) || decide (xs.getD (xs.length - 1) 0 = 0)

theorem newBack_no {own : Bool} {w : World} {lo hi : Nat} {A : Option Addr} {n c : Nat} {xs : List UInt8} (hd : Dat own w lo hi A xs) (hn : xs.length = n) (hb : xs.length ≤ 1099511627776) (hx : noBack xs = true) :
    Calls Tryz.prog 49 #[.slice A n c] w fun e w' => e = .returned (.tuple #[.pointer none, .int .i64 11]) ∧ w = w' := by
  have HD := Lib.hid hd
  clear hd
  subst hn
  by_cases h0 : xs.length = 0
  · have hq : Hid (xs.length = 0) := h0
    have hl : ((xs.length : Int) == 0) = true := by simp [h0]
    clear hx h0
    go_enter Tryz.func49, Tryz.ntmps49
    go_wp2
    go_ret2
    exact ⟨rfl, rfl⟩
  · have hz : xs.getD (xs.length - 1) 0 = 0 := by simpa [noBack, h0] using hx
    have hpos : 0 < xs.length := by omega
    obtain ⟨d, o, rfl, _, _, hc, _⟩ := HD.out hpos
    have hk := hc (xs.length - 1) (by omega)
    rw [hz] at hk
    unfold cel at hk
    have e1 : ((xs.length : Int) - 1).toNat = xs.length - 1 := by omega
    have hlf : ((xs.length : Int) == 0) = false := by simpa using List.ne_nil_of_length_pos hpos
    have hne : xs ≠ [] := List.ne_nil_of_length_pos hpos
    clear hx h0 hz hc
    go_enter Tryz.func49, Tryz.ntmps49
    go_wp2
    go_ret2
    exact ⟨rfl, rfl⟩

set_option maxHeartbeats 400000 in
theorem newBack_yes {own : Bool} {w : World} {lo hi : Nat} {A : Option Addr} {n c : Nat} {xs : List UInt8} (hd : Dat own w lo hi A xs) (hn : xs.length = n) (hb : xs.length ≤ 1099511627776) (hhi : hi ≤ w.heap.size) (hx : noBack xs = false) :
    Calls Tryz.prog 49 #[.slice A n c] w fun e w' => ∃ g, e = .returned (.tuple #[.pointer (some ⟨g, 0, none⟩), .int .i64 0]) ∧ BW w' w.heap.size g xs (top xs : Nat) ∧ Below w.heap.size w w' := by
  have hC := Lib.hid (clone_any (w := w.drew) (c := c) (hd : Dat own w.drew lo hi A xs) rfl hb hhi)
  subst hn
  have hpos : 0 < xs.length := by
    rcases xs with _ | ⟨y, r⟩
    · simp [noBack] at hx
    · simp
  have hz : xs.getD (xs.length - 1) 0 ≠ 0 := by
    intro e
    unfold noBack at hx
    rw [e] at hx
    simp at hx
  obtain ⟨d, o, rfl, _, hdh, hc, _⟩ := hd hpos
  have hk := hc (xs.length - 1) (by omega)
  unfold cel at hk
  have hzz : (((xs.getD (xs.length - 1) 0).toNat : Int) == 0) = false := by
    have : (xs.getD (xs.length - 1) 0).toNat ≠ 0 := fun e => hz (UInt8.toNat_inj.1 (by simpa using e))
    simpa using this
  have e1 : ((xs.length : Int) - 1).toNat = xs.length - 1 := by omega
  have hL := Lib.hid (fun W => len8_any (xs.getD (xs.length - 1) 0) W)
  have h8 : len8 (xs.getD (xs.length - 1) 0).toNat ≤ 8 := by
    have := log2_lt8 (xs.getD (xs.length - 1) 0)
    unfold len8
    split <;> omega
  have hLp : 1 ≤ len8 (xs.getD (xs.length - 1) 0).toNat := by
    have : (xs.getD (xs.length - 1) 0).toNat ≠ 0 := fun e => hz (UInt8.toNat_inj.1 (by simpa using e))
    unfold len8
    rw [if_neg this]
    omega
  have ht : Hid (top xs = 8 * (xs.length - 1) + len8 (xs.getD (xs.length - 1) 0).toNat - 1) := by
    have : (xs.getD (xs.length - 1) 0).toNat ≠ 0 := fun e => hz (UInt8.toNat_inj.1 (by simpa using e))
    unfold Hid top len8
    rw [if_neg this]
    omega
  obtain ⟨Z, hZ⟩ : ∃ Z, Z = xs.getD (xs.length - 1) 0 := ⟨_, rfl⟩
  rw [← hZ] at hk hzz hL ht h8 hLp
  generalize len8 Z.toNat = m at *
  have hlf : ((xs.length : Int) == 0) = false := by simpa using List.ne_nil_of_length_pos hpos
  have hne : xs ≠ [] := List.ne_nil_of_length_pos hpos
  have hle1 : (1 : Int) ≤ (xs.length : Int) := by omega
  have hlt1 : (xs.length : Int) - 1 < (xs.length : Int) := by omega
  have e2 : IntKind.i64.wrap (8 * ((xs.length : Int) - 1)) = 8 * ((xs.length : Int) - 1) := IntWalk.i64_in _ (by omega)
  have e3 : IntKind.i64.wrap (8 * ((xs.length : Int) - 1) + (m : Int)) = 8 * ((xs.length : Int) - 1) + (m : Int) := IntWalk.i64_in _ (by omega)
  have e4 : IntKind.i64.wrap (8 * ((xs.length : Int) - 1) + (m : Int) - 1) = 8 * ((xs.length : Int) - 1) + (m : Int) - 1 := IntWalk.i64_in _ (by omega)
  clear hx hz hc hZ hd
  go_enter Tryz.func49, Tryz.ntmps49
  go_wp2
  go_region_held3 (fun w' => w'.cell? ⟨d, o + (xs.length - 1), none⟩ = some (.int .u8 (Z.toNat : Int))) (go_keep) (first | (go_at_call 82; refine (hL.out _).mono ?_; rintro e' w' ⟨rfl, rfl⟩) | (go_at_call 42; refine hC.out.mono ?_; rintro e' w1 ⟨v, rfl, ho, hB⟩; have hk1 : w1.cell? ⟨d, o + (xs.length - 1), none⟩ = some (.int .u8 (Z.toNat : Int)) := (hB.cell (p := ⟨d, o + (xs.length - 1), none⟩) (by exact Nat.lt_of_lt_of_le hdh hhi)).trans hk; obtain ⟨A', c', rfl, hc', hD⟩ := ho.form; clear ho; have HB := Lib.hid hB; have HD := Lib.hid hD; clear hB hD))
  all_goals
    go_wp2
    go_ret2
    have hz := HB.out.size
    refine ⟨w1.heap.size, rfl, ⟨hz, by rw [ht.out]; omega, hb, A', c', ?_, hc', HD.out.alloc (Nat.le_refl _) _⟩, (((Below.refl _ _).drew).trans HB.out).alloc hz _⟩
    rw [ht.out, show ((8 * (xs.length - 1) + m - 1 : Nat) : Int) = 8 * ((xs.length : Int) - 1) + (m : Int) - 1 by omega]
    exact Box.new _ _ _
end Go.Proofs.YtlidnialggpcpaaGreatDoor

/- The contracts of the document's Number, Bits and Bytes. -/
namespace Go.Proofs.YtlidnialggpcpaaGreatDoor
open Go.RowKit

theorem bool_one : ∀ x : Bool, (Value.bool x).oneCell' = true := fun _ => rfl
theorem bool_info : (Tryz.prog.info? 4).map (fun i => (i.zero, i.size, i.bytes)) = some (some (.bool false), 1, 1) := by kernel_rfl

theorem num_drop (l : List Bool) (k : Nat) (h : k < l.length) : num (l.drop k) = l[k].toNat + 2 * num (l.drop (k + 1)) := by
  rw [List.drop_eq_getElem_cons h]; rfl
theorem num_drop_lt (l : List Bool) (k : Nat) (h : l.length ≤ 60) : num (l.drop k) < 2 ^ 60 :=
  Nat.lt_of_lt_of_le (num_lt _) (Nat.pow_le_pow_right (by omega) (by simp; omega))

set_option maxHeartbeats 400000 in
theorem refNum_any {w : World} {lo hi : Nat} {A : Option Addr} {n c : Nat} {l : List Bool} (hd : DatE Value.bool w lo hi A l) (hn : l.length = n) (h : n ≤ 60) :
    Calls Tryz.prog 93 #[.slice A n c] w fun e w' => e = .returned (.int .u64 (num l : Nat)) ∧ w = w' := by
  have HD := Lib.hid hd
  have HN := Lib.hid hn
  clear hd hn
  go_enter Tryz.func93, Tryz.ntmps93
  go_wp2
  go_loop [3, 4] (fun x i => ∃ k : Nat, k ≤ n ∧ i = .int .i64 ((k : Int) - 1) ∧ x = .int .u64 (num (l.drop k) : Nat)) (fun _ i => (intOf i + 1).toNat)
  case atStart => exact ⟨n, Nat.le_refl _, rfl, by rw [List.drop_of_length_le (by have := HN.out; omega)]; rfl⟩
  case round =>
    obtain ⟨k, hk, rfl, rfl⟩ := hrel
    by_cases hk0 : 0 < k
    · obtain ⟨j, rfl⟩ : ∃ j, k = j + 1 := ⟨k - 1, by omega⟩
      obtain ⟨d, o, rfl, _, _, hc⟩ := HD.out (by have := HN.out; omega)
      have hjl : j < l.length := by have := HN.out; omega
      have hcj := hc j hjl
      have hX := num_drop_lt l (j + 1) (by have := HN.out; omega)
      have HX := Lib.hid (num_drop l j hjl)
      clear hc
      have e1 : ((j + 1 : Nat) : Int) - 1 = (j : Int) := by omega
      generalize num (l.drop (j + 1)) = X at *
      rw [e1]
      cases hb : l[j] with
      | true =>
        rw [hb] at hcj HX
        clear hb
        go_wp2
        go_round
        case rel => exact ⟨j, by omega, by go_num, by rw [HX.out]; simp; omega⟩
        case measure => simp [intOf]
      | false =>
        rw [hb] at hcj HX
        clear hb
        go_wp2
        go_round
        case rel => exact ⟨j, by omega, by go_num, by rw [HX.out]; simp; omega⟩
        case measure => simp [intOf]
    · obtain rfl : k = 0 := by omega
      go_wp2
      go_ret
      exact ⟨rfl, rfl⟩

theorem low_more (y j : Nat) : low y (j + 1) = low y j ++ [decide (y / 2 ^ j % 2 = 1)] := by
  rw [low_succ, Nat.testBit_eq_decide_div_mod_eq]
theorem div_more (y j : Nat) : y / 2 ^ j / 2 = y / 2 ^ (j + 1) := by rw [Nat.div_div_eq_div_mul, Nat.pow_succ]
theorem bitsOf_take (xs : List UInt8) (k : Nat) (h : k < xs.length) : bitsOf (xs.take (k + 1)) = bitsOf (xs.take k) ++ low xs[k].toNat 8 := by
  rw [List.take_succ_eq_append_getElem h, bitsOf_snoc]

/-- Behind an append to a slice of the call's own. -/
theorem grow_below {w wr w0 w1 : World} {u base : Nat} {v : Value} {l : List Bool} (hB : Below base w wr) (h0 : Below wr.heap.size wr w0) (hb : base ≤ wr.heap.size) (ho : OwE Value.bool wr u base v l) (hg : w0.grownBy w1 v.ownBlock) : Below base w w1 :=
  (hB.trans (h0.mono hb)).grown hg (by have := h0.size; omega) (fun k hk => (ho.block k hk).1)

set_option maxRecDepth 100000 in
set_option maxHeartbeats 1000000 in
theorem refBits_any (S : ByteArray) (w : World) (hs : S.size ≤ 100000000) :
    Calls Tryz.prog 60 #[.string S] w fun e w' => ∃ v, e = .returned v ∧ OwE Value.bool w' 4 w.heap.size v (bitsOf S.data.toList) ∧ Below w.heap.size w w' := by
  obtain ⟨i0, hi0, hz0, hz1, hz2⟩ := info_parts bool_info
  obtain ⟨L, hL⟩ : ∃ L, L = S.size := ⟨_, rfl⟩
  obtain ⟨bs, hbs⟩ : ∃ bs, bs = S.data.toList := ⟨_, rfl⟩
  have hbl : bs.length = L := by rw [hbs, hL]; simp
  have HBS := Lib.hid hbs
  have HBL := Lib.hid hbl
  have hsz := hL.symm
  rw [← hbs]
  rw [← hL] at hs
  clear hL hbs hbl
  go_enter Tryz.func60, Tryz.ntmps60
  go_wp2_with fail
  go_loopg [3, 4] L (fun gh x i wx => ∃ k : Nat, k + gh = L ∧ i = .int .i64 k ∧ OwE Value.bool wx 4 w.heap.size x (bitsOf (bs.take k)) ∧ Below w.heap.size w wx)
  case atStart => exact ⟨0, by omega, rfl, by simpa [bitsOf] using OwE.nil _ _ _ _, Below.refl _ _⟩
  case round =>
    obtain ⟨k, hk, rfl, ho, hB⟩ := hrel
    have HK := Lib.hid hk
    have hkL : k ≤ L := by omega
    have hw1 := hB.size
    have HO1 := Lib.hid ho
    have HB1 := Lib.hid hB
    clear hk ho hB
    by_cases hlt : k < L
    · have hlS : k < S.size := by rw [hsz]; exact hlt
      have hkl : k < bs.length := by rw [HBL.out]; exact hlt
      obtain ⟨y, hy⟩ : ∃ y, y = S[k].toNat := ⟨_, rfl⟩
      have HT : Hid (bitsOf (bs.take (k + 1)) = bitsOf (bs.take k) ++ low y 8) := by
        unfold Hid
        rw [bitsOf_take bs k hkl, hy]
        congr 3
        simp only [HBS.out]
        rfl
      have h8 : y < 256 := by rw [hy]; exact UInt8.toNat_lt _
      have e5 : ((S[k]).toNat : Int) = (y : Int) := by rw [hy]
      clear hy
      go_wp2_with fail
      go_loopg [3, 5, 6] 8 (fun gh x c i wx => ∃ j : Nat, j + gh = 8 ∧ i = .int .i64 j ∧ c = .int .u8 (y / 2 ^ j : Nat) ∧ OwE Value.bool wx 4 w.heap.size x (bitsOf (bs.take k) ++ low y j) ∧ Below w.heap.size w wx)
      case atStart => exact ⟨0, by omega, rfl, by simp, by simpa [low] using HO1.out, HB1.out⟩
      case round =>
        obtain ⟨j, hj, rfl, rfl, ho, hB⟩ := hrel
        have HJ := Lib.hid hj
        have hj8 : j ≤ 8 := by omega
        clear hj
        by_cases hjl : j < 8
        · have hji : (j : Int) < 8 := by omega
          have HM := Lib.hid (low_more y j)
          have HD := Lib.hid (div_more y j)
          have hz8 : y / 2 ^ j < 256 := Nat.lt_of_le_of_lt (Nat.div_le_self _ _) h8
          generalize y / 2 ^ j = z at *
          have hw2 := hB.size
          have HLn : Hid ((bitsOf (bs.take k) ++ low y j).length ≤ 900000000) := by
            show (bitsOf (bs.take k) ++ low y j).length ≤ 900000000
            rw [List.length_append, bitsOf_length, low_length, List.length_take]
            have := HBL.out
            omega
          by_cases ho1 : z % 2 = 1
          · have hoi : (z : Int) % 2 = 1 := by omega
            have hot : (z : Int).tmod 2 = 1 := by rw [Int.tmod_eq_emod_of_nonneg (by omega)]; exact hoi
            rw [show decide (z % 2 = 1) = true by simp [ho1]] at HM
            have HA := Lib.hid (ho.alloc (.cells #[.bool true] 4))
            have HD1 := Lib.hid (datE_one Value.bool wr true 4 _ rfl)
            have HO2 := Lib.hid ho
            have HB2 := Lib.hid hB
            clear ho hB ho1
            go_wp2_with (at_builtin; refine list_appE bool_one _ rfl _ _ 75 rfl i0 (.bool false) 1 Tryz.underlying75 hi0 hz0 hz1 hz2 rfl (by decide) rfl HA.out rfl HD1.out rfl ?_ ?_ ?_)
            · have := HLn.out; omega
            · simp; omega
            intro v1 w1 ho1 hg1 _
            have HG := Lib.hid (grow_below HB2.out ((Below.refl _ _).alloc (Nat.le_refl _) _) hw2 HO2.out hg1)
            have HO3 := Lib.hid ho1
            clear ho1 hg1
            go_wp2_with fail
            go_roundg (8 - (j + 1))
            case measure => have := HJ.out; omega
            case rel => exact ⟨j + 1, by omega, by go_num, by rw [← HD.out]; simp, by rw [HM.out]; exact HO3.out, HG.out⟩
          · have hoi : (z : Int) % 2 = 0 := by omega
            have hot : (z : Int).tmod 2 = 0 := by rw [Int.tmod_eq_emod_of_nonneg (by omega)]; exact hoi
            rw [show decide (z % 2 = 1) = false by simp [ho1]] at HM
            have HA := Lib.hid (ho.alloc (.cells #[.bool false] 4))
            have HD1 := Lib.hid (datE_one Value.bool wr false 4 _ rfl)
            have HO2 := Lib.hid ho
            have HB2 := Lib.hid hB
            clear ho hB ho1
            go_wp2_with (at_builtin; refine list_appE bool_one _ rfl _ _ 75 rfl i0 (.bool false) 1 Tryz.underlying75 hi0 hz0 hz1 hz2 rfl (by decide) rfl HA.out rfl HD1.out rfl ?_ ?_ ?_)
            · have := HLn.out; omega
            · simp; omega
            intro v1 w1 ho1 hg1 _
            have HG := Lib.hid (grow_below HB2.out ((Below.refl _ _).alloc (Nat.le_refl _) _) hw2 HO2.out hg1)
            have HO3 := Lib.hid ho1
            clear ho1 hg1
            go_wp2_with fail
            go_roundg (8 - (j + 1))
            case measure => have := HJ.out; omega
            case rel => exact ⟨j + 1, by omega, by go_num, by rw [← HD.out]; simp, by rw [HM.out]; exact HO3.out, HG.out⟩
        · have hj8 : j = 8 := by omega
          subst hj8
          have HO2 := Lib.hid ho
          have HB2 := Lib.hid hB
          clear ho hB
          go_wp2_with fail
          go_roundg (L - (k + 1))
          case measure => have := HK.out; omega
          case rel => exact ⟨k + 1, by omega, by go_num, by rw [HT.out]; exact HO2.out, HB2.out⟩
    · have hkn : k = L := by omega
      have hti : ¬ (k : Int) < (L : Int) := by omega
      go_wp2_with fail
      go_ret
      exact ⟨_, rfl, by rw [← List.take_of_length_le (l := bs) (i := k) (by rw [HBL.out]; omega)]; exact HO1.out, HB1.out⟩

end Go.Proofs.YtlidnialggpcpaaGreatDoor

/- The contracts of the document's New, Last and Left (from the back). -/
namespace Go.Proofs.YtlidnialggpcpaaGreatDoor
open Go.RowKit

theorem refLeft_any (A : Option Addr) (n c : Nat) (lack left : Int) (w : World) (h : left = n - lack) (h1 : -1000000000000 ≤ left) (h2 : left ≤ 1000000000000) :
    Calls Tryz.prog 29 #[.agg #[.slice A n c, .int .i64 lack]] w fun e w' => e = .returned (.int .i64 left) ∧ Below w.heap.size w w' := by
  have e1 : IntKind.i64.wrap ((n : Int) - lack) = (n : Int) - lack := IntWalk.i64_in _ (by omega)
  have H := Lib.hid h
  clear h
  go_enter Tryz.func29, Tryz.ntmps29
  go_wp2
  go_ret
  exact ⟨by rw [H.out]; rfl, (Below.refl _ _).alloc (Nat.le_refl _) _⟩

theorem list_of_bytes (S : ByteArray) : S.toList = S.data.toList := ByteArray.toList_eq S

theorem refNew_no (S : ByteArray) (w : World) (hs : S.size ≤ 100000000) (hx : noBack S.data.toList = true) :
    Calls Tryz.prog 25 #[.string S] w fun e w' => e = .returned (.tuple #[.agg #[.slice none 0 0, .int .i64 0], .int .i64 11]) ∧ Below w.heap.size w w' := by
  by_cases h0 : S.size = 0
  · have h1 : S.toList = [] := by rw [list_of_bytes]; simpa [← List.length_eq_zero_iff] using h0
    have h2 : Hid (S.size = 0) := h0
    clear h0 hx
    go_enter Tryz.func25, Tryz.ntmps25
    go_wp2
    exact bodyPost_ret (v := .tuple #[.agg #[.slice none 0 0, .int .i64 0], .int .i64 11]) (by simp [results, Tryz.results25, go_sem]) rfl ⟨rfl, by repeat (first | exact Below.refl _ _ | refine Below.alloc ?_ (by simp) _ | refine Below.setCell ?_ (by simp) _)⟩
  · have hl : S.data.toList.length = S.size := by simp
    have hpos : 0 < S.size := by omega
    have hz : S.data.toList.getD (S.size - 1) 0 = 0 := by
      unfold noBack at hx
      rw [hl] at hx
      simpa [h0] using hx
    have h1 : ¬ S.toList = [] := by
      rw [list_of_bytes]
      intro e
      rw [e] at hl
      simp at hl
      omega
    have h3 : (!S.toList.isEmpty) = true := by simpa using h1
    have e1 : ((S.size : Int) - 1).toNat = S.size - 1 := by omega
    have hlt : S.size - 1 < S.size := by omega
    have hb : (S[S.size - 1]).toNat = 0 := by
      have : S[S.size - 1] = S.data.toList.getD (S.size - 1) 0 := by
        rw [List.getD_eq_getElem?_getD, List.getElem?_eq_getElem (by rw [hl]; exact hlt)]
        rfl
      rw [this, hz]
      rfl
    clear hz hx hl h0
    go_enter Tryz.func25, Tryz.ntmps25
    go_wp2
    exact bodyPost_ret (v := .tuple #[.agg #[.slice none 0 0, .int .i64 0], .int .i64 11]) (by simp [results, Tryz.results25, go_sem]) rfl ⟨rfl, by repeat (first | exact Below.refl _ _ | refine Below.alloc ?_ (by simp) _ | refine Below.setCell ?_ (by simp) _)⟩

set_option maxHeartbeats 1000000 in
theorem refNew_yes (S : ByteArray) (w : World) (hs : S.size ≤ 100000000) (hx : noBack S.data.toList = false) :
    Calls Tryz.prog 25 #[.string S] w fun e w' => ∃ A c, e = .returned (.tuple #[.agg #[.slice A (top S.data.toList) c, .int .i64 0], .int .i64 0]) ∧
      DatE Value.bool w' w.heap.size w'.heap.size A ((bitsOf S.data.toList).take (top S.data.toList)) ∧ top S.data.toList ≤ c ∧ Below w.heap.size w w' := by
  have hl : S.data.toList.length = S.size := by simp
  have hpos : 0 < S.size := by
    rcases Nat.eq_zero_or_pos S.size with h | h
    · unfold noBack at hx
      rw [hl, h] at hx
      simp at hx
    · exact h
  have hz : S.data.toList.getD (S.size - 1) 0 ≠ 0 := by
    intro e
    unfold noBack at hx
    rw [hl, e] at hx
    simp at hx
  have h1 : ¬ S.toList = [] := by
    rw [list_of_bytes]
    intro e
    rw [e] at hl
    simp at hl
    omega
  have h3 : (!S.toList.isEmpty) = true := by simpa using h1
  have h4 : S.toList.isEmpty = false := by simpa using h1
  have e1 : ((S.size : Int) - 1).toNat = S.size - 1 := by omega
  have hlt : S.size - 1 < S.size := by omega
  have hb : (((S[S.size - 1]).toNat : Int) == 0) = false := by
    have : S[S.size - 1] = S.data.toList.getD (S.size - 1) 0 := by
      rw [List.getD_eq_getElem?_getD, List.getElem?_eq_getElem (by rw [hl]; exact hlt)]
      rfl
    rw [this]
    have : (S.data.toList.getD (S.size - 1) 0).toNat ≠ 0 := fun e => hz (UInt8.toNat_inj.1 (by simpa using e))
    simpa using this
  have hbit : bitAt S.data.toList (top S.data.toList) = true := bit_top _ (by rw [hl]; exact hz)
  have habove := Lib.hid (fun i => bit_above S.data.toList i)
  have htl : top S.data.toList < 8 * S.size := by have := top_lt S.data.toList (by omega); omega
  have HB := Lib.hid (fun W => refBits_any S W hs)
  have HLn := Lib.hid (bitsOf_length S.data.toList)
  have HG := Lib.hid (fun i h => bitsOf_get S.data.toList i h)
  have Hl := Lib.hid hl
  have HBt := Lib.hid hbit
  clear hz hx hl hbit
  generalize top S.data.toList = T at *
  go_enter Tryz.func25, Tryz.ntmps25
  go_wp2_with fail
  refine (HB.out _).mono ?_
  rintro e w1 ⟨v, rfl, ho, hB⟩
  obtain ⟨A, c, hv, hc, hd⟩ := ho.form
  subst hv
  have hLe : (bitsOf S.data.toList).length = 8 * S.size := by rw [HLn.out, Hl.out]
  rw [hLe] at hc ⊢
  have hsz := hB.size
  have hbx : Box w1 w.heap.size 77 #[.slice none 0 0, .int .i64 0] := (Box.new w _ _).below hB (by simp)
  have z0 : w1.cell? ⟨w.heap.size, 0, none⟩ = some (.slice none 0 0) := hbx.cell 0
  have z1 : w1.cell? ⟨w.heap.size, 1, none⟩ = some (.int .i64 0) := hbx.cell 1
  have y0 := hbx.free 0
  have y1 := hbx.free 1
  have HD := Lib.hid hd
  have HLe := Lib.hid hLe
  have HBl := Lib.hid hB
  simp only [World.size_alloc] at hsz
  clear ho hd hB hbx hLe
  go_wp2_with fail
  go_loopg [5] (8 * S.size) (fun gh i wx => ∃ k : Nat, w1 = wx ∧ k ≤ gh ∧ T ≤ k ∧ k < 8 * S.size ∧ i = .int .i64 k)
  case atStart => exact ⟨8 * S.size - 1, rfl, by omega, by omega, by omega, by rw [show ((8 * S.size - 1 : Nat) : Int) = 8 * (S.size : Int) - 1 by omega]⟩
  case round =>
    obtain ⟨k, rfl, hk, hTk, hk8, rfl⟩ := hrel
    have HK := Lib.hid hk
    clear hk
    have hkl : k < (bitsOf S.data.toList).length := by rw [HLe.out]; exact hk8
    have HDT := Lib.hid (HD.out.take T)
    obtain ⟨d, o, rfl, hdl, hdh, hc2⟩ := HD.out (by omega)
    have hck := hc2 k hkl
    rw [bitsOf_get] at hck
    clear hc2 hkl
    by_cases hkT : k = T
    · subst hkT
      rw [HBt.out] at hck
      have hkc : k ≤ c := by omega
      go_wp2_with fail
      refine bodyPost_ret (v := .tuple #[.agg #[.slice (some ⟨d, o, none⟩) k c, .int .i64 0], .int .i64 0]) (by simp [results, Tryz.results25, go_sem, *]) rfl ⟨some ⟨d, o, none⟩, c, rfl, ?_, hkc, ?_⟩
      · have hdt := HDT.out
        simp only [World.size_alloc] at hdt
        refine DatE.mono (lo := w.heap.size + 1) (hi := w1.heap.size) ?_ (by omega) (by simp [World.setCell])
        exact (hdt.far (p := ⟨w.heap.size, 0, none⟩) (.inl (by show w.heap.size < _; omega)) _).far (p := ⟨w.heap.size, 1, none⟩) (.inl (by show w.heap.size < _; omega)) _
      · have hb := HBl.out
        simp only [World.size_alloc] at hb
        exact ((((Below.refl _ _).alloc (Nat.le_refl _) _).trans (hb.mono (by omega))).setCell (Nat.le_refl _) _).setCell (Nat.le_refl _) _
    · rw [habove.out k (by omega) (by rw [Hl.out]; exact hk8)] at hck
      have hk0 : 1 ≤ k := by omega
      go_wp2_with fail
      go_roundg (k - 1)
      case measure => have := HK.out; omega
      case rel => exact ⟨k - 1, rfl, Nat.le_refl _, by omega, by omega, by rw [show ((k - 1 : Nat) : Int) = (k : Int) - 1 by omega]⟩

theorem cut_len {xs : List UInt8} {left : Int} (h : left ≤ 8 * xs.length) : ((bitsOf xs).take left.toNat).length = left.toNat := by
  rw [List.length_take, bitsOf_length]
  omega

theorem refLast_no {A : Option Addr} {n c : Nat} {lack : Int} (k : Int) (w : World) (hk : wid k = false) :
    Calls Tryz.prog 61 #[.agg #[.slice A n c, .int .i64 lack], .int .i64 k] w fun e w' => e = .returned (.tuple #[.agg #[.slice A n c, .int .i64 lack], .int .u64 0]) ∧ Below w.heap.size w w' := by
  have h : k < 1 ∨ 56 < k := by unfold wid at hk; simp at hk; omega
  clear hk
  rcases h with h | h
  · go_enter Tryz.func61, Tryz.ntmps61
    go_wp2
    exact bodyPost_ret (v := .tuple #[.agg #[.slice A n c, .int .i64 lack], .int .u64 0]) (by simp [results, Tryz.results61, go_sem]) rfl ⟨rfl, by repeat (first | exact Below.refl _ _ | refine Below.alloc ?_ (by simp) _ | refine Below.setCell ?_ (by simp) _)⟩
  · have h1 : 1 ≤ k := by omega
    go_enter Tryz.func61, Tryz.ntmps61
    go_wp2
    exact bodyPost_ret (v := .tuple #[.agg #[.slice A n c, .int .i64 lack], .int .u64 0]) (by simp [results, Tryz.results61, go_sem]) rfl ⟨rfl, by repeat (first | exact Below.refl _ _ | refine Below.alloc ?_ (by simp) _ | refine Below.setCell ?_ (by simp) _)⟩

set_option maxHeartbeats 1000000 in
/-- Where there are enough. -/
theorem refLast_full {l : List Bool} {w : World} {lo hi : Nat} {A : Option Addr} {m c : Nat} {lack : Int} (k : Nat) (hd : DatE Value.bool w lo hi A l) (hn : l.length = m + k) (hc : m + k ≤ c) (hb : m + k ≤ 1000000000) (hhi : hi ≤ w.heap.size) (h1 : 1 ≤ k) (h2 : k ≤ 56) :
    Calls Tryz.prog 61 #[.agg #[.slice A (m + k) c, .int .i64 lack], .int .i64 (k : Int)] w fun e w' => e = .returned (.tuple #[.agg #[.slice A m c, .int .i64 lack], .int .u64 (num (l.drop m) : Nat)]) ∧ Below w.heap.size w w' := by
  have hlen : (l.drop m).length = k := by rw [List.length_drop]; omega
  have hcut := hd.cut (k := m) (c := c) (by omega)
  rw [if_neg (by omega)] at hcut
  have HC := Lib.hid ((hcut.alloc hhi (.cells #[.slice A (m + k) c, .int .i64 lack] 77)).alloc (by simp; omega) (.cells #[.slice none 0 0, .int .i64 0] 77))
  have HL := Lib.hid hlen
  have HN := Lib.hid hn
  clear hcut hd hn hlen
  have hcm : ¬ c = m := by omega
  have hk60 : k ≤ 60 := by omega
  have hkf : decide ((m : Int) + (k : Int) < (k : Int)) = false := by simp; omega
  have hk1 : decide ((k : Int) < 1) = false := by simp; omega
  have hk56 : decide (56 < (k : Int)) = false := by simp; omega
  have HR := Lib.hid (fun W hd => refNum_any (w := W) (lo := lo) (hi := hi) (A := A.map (·.add m)) (c := c - m) (l := l.drop m) hd HL.out hk60)
  generalize num (l.drop m) = X at *
  go_enter Tryz.func61, Tryz.ntmps61
  go_wp2_with fail
  refine (HR.out _ HC.out).mono ?_
  rintro e w' ⟨rfl, rfl⟩
  go_wp2_with fail
  go_loop [7, 8] (fun x i => x = .int .u64 (X : Int) ∧ i = .int .i64 (k : Int)) (fun _ _ => 0)
  case atStart => exact ⟨rfl, rfl⟩
  case round =>
    obtain ⟨rfl, rfl⟩ := hrel
    go_wp2_with fail
    exact bodyPost_ret (v := .tuple #[.agg #[.slice A m c, .int .i64 lack], .int .u64 (X : Int)]) (by simp [results, Tryz.results61, go_sem]) rfl ⟨rfl, by repeat (first | exact Below.refl _ _ | refine Below.alloc ?_ (by simp) _ | refine Below.setCell ?_ (by simp) _)⟩

theorem twice (X j : Nat) (h : X * 2 ^ j < 2 ^ 57) : IntKind.u64.wrap (((X * 2 ^ j : Nat) : Int) * 2) = ((X * 2 ^ (j + 1) : Nat) : Int) := by
  rw [Nat.pow_succ, ← Nat.mul_assoc, IntKind.wrap_u64]
  generalize X * 2 ^ j = Y at *
  omega

set_option maxHeartbeats 1000000 in
/-- Where some lack. -/
theorem refLast_part {l : List Bool} {w : World} {lo hi : Nat} {A : Option Addr} {n c : Nat} {lack : Int} (k : Nat) (hd : DatE Value.bool w lo hi A l) (hn : l.length = n) (hhi : hi ≤ w.heap.size) (h1 : 1 ≤ k) (h2 : k ≤ 56) (hk : n < k)
    (hl0 : 0 ≤ lack) (hl1 : lack ≤ 1000000000000) :
    Calls Tryz.prog 61 #[.agg #[.slice A n c, .int .i64 lack], .int .i64 (k : Int)] w fun e w' =>
      e = .returned (.tuple #[.agg #[.slice A 0 c, .int .i64 (lack + (k - n : Nat))], .int .u64 (num l * 2 ^ (k - n) : Nat)]) ∧ Below w.heap.size w w' := by
  have HC := Lib.hid ((hd.alloc hhi (.cells #[.slice A n c, .int .i64 lack] 77)).alloc (by simp; omega) (.cells #[.slice none 0 0, .int .i64 0] 77))
  have hX : num l < 2 ^ n := by rw [← hn]; exact num_lt l
  have HX := Lib.hid hX
  have HL := Lib.hid hn
  clear hd hn hX
  have hk60 : n ≤ 60 := by omega
  have hkf : decide ((n : Int) < (k : Int)) = true := by simp; omega
  have hk1 : decide ((k : Int) < 1) = false := by simp; omega
  have hk56 : decide (56 < (k : Int)) = false := by simp; omega
  have HR := Lib.hid (fun W hd => refNum_any (w := W) (lo := lo) (hi := hi) (A := A) (c := c) (l := l) hd HL.out hk60)
  generalize num l = X at *
  generalize hq : k - n = q at *
  have Hq := Lib.hid hq
  clear hq
  go_enter Tryz.func61, Tryz.ntmps61
  go_wp2_with fail
  refine (HR.out _ HC.out).mono ?_
  rintro e w' ⟨rfl, rfl⟩
  go_wp2_with fail
  go_loopg [7, 8] q (fun gh x i wx => ∃ j : Nat, j + gh = q ∧ x = .int .u64 (X * 2 ^ j : Nat) ∧ i = .int .i64 (n + j : Nat) ∧ Box wx w.heap.size 77 #[.slice A n c, .int .i64 (lack + (j : Nat))] ∧ Box wx (w.heap.size + 1) 77 #[.slice none 0 0, .int .i64 0] ∧ Below w.heap.size w wx)
  case atStart => exact ⟨0, by omega, by simp, rfl, by simpa using (Box.new w _ _).alloc _, by simpa using Box.new (w.alloc _) _ _, ((Below.refl _ _).alloc (Nat.le_refl _) _).alloc (by simp) _⟩
  case round =>
    obtain ⟨j, hj, rfl, rfl, hb0, hb1, hB⟩ := hrel
    have HJ := Lib.hid hj
    have hjk : j ≤ q := by omega
    have hqk : (q : Int) + n = k := by have := Hq.out; omega
    have c0 : wr.cell? ⟨w.heap.size, 0, none⟩ = some (.slice A n c) := hb0.cell 0
    have c1 : wr.cell? ⟨w.heap.size, 1, none⟩ = some (.int .i64 (lack + (j : Nat))) := hb0.cell 1
    have f0 := hb0.free 0
    have f1 := hb0.free 1
    have d0 : wr.cell? ⟨w.heap.size + 1, 0, none⟩ = some (.slice none 0 0) := hb1.cell 0
    have d1 : wr.cell? ⟨w.heap.size + 1, 1, none⟩ = some (.int .i64 0) := hb1.cell 1
    have g0 := hb1.free 0
    have g1 := hb1.free 1
    have HB0 := Lib.hid hb0
    have HB1 := Lib.hid hb1
    have HB := Lib.hid hB
    clear hj hb0 hb1 hB
    by_cases hjl : j < q
    · have hlt : (n : Int) + (j : Int) < (k : Int) := by omega
      have HT := Lib.hid (twice X j (by
        have h1 : X * 2 ^ j < 2 ^ (n + j) := by rw [Nat.pow_add]; exact Nat.mul_lt_mul_of_pos_right HX.out (Nat.two_pow_pos j)
        have h2 : 2 ^ (n + j) ≤ 2 ^ 56 := Nat.pow_le_pow_right (by omega) (by omega)
        omega))
      generalize X * 2 ^ j = Y at *
      go_wp2_with fail
      go_roundg (q - (j + 1))
      case measure => have := HJ.out; omega
      case rel =>
        refine ⟨j + 1, by omega, by rw [HT.out], by rw [show ((n + (j + 1) : Nat) : Int) = (n : Int) + (j : Int) + 1 by omega], ?_, HB1.out.far (by show w.heap.size + 1 ≠ w.heap.size; omega) _, HB.out.setCell (Nat.le_refl _) _⟩
        have := HB0.out.put 1 (.int .i64 (lack + (j : Int) + 1))
        rw [show (lack + ((j + 1 : Nat) : Int)) = lack + (j : Int) + 1 by omega]
        exact this
    · have hnl : ¬ (n : Int) + (j : Int) < (k : Int) := by omega
      obtain rfl : j = q := by omega
      go_wp2_with fail
      exact bodyPost_ret (v := .tuple #[.agg #[.slice A 0 c, .int .i64 (lack + (j : Int))], .int .u64 (X * 2 ^ j : Nat)]) (by simp [results, Tryz.results61, go_sem, *]) rfl ⟨by simp, by repeat (first | exact HB.out | refine Below.setCell ?_ (by simp) _)⟩

theorem refLast_any {xs : List UInt8} {w : World} {lo hi : Nat} {A : Option Addr} {c : Nat} {left : Int} (k : Int) (hd : DatE Value.bool w lo hi A ((bitsOf xs).take left.toNat)) (hc : left.toNat ≤ c) (hb : xs.length ≤ 100000000)
    (hhi : hi ≤ w.heap.size) (hl : left ≤ 8 * xs.length) (hlow : -1000000000000 ≤ left) :
    Calls Tryz.prog 61 #[.agg #[.slice A left.toNat c, .int .i64 ((left.toNat : Int) - left)], .int .i64 k] w fun e w' =>
      e = .returned (.tuple #[.agg #[.slice A (bread xs left k).2.toNat c, .int .i64 (((bread xs left k).2.toNat : Int) - (bread xs left k).2)], .int .u64 ((bread xs left k).1 : Nat)]) ∧ Below w.heap.size w w' := by
  by_cases hk : wid k = true
  · have hk' : 1 ≤ k ∧ k ≤ 56 := by simpa [wid] using hk
    obtain ⟨m, rfl⟩ := Int.eq_ofNat_of_zero_le (show 0 ≤ k by omega)
    have hb2 : bread xs left m = (num (((bitsOf xs).drop (left.toNat - there left m)).take (there left m)) * 2 ^ ((m : Int).toNat - there left m), left - m) := by
      rw [bread, if_pos hk]
    rw [hb2]
    have hlen := cut_len hl
    by_cases hm : m ≤ left.toNat
    · have ht : there left m = m := by unfold there; omega
      have h := refLast_full (c := c) (m := left.toNat - m) (lack := (left.toNat : Int) - left) m hd (by rw [hlen]; omega) (by omega) (by omega) hhi (by omega) (by omega)
      rw [show left.toNat - m + m = left.toNat by omega, List.drop_take, show left.toNat - (left.toNat - m) = m by omega] at h
      rw [ht]
      have e1 : (left - (m : Int)).toNat = left.toNat - m := by omega
      have e2 : (((left - (m : Int)).toNat : Int) - (left - (m : Int))) = (left.toNat : Int) - left := by omega
      rw [e2, e1, show (m : Int).toNat - m = 0 by omega, Nat.pow_zero, Nat.mul_one]
      exact h
    · have ht : there left m = left.toNat := by unfold there; omega
      have h := refLast_part (c := c) (lack := (left.toNat : Int) - left) m hd hlen hhi (by omega) (by omega) (by omega) (by omega) (by omega)
      rw [ht]
      have e1 : (left - (m : Int)).toNat = 0 := by omega
      have e2 : (((left - (m : Int)).toNat : Int) - (left - (m : Int))) = (left.toNat : Int) - left + ((m - left.toNat : Nat) : Int) := by omega
      rw [e2, e1, show (m : Int).toNat - left.toNat = m - left.toNat by omega, Nat.sub_self, List.drop_zero]
      exact h
  · have hk' : wid k = false := by simpa using hk
    have hb2 : bread xs left k = (0, left) := by rw [bread, if_neg hk]
    rw [hb2]
    exact refLast_no k w hk'
end Go.Proofs.YtlidnialggpcpaaGreatDoor

/- The contracts of the document's Read, Back and Used (from the front). -/
namespace Go.Proofs.YtlidnialggpcpaaGreatDoor
open Go.RowKit

theorem refUsed_any (A : Option Addr) (n c at_ : Nat) (w : World) (h : at_ ≤ 1000000000) :
    Calls Tryz.prog 91 #[.agg #[.slice A n c, .int .i64 (at_ : Int)]] w fun e w' => e = .returned (.int .i64 ((at_ + 7) / 8 : Nat)) ∧ Below w.heap.size w w' := by
  go_enter Tryz.func91, Tryz.ntmps91
  go_wp2
  go_ret
  refine ⟨?_, (Below.refl _ _).alloc (Nat.le_refl _) _⟩
  show Ending.returned (.int .i64 _) = _
  congr 2

theorem refRead_any {xs : List UInt8} {w : World} {lo hi : Nat} {A : Option Addr} {n c at_ : Nat} (k : Int) (hd : DatE Value.bool w lo hi A (bitsOf xs)) (hn : 8 * xs.length = n) (hc : n ≤ c) (hb : n ≤ 1000000000) (hhi : hi ≤ w.heap.size) (ha : at_ ≤ n) :
    Calls Tryz.prog 88 #[.agg #[.slice A n c, .int .i64 (at_ : Int)], .int .i64 k] w fun e w' =>
      e = .returned (.tuple #[.agg #[.slice A n c, .int .i64 ((fread xs at_ k).2.2 : Nat)], .int .u64 ((fread xs at_ k).1 : Nat), .int .i64 (fread xs at_ k).2.1]) ∧ Below w.heap.size w w' := by
  have HD := Lib.hid hd
  have HN := Lib.hid hn
  clear hd hn
  by_cases hw : k < 0 ∨ 32 < k
  · have hf : fread xs at_ k = (0, 1, at_) := by simp [fread, hw]
    rw [hf]
    clear hf
    rcases hw with hw | hw
    · go_enter Tryz.func88, Tryz.ntmps88
      go_wp2
      exact bodyPost_ret (v := .tuple #[.agg #[.slice A n c, .int .i64 (at_ : Int)], .int .u64 0, .int .i64 1]) (by simp [results, Tryz.results88, go_sem]) rfl ⟨rfl, by repeat (first | exact Below.refl _ _ | refine Below.alloc ?_ (by simp) _ | refine Below.setCell ?_ (by simp) _)⟩
    · have hd0 : decide (k < 0) = false := by simp; omega
      go_enter Tryz.func88, Tryz.ntmps88
      go_wp2
      exact bodyPost_ret (v := .tuple #[.agg #[.slice A n c, .int .i64 (at_ : Int)], .int .u64 0, .int .i64 1]) (by simp [results, Tryz.results88, go_sem]) rfl ⟨rfl, by repeat (first | exact Below.refl _ _ | refine Below.alloc ?_ (by simp) _ | refine Below.setCell ?_ (by simp) _)⟩
  · have hd0 : decide (k < 0) = false := by simp; omega
    have hd1 : decide (32 < k) = false := by simp; omega
    by_cases hs : (n : Int) - at_ < k
    · have hf : fread xs at_ k = (0, 10, at_) := by rw [fread, if_neg hw, if_pos (by have := HN.out; omega)]
      rw [hf]
      clear hf
      go_enter Tryz.func88, Tryz.ntmps88
      go_wp2
      exact bodyPost_ret (v := .tuple #[.agg #[.slice A n c, .int .i64 (at_ : Int)], .int .u64 0, .int .i64 10]) (by simp [results, Tryz.results88, go_sem]) rfl ⟨rfl, by repeat (first | exact Below.refl _ _ | refine Below.alloc ?_ (by simp) _ | refine Below.setCell ?_ (by simp) _)⟩
    · obtain ⟨m, rfl⟩ := Int.eq_ofNat_of_zero_le (show 0 ≤ k by omega)
      have hf : fread xs at_ m = (num (((bitsOf xs).drop at_).take m), 0, at_ + m) := by rw [fread, if_neg hw, if_neg (by have := HN.out; omega)]; rfl
      rw [hf]
      have hm32 : m ≤ 60 := by omega
      clear hf hw
      have hs' : ¬ (n : Int) - at_ < m := hs
      have hmn : at_ + m ≤ n := by omega
      have hlen : (((bitsOf xs).drop at_).take m).length = m := by
        rw [List.length_take, List.length_drop, bitsOf_length, HN.out]
        omega
      have hcut := (HD.out.cut (k := at_) (c := c) (by rw [bitsOf_length, HN.out]; exact hc)).take m
      have HL := Lib.hid hlen
      clear hlen
      by_cases hca : c = at_
      · rw [if_pos hca] at hcut
        subst hca
        have HC := Lib.hid ((hcut.alloc hhi (.cells #[.slice A n c, .int .i64 (c : Int)] 177)).alloc (by simp; omega) (.cells #[.slice none 0 0, .int .i64 0] 177))
        clear hcut
        go_enter Tryz.func88, Tryz.ntmps88
        go_wp2_with ((go_at_call 93; refine (refNum_any HC.out HL.out hm32).mono ?_; rintro e w' ⟨rfl, rfl⟩))
        exact bodyPost_ret (v := .tuple #[.agg #[.slice A n c, .int .i64 ((c : Int) + (m : Int))], .int .u64 (num (((bitsOf xs).drop c).take m) : Nat), .int .i64 0]) (by simp [results, Tryz.results88, go_sem]) rfl ⟨rfl, by repeat (first | exact Below.refl _ _ | refine Below.alloc ?_ (by simp) _ | refine Below.setCell ?_ (by simp) _)⟩
      · rw [if_neg hca] at hcut
        have HC := Lib.hid ((hcut.alloc hhi (.cells #[.slice A n c, .int .i64 (at_ : Int)] 177)).alloc (by simp; omega) (.cells #[.slice none 0 0, .int .i64 0] 177))
        clear hcut
        go_enter Tryz.func88, Tryz.ntmps88
        go_wp2_with ((go_at_call 93; refine (refNum_any HC.out HL.out hm32).mono ?_; rintro e w' ⟨rfl, rfl⟩))
        exact bodyPost_ret (v := .tuple #[.agg #[.slice A n c, .int .i64 ((at_ : Int) + (m : Int))], .int .u64 (num (((bitsOf xs).drop at_).take m) : Nat), .int .i64 0]) (by simp [results, Tryz.results88, go_sem]) rfl ⟨rfl, by repeat (first | exact Below.refl _ _ | refine Below.alloc ?_ (by simp) _ | refine Below.setCell ?_ (by simp) _)⟩
end Go.Proofs.YtlidnialggpcpaaGreatDoor
