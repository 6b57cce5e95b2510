/- CRC-32C on lists of bytes; four halvings at once by a table. Nothing of the program is named here. -/
import Derived.Test.YtliieipgmjnnfaaDoorShaPlain
import Derived.Test.YtliieipgmjnnfaaDoorCurPlain
namespace Go.Proofs.YtliieipgmjnnfaaDoor
open Go.RowKit

def poly : UInt32 := 2197175160
/-- One halving. -/
def hv (x : UInt32) : UInt32 := if x.toNat % 2 = 1 then wX (down x 1) poly else down x 1
def hvs : Nat → UInt32 → UInt32
  | 0, x => x
  | n + 1, x => hv (hvs n x)
/-- A byte as a word. -/
def w8 (b : UInt8) : UInt32 := UInt32.ofNat b.toNat
theorem w8_nat (b : UInt8) : (b.toNat : Int) = ((w8 b).toNat : Int) := by
  have h := b.toNat_lt
  unfold w8
  rw [UInt32.toNat_ofNat_of_lt' (by have e : UInt32.size = 4294967296 := rfl; omega)]
/-- One byte more. -/
def in8 (x : UInt32) (b : UInt8) : UInt32 := hvs 8 (wX x (w8 b))
def reg (x : UInt32) (xs : List UInt8) : UInt32 := xs.foldl in8 x
def crcOf (xs : List UInt8) : UInt32 := wC (reg 4294967295 xs)

theorem wC_wC (x : UInt32) : wC (wC x) = x := by
  unfold wC
  simp
theorem reg_append (x : UInt32) (xs ys : List UInt8) : reg x (xs ++ ys) = reg (reg x xs) ys := List.foldl_append
theorem reg_snoc (x : UInt32) (xs : List UInt8) (k : Nat) (h : k < xs.length) : reg x (xs.take (k + 1)) = in8 (reg x (xs.take k)) (xs.getD k 0) := by
  rw [List.take_succ_eq_append_getElem h, reg_append]
  simp [reg, List.getD, h]
theorem crc_nil : crcOf [] = 0 := by decide

/-- What four halvings leave of the lowest four bits. -/
def tab : List UInt32 := [0, 274646895, 549293790, 820201905, 1098587580, 1361435347, 1640403810, 1905808397, 2197175160, 2460548119, 2722870694, 2987750089, 3280807620, 3553878443, 3811616794, 4084100981]
def halfOf (x : UInt32) : UInt32 := wX (down x 4) (tab.getD (x.toNat % 16) 0)

/-- One halving, of a natural number. -/
def hN (x : Nat) : Nat := if x % 2 = 1 then (x / 2) ^^^ 2197175160 else x / 2
theorem down_toNat (x : UInt32) (n : Nat) : (down x n).toNat = x.toNat / 2 ^ n := by
  have := down_nat x n
  exact_mod_cast this
theorem hv_nat (x : UInt32) : (hv x).toNat = hN x.toNat := by
  unfold hv hN
  split
  · rw [wX, UInt32.toNat_xor, down_toNat]
    rfl
  · rw [down_toNat]
theorem half_two (a b : Nat) : (a ^^^ b) / 2 = (a / 2) ^^^ (b / 2) := by
  apply Nat.eq_of_testBit_eq
  intro i
  simp [Nat.testBit_div_two]
theorem odd_xor (a b : Nat) : (a ^^^ b) % 2 = (a % 2 + b % 2) % 2 := by
  have h : (a ^^^ b).testBit 0 = (a.testBit 0 ^^ b.testBit 0) := Nat.testBit_xor ..
  simp only [Nat.testBit_zero] at h
  have ha : a % 2 = 0 ∨ a % 2 = 1 := by omega
  have hb : b % 2 = 0 ∨ b % 2 = 1 := by omega
  have hc : (a ^^^ b) % 2 = 0 ∨ (a ^^^ b) % 2 = 1 := by omega
  rcases ha with ha | ha <;> rcases hb with hb | hb <;> rcases hc with hc | hc <;> simp_all
theorem hN_xor (a b : Nat) : hN (a ^^^ b) = hN a ^^^ hN b := by
  unfold hN
  rw [odd_xor, half_two]
  have ha : a % 2 = 0 ∨ a % 2 = 1 := by omega
  have hb : b % 2 = 0 ∨ b % 2 = 1 := by omega
  have e : ∀ x y : Nat, x ^^^ y = (x ^^^ 2197175160) ^^^ (y ^^^ 2197175160) := by
    intro x y
    apply Nat.eq_of_testBit_eq
    intro i
    simp only [Nat.testBit_xor]
    cases x.testBit i <;> cases y.testBit i <;> cases Nat.testBit 2197175160 i <;> rfl
  rcases ha with ha | ha <;> rcases hb with hb | hb <;> rw [ha, hb]
  · rfl
  · exact Nat.xor_assoc _ _ _
  · show (a / 2 ^^^ b / 2) ^^^ 2197175160 = (a / 2 ^^^ 2197175160) ^^^ b / 2
    rw [Nat.xor_assoc, Nat.xor_assoc, Nat.xor_comm (b / 2)]
  · exact e _ _
theorem hN_even (q s : Nat) : hN (2 * q ^^^ s) = q ^^^ hN s := by
  rw [hN_xor]
  congr 1
  unfold hN
  rw [if_neg (by omega)]
  omega
theorem split16 (x : Nat) : x = 2 * (2 * (2 * (2 * (x / 16)))) ^^^ (x % 16) := by
  have e : 2 * (2 * (2 * (2 * (x / 16)))) = 2 ^ 4 * (x / 16) := by omega
  rw [e]
  apply Nat.eq_of_testBit_eq
  intro i
  rw [Nat.testBit_xor, show x % 16 = x % 2 ^ 4 by rfl, show x / 16 = x / 2 ^ 4 by rfl, Nat.testBit_mod_two_pow, Nat.testBit_two_pow_mul]
  by_cases hi : i < 4
  · simp [hi, Nat.not_le.2 hi]
  · rw [Nat.testBit_div_two_pow]
    simp [hi, Nat.le_of_not_lt hi]
theorem tab_all : ∀ r, r < 16 → hN (hN (hN (hN r))) = (tab.getD r 0).toNat := by decide
theorem half_hvs (x : UInt32) : halfOf x = hvs 4 x := by
  apply UInt32.toNat_inj.1
  simp only [hvs, hv_nat]
  rw [halfOf, wX, UInt32.toNat_xor, down_toNat, ← tab_all _ (Nat.mod_lt _ (by decide))]
  conv => rhs; rw [split16 x.toNat]
  rw [hN_even, hN_even, hN_even, hN_even]
theorem in8_half (x : UInt32) (b : UInt8) : in8 x b = halfOf (halfOf (wX x (w8 b))) := by
  rw [half_hvs, half_hvs]
  rfl
end Go.Proofs.YtliieipgmjnnfaaDoor
