
/- Words of 32 bits as Lean's UInt32: what the operations on them come to, as rules for a walk. Nothing of the program is named here. -/
import Derived.WalkKit
import Derived.WalkSpells
namespace Go.Proofs.YtieepdhajjibpaaDoor
open Go.RowKit

/-- A word as a value. -/
def w32 (x : UInt32) : Value := .int .u32 (x.toNat : Int)

/- The operations under names of their own, so that a walk leaves them as they are. -/
def wX (a b : UInt32) : UInt32 := a ^^^ b
def wO (a b : UInt32) : UInt32 := a ||| b
def wN (a b : UInt32) : UInt32 := a &&& b
def wA (a b : UInt32) : UInt32 := a + b
def wC (a : UInt32) : UInt32 := ~~~a

theorem w_xor (a b : UInt32) : bits .xor .u32 (a.toNat : Int) (b.toNat : Int) = ((wX a b).toNat : Int) := by
  rw [u32_xor_nat _ _ a.toNat_lt b.toNat_lt, wX, UInt32.toNat_xor]
theorem w_or (a b : UInt32) : bits .or .u32 (a.toNat : Int) (b.toNat : Int) = ((wO a b).toNat : Int) := by
  rw [u32_or_nat _ _ a.toNat_lt b.toNat_lt, wO, UInt32.toNat_or]
theorem w_and (a b : UInt32) : bits .and .u32 (a.toNat : Int) (b.toNat : Int) = ((wN a b).toNat : Int) := by
  rw [u32_and_nat _ _ a.toNat_lt b.toNat_lt, wN, UInt32.toNat_and]
theorem w_add (a b : UInt32) : IntKind.u32.wrap ((a.toNat : Int) + (b.toNat : Int)) = ((wA a b).toNat : Int) := by
  rw [IntKind.wrap_u32', wA, UInt32.toNat_add]
  omega
theorem w_addm (a b : UInt32) : ((a.toNat : Int) + (b.toNat : Int)) % 4294967296 = ((wA a b).toNat : Int) := by
  rw [wA, UInt32.toNat_add]
  omega
theorem w_add3 (a b c : UInt32) : ((a.toNat : Int) + (b.toNat : Int) + (c.toNat : Int)) % 4294967296 = ((wA (wA a b) c).toNat : Int) := by
  rw [← w_addm, ← w_addm]
  omega
theorem w_add4 (a b c d : UInt32) : ((a.toNat : Int) + (b.toNat : Int) + (c.toNat : Int) + (d.toNat : Int)) % 4294967296 = ((wA (wA (wA a b) c) d).toNat : Int) := by
  rw [← w_addm, ← w_addm, ← w_addm]
  omega
theorem w_not (a : UInt32) : bits .xor .u32 IntKind.u32.max (a.toNat : Int) = ((wC a).toNat : Int) := by
  have h : IntKind.u32.max = (((4294967295 : UInt32).toNat : Nat) : Int) := by decide
  rw [h, w_xor, wX, wC]
  congr 2

/-- x right by n: the lowest n bits become the highest. -/
def rot (x : UInt32) (n : Nat) : UInt32 := wO (UInt32.ofNat (x.toNat / 2 ^ n)) (UInt32.ofNat (x.toNat * 2 ^ (32 - n)))
/-- x down by n. -/
def down (x : UInt32) (n : Nat) : UInt32 := UInt32.ofNat (x.toNat / 2 ^ n)
theorem down_nat (x : UInt32) (n : Nat) : ((down x n).toNat : Int) = (x.toNat : Int) / 2 ^ n := by
  have h : x.toNat / 2 ^ n < 4294967296 := Nat.lt_of_le_of_lt (Nat.div_le_self _ _) x.toNat_lt
  unfold down
  rw [UInt32.toNat_ofNat_of_lt' h]
  simp
theorem up_nat (x : UInt32) (n : Nat) : IntKind.u32.wrap ((x.toNat : Int) * 2 ^ n) = ((UInt32.ofNat (x.toNat * 2 ^ n)).toNat : Int) := by
  rw [IntKind.wrap_u32']
  simp
theorem rot_nat (x : UInt32) (n : Nat) : bits .or .u32 ((x.toNat : Int) / 2 ^ n) ((x.toNat : Int) * 2 ^ (32 - n) % 4294967296) = ((rot x n).toNat : Int) := by
  have h := up_nat x (32 - n)
  rw [IntKind.wrap_u32'] at h
  rw [h, ← down_nat, w_or]
  rfl
end Go.Proofs.YtieepdhajjibpaaDoor
