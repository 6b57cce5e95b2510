/- The lowest bits of a number, by a mask. -/
import Derived.Test.YtomimpapdighhaaBitNum
namespace Go.Proofs.Ytomimpapdighhaa
open Go.RowKit

theorem mask_low (X m : Nat) (hX : X < 18446744073709551616) (hm : m ≤ 56) : bits .and .u64 (X : Int) (IntKind.u64.wrap (IntKind.u64.wrap (2 ^ m) - 1)) = ((X % 2 ^ m : Nat) : Int) := by
  have hp : 2 ^ m ≤ 2 ^ 56 := Nat.pow_le_pow_right (by omega) hm
  have hq : 1 ≤ 2 ^ m := Nat.two_pow_pos m
  have h1 : (2 : Int) ^ m = ((2 ^ m : Nat) : Int) := by simp
  have h2 : IntKind.u64.wrap ((2 ^ m : Nat) : Int) = ((2 ^ m : Nat) : Int) := by rw [IntKind.wrap_u64]; omega
  have h3 : ((2 ^ m : Nat) : Int) - 1 = ((2 ^ m - 1 : Nat) : Int) := by omega
  have h4 : IntKind.u64.wrap ((2 ^ m - 1 : Nat) : Int) = ((2 ^ m - 1 : Nat) : Int) := by rw [IntKind.wrap_u64]; omega
  rw [h1, h2, h3, h4, u64_and_nat _ _ hX (by omega), Nat.and_two_pow_sub_one_eq_mod]
end Go.Proofs.Ytomimpapdighhaa
