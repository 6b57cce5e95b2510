
/- Arguments of layer 6's laws: a slice of numbers of 32 bits; counts, by value. -/
import Derived.Test.YtchpaeelpaicbaaNormTail
import Derived.Test.YtchpaeelpaicbaaArgs
import Derived.Test.YtchpaeelpaicbaaArgsInts
namespace Go.Proofs.Ytchpaeelpaicbaa
open Go.ChangeShapes Go.WideShapes Go.ChangeAt Go.RowKit

theorem u32_bounds {n : Int} (h : (Lit.int .u32 n).wf = true) : 0 ≤ n ∧ n ≤ 4294967295 := by simpa [Lit.wf, IntKind.min, IntKind.max, IntKind.signed, IntKind.bits] using h
theorem bitsOf_append (xs ys : List UInt8) : bitsOf (xs ++ ys) = bitsOf xs ++ bitsOf ys := by
  refine snoc_ind (P := fun ys => bitsOf (xs ++ ys) = bitsOf xs ++ bitsOf ys) (by simp [bitsOf]) (fun a x ih => ?_) ys
  rw [← List.append_assoc, bitsOf_snoc, ih, bitsOf_snoc, List.append_assoc]
theorem bitsOf_cut (xs : List UInt8) (k : Nat) : bitsOf (xs.take k) = (bitsOf xs).take (8 * k) := by
  by_cases h : k ≤ xs.length
  · have e : bitsOf xs = bitsOf (xs.take k) ++ bitsOf (xs.drop k) := by rw [← bitsOf_append, List.take_append_drop]
    have hl : (bitsOf (xs.take k)).length = 8 * k := by rw [bitsOf_length, List.length_take]; omega
    rw [e, ← hl, List.take_left]
  · rw [List.take_of_length_le (by omega), List.take_of_length_le (by rw [bitsOf_length]; omega)]
end Go.Proofs.Ytchpaeelpaicbaa
