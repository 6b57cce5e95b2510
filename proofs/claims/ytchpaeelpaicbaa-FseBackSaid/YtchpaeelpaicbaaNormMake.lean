
/- The contract of the program's Of. -/
import Derived.Test.YtchpaeelpaicbaaNormSet
namespace Go.Proofs.Ytchpaeelpaicbaa
open Go.RowKit

/-- May counts of this Log be made of these numbers? -/
def mayOf (os : List Nat) (log : Int) : Bool := decide (5 ≤ log ∧ log ≤ 15 ∧ os.length ≤ 256 ∧ 2 ≤ cnt os ∧ cnt os ≤ 2 ^ log.toNat ∧ os.sum ≤ 2147483647)
theorem mayOf_iff {os : List Nat} {log : Int} : mayOf os log = true ↔ (5 ≤ log ∧ log ≤ 15 ∧ os.length ≤ 256 ∧ 2 ≤ cnt os ∧ cnt os ≤ 2 ^ log.toNat ∧ os.sum ≤ 2147483647) := by
  unfold mayOf; exact decide_eq_true_iff
theorem mayOf_false {os : List Nat} {log : Int} (h : ¬ (5 ≤ log ∧ log ≤ 15 ∧ os.length ≤ 256 ∧ 2 ≤ cnt os ∧ cnt os ≤ 2 ^ log.toNat ∧ os.sum ≤ 2147483647)) : mayOf os log = false := by
  unfold mayOf; exact decide_eq_false h

/-- What Of answers. -/
def OfPost (os : List Nat) (log : Int) (w : World) (e : Ending) (w' : World) : Prop :=
  Below w.heap.size w w' ∧ ((mayOf os log = true ∧ ∃ ps v, e = .returned (.tuple #[.agg #[.int .i64 log, v], .int .i64 0]) ∧ OwE icel w' 3 w.heap.size v ps ∧ mayB log ps = true ∧ ps.length = ends os ∧ Good (os.take (ends os)) ps) ∨
    (mayOf os log = false ∧ e = .returned (.tuple #[.agg #[.int .i64 0, .slice none 0 0], .int .i64 1])))

section
variable {w : World} {lo hi : Nat} {A : Option Addr} {n c : Nat} {os : List Nat}
end
end Go.Proofs.Ytchpaeelpaicbaa
