
/- The contracts of the program's First and Before. -/
import Derived.Test.YtpdnmhnnngcbjaaDoorFseBuild
import Derived.Deep.QuietTactic
import Derived.BigQuiet
namespace Go.Proofs.YtpdnmhnnngcbjaaDoor
open Go.RowKit

/-- What First answers. -/
def FirstPost (es : List En) (y : Int) (w : World) (e : Ending) (w' : World) : Prop :=
  Below w.heap.size w w' ∧ ((∃ i, ∃ h : i < es.length, e = .returned (.tuple #[.int .i64 (i : Int), .int .i64 0]) ∧ es[i].s = y ∧ ∀ j (hj : j < i), es[j].s ≠ y) ∨
    ((∀ j (h : j < es.length), es[j].s ≠ y) ∧ e = .returned (.tuple #[.int .i64 0, .int .i64 21])))

section
variable {w : World} {lo hi n c : Nat} {A : Option Addr} {es : List En}
/-- What Before answers of a state that there is. -/
def BeforePost (es : List En) (st : Nat) (y : Int) (w : World) (e : Ending) (w' : World) : Prop :=
  Below w.heap.size w w' ∧ ((∃ i, ∃ h : i < es.length, e = .returned (.tuple #[.int .i64 (i : Int), .int .u64 ((st : Int) - es[i].e), .int .i64 es[i].b, .int .i64 0]) ∧ matB es[i] y st = true) ∨
    ((∀ j (h : j < es.length), matB es[j] y st = false) ∧ e = .returned (.tuple #[.int .i64 0, .int .u64 0, .int .i64 0, .int .i64 21])))
/-- What entries may be. -/
def Fine (es : List En) : Prop := ∀ i (h : i < es.length), ∃ s b e : Nat, es[i] = ⟨s, b, e⟩ ∧ s < 256 ∧ b ≤ 15 ∧ e + 2 ^ b ≤ 65536
theorem mat_rch (x : En) (y st : Int) : matB x y st = (decide (x.s = y) && rchB x st) := by unfold matB rchB; rw [Bool.and_assoc]

end
end Go.Proofs.YtpdnmhnnngcbjaaDoor
