
/- The contracts of the Reader's Bytes and Number, of any reader and of nil. -/
import Derived.Test.YtieepdhajjibpaaDoorCurTake
namespace Go.Proofs.YtieepdhajjibpaaDoor
open Go.RowKit

theorem tk_len (xs : List UInt8) (x m : Int) (may : Bool) (h : may = true → m ≤ 8) : (tk xs x m may).2.2.length ≤ 8 := by
  unfold tk
  repeat' split
  all_goals simp_all

/-- Whether a number may have m bytes. -/
def wid (m : Int) : Bool := decide (1 ≤ m ∧ m ≤ 8)

end Go.Proofs.YtieepdhajjibpaaDoor
