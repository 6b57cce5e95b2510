
/- The contract of the program's Write. -/
import Derived.Test.YtchpaeelpaicbaaNormWr
namespace Go.Proofs.Ytchpaeelpaicbaa
open Go.RowKit

/-- What Write answers. -/
def WritePost (log : Int) (ps : List Int) (w : World) (e : Ending) (w' : World) : Prop :=
  Below w.heap.size w w' ∧ ((mayB log ps = true ∧ ∃ v, e = .returned (.tuple #[v, .int .i64 0]) ∧ OwB w' 5 w.heap.size v (bytesOf (wrC log.toNat ps))) ∨
    (mayB log ps = false ∧ e = .returned (.tuple #[.slice none 0 0, .int .i64 1])))

theorem wrote_below {w0 wx w' : World} {B g : Nat} {v : Value} {l : List Bool} (hB : Below B w0 wx) (hw : WR wx g g v l) (hF : Foot wx w' g v.ownBlock) (hg : B ≤ g) : Below B w0 w' :=
  hB.trans (hF.below (by have := hw.lt; omega) hg fun k hk => by have := (hw.row k hk).1; omega)
theorem WR.off {w w' : World} {base g : Nat} {v : Value} {l : List Bool} (h : WR w base g v l) (he : w = w') : WR w' base g v l := he ▸ h

section
variable {w : World} {lo hi : Nat} {A : Option Addr} {n c : Nat} {ps : List Int}
end
end Go.Proofs.Ytchpaeelpaicbaa
