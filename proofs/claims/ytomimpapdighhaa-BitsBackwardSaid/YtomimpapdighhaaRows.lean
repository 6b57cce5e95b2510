/-
  No cell of these rows narrows 'for every input' (looked for: loops, veiled, ifaces, maps, wideKeys, modest, calm, conditions, laid).
  DERIVED. THE GIVEN ROWS OF THIS SEAT. 7 by the template 'for every input the law returns true; each argument reads behind the call as it read before'; 0 by the template 'total and deterministic' (their statements: YtomimpapdighhaaTotals.lean).
  GIVEN WITH THE SEED: the statements are not yours to turn. If you find one false, say at which input.
  Laid BY PROGRAM, IN A SANDBOX (cutbox-rows.mjs): the forced cells as the released guide's own fill.sh prints them over the translation 59da80d32623a13d… (all of the seat's roots in one cut). By AI agents, Wed Nov 11 2026. No macro, syntax, notation, axiom, sorry.
-/
import Derived.Test.YtomimpapdighhaaChecked
import GoSem.Claim
import GoSem.ClaimJoined
import GoSem.ClaimMapViews
import Derived.JoinedTies
import Derived.KernelRfl
namespace Go.Proofs.Ytomimpapdighhaa
/- THE CELL 'sum', in the pinned program and in every row, IS THE sha256 OF THE DUMP (.gsa) THAT YtomimpapdighhaaProg.lean LOADS. Nothing in Lean hashes anything: it is a label: what it is worth is what the hold of that sum in a sandbox is worth. -/
noncomputable def Try.pinned : Pinned := { name := "ytomimpapdighhaa", sum := "59da80d32623a13d737ed4c4da4b3c7d52a2a72e5496ebc022b0bcb1d43e56aa", checked := Try.checked }
namespace Rows
def none {H : Type} : Left H := { results := [], args := [] }

/-- 'lightermanlaw05.BitsForward': WHATEVER THE INPUT: true; the input reads as it did. -/
def bitsForwardSpec : ChangeSpec := { name := "bitsForward", fn := fun _ => fun
  | [d1, d2] => { results := [.lit (.bool true)], args := [d1, d2] }
  | _ => none }
def bitsForwardRow : OpenClaim := { program := "ytomimpapdighhaa", sum := "59da80d32623a13d737ed4c4da4b3c7d52a2a72e5496ebc022b0bcb1d43e56aa", func := "lighterman/lightermanlaw05.BitsForward", spec := "bitsForward", apart := false }
def BitsForwardSaid : Prop := bitsForwardRow.holds Try.pinned (OpenSpec.ofChange bitsForwardSpec)

/-- ITS FALSE NEIGHBOUR: 'it returns false'. Refute it at one input. -/
def bitsForwardWrong : ChangeSpec := { name := "bitsForward", fn := fun _ => fun
  | [d1, d2] => { results := [.lit (.bool false)], args := [d1, d2] }
  | _ => none }
def BitsForwardWrongFalsely : Prop := bitsForwardRow.holds Try.pinned (OpenSpec.ofChange bitsForwardWrong)

/-- 'lightermanlaw05.BitsBackward': WHATEVER THE INPUT: true; the input reads as it did. -/
def bitsBackwardSpec : ChangeSpec := { name := "bitsBackward", fn := fun _ => fun
  | [d1, d2] => { results := [.lit (.bool true)], args := [d1, d2] }
  | _ => none }
def bitsBackwardRow : OpenClaim := { program := "ytomimpapdighhaa", sum := "59da80d32623a13d737ed4c4da4b3c7d52a2a72e5496ebc022b0bcb1d43e56aa", func := "lighterman/lightermanlaw05.BitsBackward", spec := "bitsBackward", apart := false }
def BitsBackwardSaid : Prop := bitsBackwardRow.holds Try.pinned (OpenSpec.ofChange bitsBackwardSpec)

/-- ITS FALSE NEIGHBOUR: 'it returns false'. Refute it at one input. -/
def bitsBackwardWrong : ChangeSpec := { name := "bitsBackward", fn := fun _ => fun
  | [d1, d2] => { results := [.lit (.bool false)], args := [d1, d2] }
  | _ => none }
def BitsBackwardWrongFalsely : Prop := bitsBackwardRow.holds Try.pinned (OpenSpec.ofChange bitsBackwardWrong)

/-- 'lightermanlaw05.BitsWrites': WHATEVER THE INPUT: true; the input reads as it did. -/
def bitsWritesSpec : ChangeSpec := { name := "bitsWrites", fn := fun _ => fun
  | [d] => { results := [.lit (.bool true)], args := [d] }
  | _ => none }
def bitsWritesRow : OpenClaim := { program := "ytomimpapdighhaa", sum := "59da80d32623a13d737ed4c4da4b3c7d52a2a72e5496ebc022b0bcb1d43e56aa", func := "lighterman/lightermanlaw05.BitsWrites", spec := "bitsWrites", apart := false }
def BitsWritesSaid : Prop := bitsWritesRow.holds Try.pinned (OpenSpec.ofChange bitsWritesSpec)

/-- ITS FALSE NEIGHBOUR: 'it returns false'. Refute it at one input. -/
def bitsWritesWrong : ChangeSpec := { name := "bitsWrites", fn := fun _ => fun
  | [d] => { results := [.lit (.bool false)], args := [d] }
  | _ => none }
def BitsWritesWrongFalsely : Prop := bitsWritesRow.holds Try.pinned (OpenSpec.ofChange bitsWritesWrong)

/-- 'lightermanlaw05.BitsBack': WHATEVER THE INPUT: true; the input reads as it did. -/
def bitsBackSpec : ChangeSpec := { name := "bitsBack", fn := fun _ => fun
  | [d] => { results := [.lit (.bool true)], args := [d] }
  | _ => none }
def bitsBackRow : OpenClaim := { program := "ytomimpapdighhaa", sum := "59da80d32623a13d737ed4c4da4b3c7d52a2a72e5496ebc022b0bcb1d43e56aa", func := "lighterman/lightermanlaw05.BitsBack", spec := "bitsBack", apart := false }
def BitsBackSaid : Prop := bitsBackRow.holds Try.pinned (OpenSpec.ofChange bitsBackSpec)

/-- ITS FALSE NEIGHBOUR: 'it returns false'. Refute it at one input. -/
def bitsBackWrong : ChangeSpec := { name := "bitsBack", fn := fun _ => fun
  | [d] => { results := [.lit (.bool false)], args := [d] }
  | _ => none }
def BitsBackWrongFalsely : Prop := bitsBackRow.holds Try.pinned (OpenSpec.ofChange bitsBackWrong)

/-- 'lightermanlaw05.BitsNone': WHATEVER THE INPUT: true; the input reads as it did. -/
def bitsNoneSpec : ChangeSpec := { name := "bitsNone", fn := fun _ => fun
  | [d1, d2] => { results := [.lit (.bool true)], args := [d1, d2] }
  | _ => none }
def bitsNoneRow : OpenClaim := { program := "ytomimpapdighhaa", sum := "59da80d32623a13d737ed4c4da4b3c7d52a2a72e5496ebc022b0bcb1d43e56aa", func := "lighterman/lightermanlaw05.BitsNone", spec := "bitsNone", apart := false }
def BitsNoneSaid : Prop := bitsNoneRow.holds Try.pinned (OpenSpec.ofChange bitsNoneSpec)

/-- ITS FALSE NEIGHBOUR: 'it returns false'. Refute it at one input. -/
def bitsNoneWrong : ChangeSpec := { name := "bitsNone", fn := fun _ => fun
  | [d1, d2] => { results := [.lit (.bool false)], args := [d1, d2] }
  | _ => none }
def BitsNoneWrongFalsely : Prop := bitsNoneRow.holds Try.pinned (OpenSpec.ofChange bitsNoneWrong)

/-- 'lightermanlaw05.BitsGiven': WHATEVER THE INPUT: true; the input reads as it did. -/
def bitsGivenSpec : ChangeSpec := { name := "bitsGiven", fn := fun _ => fun
  | [d1, d2, d3, d4] => { results := [.lit (.bool true)], args := [d1, d2, d3, d4] }
  | _ => none }
def bitsGivenRow : OpenClaim := { program := "ytomimpapdighhaa", sum := "59da80d32623a13d737ed4c4da4b3c7d52a2a72e5496ebc022b0bcb1d43e56aa", func := "lighterman/lightermanlaw05.BitsGiven", spec := "bitsGiven", apart := false }
def BitsGivenSaid : Prop := bitsGivenRow.holds Try.pinned (OpenSpec.ofChange bitsGivenSpec)

/-- ITS FALSE NEIGHBOUR: 'it returns false'. Refute it at one input. -/
def bitsGivenWrong : ChangeSpec := { name := "bitsGiven", fn := fun _ => fun
  | [d1, d2, d3, d4] => { results := [.lit (.bool false)], args := [d1, d2, d3, d4] }
  | _ => none }
def BitsGivenWrongFalsely : Prop := bitsGivenRow.holds Try.pinned (OpenSpec.ofChange bitsGivenWrong)

/-- 'lightermanlaw05.BitsOne': WHATEVER THE INPUT: true; the input reads as it did. -/
def bitsOneSpec : ChangeSpec := { name := "bitsOne", fn := fun _ => fun
  | [d1, d2, d3] => { results := [.lit (.bool true)], args := [d1, d2, d3] }
  | _ => none }
def bitsOneRow : OpenClaim := { program := "ytomimpapdighhaa", sum := "59da80d32623a13d737ed4c4da4b3c7d52a2a72e5496ebc022b0bcb1d43e56aa", func := "lighterman/lightermanlaw05.BitsOne", spec := "bitsOne", apart := false }
def BitsOneSaid : Prop := bitsOneRow.holds Try.pinned (OpenSpec.ofChange bitsOneSpec)

/-- ITS FALSE NEIGHBOUR: 'it returns false'. Refute it at one input. -/
def bitsOneWrong : ChangeSpec := { name := "bitsOne", fn := fun _ => fun
  | [d1, d2, d3] => { results := [.lit (.bool false)], args := [d1, d2, d3] }
  | _ => none }
def BitsOneWrongFalsely : Prop := bitsOneRow.holds Try.pinned (OpenSpec.ofChange bitsOneWrong)

/- THE SECOND FORM. 'bulk': how many values and letters a reading holds, each counted each time it is reached (what is shared counts as often as it is met; a slice's spare places count too). A statement '..UptoSaid' is the law's where the arguments, and the package variables that the reading takes, are together of bulk at most 1048576: NARROWER than '..Said'. Prove '..Said' where nothing that the law and all that it calls make is longer than what came in: it says more and counts as full. Else prove '..UptoSaid'. A law counts once. -/
mutual
def uptoBulk {H : Type} : DataW H → Nat
  | .lit (.string bytes) => bytes.length + 1
  | .lit _ => 1
  | .nil => 1
  | .ptr d => uptoBulk d + 1
  | .slice elems spare => uptoBulkAll elems + uptoBulkAll spare + 1
  | .agg parts => uptoBulkAll parts + 1
  | .iface _ d => uptoBulk d + 1
  | .map entries => uptoBulkEntries entries + 1
  | .held _ => 1
def uptoBulkAll {H : Type} : List (DataW H) → Nat
  | [] => 0
  | d :: r => uptoBulk d + uptoBulkAll r
def uptoBulkEntries {H : Type} : List (Lit × DataW H) → Nat
  | [] => 0
  | x :: r => uptoBulkEntry x + uptoBulkEntries r
def uptoBulkEntry {H : Type} : Lit × DataW H → Nat
  | (.string bytes, d) => bytes.length + uptoBulk d + 1
  | (_, d) => uptoBulk d + 1
 end
def uptoSmall : (H : Type) → List (DataW H) → Bool := fun _ ds => decide (uptoBulkAll ds ≤ 1048576)
def OpenSpec.upto (s : _root_.Go.ChangeSpec) : _root_.Go.OpenSpec := { _root_.Go.OpenSpec.ofChange s with cond := some uptoSmall }

/-- 'lightermanlaw05.BitsForward', WHERE WHAT IT READS IS OF BULK AT MOST 1048576: true; the input reads as it did. -/
def bitsForwardUptoRow : OpenClaim := { program := "ytomimpapdighhaa", sum := "59da80d32623a13d737ed4c4da4b3c7d52a2a72e5496ebc022b0bcb1d43e56aa", func := "lighterman/lightermanlaw05.BitsForward", spec := "bitsForward", apart := false, narrowed := true }
def BitsForwardUptoSaid : Prop := bitsForwardUptoRow.holds Try.pinned (OpenSpec.upto bitsForwardSpec)

/-- 'lightermanlaw05.BitsBackward', WHERE WHAT IT READS IS OF BULK AT MOST 1048576: true; the input reads as it did. -/
def bitsBackwardUptoRow : OpenClaim := { program := "ytomimpapdighhaa", sum := "59da80d32623a13d737ed4c4da4b3c7d52a2a72e5496ebc022b0bcb1d43e56aa", func := "lighterman/lightermanlaw05.BitsBackward", spec := "bitsBackward", apart := false, narrowed := true }
def BitsBackwardUptoSaid : Prop := bitsBackwardUptoRow.holds Try.pinned (OpenSpec.upto bitsBackwardSpec)

/-- 'lightermanlaw05.BitsWrites', WHERE WHAT IT READS IS OF BULK AT MOST 1048576: true; the input reads as it did. -/
def bitsWritesUptoRow : OpenClaim := { program := "ytomimpapdighhaa", sum := "59da80d32623a13d737ed4c4da4b3c7d52a2a72e5496ebc022b0bcb1d43e56aa", func := "lighterman/lightermanlaw05.BitsWrites", spec := "bitsWrites", apart := false, narrowed := true }
def BitsWritesUptoSaid : Prop := bitsWritesUptoRow.holds Try.pinned (OpenSpec.upto bitsWritesSpec)

/-- 'lightermanlaw05.BitsBack', WHERE WHAT IT READS IS OF BULK AT MOST 1048576: true; the input reads as it did. -/
def bitsBackUptoRow : OpenClaim := { program := "ytomimpapdighhaa", sum := "59da80d32623a13d737ed4c4da4b3c7d52a2a72e5496ebc022b0bcb1d43e56aa", func := "lighterman/lightermanlaw05.BitsBack", spec := "bitsBack", apart := false, narrowed := true }
def BitsBackUptoSaid : Prop := bitsBackUptoRow.holds Try.pinned (OpenSpec.upto bitsBackSpec)

/-- 'lightermanlaw05.BitsNone', WHERE WHAT IT READS IS OF BULK AT MOST 1048576: true; the input reads as it did. -/
def bitsNoneUptoRow : OpenClaim := { program := "ytomimpapdighhaa", sum := "59da80d32623a13d737ed4c4da4b3c7d52a2a72e5496ebc022b0bcb1d43e56aa", func := "lighterman/lightermanlaw05.BitsNone", spec := "bitsNone", apart := false, narrowed := true }
def BitsNoneUptoSaid : Prop := bitsNoneUptoRow.holds Try.pinned (OpenSpec.upto bitsNoneSpec)

/-- 'lightermanlaw05.BitsGiven', WHERE WHAT IT READS IS OF BULK AT MOST 1048576: true; the input reads as it did. -/
def bitsGivenUptoRow : OpenClaim := { program := "ytomimpapdighhaa", sum := "59da80d32623a13d737ed4c4da4b3c7d52a2a72e5496ebc022b0bcb1d43e56aa", func := "lighterman/lightermanlaw05.BitsGiven", spec := "bitsGiven", apart := false, narrowed := true }
def BitsGivenUptoSaid : Prop := bitsGivenUptoRow.holds Try.pinned (OpenSpec.upto bitsGivenSpec)

/-- 'lightermanlaw05.BitsOne', WHERE WHAT IT READS IS OF BULK AT MOST 1048576: true; the input reads as it did. -/
def bitsOneUptoRow : OpenClaim := { program := "ytomimpapdighhaa", sum := "59da80d32623a13d737ed4c4da4b3c7d52a2a72e5496ebc022b0bcb1d43e56aa", func := "lighterman/lightermanlaw05.BitsOne", spec := "bitsOne", apart := false, narrowed := true }
def BitsOneUptoSaid : Prop := bitsOneUptoRow.holds Try.pinned (OpenSpec.upto bitsOneSpec)

end Rows
end Go.Proofs.Ytomimpapdighhaa
