/-
  NARROWER THAN 'FOR EVERY INPUT', by the rows' own cells (each row's printed sentence says how): FrameReads: laid · FrameWrites: laid · FrameBlocks: laid · FrameWindows: laid · FrameRefused: laid.
  DERIVED. THE GIVEN ROWS OF THIS SEAT. 5 by the template 'for every input the law returns true; each argument reads behind the call as it read before'; 0 by the template 'total and deterministic' (their statements: YtmominbmalhdoaaDoorTotals.lean).
  GIVEN WITH THE SEED: the statements are not yours to turn. If you find one false, say at which input.
  Laid BY PROGRAM, IN A SANDBOX (cutbox-rows.mjs): the forced cells as the released guide's own fill.sh prints them over the translation 5be6a5ade08bb31b… (all of the seat's roots in one cut). By AI agents, Wed Nov 11 2026. No macro, syntax, notation, axiom, sorry.
-/
import Derived.Test.YtmominbmalhdoaaDoorChecked
import GoSem.Claim
import GoSem.ClaimJoined
import GoSem.ClaimMapViews
import Derived.JoinedTies
import Derived.KernelRfl
namespace Go.Proofs.YtmominbmalhdoaaDoor
/- THE CELL 'sum', in the pinned program and in every row, IS THE sha256 OF THE DUMP (.gsa) THAT YtmominbmalhdoaaDoorProg.lean LOADS. Nothing in Lean hashes anything: it is a label: what it is worth is what the hold of that sum in a sandbox is worth. -/
noncomputable def Tryd.pinned : Pinned := { name := "ytmominbmalhdoaadoor", sum := "5be6a5ade08bb31bc6333628269f243e7c07eed2171c1d82c895ee30b881163c", checked := Tryd.checked }
namespace Rows
def none {H : Type} : Left H := { results := [], args := [] }

/- WHAT THE LISTED PACKAGE-LEVEL VARIABLES READ AS WHEN THE CALL BEGINS. Each datum BY PROGRAM (the guide's laid-datum.mjs) off the statement by which the dump's own 'gosem.cut.vars' lays the variable. In a bare row this is a premise. The card (YtmominbmalhdoaaDoorCards.lean) ties it to the program's text. -/
def laid_lighterman_frame_dictionaryWidths {H : Type} : DataW H := .agg [.lit (.int .i64 0), .lit (.int .i64 1), .lit (.int .i64 2), .lit (.int .i64 4)]
def laid_lighterman_frame_sizeForms {H : Type} : DataW H := .agg [.agg [.lit (.int .i64 1), .lit (.int .u64 0)], .agg [.lit (.int .i64 2), .lit (.int .u64 256)], .agg [.lit (.int .i64 4), .lit (.int .u64 0)], .agg [.lit (.int .i64 8), .lit (.int .u64 0)]]

/-- 'lightermanlaw15.FrameReads': WHATEVER THE INPUT: true; the input reads as it did. -/
def frameReadsSpec : ChangeSpec := { name := "frameReads", fn := fun _ => fun
  | [d] => { results := [.lit (.bool true)], args := [d] }
  | _ => none }
def frameReadsRow : OpenClaim := { program := "ytmominbmalhdoaadoor", sum := "5be6a5ade08bb31bc6333628269f243e7c07eed2171c1d82c895ee30b881163c", func := "lighterman/lightermanlaw15.FrameReads", spec := "frameReads", named := ["lighterman/frame.sizeForms", "lighterman/frame.dictionaryWidths"], apart := false, laid := [("lighterman/frame.dictionaryWidths", laid_lighterman_frame_dictionaryWidths), ("lighterman/frame.sizeForms", laid_lighterman_frame_sizeForms)] }
def FrameReadsSaid : Prop := frameReadsRow.holds Tryd.pinned (OpenSpec.ofChange frameReadsSpec)

/-- ITS FALSE NEIGHBOUR: 'it returns false'. Refute it at one input. -/
def frameReadsWrong : ChangeSpec := { name := "frameReads", fn := fun _ => fun
  | [d] => { results := [.lit (.bool false)], args := [d] }
  | _ => none }
def FrameReadsWrongFalsely : Prop := frameReadsRow.holds Tryd.pinned (OpenSpec.ofChange frameReadsWrong)

/-- 'lightermanlaw15.FrameWrites': WHATEVER THE INPUT: true; the input reads as it did. -/
def frameWritesSpec : ChangeSpec := { name := "frameWrites", fn := fun _ => fun
  | [d1, d2, d3] => { results := [.lit (.bool true)], args := [d1, d2, d3] }
  | _ => none }
def frameWritesRow : OpenClaim := { program := "ytmominbmalhdoaadoor", sum := "5be6a5ade08bb31bc6333628269f243e7c07eed2171c1d82c895ee30b881163c", func := "lighterman/lightermanlaw15.FrameWrites", spec := "frameWrites", named := ["lighterman/frame.sizeForms", "lighterman/frame.dictionaryWidths"], apart := false, laid := [("lighterman/frame.dictionaryWidths", laid_lighterman_frame_dictionaryWidths), ("lighterman/frame.sizeForms", laid_lighterman_frame_sizeForms)] }
def FrameWritesSaid : Prop := frameWritesRow.holds Tryd.pinned (OpenSpec.ofChange frameWritesSpec)

/-- ITS FALSE NEIGHBOUR: 'it returns false'. Refute it at one input. -/
def frameWritesWrong : ChangeSpec := { name := "frameWrites", fn := fun _ => fun
  | [d1, d2, d3] => { results := [.lit (.bool false)], args := [d1, d2, d3] }
  | _ => none }
def FrameWritesWrongFalsely : Prop := frameWritesRow.holds Tryd.pinned (OpenSpec.ofChange frameWritesWrong)

/-- 'lightermanlaw15.FrameBlocks': WHATEVER THE INPUT: true; the input reads as it did. -/
def frameBlocksSpec : ChangeSpec := { name := "frameBlocks", fn := fun _ => fun
  | [d1, d2, d3, d4] => { results := [.lit (.bool true)], args := [d1, d2, d3, d4] }
  | _ => none }
def frameBlocksRow : OpenClaim := { program := "ytmominbmalhdoaadoor", sum := "5be6a5ade08bb31bc6333628269f243e7c07eed2171c1d82c895ee30b881163c", func := "lighterman/lightermanlaw15.FrameBlocks", spec := "frameBlocks", named := ["lighterman/frame.sizeForms", "lighterman/frame.dictionaryWidths"], apart := false, laid := [("lighterman/frame.dictionaryWidths", laid_lighterman_frame_dictionaryWidths), ("lighterman/frame.sizeForms", laid_lighterman_frame_sizeForms)] }
def FrameBlocksSaid : Prop := frameBlocksRow.holds Tryd.pinned (OpenSpec.ofChange frameBlocksSpec)

/-- ITS FALSE NEIGHBOUR: 'it returns false'. Refute it at one input. -/
def frameBlocksWrong : ChangeSpec := { name := "frameBlocks", fn := fun _ => fun
  | [d1, d2, d3, d4] => { results := [.lit (.bool false)], args := [d1, d2, d3, d4] }
  | _ => none }
def FrameBlocksWrongFalsely : Prop := frameBlocksRow.holds Tryd.pinned (OpenSpec.ofChange frameBlocksWrong)

/-- 'lightermanlaw15.FrameWindows': WHATEVER THE INPUT: true; the input reads as it did. -/
def frameWindowsSpec : ChangeSpec := { name := "frameWindows", fn := fun _ => fun
  | [d1, d2, d3] => { results := [.lit (.bool true)], args := [d1, d2, d3] }
  | _ => none }
def frameWindowsRow : OpenClaim := { program := "ytmominbmalhdoaadoor", sum := "5be6a5ade08bb31bc6333628269f243e7c07eed2171c1d82c895ee30b881163c", func := "lighterman/lightermanlaw15.FrameWindows", spec := "frameWindows", named := ["lighterman/frame.sizeForms", "lighterman/frame.dictionaryWidths"], apart := false, laid := [("lighterman/frame.dictionaryWidths", laid_lighterman_frame_dictionaryWidths), ("lighterman/frame.sizeForms", laid_lighterman_frame_sizeForms)] }
def FrameWindowsSaid : Prop := frameWindowsRow.holds Tryd.pinned (OpenSpec.ofChange frameWindowsSpec)

/-- ITS FALSE NEIGHBOUR: 'it returns false'. Refute it at one input. -/
def frameWindowsWrong : ChangeSpec := { name := "frameWindows", fn := fun _ => fun
  | [d1, d2, d3] => { results := [.lit (.bool false)], args := [d1, d2, d3] }
  | _ => none }
def FrameWindowsWrongFalsely : Prop := frameWindowsRow.holds Tryd.pinned (OpenSpec.ofChange frameWindowsWrong)

/-- 'lightermanlaw15.FrameRefused': WHATEVER THE INPUT: true; the input reads as it did. -/
def frameRefusedSpec : ChangeSpec := { name := "frameRefused", fn := fun _ => fun
  | [d1, d2] => { results := [.lit (.bool true)], args := [d1, d2] }
  | _ => none }
def frameRefusedRow : OpenClaim := { program := "ytmominbmalhdoaadoor", sum := "5be6a5ade08bb31bc6333628269f243e7c07eed2171c1d82c895ee30b881163c", func := "lighterman/lightermanlaw15.FrameRefused", spec := "frameRefused", named := ["lighterman/frame.sizeForms", "lighterman/frame.dictionaryWidths"], apart := false, laid := [("lighterman/frame.dictionaryWidths", laid_lighterman_frame_dictionaryWidths), ("lighterman/frame.sizeForms", laid_lighterman_frame_sizeForms)] }
def FrameRefusedSaid : Prop := frameRefusedRow.holds Tryd.pinned (OpenSpec.ofChange frameRefusedSpec)

/-- ITS FALSE NEIGHBOUR: 'it returns false'. Refute it at one input. -/
def frameRefusedWrong : ChangeSpec := { name := "frameRefused", fn := fun _ => fun
  | [d1, d2] => { results := [.lit (.bool false)], args := [d1, d2] }
  | _ => none }
def FrameRefusedWrongFalsely : Prop := frameRefusedRow.holds Tryd.pinned (OpenSpec.ofChange frameRefusedWrong)

/- THE SECOND FORM. 'bulk': how many values and letters a reading holds, each counted each time it is reached (what is shared counts as often as it is met; a slice's spare places count too). A statement '..UptoSaid' is the law's where the arguments, and the package variables that the reading takes, are together of bulk at most 1048576: NARROWER than '..Said'. Prove '..Said' where nothing that the law and all that it calls make is longer than what came in: it says more and counts as full. Else prove '..UptoSaid'. A law counts once. -/
mutual
def uptoBulk {H : Type} : DataW H → Nat
  | .lit (.string bytes) => bytes.length + 1
  | .lit _ => 1
  | .nil => 1
  | .ptr d => uptoBulk d + 1
  | .slice elems spare => uptoBulkAll elems + uptoBulkAll spare + 1
  | .agg parts => uptoBulkAll parts + 1
  | .iface _ d => uptoBulk d + 1
  | .map entries => uptoBulkEntries entries + 1
  | .held _ => 1
def uptoBulkAll {H : Type} : List (DataW H) → Nat
  | [] => 0
  | d :: r => uptoBulk d + uptoBulkAll r
def uptoBulkEntries {H : Type} : List (Lit × DataW H) → Nat
  | [] => 0
  | x :: r => uptoBulkEntry x + uptoBulkEntries r
def uptoBulkEntry {H : Type} : Lit × DataW H → Nat
  | (.string bytes, d) => bytes.length + uptoBulk d + 1
  | (_, d) => uptoBulk d + 1
 end
def uptoSmall : (H : Type) → List (DataW H) → Bool := fun _ ds => decide (uptoBulkAll ds ≤ 1048576)
def OpenSpec.upto (s : _root_.Go.ChangeSpec) : _root_.Go.OpenSpec := { _root_.Go.OpenSpec.ofChange s with cond := some uptoSmall }

/-- 'lightermanlaw15.FrameReads', WHERE WHAT IT READS IS OF BULK AT MOST 1048576: true; the input reads as it did. -/
def frameReadsUptoRow : OpenClaim := { program := "ytmominbmalhdoaadoor", sum := "5be6a5ade08bb31bc6333628269f243e7c07eed2171c1d82c895ee30b881163c", func := "lighterman/lightermanlaw15.FrameReads", spec := "frameReads", named := ["lighterman/frame.sizeForms", "lighterman/frame.dictionaryWidths"], apart := false, laid := [("lighterman/frame.dictionaryWidths", laid_lighterman_frame_dictionaryWidths), ("lighterman/frame.sizeForms", laid_lighterman_frame_sizeForms)], narrowed := true }
def FrameReadsUptoSaid : Prop := frameReadsUptoRow.holds Tryd.pinned (OpenSpec.upto frameReadsSpec)

/-- 'lightermanlaw15.FrameWrites', WHERE WHAT IT READS IS OF BULK AT MOST 1048576: true; the input reads as it did. -/
def frameWritesUptoRow : OpenClaim := { program := "ytmominbmalhdoaadoor", sum := "5be6a5ade08bb31bc6333628269f243e7c07eed2171c1d82c895ee30b881163c", func := "lighterman/lightermanlaw15.FrameWrites", spec := "frameWrites", named := ["lighterman/frame.sizeForms", "lighterman/frame.dictionaryWidths"], apart := false, laid := [("lighterman/frame.dictionaryWidths", laid_lighterman_frame_dictionaryWidths), ("lighterman/frame.sizeForms", laid_lighterman_frame_sizeForms)], narrowed := true }
def FrameWritesUptoSaid : Prop := frameWritesUptoRow.holds Tryd.pinned (OpenSpec.upto frameWritesSpec)

/-- 'lightermanlaw15.FrameBlocks', WHERE WHAT IT READS IS OF BULK AT MOST 1048576: true; the input reads as it did. -/
def frameBlocksUptoRow : OpenClaim := { program := "ytmominbmalhdoaadoor", sum := "5be6a5ade08bb31bc6333628269f243e7c07eed2171c1d82c895ee30b881163c", func := "lighterman/lightermanlaw15.FrameBlocks", spec := "frameBlocks", named := ["lighterman/frame.sizeForms", "lighterman/frame.dictionaryWidths"], apart := false, laid := [("lighterman/frame.dictionaryWidths", laid_lighterman_frame_dictionaryWidths), ("lighterman/frame.sizeForms", laid_lighterman_frame_sizeForms)], narrowed := true }
def FrameBlocksUptoSaid : Prop := frameBlocksUptoRow.holds Tryd.pinned (OpenSpec.upto frameBlocksSpec)

/-- 'lightermanlaw15.FrameWindows', WHERE WHAT IT READS IS OF BULK AT MOST 1048576: true; the input reads as it did. -/
def frameWindowsUptoRow : OpenClaim := { program := "ytmominbmalhdoaadoor", sum := "5be6a5ade08bb31bc6333628269f243e7c07eed2171c1d82c895ee30b881163c", func := "lighterman/lightermanlaw15.FrameWindows", spec := "frameWindows", named := ["lighterman/frame.sizeForms", "lighterman/frame.dictionaryWidths"], apart := false, laid := [("lighterman/frame.dictionaryWidths", laid_lighterman_frame_dictionaryWidths), ("lighterman/frame.sizeForms", laid_lighterman_frame_sizeForms)], narrowed := true }
def FrameWindowsUptoSaid : Prop := frameWindowsUptoRow.holds Tryd.pinned (OpenSpec.upto frameWindowsSpec)

/-- 'lightermanlaw15.FrameRefused', WHERE WHAT IT READS IS OF BULK AT MOST 1048576: true; the input reads as it did. -/
def frameRefusedUptoRow : OpenClaim := { program := "ytmominbmalhdoaadoor", sum := "5be6a5ade08bb31bc6333628269f243e7c07eed2171c1d82c895ee30b881163c", func := "lighterman/lightermanlaw15.FrameRefused", spec := "frameRefused", named := ["lighterman/frame.sizeForms", "lighterman/frame.dictionaryWidths"], apart := false, laid := [("lighterman/frame.dictionaryWidths", laid_lighterman_frame_dictionaryWidths), ("lighterman/frame.sizeForms", laid_lighterman_frame_sizeForms)], narrowed := true }
def FrameRefusedUptoSaid : Prop := frameRefusedUptoRow.holds Tryd.pinned (OpenSpec.upto frameRefusedSpec)

end Rows
end Go.Proofs.YtmominbmalhdoaaDoor
