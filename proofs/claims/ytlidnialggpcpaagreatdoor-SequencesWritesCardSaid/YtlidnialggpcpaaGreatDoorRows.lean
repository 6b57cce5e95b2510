/-
  NARROWER THAN 'FOR EVERY INPUT', by the rows' own cells (each row's printed sentence says how): SequencesMany: laid · SequencesWrites: laid · SequencesSame: laid · SequencesCut: laid.
  DERIVED. THE GIVEN ROWS OF THIS SEAT. 4 by the template 'for every input the law returns true; each argument reads behind the call as it read before'; 0 by the template 'total and deterministic' (their statements: YtlidnialggpcpaaGreatDoorTotals.lean).
  GIVEN WITH THE SEED: the statements are not yours to turn. If you find one false, say at which input.
  Laid BY PROGRAM, IN A SANDBOX (cutbox-rows.mjs): the forced cells as the released guide's own fill.sh prints them over the translation f451803af42034ac… (all of the seat's roots in one cut). By AI agents, Wed Nov 11 2026. No macro, syntax, notation, axiom, sorry.
-/
import Derived.Test.YtlidnialggpcpaaGreatDoorChecked
import GoSem.Claim
import GoSem.ClaimJoined
import GoSem.ClaimMapViews
import Derived.JoinedTies
import Derived.KernelRfl
namespace Go.Proofs.YtlidnialggpcpaaGreatDoor
/- THE CELL 'sum', in the pinned program and in every row, IS THE sha256 OF THE DUMP (.gsa) THAT YtlidnialggpcpaaGreatDoorProg.lean LOADS. Nothing in Lean hashes anything: it is a label: what it is worth is what the hold of that sum in a sandbox is worth. -/
noncomputable def Tryz.pinned : Pinned := { name := "ytlidnialggpcpaagreatdoor", sum := "f451803af42034acafea7cf8671e0b5c83d0f3d06fd9b5933c5c5dfa72b56fc6", checked := Tryz.checked }
namespace Rows
def none {H : Type} : Left H := { results := [], args := [] }

/- WHAT THE LISTED PACKAGE-LEVEL VARIABLES READ AS WHEN THE CALL BEGINS. Each datum BY PROGRAM (the guide's laid-datum.mjs) off the statement by which the dump's own 'gosem.cut.vars' lays the variable. In a bare row this is a premise. The card (YtlidnialggpcpaaGreatDoorCards.lean) ties it to the program's text. -/
def laid_lighterman_codes_firsts {H : Type} : DataW H := .agg [.lit (.int .u32 0), .lit (.int .u32 1), .lit (.int .u32 3)]
def laid_lighterman_codes_lasts {H : Type} : DataW H := .agg [.lit (.int .i64 35), .lit (.int .i64 31), .lit (.int .i64 52)]
def laid_lighterman_codes_added {H : Type} : DataW H := .agg [.agg [.lit (.int .i64 0), .lit (.int .i64 0), .lit (.int .i64 0), .lit (.int .i64 0), .lit (.int .i64 0), .lit (.int .i64 0), .lit (.int .i64 0), .lit (.int .i64 0), .lit (.int .i64 0), .lit (.int .i64 0), .lit (.int .i64 0), .lit (.int .i64 0), .lit (.int .i64 0), .lit (.int .i64 0), .lit (.int .i64 0), .lit (.int .i64 0), .lit (.int .i64 1), .lit (.int .i64 1), .lit (.int .i64 1), .lit (.int .i64 1), .lit (.int .i64 2), .lit (.int .i64 2), .lit (.int .i64 3), .lit (.int .i64 3), .lit (.int .i64 4), .lit (.int .i64 6), .lit (.int .i64 7), .lit (.int .i64 8), .lit (.int .i64 9), .lit (.int .i64 10), .lit (.int .i64 11), .lit (.int .i64 12), .lit (.int .i64 13), .lit (.int .i64 14), .lit (.int .i64 15), .lit (.int .i64 16), .lit (.int .i64 0), .lit (.int .i64 0), .lit (.int .i64 0), .lit (.int .i64 0), .lit (.int .i64 0), .lit (.int .i64 0), .lit (.int .i64 0), .lit (.int .i64 0), .lit (.int .i64 0), .lit (.int .i64 0), .lit (.int .i64 0), .lit (.int .i64 0), .lit (.int .i64 0), .lit (.int .i64 0), .lit (.int .i64 0), .lit (.int .i64 0), .lit (.int .i64 0)], .agg [.lit (.int .i64 0), .lit (.int .i64 1), .lit (.int .i64 2), .lit (.int .i64 3), .lit (.int .i64 4), .lit (.int .i64 5), .lit (.int .i64 6), .lit (.int .i64 7), .lit (.int .i64 8), .lit (.int .i64 9), .lit (.int .i64 10), .lit (.int .i64 11), .lit (.int .i64 12), .lit (.int .i64 13), .lit (.int .i64 14), .lit (.int .i64 15), .lit (.int .i64 16), .lit (.int .i64 17), .lit (.int .i64 18), .lit (.int .i64 19), .lit (.int .i64 20), .lit (.int .i64 21), .lit (.int .i64 22), .lit (.int .i64 23), .lit (.int .i64 24), .lit (.int .i64 25), .lit (.int .i64 26), .lit (.int .i64 27), .lit (.int .i64 28), .lit (.int .i64 29), .lit (.int .i64 30), .lit (.int .i64 31), .lit (.int .i64 0), .lit (.int .i64 0), .lit (.int .i64 0), .lit (.int .i64 0), .lit (.int .i64 0), .lit (.int .i64 0), .lit (.int .i64 0), .lit (.int .i64 0), .lit (.int .i64 0), .lit (.int .i64 0), .lit (.int .i64 0), .lit (.int .i64 0), .lit (.int .i64 0), .lit (.int .i64 0), .lit (.int .i64 0), .lit (.int .i64 0), .lit (.int .i64 0), .lit (.int .i64 0), .lit (.int .i64 0), .lit (.int .i64 0), .lit (.int .i64 0)], .agg [.lit (.int .i64 0), .lit (.int .i64 0), .lit (.int .i64 0), .lit (.int .i64 0), .lit (.int .i64 0), .lit (.int .i64 0), .lit (.int .i64 0), .lit (.int .i64 0), .lit (.int .i64 0), .lit (.int .i64 0), .lit (.int .i64 0), .lit (.int .i64 0), .lit (.int .i64 0), .lit (.int .i64 0), .lit (.int .i64 0), .lit (.int .i64 0), .lit (.int .i64 0), .lit (.int .i64 0), .lit (.int .i64 0), .lit (.int .i64 0), .lit (.int .i64 0), .lit (.int .i64 0), .lit (.int .i64 0), .lit (.int .i64 0), .lit (.int .i64 0), .lit (.int .i64 0), .lit (.int .i64 0), .lit (.int .i64 0), .lit (.int .i64 0), .lit (.int .i64 0), .lit (.int .i64 0), .lit (.int .i64 0), .lit (.int .i64 1), .lit (.int .i64 1), .lit (.int .i64 1), .lit (.int .i64 1), .lit (.int .i64 2), .lit (.int .i64 2), .lit (.int .i64 3), .lit (.int .i64 3), .lit (.int .i64 4), .lit (.int .i64 4), .lit (.int .i64 5), .lit (.int .i64 7), .lit (.int .i64 8), .lit (.int .i64 9), .lit (.int .i64 10), .lit (.int .i64 11), .lit (.int .i64 12), .lit (.int .i64 13), .lit (.int .i64 14), .lit (.int .i64 15), .lit (.int .i64 16)]]
def laid_lighterman_tables_givenLogs {H : Type} : DataW H := .agg [.lit (.int .i64 6), .lit (.int .i64 5), .lit (.int .i64 6)]
def laid_lighterman_tables_givenParts {H : Type} : DataW H := .agg [.slice [.lit (.int .i64 4), .lit (.int .i64 3), .lit (.int .i64 2), .lit (.int .i64 2), .lit (.int .i64 2), .lit (.int .i64 2), .lit (.int .i64 2), .lit (.int .i64 2), .lit (.int .i64 2), .lit (.int .i64 2), .lit (.int .i64 2), .lit (.int .i64 2), .lit (.int .i64 2), .lit (.int .i64 1), .lit (.int .i64 1), .lit (.int .i64 1), .lit (.int .i64 2), .lit (.int .i64 2), .lit (.int .i64 2), .lit (.int .i64 2), .lit (.int .i64 2), .lit (.int .i64 2), .lit (.int .i64 2), .lit (.int .i64 2), .lit (.int .i64 2), .lit (.int .i64 3), .lit (.int .i64 2), .lit (.int .i64 1), .lit (.int .i64 1), .lit (.int .i64 1), .lit (.int .i64 1), .lit (.int .i64 1), .lit (.int .i64 (-1)), .lit (.int .i64 (-1)), .lit (.int .i64 (-1)), .lit (.int .i64 (-1))] [], .slice [.lit (.int .i64 1), .lit (.int .i64 1), .lit (.int .i64 1), .lit (.int .i64 1), .lit (.int .i64 1), .lit (.int .i64 1), .lit (.int .i64 2), .lit (.int .i64 2), .lit (.int .i64 2), .lit (.int .i64 1), .lit (.int .i64 1), .lit (.int .i64 1), .lit (.int .i64 1), .lit (.int .i64 1), .lit (.int .i64 1), .lit (.int .i64 1), .lit (.int .i64 1), .lit (.int .i64 1), .lit (.int .i64 1), .lit (.int .i64 1), .lit (.int .i64 1), .lit (.int .i64 1), .lit (.int .i64 1), .lit (.int .i64 1), .lit (.int .i64 (-1)), .lit (.int .i64 (-1)), .lit (.int .i64 (-1)), .lit (.int .i64 (-1)), .lit (.int .i64 (-1))] [], .slice [.lit (.int .i64 1), .lit (.int .i64 4), .lit (.int .i64 3), .lit (.int .i64 2), .lit (.int .i64 2), .lit (.int .i64 2), .lit (.int .i64 2), .lit (.int .i64 2), .lit (.int .i64 2), .lit (.int .i64 1), .lit (.int .i64 1), .lit (.int .i64 1), .lit (.int .i64 1), .lit (.int .i64 1), .lit (.int .i64 1), .lit (.int .i64 1), .lit (.int .i64 1), .lit (.int .i64 1), .lit (.int .i64 1), .lit (.int .i64 1), .lit (.int .i64 1), .lit (.int .i64 1), .lit (.int .i64 1), .lit (.int .i64 1), .lit (.int .i64 1), .lit (.int .i64 1), .lit (.int .i64 1), .lit (.int .i64 1), .lit (.int .i64 1), .lit (.int .i64 1), .lit (.int .i64 1), .lit (.int .i64 1), .lit (.int .i64 1), .lit (.int .i64 1), .lit (.int .i64 1), .lit (.int .i64 1), .lit (.int .i64 1), .lit (.int .i64 1), .lit (.int .i64 1), .lit (.int .i64 1), .lit (.int .i64 1), .lit (.int .i64 1), .lit (.int .i64 1), .lit (.int .i64 1), .lit (.int .i64 1), .lit (.int .i64 1), .lit (.int .i64 (-1)), .lit (.int .i64 (-1)), .lit (.int .i64 (-1)), .lit (.int .i64 (-1)), .lit (.int .i64 (-1)), .lit (.int .i64 (-1)), .lit (.int .i64 (-1))] []]
def laid_lighterman_tables_mosts {H : Type} : DataW H := .agg [.lit (.int .i64 9), .lit (.int .i64 8), .lit (.int .i64 9)]
def laid_lighterman_sequences_valueOrder {H : Type} : DataW H := .agg [.lit (.int .i64 1), .lit (.int .i64 2), .lit (.int .i64 0)]
def laid_lighterman_sequences_stateOrder {H : Type} : DataW H := .agg [.lit (.int .i64 0), .lit (.int .i64 2), .lit (.int .i64 1)]

/-- 'lightermanlaw13.SequencesMany': WHATEVER THE INPUT: true; the input reads as it did. -/
def sequencesManySpec : ChangeSpec := { name := "sequencesMany", fn := fun _ => fun
  | [d1, d2] => { results := [.lit (.bool true)], args := [d1, d2] }
  | _ => none }
def sequencesManyRow : OpenClaim := { program := "ytlidnialggpcpaagreatdoor", sum := "f451803af42034acafea7cf8671e0b5c83d0f3d06fd9b5933c5c5dfa72b56fc6", func := "lighterman/lightermanlaw13.SequencesMany", spec := "sequencesMany", unfollowed := true, recurses := true, named := ["lighterman/codes.firsts", "lighterman/codes.lasts", "lighterman/codes.added", "lighterman/tables.givenLogs", "lighterman/tables.givenParts", "lighterman/tables.mosts", "lighterman/sequences.valueOrder", "lighterman/sequences.stateOrder"], apart := false, laid := [("lighterman/codes.firsts", laid_lighterman_codes_firsts), ("lighterman/codes.lasts", laid_lighterman_codes_lasts), ("lighterman/codes.added", laid_lighterman_codes_added), ("lighterman/tables.givenLogs", laid_lighterman_tables_givenLogs), ("lighterman/tables.givenParts", laid_lighterman_tables_givenParts), ("lighterman/tables.mosts", laid_lighterman_tables_mosts), ("lighterman/sequences.valueOrder", laid_lighterman_sequences_valueOrder), ("lighterman/sequences.stateOrder", laid_lighterman_sequences_stateOrder)] }
def SequencesManySaid : Prop := sequencesManyRow.holds Tryz.pinned (OpenSpec.ofChange sequencesManySpec)

/-- ITS FALSE NEIGHBOUR: 'it returns false'. Refute it at one input. -/
def sequencesManyWrong : ChangeSpec := { name := "sequencesMany", fn := fun _ => fun
  | [d1, d2] => { results := [.lit (.bool false)], args := [d1, d2] }
  | _ => none }
def SequencesManyWrongFalsely : Prop := sequencesManyRow.holds Tryz.pinned (OpenSpec.ofChange sequencesManyWrong)

/-- 'lightermanlaw13.SequencesWrites': WHATEVER THE INPUT: true; the input reads as it did. -/
def sequencesWritesSpec : ChangeSpec := { name := "sequencesWrites", fn := fun _ => fun
  | [d1, d2, d3] => { results := [.lit (.bool true)], args := [d1, d2, d3] }
  | _ => none }
def sequencesWritesRow : OpenClaim := { program := "ytlidnialggpcpaagreatdoor", sum := "f451803af42034acafea7cf8671e0b5c83d0f3d06fd9b5933c5c5dfa72b56fc6", func := "lighterman/lightermanlaw13.SequencesWrites", spec := "sequencesWrites", unfollowed := true, recurses := true, named := ["lighterman/codes.firsts", "lighterman/codes.lasts", "lighterman/codes.added", "lighterman/tables.givenLogs", "lighterman/tables.givenParts", "lighterman/tables.mosts", "lighterman/sequences.valueOrder", "lighterman/sequences.stateOrder"], apart := false, laid := [("lighterman/codes.firsts", laid_lighterman_codes_firsts), ("lighterman/codes.lasts", laid_lighterman_codes_lasts), ("lighterman/codes.added", laid_lighterman_codes_added), ("lighterman/tables.givenLogs", laid_lighterman_tables_givenLogs), ("lighterman/tables.givenParts", laid_lighterman_tables_givenParts), ("lighterman/tables.mosts", laid_lighterman_tables_mosts), ("lighterman/sequences.valueOrder", laid_lighterman_sequences_valueOrder), ("lighterman/sequences.stateOrder", laid_lighterman_sequences_stateOrder)] }
def SequencesWritesSaid : Prop := sequencesWritesRow.holds Tryz.pinned (OpenSpec.ofChange sequencesWritesSpec)

/-- ITS FALSE NEIGHBOUR: 'it returns false'. Refute it at one input. -/
def sequencesWritesWrong : ChangeSpec := { name := "sequencesWrites", fn := fun _ => fun
  | [d1, d2, d3] => { results := [.lit (.bool false)], args := [d1, d2, d3] }
  | _ => none }
def SequencesWritesWrongFalsely : Prop := sequencesWritesRow.holds Tryz.pinned (OpenSpec.ofChange sequencesWritesWrong)

/-- 'lightermanlaw13.SequencesSame': WHATEVER THE INPUT: true; the input reads as it did. -/
def sequencesSameSpec : ChangeSpec := { name := "sequencesSame", fn := fun _ => fun
  | [d1, d2] => { results := [.lit (.bool true)], args := [d1, d2] }
  | _ => none }
def sequencesSameRow : OpenClaim := { program := "ytlidnialggpcpaagreatdoor", sum := "f451803af42034acafea7cf8671e0b5c83d0f3d06fd9b5933c5c5dfa72b56fc6", func := "lighterman/lightermanlaw13.SequencesSame", spec := "sequencesSame", unfollowed := true, recurses := true, named := ["lighterman/codes.firsts", "lighterman/codes.lasts", "lighterman/codes.added", "lighterman/tables.givenLogs", "lighterman/tables.givenParts", "lighterman/tables.mosts", "lighterman/sequences.valueOrder", "lighterman/sequences.stateOrder"], apart := false, laid := [("lighterman/codes.firsts", laid_lighterman_codes_firsts), ("lighterman/codes.lasts", laid_lighterman_codes_lasts), ("lighterman/codes.added", laid_lighterman_codes_added), ("lighterman/tables.givenLogs", laid_lighterman_tables_givenLogs), ("lighterman/tables.givenParts", laid_lighterman_tables_givenParts), ("lighterman/tables.mosts", laid_lighterman_tables_mosts), ("lighterman/sequences.valueOrder", laid_lighterman_sequences_valueOrder), ("lighterman/sequences.stateOrder", laid_lighterman_sequences_stateOrder)] }
def SequencesSameSaid : Prop := sequencesSameRow.holds Tryz.pinned (OpenSpec.ofChange sequencesSameSpec)

/-- ITS FALSE NEIGHBOUR: 'it returns false'. Refute it at one input. -/
def sequencesSameWrong : ChangeSpec := { name := "sequencesSame", fn := fun _ => fun
  | [d1, d2] => { results := [.lit (.bool false)], args := [d1, d2] }
  | _ => none }
def SequencesSameWrongFalsely : Prop := sequencesSameRow.holds Tryz.pinned (OpenSpec.ofChange sequencesSameWrong)

/-- 'lightermanlaw13.SequencesCut': WHATEVER THE INPUT: true; the input reads as it did. -/
def sequencesCutSpec : ChangeSpec := { name := "sequencesCut", fn := fun _ => fun
  | [d1, d2, d3] => { results := [.lit (.bool true)], args := [d1, d2, d3] }
  | _ => none }
def sequencesCutRow : OpenClaim := { program := "ytlidnialggpcpaagreatdoor", sum := "f451803af42034acafea7cf8671e0b5c83d0f3d06fd9b5933c5c5dfa72b56fc6", func := "lighterman/lightermanlaw13.SequencesCut", spec := "sequencesCut", unfollowed := true, recurses := true, named := ["lighterman/codes.firsts", "lighterman/codes.lasts", "lighterman/codes.added", "lighterman/tables.givenLogs", "lighterman/tables.givenParts", "lighterman/tables.mosts", "lighterman/sequences.valueOrder", "lighterman/sequences.stateOrder"], apart := false, laid := [("lighterman/codes.firsts", laid_lighterman_codes_firsts), ("lighterman/codes.lasts", laid_lighterman_codes_lasts), ("lighterman/codes.added", laid_lighterman_codes_added), ("lighterman/tables.givenLogs", laid_lighterman_tables_givenLogs), ("lighterman/tables.givenParts", laid_lighterman_tables_givenParts), ("lighterman/tables.mosts", laid_lighterman_tables_mosts), ("lighterman/sequences.valueOrder", laid_lighterman_sequences_valueOrder), ("lighterman/sequences.stateOrder", laid_lighterman_sequences_stateOrder)] }
def SequencesCutSaid : Prop := sequencesCutRow.holds Tryz.pinned (OpenSpec.ofChange sequencesCutSpec)

/-- ITS FALSE NEIGHBOUR: 'it returns false'. Refute it at one input. -/
def sequencesCutWrong : ChangeSpec := { name := "sequencesCut", fn := fun _ => fun
  | [d1, d2, d3] => { results := [.lit (.bool false)], args := [d1, d2, d3] }
  | _ => none }
def SequencesCutWrongFalsely : Prop := sequencesCutRow.holds Tryz.pinned (OpenSpec.ofChange sequencesCutWrong)

/- THE SECOND FORM. 'bulk': how many values and letters a reading holds, each counted each time it is reached (what is shared counts as often as it is met; a slice's spare places count too). A statement '..UptoSaid' is the law's where the arguments, and the package variables that the reading takes, are together of bulk at most 1048576: NARROWER than '..Said'. Prove '..Said' where nothing that the law and all that it calls make is longer than what came in: it says more and counts as full. Else prove '..UptoSaid'. A law counts once. -/
mutual
def uptoBulk {H : Type} : DataW H → Nat
  | .lit (.string bytes) => bytes.length + 1
  | .lit _ => 1
  | .nil => 1
  | .ptr d => uptoBulk d + 1
  | .slice elems spare => uptoBulkAll elems + uptoBulkAll spare + 1
  | .agg parts => uptoBulkAll parts + 1
  | .iface _ d => uptoBulk d + 1
  | .map entries => uptoBulkEntries entries + 1
  | .held _ => 1
def uptoBulkAll {H : Type} : List (DataW H) → Nat
  | [] => 0
  | d :: r => uptoBulk d + uptoBulkAll r
def uptoBulkEntries {H : Type} : List (Lit × DataW H) → Nat
  | [] => 0
  | x :: r => uptoBulkEntry x + uptoBulkEntries r
def uptoBulkEntry {H : Type} : Lit × DataW H → Nat
  | (.string bytes, d) => bytes.length + uptoBulk d + 1
  | (_, d) => uptoBulk d + 1
 end
def uptoSmall : (H : Type) → List (DataW H) → Bool := fun _ ds => decide (uptoBulkAll ds ≤ 1048576)
def OpenSpec.upto (s : _root_.Go.ChangeSpec) : _root_.Go.OpenSpec := { _root_.Go.OpenSpec.ofChange s with cond := some uptoSmall }

/-- 'lightermanlaw13.SequencesMany', WHERE WHAT IT READS IS OF BULK AT MOST 1048576: true; the input reads as it did. -/
def sequencesManyUptoRow : OpenClaim := { program := "ytlidnialggpcpaagreatdoor", sum := "f451803af42034acafea7cf8671e0b5c83d0f3d06fd9b5933c5c5dfa72b56fc6", func := "lighterman/lightermanlaw13.SequencesMany", spec := "sequencesMany", unfollowed := true, recurses := true, named := ["lighterman/codes.firsts", "lighterman/codes.lasts", "lighterman/codes.added", "lighterman/tables.givenLogs", "lighterman/tables.givenParts", "lighterman/tables.mosts", "lighterman/sequences.valueOrder", "lighterman/sequences.stateOrder"], apart := false, laid := [("lighterman/codes.firsts", laid_lighterman_codes_firsts), ("lighterman/codes.lasts", laid_lighterman_codes_lasts), ("lighterman/codes.added", laid_lighterman_codes_added), ("lighterman/tables.givenLogs", laid_lighterman_tables_givenLogs), ("lighterman/tables.givenParts", laid_lighterman_tables_givenParts), ("lighterman/tables.mosts", laid_lighterman_tables_mosts), ("lighterman/sequences.valueOrder", laid_lighterman_sequences_valueOrder), ("lighterman/sequences.stateOrder", laid_lighterman_sequences_stateOrder)], narrowed := true }
def SequencesManyUptoSaid : Prop := sequencesManyUptoRow.holds Tryz.pinned (OpenSpec.upto sequencesManySpec)

/-- 'lightermanlaw13.SequencesWrites', WHERE WHAT IT READS IS OF BULK AT MOST 1048576: true; the input reads as it did. -/
def sequencesWritesUptoRow : OpenClaim := { program := "ytlidnialggpcpaagreatdoor", sum := "f451803af42034acafea7cf8671e0b5c83d0f3d06fd9b5933c5c5dfa72b56fc6", func := "lighterman/lightermanlaw13.SequencesWrites", spec := "sequencesWrites", unfollowed := true, recurses := true, named := ["lighterman/codes.firsts", "lighterman/codes.lasts", "lighterman/codes.added", "lighterman/tables.givenLogs", "lighterman/tables.givenParts", "lighterman/tables.mosts", "lighterman/sequences.valueOrder", "lighterman/sequences.stateOrder"], apart := false, laid := [("lighterman/codes.firsts", laid_lighterman_codes_firsts), ("lighterman/codes.lasts", laid_lighterman_codes_lasts), ("lighterman/codes.added", laid_lighterman_codes_added), ("lighterman/tables.givenLogs", laid_lighterman_tables_givenLogs), ("lighterman/tables.givenParts", laid_lighterman_tables_givenParts), ("lighterman/tables.mosts", laid_lighterman_tables_mosts), ("lighterman/sequences.valueOrder", laid_lighterman_sequences_valueOrder), ("lighterman/sequences.stateOrder", laid_lighterman_sequences_stateOrder)], narrowed := true }
def SequencesWritesUptoSaid : Prop := sequencesWritesUptoRow.holds Tryz.pinned (OpenSpec.upto sequencesWritesSpec)

/-- 'lightermanlaw13.SequencesSame', WHERE WHAT IT READS IS OF BULK AT MOST 1048576: true; the input reads as it did. -/
def sequencesSameUptoRow : OpenClaim := { program := "ytlidnialggpcpaagreatdoor", sum := "f451803af42034acafea7cf8671e0b5c83d0f3d06fd9b5933c5c5dfa72b56fc6", func := "lighterman/lightermanlaw13.SequencesSame", spec := "sequencesSame", unfollowed := true, recurses := true, named := ["lighterman/codes.firsts", "lighterman/codes.lasts", "lighterman/codes.added", "lighterman/tables.givenLogs", "lighterman/tables.givenParts", "lighterman/tables.mosts", "lighterman/sequences.valueOrder", "lighterman/sequences.stateOrder"], apart := false, laid := [("lighterman/codes.firsts", laid_lighterman_codes_firsts), ("lighterman/codes.lasts", laid_lighterman_codes_lasts), ("lighterman/codes.added", laid_lighterman_codes_added), ("lighterman/tables.givenLogs", laid_lighterman_tables_givenLogs), ("lighterman/tables.givenParts", laid_lighterman_tables_givenParts), ("lighterman/tables.mosts", laid_lighterman_tables_mosts), ("lighterman/sequences.valueOrder", laid_lighterman_sequences_valueOrder), ("lighterman/sequences.stateOrder", laid_lighterman_sequences_stateOrder)], narrowed := true }
def SequencesSameUptoSaid : Prop := sequencesSameUptoRow.holds Tryz.pinned (OpenSpec.upto sequencesSameSpec)

/-- 'lightermanlaw13.SequencesCut', WHERE WHAT IT READS IS OF BULK AT MOST 1048576: true; the input reads as it did. -/
def sequencesCutUptoRow : OpenClaim := { program := "ytlidnialggpcpaagreatdoor", sum := "f451803af42034acafea7cf8671e0b5c83d0f3d06fd9b5933c5c5dfa72b56fc6", func := "lighterman/lightermanlaw13.SequencesCut", spec := "sequencesCut", unfollowed := true, recurses := true, named := ["lighterman/codes.firsts", "lighterman/codes.lasts", "lighterman/codes.added", "lighterman/tables.givenLogs", "lighterman/tables.givenParts", "lighterman/tables.mosts", "lighterman/sequences.valueOrder", "lighterman/sequences.stateOrder"], apart := false, laid := [("lighterman/codes.firsts", laid_lighterman_codes_firsts), ("lighterman/codes.lasts", laid_lighterman_codes_lasts), ("lighterman/codes.added", laid_lighterman_codes_added), ("lighterman/tables.givenLogs", laid_lighterman_tables_givenLogs), ("lighterman/tables.givenParts", laid_lighterman_tables_givenParts), ("lighterman/tables.mosts", laid_lighterman_tables_mosts), ("lighterman/sequences.valueOrder", laid_lighterman_sequences_valueOrder), ("lighterman/sequences.stateOrder", laid_lighterman_sequences_stateOrder)], narrowed := true }
def SequencesCutUptoSaid : Prop := sequencesCutUptoRow.holds Tryz.pinned (OpenSpec.upto sequencesCutSpec)

end Rows
end Go.Proofs.YtlidnialggpcpaaGreatDoor
