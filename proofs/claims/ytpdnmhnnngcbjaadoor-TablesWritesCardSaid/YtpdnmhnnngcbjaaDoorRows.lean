/-
  NARROWER THAN 'FOR EVERY INPUT', by the rows' own cells (each row's printed sentence says how): TablesWrites: laid · TablesGiven: laid · TablesRow: laid.
  DERIVED. THE GIVEN ROWS OF THIS SEAT. 3 by the template 'for every input the law returns true; each argument reads behind the call as it read before'; 0 by the template 'total and deterministic' (their statements: YtpdnmhnnngcbjaaDoorTotals.lean).
  GIVEN WITH THE SEED: the statements are not yours to turn. If you find one false, say at which input.
  Laid BY PROGRAM, IN A SANDBOX (cutbox-rows.mjs): the forced cells as the released guide's own fill.sh prints them over the translation f94656fa4442e709… (all of the seat's roots in one cut). By AI agents, Wed Nov 11 2026. No macro, syntax, notation, axiom, sorry.
-/
import Derived.Test.YtpdnmhnnngcbjaaDoorChecked
import GoSem.Claim
import GoSem.ClaimJoined
import GoSem.ClaimMapViews
import Derived.JoinedTies
import Derived.KernelRfl
namespace Go.Proofs.YtpdnmhnnngcbjaaDoor
/- THE CELL 'sum', in the pinned program and in every row, IS THE sha256 OF THE DUMP (.gsa) THAT YtpdnmhnnngcbjaaDoorProg.lean LOADS. Nothing in Lean hashes anything: it is a label: what it is worth is what the hold of that sum in a sandbox is worth. -/
noncomputable def Tryd.pinned : Pinned := { name := "ytpdnmhnnngcbjaadoor", sum := "f94656fa4442e7096431c80c4f0b5a1a5596b83e27b4372a8e7b17709b975907", checked := Tryd.checked }
namespace Rows
def none {H : Type} : Left H := { results := [], args := [] }

/- WHAT THE LISTED PACKAGE-LEVEL VARIABLES READ AS WHEN THE CALL BEGINS. Each datum BY PROGRAM (the guide's laid-datum.mjs) off the statement by which the dump's own 'gosem.cut.vars' lays the variable. In a bare row this is a premise. The card (YtpdnmhnnngcbjaaDoorCards.lean) ties it to the program's text. -/
def laid_lighterman_codes_lasts {H : Type} : DataW H := .agg [.lit (.int .i64 35), .lit (.int .i64 31), .lit (.int .i64 52)]
def laid_lighterman_tables_givenLogs {H : Type} : DataW H := .agg [.lit (.int .i64 6), .lit (.int .i64 5), .lit (.int .i64 6)]
def laid_lighterman_tables_givenParts {H : Type} : DataW H := .agg [.slice [.lit (.int .i64 4), .lit (.int .i64 3), .lit (.int .i64 2), .lit (.int .i64 2), .lit (.int .i64 2), .lit (.int .i64 2), .lit (.int .i64 2), .lit (.int .i64 2), .lit (.int .i64 2), .lit (.int .i64 2), .lit (.int .i64 2), .lit (.int .i64 2), .lit (.int .i64 2), .lit (.int .i64 1), .lit (.int .i64 1), .lit (.int .i64 1), .lit (.int .i64 2), .lit (.int .i64 2), .lit (.int .i64 2), .lit (.int .i64 2), .lit (.int .i64 2), .lit (.int .i64 2), .lit (.int .i64 2), .lit (.int .i64 2), .lit (.int .i64 2), .lit (.int .i64 3), .lit (.int .i64 2), .lit (.int .i64 1), .lit (.int .i64 1), .lit (.int .i64 1), .lit (.int .i64 1), .lit (.int .i64 1), .lit (.int .i64 (-1)), .lit (.int .i64 (-1)), .lit (.int .i64 (-1)), .lit (.int .i64 (-1))] [], .slice [.lit (.int .i64 1), .lit (.int .i64 1), .lit (.int .i64 1), .lit (.int .i64 1), .lit (.int .i64 1), .lit (.int .i64 1), .lit (.int .i64 2), .lit (.int .i64 2), .lit (.int .i64 2), .lit (.int .i64 1), .lit (.int .i64 1), .lit (.int .i64 1), .lit (.int .i64 1), .lit (.int .i64 1), .lit (.int .i64 1), .lit (.int .i64 1), .lit (.int .i64 1), .lit (.int .i64 1), .lit (.int .i64 1), .lit (.int .i64 1), .lit (.int .i64 1), .lit (.int .i64 1), .lit (.int .i64 1), .lit (.int .i64 1), .lit (.int .i64 (-1)), .lit (.int .i64 (-1)), .lit (.int .i64 (-1)), .lit (.int .i64 (-1)), .lit (.int .i64 (-1))] [], .slice [.lit (.int .i64 1), .lit (.int .i64 4), .lit (.int .i64 3), .lit (.int .i64 2), .lit (.int .i64 2), .lit (.int .i64 2), .lit (.int .i64 2), .lit (.int .i64 2), .lit (.int .i64 2), .lit (.int .i64 1), .lit (.int .i64 1), .lit (.int .i64 1), .lit (.int .i64 1), .lit (.int .i64 1), .lit (.int .i64 1), .lit (.int .i64 1), .lit (.int .i64 1), .lit (.int .i64 1), .lit (.int .i64 1), .lit (.int .i64 1), .lit (.int .i64 1), .lit (.int .i64 1), .lit (.int .i64 1), .lit (.int .i64 1), .lit (.int .i64 1), .lit (.int .i64 1), .lit (.int .i64 1), .lit (.int .i64 1), .lit (.int .i64 1), .lit (.int .i64 1), .lit (.int .i64 1), .lit (.int .i64 1), .lit (.int .i64 1), .lit (.int .i64 1), .lit (.int .i64 1), .lit (.int .i64 1), .lit (.int .i64 1), .lit (.int .i64 1), .lit (.int .i64 1), .lit (.int .i64 1), .lit (.int .i64 1), .lit (.int .i64 1), .lit (.int .i64 1), .lit (.int .i64 1), .lit (.int .i64 1), .lit (.int .i64 1), .lit (.int .i64 (-1)), .lit (.int .i64 (-1)), .lit (.int .i64 (-1)), .lit (.int .i64 (-1)), .lit (.int .i64 (-1)), .lit (.int .i64 (-1)), .lit (.int .i64 (-1))] []]
def laid_lighterman_tables_mosts {H : Type} : DataW H := .agg [.lit (.int .i64 9), .lit (.int .i64 8), .lit (.int .i64 9)]

/-- 'lightermanlaw12.TablesWrites': WHATEVER THE INPUT: true; the input reads as it did. -/
def tablesWritesSpec : ChangeSpec := { name := "tablesWrites", fn := fun _ => fun
  | [d1, d2] => { results := [.lit (.bool true)], args := [d1, d2] }
  | _ => none }
def tablesWritesRow : OpenClaim := { program := "ytpdnmhnnngcbjaadoor", sum := "f94656fa4442e7096431c80c4f0b5a1a5596b83e27b4372a8e7b17709b975907", func := "lighterman/lightermanlaw12.TablesWrites", spec := "tablesWrites", unfollowed := true, recurses := true, named := ["lighterman/codes.lasts", "lighterman/tables.givenLogs", "lighterman/tables.givenParts", "lighterman/tables.mosts"], apart := false, laid := [("lighterman/codes.lasts", laid_lighterman_codes_lasts), ("lighterman/tables.givenLogs", laid_lighterman_tables_givenLogs), ("lighterman/tables.givenParts", laid_lighterman_tables_givenParts), ("lighterman/tables.mosts", laid_lighterman_tables_mosts)] }
def TablesWritesSaid : Prop := tablesWritesRow.holds Tryd.pinned (OpenSpec.ofChange tablesWritesSpec)

/-- ITS FALSE NEIGHBOUR: 'it returns false'. Refute it at one input. -/
def tablesWritesWrong : ChangeSpec := { name := "tablesWrites", fn := fun _ => fun
  | [d1, d2] => { results := [.lit (.bool false)], args := [d1, d2] }
  | _ => none }
def TablesWritesWrongFalsely : Prop := tablesWritesRow.holds Tryd.pinned (OpenSpec.ofChange tablesWritesWrong)

/-- 'lightermanlaw12.TablesGiven': WHATEVER THE INPUT: true; the input reads as it did. -/
def tablesGivenSpec : ChangeSpec := { name := "tablesGiven", fn := fun _ => fun
  | [d1, d2, d3] => { results := [.lit (.bool true)], args := [d1, d2, d3] }
  | _ => none }
def tablesGivenRow : OpenClaim := { program := "ytpdnmhnnngcbjaadoor", sum := "f94656fa4442e7096431c80c4f0b5a1a5596b83e27b4372a8e7b17709b975907", func := "lighterman/lightermanlaw12.TablesGiven", spec := "tablesGiven", named := ["lighterman/codes.lasts", "lighterman/tables.givenLogs", "lighterman/tables.givenParts", "lighterman/tables.mosts"], apart := false, laid := [("lighterman/codes.lasts", laid_lighterman_codes_lasts), ("lighterman/tables.givenLogs", laid_lighterman_tables_givenLogs), ("lighterman/tables.givenParts", laid_lighterman_tables_givenParts), ("lighterman/tables.mosts", laid_lighterman_tables_mosts)] }
def TablesGivenSaid : Prop := tablesGivenRow.holds Tryd.pinned (OpenSpec.ofChange tablesGivenSpec)

/-- ITS FALSE NEIGHBOUR: 'it returns false'. Refute it at one input. -/
def tablesGivenWrong : ChangeSpec := { name := "tablesGiven", fn := fun _ => fun
  | [d1, d2, d3] => { results := [.lit (.bool false)], args := [d1, d2, d3] }
  | _ => none }
def TablesGivenWrongFalsely : Prop := tablesGivenRow.holds Tryd.pinned (OpenSpec.ofChange tablesGivenWrong)

/-- 'lightermanlaw12.TablesRow': WHATEVER THE INPUT: true; the input reads as it did. -/
def tablesRowSpec : ChangeSpec := { name := "tablesRow", fn := fun _ => fun
  | [d1, d2, d3] => { results := [.lit (.bool true)], args := [d1, d2, d3] }
  | _ => none }
def tablesRowRow : OpenClaim := { program := "ytpdnmhnnngcbjaadoor", sum := "f94656fa4442e7096431c80c4f0b5a1a5596b83e27b4372a8e7b17709b975907", func := "lighterman/lightermanlaw12.TablesRow", spec := "tablesRow", named := ["lighterman/codes.lasts", "lighterman/tables.givenLogs", "lighterman/tables.givenParts", "lighterman/tables.mosts"], apart := false, laid := [("lighterman/codes.lasts", laid_lighterman_codes_lasts), ("lighterman/tables.givenLogs", laid_lighterman_tables_givenLogs), ("lighterman/tables.givenParts", laid_lighterman_tables_givenParts), ("lighterman/tables.mosts", laid_lighterman_tables_mosts)] }
def TablesRowSaid : Prop := tablesRowRow.holds Tryd.pinned (OpenSpec.ofChange tablesRowSpec)

/-- ITS FALSE NEIGHBOUR: 'it returns false'. Refute it at one input. -/
def tablesRowWrong : ChangeSpec := { name := "tablesRow", fn := fun _ => fun
  | [d1, d2, d3] => { results := [.lit (.bool false)], args := [d1, d2, d3] }
  | _ => none }
def TablesRowWrongFalsely : Prop := tablesRowRow.holds Tryd.pinned (OpenSpec.ofChange tablesRowWrong)

/- THE SECOND FORM. 'bulk': how many values and letters a reading holds, each counted each time it is reached (what is shared counts as often as it is met; a slice's spare places count too). A statement '..UptoSaid' is the law's where the arguments, and the package variables that the reading takes, are together of bulk at most 1048576: NARROWER than '..Said'. Prove '..Said' where nothing that the law and all that it calls make is longer than what came in: it says more and counts as full. Else prove '..UptoSaid'. A law counts once. -/
mutual
def uptoBulk {H : Type} : DataW H → Nat
  | .lit (.string bytes) => bytes.length + 1
  | .lit _ => 1
  | .nil => 1
  | .ptr d => uptoBulk d + 1
  | .slice elems spare => uptoBulkAll elems + uptoBulkAll spare + 1
  | .agg parts => uptoBulkAll parts + 1
  | .iface _ d => uptoBulk d + 1
  | .map entries => uptoBulkEntries entries + 1
  | .held _ => 1
def uptoBulkAll {H : Type} : List (DataW H) → Nat
  | [] => 0
  | d :: r => uptoBulk d + uptoBulkAll r
def uptoBulkEntries {H : Type} : List (Lit × DataW H) → Nat
  | [] => 0
  | x :: r => uptoBulkEntry x + uptoBulkEntries r
def uptoBulkEntry {H : Type} : Lit × DataW H → Nat
  | (.string bytes, d) => bytes.length + uptoBulk d + 1
  | (_, d) => uptoBulk d + 1
 end
def uptoSmall : (H : Type) → List (DataW H) → Bool := fun _ ds => decide (uptoBulkAll ds ≤ 1048576)
def OpenSpec.upto (s : _root_.Go.ChangeSpec) : _root_.Go.OpenSpec := { _root_.Go.OpenSpec.ofChange s with cond := some uptoSmall }

/-- 'lightermanlaw12.TablesWrites', WHERE WHAT IT READS IS OF BULK AT MOST 1048576: true; the input reads as it did. -/
def tablesWritesUptoRow : OpenClaim := { program := "ytpdnmhnnngcbjaadoor", sum := "f94656fa4442e7096431c80c4f0b5a1a5596b83e27b4372a8e7b17709b975907", func := "lighterman/lightermanlaw12.TablesWrites", spec := "tablesWrites", unfollowed := true, recurses := true, named := ["lighterman/codes.lasts", "lighterman/tables.givenLogs", "lighterman/tables.givenParts", "lighterman/tables.mosts"], apart := false, laid := [("lighterman/codes.lasts", laid_lighterman_codes_lasts), ("lighterman/tables.givenLogs", laid_lighterman_tables_givenLogs), ("lighterman/tables.givenParts", laid_lighterman_tables_givenParts), ("lighterman/tables.mosts", laid_lighterman_tables_mosts)], narrowed := true }
def TablesWritesUptoSaid : Prop := tablesWritesUptoRow.holds Tryd.pinned (OpenSpec.upto tablesWritesSpec)

/-- 'lightermanlaw12.TablesGiven', WHERE WHAT IT READS IS OF BULK AT MOST 1048576: true; the input reads as it did. -/
def tablesGivenUptoRow : OpenClaim := { program := "ytpdnmhnnngcbjaadoor", sum := "f94656fa4442e7096431c80c4f0b5a1a5596b83e27b4372a8e7b17709b975907", func := "lighterman/lightermanlaw12.TablesGiven", spec := "tablesGiven", named := ["lighterman/codes.lasts", "lighterman/tables.givenLogs", "lighterman/tables.givenParts", "lighterman/tables.mosts"], apart := false, laid := [("lighterman/codes.lasts", laid_lighterman_codes_lasts), ("lighterman/tables.givenLogs", laid_lighterman_tables_givenLogs), ("lighterman/tables.givenParts", laid_lighterman_tables_givenParts), ("lighterman/tables.mosts", laid_lighterman_tables_mosts)], narrowed := true }
def TablesGivenUptoSaid : Prop := tablesGivenUptoRow.holds Tryd.pinned (OpenSpec.upto tablesGivenSpec)

/-- 'lightermanlaw12.TablesRow', WHERE WHAT IT READS IS OF BULK AT MOST 1048576: true; the input reads as it did. -/
def tablesRowUptoRow : OpenClaim := { program := "ytpdnmhnnngcbjaadoor", sum := "f94656fa4442e7096431c80c4f0b5a1a5596b83e27b4372a8e7b17709b975907", func := "lighterman/lightermanlaw12.TablesRow", spec := "tablesRow", named := ["lighterman/codes.lasts", "lighterman/tables.givenLogs", "lighterman/tables.givenParts", "lighterman/tables.mosts"], apart := false, laid := [("lighterman/codes.lasts", laid_lighterman_codes_lasts), ("lighterman/tables.givenLogs", laid_lighterman_tables_givenLogs), ("lighterman/tables.givenParts", laid_lighterman_tables_givenParts), ("lighterman/tables.mosts", laid_lighterman_tables_mosts)], narrowed := true }
def TablesRowUptoSaid : Prop := tablesRowUptoRow.holds Tryd.pinned (OpenSpec.upto tablesRowSpec)

end Rows
end Go.Proofs.YtpdnmhnnngcbjaaDoor
