/-
  NARROWER THAN 'FOR EVERY INPUT', by the rows' own cells (each row's printed sentence says how): CodesTell: laid · CodesOf: laid · CodesBack: laid · CodesRows: laid.
  DERIVED. THE GIVEN ROWS OF THIS SEAT. 4 by the template 'for every input the law returns true; each argument reads behind the call as it read before'; 0 by the template 'total and deterministic' (their statements: YtcekhmomilhmoaaDoorTotals.lean).
  GIVEN WITH THE SEED: the statements are not yours to turn. If you find one false, say at which input.
  Laid BY PROGRAM, IN A SANDBOX (cutbox-rows.mjs): the forced cells as the released guide's own fill.sh prints them over the translation ac846831049be2f5… (all of the seat's roots in one cut). By AI agents, Wed Nov 11 2026. No macro, syntax, notation, axiom, sorry.
-/
import Derived.Test.YtcekhmomilhmoaaDoorChecked
import GoSem.Claim
import GoSem.ClaimJoined
import GoSem.ClaimMapViews
import Derived.JoinedTies
import Derived.KernelRfl
namespace Go.Proofs.YtcekhmomilhmoaaDoor
/- THE CELL 'sum', in the pinned program and in every row, IS THE sha256 OF THE DUMP (.gsa) THAT YtcekhmomilhmoaaDoorProg.lean LOADS. Nothing in Lean hashes anything: it is a label: what it is worth is what the hold of that sum in a sandbox is worth. -/
noncomputable def Tryd.pinned : Pinned := { name := "ytcekhmomilhmoaadoor", sum := "ac846831049be2f57366b80d7a63c7be176ead18bcd56493564237be4c37d614", checked := Tryd.checked }
namespace Rows
def none {H : Type} : Left H := { results := [], args := [] }

/- WHAT THE LISTED PACKAGE-LEVEL VARIABLES READ AS WHEN THE CALL BEGINS. Each datum BY PROGRAM (the guide's laid-datum.mjs) off the statement by which the dump's own 'gosem.cut.vars' lays the variable. In a bare row this is a premise. The card (YtcekhmomilhmoaaDoorCards.lean) ties it to the program's text. -/
def laid_lighterman_codes_firsts {H : Type} : DataW H := .agg [.lit (.int .u32 0), .lit (.int .u32 1), .lit (.int .u32 3)]
def laid_lighterman_codes_lasts {H : Type} : DataW H := .agg [.lit (.int .i64 35), .lit (.int .i64 31), .lit (.int .i64 52)]
def laid_lighterman_codes_added {H : Type} : DataW H := .agg [.agg [.lit (.int .i64 0), .lit (.int .i64 0), .lit (.int .i64 0), .lit (.int .i64 0), .lit (.int .i64 0), .lit (.int .i64 0), .lit (.int .i64 0), .lit (.int .i64 0), .lit (.int .i64 0), .lit (.int .i64 0), .lit (.int .i64 0), .lit (.int .i64 0), .lit (.int .i64 0), .lit (.int .i64 0), .lit (.int .i64 0), .lit (.int .i64 0), .lit (.int .i64 1), .lit (.int .i64 1), .lit (.int .i64 1), .lit (.int .i64 1), .lit (.int .i64 2), .lit (.int .i64 2), .lit (.int .i64 3), .lit (.int .i64 3), .lit (.int .i64 4), .lit (.int .i64 6), .lit (.int .i64 7), .lit (.int .i64 8), .lit (.int .i64 9), .lit (.int .i64 10), .lit (.int .i64 11), .lit (.int .i64 12), .lit (.int .i64 13), .lit (.int .i64 14), .lit (.int .i64 15), .lit (.int .i64 16), .lit (.int .i64 0), .lit (.int .i64 0), .lit (.int .i64 0), .lit (.int .i64 0), .lit (.int .i64 0), .lit (.int .i64 0), .lit (.int .i64 0), .lit (.int .i64 0), .lit (.int .i64 0), .lit (.int .i64 0), .lit (.int .i64 0), .lit (.int .i64 0), .lit (.int .i64 0), .lit (.int .i64 0), .lit (.int .i64 0), .lit (.int .i64 0), .lit (.int .i64 0)], .agg [.lit (.int .i64 0), .lit (.int .i64 1), .lit (.int .i64 2), .lit (.int .i64 3), .lit (.int .i64 4), .lit (.int .i64 5), .lit (.int .i64 6), .lit (.int .i64 7), .lit (.int .i64 8), .lit (.int .i64 9), .lit (.int .i64 10), .lit (.int .i64 11), .lit (.int .i64 12), .lit (.int .i64 13), .lit (.int .i64 14), .lit (.int .i64 15), .lit (.int .i64 16), .lit (.int .i64 17), .lit (.int .i64 18), .lit (.int .i64 19), .lit (.int .i64 20), .lit (.int .i64 21), .lit (.int .i64 22), .lit (.int .i64 23), .lit (.int .i64 24), .lit (.int .i64 25), .lit (.int .i64 26), .lit (.int .i64 27), .lit (.int .i64 28), .lit (.int .i64 29), .lit (.int .i64 30), .lit (.int .i64 31), .lit (.int .i64 0), .lit (.int .i64 0), .lit (.int .i64 0), .lit (.int .i64 0), .lit (.int .i64 0), .lit (.int .i64 0), .lit (.int .i64 0), .lit (.int .i64 0), .lit (.int .i64 0), .lit (.int .i64 0), .lit (.int .i64 0), .lit (.int .i64 0), .lit (.int .i64 0), .lit (.int .i64 0), .lit (.int .i64 0), .lit (.int .i64 0), .lit (.int .i64 0), .lit (.int .i64 0), .lit (.int .i64 0), .lit (.int .i64 0), .lit (.int .i64 0)], .agg [.lit (.int .i64 0), .lit (.int .i64 0), .lit (.int .i64 0), .lit (.int .i64 0), .lit (.int .i64 0), .lit (.int .i64 0), .lit (.int .i64 0), .lit (.int .i64 0), .lit (.int .i64 0), .lit (.int .i64 0), .lit (.int .i64 0), .lit (.int .i64 0), .lit (.int .i64 0), .lit (.int .i64 0), .lit (.int .i64 0), .lit (.int .i64 0), .lit (.int .i64 0), .lit (.int .i64 0), .lit (.int .i64 0), .lit (.int .i64 0), .lit (.int .i64 0), .lit (.int .i64 0), .lit (.int .i64 0), .lit (.int .i64 0), .lit (.int .i64 0), .lit (.int .i64 0), .lit (.int .i64 0), .lit (.int .i64 0), .lit (.int .i64 0), .lit (.int .i64 0), .lit (.int .i64 0), .lit (.int .i64 0), .lit (.int .i64 1), .lit (.int .i64 1), .lit (.int .i64 1), .lit (.int .i64 1), .lit (.int .i64 2), .lit (.int .i64 2), .lit (.int .i64 3), .lit (.int .i64 3), .lit (.int .i64 4), .lit (.int .i64 4), .lit (.int .i64 5), .lit (.int .i64 7), .lit (.int .i64 8), .lit (.int .i64 9), .lit (.int .i64 10), .lit (.int .i64 11), .lit (.int .i64 12), .lit (.int .i64 13), .lit (.int .i64 14), .lit (.int .i64 15), .lit (.int .i64 16)]]

/-- 'lightermanlaw11.CodesTell': WHATEVER THE INPUT: true; the input reads as it did. -/
def codesTellSpec : ChangeSpec := { name := "codesTell", fn := fun _ => fun
  | [d1, d2] => { results := [.lit (.bool true)], args := [d1, d2] }
  | _ => none }
def codesTellRow : OpenClaim := { program := "ytcekhmomilhmoaadoor", sum := "ac846831049be2f57366b80d7a63c7be176ead18bcd56493564237be4c37d614", func := "lighterman/lightermanlaw11.CodesTell", spec := "codesTell", named := ["lighterman/codes.firsts", "lighterman/codes.lasts", "lighterman/codes.added"], apart := false, laid := [("lighterman/codes.firsts", laid_lighterman_codes_firsts), ("lighterman/codes.lasts", laid_lighterman_codes_lasts), ("lighterman/codes.added", laid_lighterman_codes_added)] }
def CodesTellSaid : Prop := codesTellRow.holds Tryd.pinned (OpenSpec.ofChange codesTellSpec)

/-- ITS FALSE NEIGHBOUR: 'it returns false'. Refute it at one input. -/
def codesTellWrong : ChangeSpec := { name := "codesTell", fn := fun _ => fun
  | [d1, d2] => { results := [.lit (.bool false)], args := [d1, d2] }
  | _ => none }
def CodesTellWrongFalsely : Prop := codesTellRow.holds Tryd.pinned (OpenSpec.ofChange codesTellWrong)

/-- 'lightermanlaw11.CodesOf': WHATEVER THE INPUT: true; the input reads as it did. -/
def codesOfSpec : ChangeSpec := { name := "codesOf", fn := fun _ => fun
  | [d1, d2] => { results := [.lit (.bool true)], args := [d1, d2] }
  | _ => none }
def codesOfRow : OpenClaim := { program := "ytcekhmomilhmoaadoor", sum := "ac846831049be2f57366b80d7a63c7be176ead18bcd56493564237be4c37d614", func := "lighterman/lightermanlaw11.CodesOf", spec := "codesOf", named := ["lighterman/codes.firsts", "lighterman/codes.lasts", "lighterman/codes.added"], apart := false, laid := [("lighterman/codes.firsts", laid_lighterman_codes_firsts), ("lighterman/codes.lasts", laid_lighterman_codes_lasts), ("lighterman/codes.added", laid_lighterman_codes_added)] }
def CodesOfSaid : Prop := codesOfRow.holds Tryd.pinned (OpenSpec.ofChange codesOfSpec)

/-- ITS FALSE NEIGHBOUR: 'it returns false'. Refute it at one input. -/
def codesOfWrong : ChangeSpec := { name := "codesOf", fn := fun _ => fun
  | [d1, d2] => { results := [.lit (.bool false)], args := [d1, d2] }
  | _ => none }
def CodesOfWrongFalsely : Prop := codesOfRow.holds Tryd.pinned (OpenSpec.ofChange codesOfWrong)

/-- 'lightermanlaw11.CodesBack': WHATEVER THE INPUT: true; the input reads as it did. -/
def codesBackSpec : ChangeSpec := { name := "codesBack", fn := fun _ => fun
  | [d1, d2, d3] => { results := [.lit (.bool true)], args := [d1, d2, d3] }
  | _ => none }
def codesBackRow : OpenClaim := { program := "ytcekhmomilhmoaadoor", sum := "ac846831049be2f57366b80d7a63c7be176ead18bcd56493564237be4c37d614", func := "lighterman/lightermanlaw11.CodesBack", spec := "codesBack", named := ["lighterman/codes.firsts", "lighterman/codes.lasts", "lighterman/codes.added"], apart := false, laid := [("lighterman/codes.firsts", laid_lighterman_codes_firsts), ("lighterman/codes.lasts", laid_lighterman_codes_lasts), ("lighterman/codes.added", laid_lighterman_codes_added)] }
def CodesBackSaid : Prop := codesBackRow.holds Tryd.pinned (OpenSpec.ofChange codesBackSpec)

/-- ITS FALSE NEIGHBOUR: 'it returns false'. Refute it at one input. -/
def codesBackWrong : ChangeSpec := { name := "codesBack", fn := fun _ => fun
  | [d1, d2, d3] => { results := [.lit (.bool false)], args := [d1, d2, d3] }
  | _ => none }
def CodesBackWrongFalsely : Prop := codesBackRow.holds Tryd.pinned (OpenSpec.ofChange codesBackWrong)

/-- 'lightermanlaw11.CodesRows': WHATEVER THE INPUT: true; the input reads as it did. -/
def codesRowsSpec : ChangeSpec := { name := "codesRows", fn := fun _ => fun
  | [d1, d2] => { results := [.lit (.bool true)], args := [d1, d2] }
  | _ => none }
def codesRowsRow : OpenClaim := { program := "ytcekhmomilhmoaadoor", sum := "ac846831049be2f57366b80d7a63c7be176ead18bcd56493564237be4c37d614", func := "lighterman/lightermanlaw11.CodesRows", spec := "codesRows", named := ["lighterman/codes.firsts", "lighterman/codes.lasts", "lighterman/codes.added"], apart := false, laid := [("lighterman/codes.firsts", laid_lighterman_codes_firsts), ("lighterman/codes.lasts", laid_lighterman_codes_lasts), ("lighterman/codes.added", laid_lighterman_codes_added)] }
def CodesRowsSaid : Prop := codesRowsRow.holds Tryd.pinned (OpenSpec.ofChange codesRowsSpec)

/-- ITS FALSE NEIGHBOUR: 'it returns false'. Refute it at one input. -/
def codesRowsWrong : ChangeSpec := { name := "codesRows", fn := fun _ => fun
  | [d1, d2] => { results := [.lit (.bool false)], args := [d1, d2] }
  | _ => none }
def CodesRowsWrongFalsely : Prop := codesRowsRow.holds Tryd.pinned (OpenSpec.ofChange codesRowsWrong)

/- THE SECOND FORM. 'bulk': how many values and letters a reading holds, each counted each time it is reached (what is shared counts as often as it is met; a slice's spare places count too). A statement '..UptoSaid' is the law's where the arguments, and the package variables that the reading takes, are together of bulk at most 1048576: NARROWER than '..Said'. Prove '..Said' where nothing that the law and all that it calls make is longer than what came in: it says more and counts as full. Else prove '..UptoSaid'. A law counts once. -/
mutual
def uptoBulk {H : Type} : DataW H → Nat
  | .lit (.string bytes) => bytes.length + 1
  | .lit _ => 1
  | .nil => 1
  | .ptr d => uptoBulk d + 1
  | .slice elems spare => uptoBulkAll elems + uptoBulkAll spare + 1
  | .agg parts => uptoBulkAll parts + 1
  | .iface _ d => uptoBulk d + 1
  | .map entries => uptoBulkEntries entries + 1
  | .held _ => 1
def uptoBulkAll {H : Type} : List (DataW H) → Nat
  | [] => 0
  | d :: r => uptoBulk d + uptoBulkAll r
def uptoBulkEntries {H : Type} : List (Lit × DataW H) → Nat
  | [] => 0
  | x :: r => uptoBulkEntry x + uptoBulkEntries r
def uptoBulkEntry {H : Type} : Lit × DataW H → Nat
  | (.string bytes, d) => bytes.length + uptoBulk d + 1
  | (_, d) => uptoBulk d + 1
 end
def uptoSmall : (H : Type) → List (DataW H) → Bool := fun _ ds => decide (uptoBulkAll ds ≤ 1048576)
def OpenSpec.upto (s : _root_.Go.ChangeSpec) : _root_.Go.OpenSpec := { _root_.Go.OpenSpec.ofChange s with cond := some uptoSmall }

/-- 'lightermanlaw11.CodesTell', WHERE WHAT IT READS IS OF BULK AT MOST 1048576: true; the input reads as it did. -/
def codesTellUptoRow : OpenClaim := { program := "ytcekhmomilhmoaadoor", sum := "ac846831049be2f57366b80d7a63c7be176ead18bcd56493564237be4c37d614", func := "lighterman/lightermanlaw11.CodesTell", spec := "codesTell", named := ["lighterman/codes.firsts", "lighterman/codes.lasts", "lighterman/codes.added"], apart := false, laid := [("lighterman/codes.firsts", laid_lighterman_codes_firsts), ("lighterman/codes.lasts", laid_lighterman_codes_lasts), ("lighterman/codes.added", laid_lighterman_codes_added)], narrowed := true }
def CodesTellUptoSaid : Prop := codesTellUptoRow.holds Tryd.pinned (OpenSpec.upto codesTellSpec)

/-- 'lightermanlaw11.CodesOf', WHERE WHAT IT READS IS OF BULK AT MOST 1048576: true; the input reads as it did. -/
def codesOfUptoRow : OpenClaim := { program := "ytcekhmomilhmoaadoor", sum := "ac846831049be2f57366b80d7a63c7be176ead18bcd56493564237be4c37d614", func := "lighterman/lightermanlaw11.CodesOf", spec := "codesOf", named := ["lighterman/codes.firsts", "lighterman/codes.lasts", "lighterman/codes.added"], apart := false, laid := [("lighterman/codes.firsts", laid_lighterman_codes_firsts), ("lighterman/codes.lasts", laid_lighterman_codes_lasts), ("lighterman/codes.added", laid_lighterman_codes_added)], narrowed := true }
def CodesOfUptoSaid : Prop := codesOfUptoRow.holds Tryd.pinned (OpenSpec.upto codesOfSpec)

/-- 'lightermanlaw11.CodesBack', WHERE WHAT IT READS IS OF BULK AT MOST 1048576: true; the input reads as it did. -/
def codesBackUptoRow : OpenClaim := { program := "ytcekhmomilhmoaadoor", sum := "ac846831049be2f57366b80d7a63c7be176ead18bcd56493564237be4c37d614", func := "lighterman/lightermanlaw11.CodesBack", spec := "codesBack", named := ["lighterman/codes.firsts", "lighterman/codes.lasts", "lighterman/codes.added"], apart := false, laid := [("lighterman/codes.firsts", laid_lighterman_codes_firsts), ("lighterman/codes.lasts", laid_lighterman_codes_lasts), ("lighterman/codes.added", laid_lighterman_codes_added)], narrowed := true }
def CodesBackUptoSaid : Prop := codesBackUptoRow.holds Tryd.pinned (OpenSpec.upto codesBackSpec)

/-- 'lightermanlaw11.CodesRows', WHERE WHAT IT READS IS OF BULK AT MOST 1048576: true; the input reads as it did. -/
def codesRowsUptoRow : OpenClaim := { program := "ytcekhmomilhmoaadoor", sum := "ac846831049be2f57366b80d7a63c7be176ead18bcd56493564237be4c37d614", func := "lighterman/lightermanlaw11.CodesRows", spec := "codesRows", named := ["lighterman/codes.firsts", "lighterman/codes.lasts", "lighterman/codes.added"], apart := false, laid := [("lighterman/codes.firsts", laid_lighterman_codes_firsts), ("lighterman/codes.lasts", laid_lighterman_codes_lasts), ("lighterman/codes.added", laid_lighterman_codes_added)], narrowed := true }
def CodesRowsUptoSaid : Prop := codesRowsUptoRow.holds Tryd.pinned (OpenSpec.upto codesRowsSpec)

end Rows
end Go.Proofs.YtcekhmomilhmoaaDoor
