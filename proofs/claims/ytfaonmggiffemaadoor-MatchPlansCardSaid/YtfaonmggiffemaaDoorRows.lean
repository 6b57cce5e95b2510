/-
  NARROWER THAN 'FOR EVERY INPUT', by the rows' own cells (each row's printed sentence says how): MatchPlans: laid · MatchSame: laid · MatchTwice: laid · MatchLevels: laid.
  DERIVED. THE GIVEN ROWS OF THIS SEAT. 4 by the template 'for every input the law returns true; each argument reads behind the call as it read before'; 0 by the template 'total and deterministic' (their statements: YtfaonmggiffemaaDoorTotals.lean).
  GIVEN WITH THE SEED: the statements are not yours to turn. If you find one false, say at which input.
  Laid BY PROGRAM, IN A SANDBOX (cutbox-rows.mjs): the forced cells as the released guide's own fill.sh prints them over the translation 2fcc2978941393e5… (all of the seat's roots in one cut). By AI agents, Wed Nov 11 2026. No macro, syntax, notation, axiom, sorry.
-/
import Derived.Test.YtfaonmggiffemaaDoorChecked
import GoSem.Claim
import GoSem.ClaimJoined
import GoSem.ClaimMapViews
import Derived.JoinedTies
import Derived.KernelRfl
namespace Go.Proofs.YtfaonmggiffemaaDoor
/- THE CELL 'sum', in the pinned program and in every row, IS THE sha256 OF THE DUMP (.gsa) THAT YtfaonmggiffemaaDoorProg.lean LOADS. Nothing in Lean hashes anything: it is a label: what it is worth is what the hold of that sum in a sandbox is worth. -/
noncomputable def Tryd.pinned : Pinned := { name := "ytfaonmggiffemaadoor", sum := "2fcc2978941393e51cebbb3e87d1ff42db3676db677ed1e7a6af204662f951de", checked := Tryd.checked }
namespace Rows
def none {H : Type} : Left H := { results := [], args := [] }

/- WHAT THE LISTED PACKAGE-LEVEL VARIABLES READ AS WHEN THE CALL BEGINS. Each datum BY PROGRAM (the guide's laid-datum.mjs) off the statement by which the dump's own 'gosem.cut.vars' lays the variable. In a bare row this is a premise. The card (YtfaonmggiffemaaDoorCards.lean) ties it to the program's text. -/
def laid_lighterman_match_efforts {H : Type} : DataW H := .agg [.agg [.lit (.int .i64 0), .lit (.int .i64 0), .lit (.int .i64 0)], .agg [.lit (.int .i64 262144), .lit (.int .i64 1), .lit (.int .i64 4)], .agg [.lit (.int .i64 524288), .lit (.int .i64 2), .lit (.int .i64 4)], .agg [.lit (.int .i64 1048576), .lit (.int .i64 4), .lit (.int .i64 4)], .agg [.lit (.int .i64 2097152), .lit (.int .i64 8), .lit (.int .i64 128)], .agg [.lit (.int .i64 4194304), .lit (.int .i64 16), .lit (.int .i64 256)], .agg [.lit (.int .i64 4194304), .lit (.int .i64 32), .lit (.int .i64 512)], .agg [.lit (.int .i64 4194304), .lit (.int .i64 64), .lit (.int .i64 1024)], .agg [.lit (.int .i64 4194304), .lit (.int .i64 128), .lit (.int .i64 2048)], .agg [.lit (.int .i64 4194304), .lit (.int .i64 256), .lit (.int .i64 4096)]]

/-- 'lightermanlaw17.MatchPlans': WHATEVER THE INPUT: true; the input reads as it did. -/
def matchPlansSpec : ChangeSpec := { name := "matchPlans", fn := fun _ => fun
  | [d1, d2, d3, d4] => { results := [.lit (.bool true)], args := [d1, d2, d3, d4] }
  | _ => none }
def matchPlansRow : OpenClaim := { program := "ytfaonmggiffemaadoor", sum := "2fcc2978941393e51cebbb3e87d1ff42db3676db677ed1e7a6af204662f951de", func := "lighterman/lightermanlaw17.MatchPlans", spec := "matchPlans", named := ["lighterman/match.efforts"], plainKeys := false, apart := false, laid := [("lighterman/match.efforts", laid_lighterman_match_efforts)] }
def MatchPlansSaid : Prop := matchPlansRow.holds Tryd.pinned (OpenSpec.ofChange matchPlansSpec)

/-- ITS FALSE NEIGHBOUR: 'it returns false'. Refute it at one input. -/
def matchPlansWrong : ChangeSpec := { name := "matchPlans", fn := fun _ => fun
  | [d1, d2, d3, d4] => { results := [.lit (.bool false)], args := [d1, d2, d3, d4] }
  | _ => none }
def MatchPlansWrongFalsely : Prop := matchPlansRow.holds Tryd.pinned (OpenSpec.ofChange matchPlansWrong)

/-- 'lightermanlaw17.MatchSame': WHATEVER THE INPUT: true; the input reads as it did. -/
def matchSameSpec : ChangeSpec := { name := "matchSame", fn := fun _ => fun
  | [d1, d2, d3] => { results := [.lit (.bool true)], args := [d1, d2, d3] }
  | _ => none }
def matchSameRow : OpenClaim := { program := "ytfaonmggiffemaadoor", sum := "2fcc2978941393e51cebbb3e87d1ff42db3676db677ed1e7a6af204662f951de", func := "lighterman/lightermanlaw17.MatchSame", spec := "matchSame", named := ["lighterman/match.efforts"], plainKeys := false, apart := false, laid := [("lighterman/match.efforts", laid_lighterman_match_efforts)] }
def MatchSameSaid : Prop := matchSameRow.holds Tryd.pinned (OpenSpec.ofChange matchSameSpec)

/-- ITS FALSE NEIGHBOUR: 'it returns false'. Refute it at one input. -/
def matchSameWrong : ChangeSpec := { name := "matchSame", fn := fun _ => fun
  | [d1, d2, d3] => { results := [.lit (.bool false)], args := [d1, d2, d3] }
  | _ => none }
def MatchSameWrongFalsely : Prop := matchSameRow.holds Tryd.pinned (OpenSpec.ofChange matchSameWrong)

/-- 'lightermanlaw17.MatchTwice': WHATEVER THE INPUT: true; the input reads as it did. -/
def matchTwiceSpec : ChangeSpec := { name := "matchTwice", fn := fun _ => fun
  | [d1, d2] => { results := [.lit (.bool true)], args := [d1, d2] }
  | _ => none }
def matchTwiceRow : OpenClaim := { program := "ytfaonmggiffemaadoor", sum := "2fcc2978941393e51cebbb3e87d1ff42db3676db677ed1e7a6af204662f951de", func := "lighterman/lightermanlaw17.MatchTwice", spec := "matchTwice", named := ["lighterman/match.efforts"], plainKeys := false, apart := false, laid := [("lighterman/match.efforts", laid_lighterman_match_efforts)] }
def MatchTwiceSaid : Prop := matchTwiceRow.holds Tryd.pinned (OpenSpec.ofChange matchTwiceSpec)

/-- ITS FALSE NEIGHBOUR: 'it returns false'. Refute it at one input. -/
def matchTwiceWrong : ChangeSpec := { name := "matchTwice", fn := fun _ => fun
  | [d1, d2] => { results := [.lit (.bool false)], args := [d1, d2] }
  | _ => none }
def MatchTwiceWrongFalsely : Prop := matchTwiceRow.holds Tryd.pinned (OpenSpec.ofChange matchTwiceWrong)

/-- 'lightermanlaw17.MatchLevels': WHATEVER THE INPUT: true; the input reads as it did. -/
def matchLevelsSpec : ChangeSpec := { name := "matchLevels", fn := fun _ => fun
  | [d1, d2, d3] => { results := [.lit (.bool true)], args := [d1, d2, d3] }
  | _ => none }
def matchLevelsRow : OpenClaim := { program := "ytfaonmggiffemaadoor", sum := "2fcc2978941393e51cebbb3e87d1ff42db3676db677ed1e7a6af204662f951de", func := "lighterman/lightermanlaw17.MatchLevels", spec := "matchLevels", named := ["lighterman/match.efforts"], plainKeys := false, apart := false, laid := [("lighterman/match.efforts", laid_lighterman_match_efforts)] }
def MatchLevelsSaid : Prop := matchLevelsRow.holds Tryd.pinned (OpenSpec.ofChange matchLevelsSpec)

/-- ITS FALSE NEIGHBOUR: 'it returns false'. Refute it at one input. -/
def matchLevelsWrong : ChangeSpec := { name := "matchLevels", fn := fun _ => fun
  | [d1, d2, d3] => { results := [.lit (.bool false)], args := [d1, d2, d3] }
  | _ => none }
def MatchLevelsWrongFalsely : Prop := matchLevelsRow.holds Tryd.pinned (OpenSpec.ofChange matchLevelsWrong)

/- THE SECOND FORM. 'bulk': how many values and letters a reading holds, each counted each time it is reached (what is shared counts as often as it is met; a slice's spare places count too). A statement '..UptoSaid' is the law's where the arguments, and the package variables that the reading takes, are together of bulk at most 1048576: NARROWER than '..Said'. Prove '..Said' where nothing that the law and all that it calls make is longer than what came in: it says more and counts as full. Else prove '..UptoSaid'. A law counts once. -/
mutual
def uptoBulk {H : Type} : DataW H → Nat
  | .lit (.string bytes) => bytes.length + 1
  | .lit _ => 1
  | .nil => 1
  | .ptr d => uptoBulk d + 1
  | .slice elems spare => uptoBulkAll elems + uptoBulkAll spare + 1
  | .agg parts => uptoBulkAll parts + 1
  | .iface _ d => uptoBulk d + 1
  | .map entries => uptoBulkEntries entries + 1
  | .held _ => 1
def uptoBulkAll {H : Type} : List (DataW H) → Nat
  | [] => 0
  | d :: r => uptoBulk d + uptoBulkAll r
def uptoBulkEntries {H : Type} : List (Lit × DataW H) → Nat
  | [] => 0
  | x :: r => uptoBulkEntry x + uptoBulkEntries r
def uptoBulkEntry {H : Type} : Lit × DataW H → Nat
  | (.string bytes, d) => bytes.length + uptoBulk d + 1
  | (_, d) => uptoBulk d + 1
 end
def uptoSmall : (H : Type) → List (DataW H) → Bool := fun _ ds => decide (uptoBulkAll ds ≤ 1048576)
def OpenSpec.upto (s : _root_.Go.ChangeSpec) : _root_.Go.OpenSpec := { _root_.Go.OpenSpec.ofChange s with cond := some uptoSmall }

/-- 'lightermanlaw17.MatchPlans', WHERE WHAT IT READS IS OF BULK AT MOST 1048576: true; the input reads as it did. -/
def matchPlansUptoRow : OpenClaim := { program := "ytfaonmggiffemaadoor", sum := "2fcc2978941393e51cebbb3e87d1ff42db3676db677ed1e7a6af204662f951de", func := "lighterman/lightermanlaw17.MatchPlans", spec := "matchPlans", named := ["lighterman/match.efforts"], plainKeys := false, apart := false, laid := [("lighterman/match.efforts", laid_lighterman_match_efforts)], narrowed := true }
def MatchPlansUptoSaid : Prop := matchPlansUptoRow.holds Tryd.pinned (OpenSpec.upto matchPlansSpec)

/-- 'lightermanlaw17.MatchSame', WHERE WHAT IT READS IS OF BULK AT MOST 1048576: true; the input reads as it did. -/
def matchSameUptoRow : OpenClaim := { program := "ytfaonmggiffemaadoor", sum := "2fcc2978941393e51cebbb3e87d1ff42db3676db677ed1e7a6af204662f951de", func := "lighterman/lightermanlaw17.MatchSame", spec := "matchSame", named := ["lighterman/match.efforts"], plainKeys := false, apart := false, laid := [("lighterman/match.efforts", laid_lighterman_match_efforts)], narrowed := true }
def MatchSameUptoSaid : Prop := matchSameUptoRow.holds Tryd.pinned (OpenSpec.upto matchSameSpec)

/-- 'lightermanlaw17.MatchTwice', WHERE WHAT IT READS IS OF BULK AT MOST 1048576: true; the input reads as it did. -/
def matchTwiceUptoRow : OpenClaim := { program := "ytfaonmggiffemaadoor", sum := "2fcc2978941393e51cebbb3e87d1ff42db3676db677ed1e7a6af204662f951de", func := "lighterman/lightermanlaw17.MatchTwice", spec := "matchTwice", named := ["lighterman/match.efforts"], plainKeys := false, apart := false, laid := [("lighterman/match.efforts", laid_lighterman_match_efforts)], narrowed := true }
def MatchTwiceUptoSaid : Prop := matchTwiceUptoRow.holds Tryd.pinned (OpenSpec.upto matchTwiceSpec)

/-- 'lightermanlaw17.MatchLevels', WHERE WHAT IT READS IS OF BULK AT MOST 1048576: true; the input reads as it did. -/
def matchLevelsUptoRow : OpenClaim := { program := "ytfaonmggiffemaadoor", sum := "2fcc2978941393e51cebbb3e87d1ff42db3676db677ed1e7a6af204662f951de", func := "lighterman/lightermanlaw17.MatchLevels", spec := "matchLevels", named := ["lighterman/match.efforts"], plainKeys := false, apart := false, laid := [("lighterman/match.efforts", laid_lighterman_match_efforts)], narrowed := true }
def MatchLevelsUptoSaid : Prop := matchLevelsUptoRow.holds Tryd.pinned (OpenSpec.upto matchLevelsSpec)

end Rows
end Go.Proofs.YtfaonmggiffemaaDoor
