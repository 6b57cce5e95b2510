/-
  DERIVED. GIVEN WITH THE SEED: THE CARDS: each row of YtfaonmggiffemaaDoorRows.lean that lists a variable, with what it lists TIED to the program's text (the seventh form; the later family's looks); each row that meets fmt, with fmt's text TOLD by the authors' own Lean function (tested against real Go, not proved from fmt's source: count such statements apart). THE CARD IS WHAT COUNTS. Prove the row's statement (the work); the ties are given (YtfaonmggiffemaaDoorTie.lean); close each card by the builder's one call (the guide's Derived/Test/ToyasCard.lean, 'card_holds'). Laid BY PROGRAM, IN A SANDBOX (cutbox-door.mjs). By AI agents, Wed Nov 11 2026. No macro, syntax, notation, axiom, sorry.
-/
import Derived.Test.YtfaonmggiffemaaDoorRows
import GoSem.ClaimSeven
namespace Go.Proofs.YtfaonmggiffemaaDoor
namespace Rows

/-- THE TIED CARD OF 'lightermanlaw17.MatchPlans'. -/
def matchPlansCard : Claim7 := { stood := { row := matchPlansRow, standIns := [], harness := (true, "2db2a7706f142e583da7023c0859dfc1280db763a1eb4e439ae25f466a1841f7"), looks := false }, kinds := [], alts := [], laidByText := true, laidKinds := [.data], laidTests := true, laidLooks := .later }
def MatchPlansCardSaid : Prop := Claim7.holds Tryd.pinned (.plain (OpenSpec.ofChange matchPlansSpec)) matchPlansCard

/-- THE TIED CARD OF 'lightermanlaw17.MatchSame'. -/
def matchSameCard : Claim7 := { stood := { row := matchSameRow, standIns := [], harness := (true, "2db2a7706f142e583da7023c0859dfc1280db763a1eb4e439ae25f466a1841f7"), looks := false }, kinds := [], alts := [], laidByText := true, laidKinds := [.data], laidTests := true, laidLooks := .later }
def MatchSameCardSaid : Prop := Claim7.holds Tryd.pinned (.plain (OpenSpec.ofChange matchSameSpec)) matchSameCard

/-- THE TIED CARD OF 'lightermanlaw17.MatchTwice'. -/
def matchTwiceCard : Claim7 := { stood := { row := matchTwiceRow, standIns := [], harness := (true, "2db2a7706f142e583da7023c0859dfc1280db763a1eb4e439ae25f466a1841f7"), looks := false }, kinds := [], alts := [], laidByText := true, laidKinds := [.data], laidTests := true, laidLooks := .later }
def MatchTwiceCardSaid : Prop := Claim7.holds Tryd.pinned (.plain (OpenSpec.ofChange matchTwiceSpec)) matchTwiceCard

/-- THE TIED CARD OF 'lightermanlaw17.MatchLevels'. -/
def matchLevelsCard : Claim7 := { stood := { row := matchLevelsRow, standIns := [], harness := (true, "2db2a7706f142e583da7023c0859dfc1280db763a1eb4e439ae25f466a1841f7"), looks := false }, kinds := [], alts := [], laidByText := true, laidKinds := [.data], laidTests := true, laidLooks := .later }
def MatchLevelsCardSaid : Prop := Claim7.holds Tryd.pinned (.plain (OpenSpec.ofChange matchLevelsSpec)) matchLevelsCard

/-- THE SECOND FORM's CARD OF 'lightermanlaw17.MatchPlans'. -/
def matchPlansUptoCard : Claim7 := { stood := { row := matchPlansUptoRow, standIns := [], harness := (true, "2db2a7706f142e583da7023c0859dfc1280db763a1eb4e439ae25f466a1841f7"), looks := false }, kinds := [], alts := [], laidByText := true, laidKinds := [.data], laidTests := true, laidLooks := .later }
def MatchPlansUptoCardSaid : Prop := Claim7.holds Tryd.pinned (.plain (OpenSpec.upto matchPlansSpec)) matchPlansUptoCard

/-- THE SECOND FORM's CARD OF 'lightermanlaw17.MatchSame'. -/
def matchSameUptoCard : Claim7 := { stood := { row := matchSameUptoRow, standIns := [], harness := (true, "2db2a7706f142e583da7023c0859dfc1280db763a1eb4e439ae25f466a1841f7"), looks := false }, kinds := [], alts := [], laidByText := true, laidKinds := [.data], laidTests := true, laidLooks := .later }
def MatchSameUptoCardSaid : Prop := Claim7.holds Tryd.pinned (.plain (OpenSpec.upto matchSameSpec)) matchSameUptoCard

/-- THE SECOND FORM's CARD OF 'lightermanlaw17.MatchTwice'. -/
def matchTwiceUptoCard : Claim7 := { stood := { row := matchTwiceUptoRow, standIns := [], harness := (true, "2db2a7706f142e583da7023c0859dfc1280db763a1eb4e439ae25f466a1841f7"), looks := false }, kinds := [], alts := [], laidByText := true, laidKinds := [.data], laidTests := true, laidLooks := .later }
def MatchTwiceUptoCardSaid : Prop := Claim7.holds Tryd.pinned (.plain (OpenSpec.upto matchTwiceSpec)) matchTwiceUptoCard

/-- THE SECOND FORM's CARD OF 'lightermanlaw17.MatchLevels'. -/
def matchLevelsUptoCard : Claim7 := { stood := { row := matchLevelsUptoRow, standIns := [], harness := (true, "2db2a7706f142e583da7023c0859dfc1280db763a1eb4e439ae25f466a1841f7"), looks := false }, kinds := [], alts := [], laidByText := true, laidKinds := [.data], laidTests := true, laidLooks := .later }
def MatchLevelsUptoCardSaid : Prop := Claim7.holds Tryd.pinned (.plain (OpenSpec.upto matchLevelsSpec)) matchLevelsUptoCard
end Rows
end Go.Proofs.YtfaonmggiffemaaDoor
