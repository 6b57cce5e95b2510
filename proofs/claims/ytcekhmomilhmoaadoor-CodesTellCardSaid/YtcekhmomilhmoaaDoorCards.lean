/-
  DERIVED. GIVEN WITH THE SEED: THE CARDS: each row of YtcekhmomilhmoaaDoorRows.lean that lists a variable, with what it lists TIED to the program's text (the seventh form; the later family's looks); each row that meets fmt, with fmt's text TOLD by the authors' own Lean function (tested against real Go, not proved from fmt's source: count such statements apart). THE CARD IS WHAT COUNTS. Prove the row's statement (the work); the ties are given (YtcekhmomilhmoaaDoorTie.lean); close each card by the builder's one call (the guide's Derived/Test/ToyasCard.lean, 'card_holds'). Laid BY PROGRAM, IN A SANDBOX (cutbox-door.mjs). By AI agents, Wed Nov 11 2026. No macro, syntax, notation, axiom, sorry.
-/
import Derived.Test.YtcekhmomilhmoaaDoorRows
import GoSem.ClaimSeven
namespace Go.Proofs.YtcekhmomilhmoaaDoor
namespace Rows

/-- THE TIED CARD OF 'lightermanlaw11.CodesTell'. -/
def codesTellCard : Claim7 := { stood := { row := codesTellRow, standIns := [], harness := (true, "8f401400f82d94b0d1adc9c360a404dd1e41ae204ab2887199bf40d3d137c9ae"), looks := false }, kinds := [], alts := [], laidByText := true, laidKinds := [.data, .data, .data], laidTests := true, laidLooks := .later }
def CodesTellCardSaid : Prop := Claim7.holds Tryd.pinned (.plain (OpenSpec.ofChange codesTellSpec)) codesTellCard

/-- THE TIED CARD OF 'lightermanlaw11.CodesOf'. -/
def codesOfCard : Claim7 := { stood := { row := codesOfRow, standIns := [], harness := (true, "8f401400f82d94b0d1adc9c360a404dd1e41ae204ab2887199bf40d3d137c9ae"), looks := false }, kinds := [], alts := [], laidByText := true, laidKinds := [.data, .data, .data], laidTests := true, laidLooks := .later }
def CodesOfCardSaid : Prop := Claim7.holds Tryd.pinned (.plain (OpenSpec.ofChange codesOfSpec)) codesOfCard

/-- THE TIED CARD OF 'lightermanlaw11.CodesBack'. -/
def codesBackCard : Claim7 := { stood := { row := codesBackRow, standIns := [], harness := (true, "8f401400f82d94b0d1adc9c360a404dd1e41ae204ab2887199bf40d3d137c9ae"), looks := false }, kinds := [], alts := [], laidByText := true, laidKinds := [.data, .data, .data], laidTests := true, laidLooks := .later }
def CodesBackCardSaid : Prop := Claim7.holds Tryd.pinned (.plain (OpenSpec.ofChange codesBackSpec)) codesBackCard

/-- THE TIED CARD OF 'lightermanlaw11.CodesRows'. -/
def codesRowsCard : Claim7 := { stood := { row := codesRowsRow, standIns := [], harness := (true, "8f401400f82d94b0d1adc9c360a404dd1e41ae204ab2887199bf40d3d137c9ae"), looks := false }, kinds := [], alts := [], laidByText := true, laidKinds := [.data, .data, .data], laidTests := true, laidLooks := .later }
def CodesRowsCardSaid : Prop := Claim7.holds Tryd.pinned (.plain (OpenSpec.ofChange codesRowsSpec)) codesRowsCard

/-- THE SECOND FORM's CARD OF 'lightermanlaw11.CodesTell'. -/
def codesTellUptoCard : Claim7 := { stood := { row := codesTellUptoRow, standIns := [], harness := (true, "8f401400f82d94b0d1adc9c360a404dd1e41ae204ab2887199bf40d3d137c9ae"), looks := false }, kinds := [], alts := [], laidByText := true, laidKinds := [.data, .data, .data], laidTests := true, laidLooks := .later }
def CodesTellUptoCardSaid : Prop := Claim7.holds Tryd.pinned (.plain (OpenSpec.upto codesTellSpec)) codesTellUptoCard

/-- THE SECOND FORM's CARD OF 'lightermanlaw11.CodesOf'. -/
def codesOfUptoCard : Claim7 := { stood := { row := codesOfUptoRow, standIns := [], harness := (true, "8f401400f82d94b0d1adc9c360a404dd1e41ae204ab2887199bf40d3d137c9ae"), looks := false }, kinds := [], alts := [], laidByText := true, laidKinds := [.data, .data, .data], laidTests := true, laidLooks := .later }
def CodesOfUptoCardSaid : Prop := Claim7.holds Tryd.pinned (.plain (OpenSpec.upto codesOfSpec)) codesOfUptoCard

/-- THE SECOND FORM's CARD OF 'lightermanlaw11.CodesBack'. -/
def codesBackUptoCard : Claim7 := { stood := { row := codesBackUptoRow, standIns := [], harness := (true, "8f401400f82d94b0d1adc9c360a404dd1e41ae204ab2887199bf40d3d137c9ae"), looks := false }, kinds := [], alts := [], laidByText := true, laidKinds := [.data, .data, .data], laidTests := true, laidLooks := .later }
def CodesBackUptoCardSaid : Prop := Claim7.holds Tryd.pinned (.plain (OpenSpec.upto codesBackSpec)) codesBackUptoCard

/-- THE SECOND FORM's CARD OF 'lightermanlaw11.CodesRows'. -/
def codesRowsUptoCard : Claim7 := { stood := { row := codesRowsUptoRow, standIns := [], harness := (true, "8f401400f82d94b0d1adc9c360a404dd1e41ae204ab2887199bf40d3d137c9ae"), looks := false }, kinds := [], alts := [], laidByText := true, laidKinds := [.data, .data, .data], laidTests := true, laidLooks := .later }
def CodesRowsUptoCardSaid : Prop := Claim7.holds Tryd.pinned (.plain (OpenSpec.upto codesRowsSpec)) codesRowsUptoCard
end Rows
end Go.Proofs.YtcekhmomilhmoaaDoor
