/-
  DERIVED. GIVEN WITH THE SEED: THE CARDS: each row of YtliieipgmjnnfaaDoorRows.lean that lists a variable, with what it lists TIED to the program's text (the seventh form; the later family's looks); each row that meets fmt, with fmt's text TOLD by the authors' own Lean function (tested against real Go, not proved from fmt's source: count such statements apart). THE CARD IS WHAT COUNTS. Prove the row's statement (the work); the ties are given (YtliieipgmjnnfaaDoorTie.lean); close each card by the builder's one call (the guide's Derived/Test/ToyasCard.lean, 'card_holds'). Laid BY PROGRAM, IN A SANDBOX (cutbox-door.mjs). By AI agents, Wed Nov 11 2026. No macro, syntax, notation, axiom, sorry.
-/
import Derived.Test.YtliieipgmjnnfaaDoorRows
import GoSem.ClaimSeven
namespace Go.Proofs.YtliieipgmjnnfaaDoor
namespace Rows

/-- THE TIED CARD OF 'lightermanlaw04.CrcSums'. -/
def crcSumsCard : Claim7 := { stood := { row := crcSumsRow, standIns := [], harness := (true, "67c870d3e866c57d922d7e20bbc100da7b1c946ca0fb877aab742d36e1a341a8"), looks := false }, kinds := [], alts := [], laidByText := true, laidKinds := [.data], laidTests := true, laidLooks := .later }
def CrcSumsCardSaid : Prop := Claim7.holds Tryd.pinned (.plain (OpenSpec.ofChange crcSumsSpec)) crcSumsCard

/-- THE TIED CARD OF 'lightermanlaw04.CrcLengths'. -/
def crcLengthsCard : Claim7 := { stood := { row := crcLengthsRow, standIns := [], harness := (true, "67c870d3e866c57d922d7e20bbc100da7b1c946ca0fb877aab742d36e1a341a8"), looks := false }, kinds := [], alts := [], laidByText := true, laidKinds := [.data], laidTests := true, laidLooks := .later }
def CrcLengthsCardSaid : Prop := Claim7.holds Tryd.pinned (.plain (OpenSpec.ofChange crcLengthsSpec)) crcLengthsCard

/-- THE TIED CARD OF 'lightermanlaw04.CrcPieces'. -/
def crcPiecesCard : Claim7 := { stood := { row := crcPiecesRow, standIns := [], harness := (true, "67c870d3e866c57d922d7e20bbc100da7b1c946ca0fb877aab742d36e1a341a8"), looks := false }, kinds := [], alts := [], laidByText := true, laidKinds := [.data], laidTests := true, laidLooks := .later }
def CrcPiecesCardSaid : Prop := Claim7.holds Tryd.pinned (.plain (OpenSpec.ofChange crcPiecesSpec)) crcPiecesCard

/-- THE TIED CARD OF 'lightermanlaw04.CrcBits'. -/
def crcBitsCard : Claim7 := { stood := { row := crcBitsRow, standIns := [], harness := (true, "67c870d3e866c57d922d7e20bbc100da7b1c946ca0fb877aab742d36e1a341a8"), looks := false }, kinds := [], alts := [], laidByText := true, laidKinds := [.data], laidTests := true, laidLooks := .later }
def CrcBitsCardSaid : Prop := Claim7.holds Tryd.pinned (.plain (OpenSpec.ofChange crcBitsSpec)) crcBitsCard

/-- THE SECOND FORM's CARD OF 'lightermanlaw04.CrcSums'. -/
def crcSumsUptoCard : Claim7 := { stood := { row := crcSumsUptoRow, standIns := [], harness := (true, "67c870d3e866c57d922d7e20bbc100da7b1c946ca0fb877aab742d36e1a341a8"), looks := false }, kinds := [], alts := [], laidByText := true, laidKinds := [.data], laidTests := true, laidLooks := .later }
def CrcSumsUptoCardSaid : Prop := Claim7.holds Tryd.pinned (.plain (OpenSpec.upto crcSumsSpec)) crcSumsUptoCard

/-- THE SECOND FORM's CARD OF 'lightermanlaw04.CrcLengths'. -/
def crcLengthsUptoCard : Claim7 := { stood := { row := crcLengthsUptoRow, standIns := [], harness := (true, "67c870d3e866c57d922d7e20bbc100da7b1c946ca0fb877aab742d36e1a341a8"), looks := false }, kinds := [], alts := [], laidByText := true, laidKinds := [.data], laidTests := true, laidLooks := .later }
def CrcLengthsUptoCardSaid : Prop := Claim7.holds Tryd.pinned (.plain (OpenSpec.upto crcLengthsSpec)) crcLengthsUptoCard

/-- THE SECOND FORM's CARD OF 'lightermanlaw04.CrcPieces'. -/
def crcPiecesUptoCard : Claim7 := { stood := { row := crcPiecesUptoRow, standIns := [], harness := (true, "67c870d3e866c57d922d7e20bbc100da7b1c946ca0fb877aab742d36e1a341a8"), looks := false }, kinds := [], alts := [], laidByText := true, laidKinds := [.data], laidTests := true, laidLooks := .later }
def CrcPiecesUptoCardSaid : Prop := Claim7.holds Tryd.pinned (.plain (OpenSpec.upto crcPiecesSpec)) crcPiecesUptoCard

/-- THE SECOND FORM's CARD OF 'lightermanlaw04.CrcBits'. -/
def crcBitsUptoCard : Claim7 := { stood := { row := crcBitsUptoRow, standIns := [], harness := (true, "67c870d3e866c57d922d7e20bbc100da7b1c946ca0fb877aab742d36e1a341a8"), looks := false }, kinds := [], alts := [], laidByText := true, laidKinds := [.data], laidTests := true, laidLooks := .later }
def CrcBitsUptoCardSaid : Prop := Claim7.holds Tryd.pinned (.plain (OpenSpec.upto crcBitsSpec)) crcBitsUptoCard
end Rows
end Go.Proofs.YtliieipgmjnnfaaDoor
