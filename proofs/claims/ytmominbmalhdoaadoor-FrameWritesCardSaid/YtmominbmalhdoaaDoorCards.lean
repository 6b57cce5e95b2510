/-
  DERIVED. GIVEN WITH THE SEED: THE CARDS: each row of YtmominbmalhdoaaDoorRows.lean that lists a variable, with what it lists TIED to the program's text (the seventh form; the later family's looks); each row that meets fmt, with fmt's text TOLD by the authors' own Lean function (tested against real Go, not proved from fmt's source: count such statements apart). THE CARD IS WHAT COUNTS. Prove the row's statement (the work); the ties are given (YtmominbmalhdoaaDoorTie.lean); close each card by the builder's one call (the guide's Derived/Test/ToyasCard.lean, 'card_holds'). Laid BY PROGRAM, IN A SANDBOX (cutbox-door.mjs). By AI agents, Wed Nov 11 2026. No macro, syntax, notation, axiom, sorry.
-/
import Derived.Test.YtmominbmalhdoaaDoorRows
import GoSem.ClaimSeven
namespace Go.Proofs.YtmominbmalhdoaaDoor
namespace Rows

/-- THE TIED CARD OF 'lightermanlaw15.FrameReads'. -/
def frameReadsCard : Claim7 := { stood := { row := frameReadsRow, standIns := [], harness := (true, "67ba53d01babfc6794592eedbb250401f9fda69d3f1fb0da8b95ab0eab3934e4"), looks := false }, kinds := [], alts := [], laidByText := true, laidKinds := [.data, .wider], laidTests := true, laidLooks := .later }
def FrameReadsCardSaid : Prop := Claim7.holds Tryd.pinned (.plain (OpenSpec.ofChange frameReadsSpec)) frameReadsCard

/-- THE TIED CARD OF 'lightermanlaw15.FrameWrites'. -/
def frameWritesCard : Claim7 := { stood := { row := frameWritesRow, standIns := [], harness := (true, "67ba53d01babfc6794592eedbb250401f9fda69d3f1fb0da8b95ab0eab3934e4"), looks := false }, kinds := [], alts := [], laidByText := true, laidKinds := [.data, .wider], laidTests := true, laidLooks := .later }
def FrameWritesCardSaid : Prop := Claim7.holds Tryd.pinned (.plain (OpenSpec.ofChange frameWritesSpec)) frameWritesCard

/-- THE TIED CARD OF 'lightermanlaw15.FrameBlocks'. -/
def frameBlocksCard : Claim7 := { stood := { row := frameBlocksRow, standIns := [], harness := (true, "67ba53d01babfc6794592eedbb250401f9fda69d3f1fb0da8b95ab0eab3934e4"), looks := false }, kinds := [], alts := [], laidByText := true, laidKinds := [.data, .wider], laidTests := true, laidLooks := .later }
def FrameBlocksCardSaid : Prop := Claim7.holds Tryd.pinned (.plain (OpenSpec.ofChange frameBlocksSpec)) frameBlocksCard

/-- THE TIED CARD OF 'lightermanlaw15.FrameWindows'. -/
def frameWindowsCard : Claim7 := { stood := { row := frameWindowsRow, standIns := [], harness := (true, "67ba53d01babfc6794592eedbb250401f9fda69d3f1fb0da8b95ab0eab3934e4"), looks := false }, kinds := [], alts := [], laidByText := true, laidKinds := [.data, .wider], laidTests := true, laidLooks := .later }
def FrameWindowsCardSaid : Prop := Claim7.holds Tryd.pinned (.plain (OpenSpec.ofChange frameWindowsSpec)) frameWindowsCard

/-- THE TIED CARD OF 'lightermanlaw15.FrameRefused'. -/
def frameRefusedCard : Claim7 := { stood := { row := frameRefusedRow, standIns := [], harness := (true, "67ba53d01babfc6794592eedbb250401f9fda69d3f1fb0da8b95ab0eab3934e4"), looks := false }, kinds := [], alts := [], laidByText := true, laidKinds := [.data, .wider], laidTests := true, laidLooks := .later }
def FrameRefusedCardSaid : Prop := Claim7.holds Tryd.pinned (.plain (OpenSpec.ofChange frameRefusedSpec)) frameRefusedCard

/-- THE SECOND FORM's CARD OF 'lightermanlaw15.FrameReads'. -/
def frameReadsUptoCard : Claim7 := { stood := { row := frameReadsUptoRow, standIns := [], harness := (true, "67ba53d01babfc6794592eedbb250401f9fda69d3f1fb0da8b95ab0eab3934e4"), looks := false }, kinds := [], alts := [], laidByText := true, laidKinds := [.data, .wider], laidTests := true, laidLooks := .later }
def FrameReadsUptoCardSaid : Prop := Claim7.holds Tryd.pinned (.plain (OpenSpec.upto frameReadsSpec)) frameReadsUptoCard

/-- THE SECOND FORM's CARD OF 'lightermanlaw15.FrameWrites'. -/
def frameWritesUptoCard : Claim7 := { stood := { row := frameWritesUptoRow, standIns := [], harness := (true, "67ba53d01babfc6794592eedbb250401f9fda69d3f1fb0da8b95ab0eab3934e4"), looks := false }, kinds := [], alts := [], laidByText := true, laidKinds := [.data, .wider], laidTests := true, laidLooks := .later }
def FrameWritesUptoCardSaid : Prop := Claim7.holds Tryd.pinned (.plain (OpenSpec.upto frameWritesSpec)) frameWritesUptoCard

/-- THE SECOND FORM's CARD OF 'lightermanlaw15.FrameBlocks'. -/
def frameBlocksUptoCard : Claim7 := { stood := { row := frameBlocksUptoRow, standIns := [], harness := (true, "67ba53d01babfc6794592eedbb250401f9fda69d3f1fb0da8b95ab0eab3934e4"), looks := false }, kinds := [], alts := [], laidByText := true, laidKinds := [.data, .wider], laidTests := true, laidLooks := .later }
def FrameBlocksUptoCardSaid : Prop := Claim7.holds Tryd.pinned (.plain (OpenSpec.upto frameBlocksSpec)) frameBlocksUptoCard

/-- THE SECOND FORM's CARD OF 'lightermanlaw15.FrameWindows'. -/
def frameWindowsUptoCard : Claim7 := { stood := { row := frameWindowsUptoRow, standIns := [], harness := (true, "67ba53d01babfc6794592eedbb250401f9fda69d3f1fb0da8b95ab0eab3934e4"), looks := false }, kinds := [], alts := [], laidByText := true, laidKinds := [.data, .wider], laidTests := true, laidLooks := .later }
def FrameWindowsUptoCardSaid : Prop := Claim7.holds Tryd.pinned (.plain (OpenSpec.upto frameWindowsSpec)) frameWindowsUptoCard

/-- THE SECOND FORM's CARD OF 'lightermanlaw15.FrameRefused'. -/
def frameRefusedUptoCard : Claim7 := { stood := { row := frameRefusedUptoRow, standIns := [], harness := (true, "67ba53d01babfc6794592eedbb250401f9fda69d3f1fb0da8b95ab0eab3934e4"), looks := false }, kinds := [], alts := [], laidByText := true, laidKinds := [.data, .wider], laidTests := true, laidLooks := .later }
def FrameRefusedUptoCardSaid : Prop := Claim7.holds Tryd.pinned (.plain (OpenSpec.upto frameRefusedSpec)) frameRefusedUptoCard
end Rows
end Go.Proofs.YtmominbmalhdoaaDoor
