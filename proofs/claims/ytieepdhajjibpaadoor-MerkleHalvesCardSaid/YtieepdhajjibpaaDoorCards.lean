/-
  DERIVED. GIVEN WITH THE SEED: THE CARDS: each row of YtieepdhajjibpaaDoorRows.lean that lists a variable, with what it lists TIED to the program's text (the seventh form; the later family's looks); each row that meets fmt, with fmt's text TOLD by the authors' own Lean function (tested against real Go, not proved from fmt's source: count such statements apart). THE CARD IS WHAT COUNTS. Prove the row's statement (the work); the ties are given (YtieepdhajjibpaaDoorTie.lean); close each card by the builder's one call (the guide's Derived/Test/ToyasCard.lean, 'card_holds'). Laid BY PROGRAM, IN A SANDBOX (cutbox-door.mjs). By AI agents, Wed Nov 11 2026. No macro, syntax, notation, axiom, sorry.
-/
import Derived.Test.YtieepdhajjibpaaDoorRows
import GoSem.ClaimSeven
namespace Go.Proofs.YtieepdhajjibpaaDoor
namespace Rows

/-- THE TIED CARD OF 'lightermanlaw20.MerkleRoots'. -/
def merkleRootsCard : Claim7 := { stood := { row := merkleRootsRow, standIns := [], harness := (true, "09612d1a2646ed0d42398558dda7536f409bcd12736a80279ad33f8c46505313"), looks := false }, kinds := [], alts := [], laidByText := true, laidKinds := [.data, .data], laidTests := true, laidLooks := .later }
def MerkleRootsCardSaid : Prop := Claim7.holds Tryd.pinned (.plain (OpenSpec.ofChange merkleRootsSpec)) merkleRootsCard

/-- THE TIED CARD OF 'lightermanlaw20.MerkleOf'. -/
def merkleOfCard : Claim7 := { stood := { row := merkleOfRow, standIns := [], harness := (true, "09612d1a2646ed0d42398558dda7536f409bcd12736a80279ad33f8c46505313"), looks := false }, kinds := [], alts := [], laidByText := true, laidKinds := [.data, .data], laidTests := true, laidLooks := .later }
def MerkleOfCardSaid : Prop := Claim7.holds Tryd.pinned (.plain (OpenSpec.ofChange merkleOfSpec)) merkleOfCard

/-- THE TIED CARD OF 'lightermanlaw20.MerkleChecks'. -/
def merkleChecksCard : Claim7 := { stood := { row := merkleChecksRow, standIns := [], harness := (true, "09612d1a2646ed0d42398558dda7536f409bcd12736a80279ad33f8c46505313"), looks := false }, kinds := [], alts := [], laidByText := true, laidKinds := [.data, .data], laidTests := true, laidLooks := .later }
def MerkleChecksCardSaid : Prop := Claim7.holds Tryd.pinned (.plain (OpenSpec.ofChange merkleChecksSpec)) merkleChecksCard

/-- THE TIED CARD OF 'lightermanlaw20.MerkleTwo'. -/
def merkleTwoCard : Claim7 := { stood := { row := merkleTwoRow, standIns := [], harness := (true, "09612d1a2646ed0d42398558dda7536f409bcd12736a80279ad33f8c46505313"), looks := false }, kinds := [], alts := [], laidByText := true, laidKinds := [.data, .data], laidTests := true, laidLooks := .later }
def MerkleTwoCardSaid : Prop := Claim7.holds Tryd.pinned (.plain (OpenSpec.ofChange merkleTwoSpec)) merkleTwoCard

/-- THE TIED CARD OF 'lightermanlaw20.MerklePins'. -/
def merklePinsCard : Claim7 := { stood := { row := merklePinsRow, standIns := [], harness := (true, "09612d1a2646ed0d42398558dda7536f409bcd12736a80279ad33f8c46505313"), looks := false }, kinds := [], alts := [], laidByText := true, laidKinds := [.data, .data], laidTests := true, laidLooks := .later }
def MerklePinsCardSaid : Prop := Claim7.holds Tryd.pinned (.plain (OpenSpec.ofChange merklePinsSpec)) merklePinsCard

/-- THE TIED CARD OF 'lightermanlaw20.MerkleParts'. -/
def merklePartsCard : Claim7 := { stood := { row := merklePartsRow, standIns := [], harness := (true, "09612d1a2646ed0d42398558dda7536f409bcd12736a80279ad33f8c46505313"), looks := false }, kinds := [], alts := [], laidByText := true, laidKinds := [.data, .data], laidTests := true, laidLooks := .later }
def MerklePartsCardSaid : Prop := Claim7.holds Tryd.pinned (.plain (OpenSpec.ofChange merklePartsSpec)) merklePartsCard

/-- THE TIED CARD OF 'lightermanlaw20.MerkleHalves'. -/
def merkleHalvesCard : Claim7 := { stood := { row := merkleHalvesRow, standIns := [], harness := (true, "09612d1a2646ed0d42398558dda7536f409bcd12736a80279ad33f8c46505313"), looks := false }, kinds := [], alts := [], laidByText := true, laidKinds := [.data, .data], laidTests := true, laidLooks := .later }
def MerkleHalvesCardSaid : Prop := Claim7.holds Tryd.pinned (.plain (OpenSpec.ofChange merkleHalvesSpec)) merkleHalvesCard

/-- THE SECOND FORM's CARD OF 'lightermanlaw20.MerkleRoots'. -/
def merkleRootsUptoCard : Claim7 := { stood := { row := merkleRootsUptoRow, standIns := [], harness := (true, "09612d1a2646ed0d42398558dda7536f409bcd12736a80279ad33f8c46505313"), looks := false }, kinds := [], alts := [], laidByText := true, laidKinds := [.data, .data], laidTests := true, laidLooks := .later }
def MerkleRootsUptoCardSaid : Prop := Claim7.holds Tryd.pinned (.plain (OpenSpec.upto merkleRootsSpec)) merkleRootsUptoCard

/-- THE SECOND FORM's CARD OF 'lightermanlaw20.MerkleOf'. -/
def merkleOfUptoCard : Claim7 := { stood := { row := merkleOfUptoRow, standIns := [], harness := (true, "09612d1a2646ed0d42398558dda7536f409bcd12736a80279ad33f8c46505313"), looks := false }, kinds := [], alts := [], laidByText := true, laidKinds := [.data, .data], laidTests := true, laidLooks := .later }
def MerkleOfUptoCardSaid : Prop := Claim7.holds Tryd.pinned (.plain (OpenSpec.upto merkleOfSpec)) merkleOfUptoCard

/-- THE SECOND FORM's CARD OF 'lightermanlaw20.MerkleChecks'. -/
def merkleChecksUptoCard : Claim7 := { stood := { row := merkleChecksUptoRow, standIns := [], harness := (true, "09612d1a2646ed0d42398558dda7536f409bcd12736a80279ad33f8c46505313"), looks := false }, kinds := [], alts := [], laidByText := true, laidKinds := [.data, .data], laidTests := true, laidLooks := .later }
def MerkleChecksUptoCardSaid : Prop := Claim7.holds Tryd.pinned (.plain (OpenSpec.upto merkleChecksSpec)) merkleChecksUptoCard

/-- THE SECOND FORM's CARD OF 'lightermanlaw20.MerkleTwo'. -/
def merkleTwoUptoCard : Claim7 := { stood := { row := merkleTwoUptoRow, standIns := [], harness := (true, "09612d1a2646ed0d42398558dda7536f409bcd12736a80279ad33f8c46505313"), looks := false }, kinds := [], alts := [], laidByText := true, laidKinds := [.data, .data], laidTests := true, laidLooks := .later }
def MerkleTwoUptoCardSaid : Prop := Claim7.holds Tryd.pinned (.plain (OpenSpec.upto merkleTwoSpec)) merkleTwoUptoCard

/-- THE SECOND FORM's CARD OF 'lightermanlaw20.MerklePins'. -/
def merklePinsUptoCard : Claim7 := { stood := { row := merklePinsUptoRow, standIns := [], harness := (true, "09612d1a2646ed0d42398558dda7536f409bcd12736a80279ad33f8c46505313"), looks := false }, kinds := [], alts := [], laidByText := true, laidKinds := [.data, .data], laidTests := true, laidLooks := .later }
def MerklePinsUptoCardSaid : Prop := Claim7.holds Tryd.pinned (.plain (OpenSpec.upto merklePinsSpec)) merklePinsUptoCard

/-- THE SECOND FORM's CARD OF 'lightermanlaw20.MerkleParts'. -/
def merklePartsUptoCard : Claim7 := { stood := { row := merklePartsUptoRow, standIns := [], harness := (true, "09612d1a2646ed0d42398558dda7536f409bcd12736a80279ad33f8c46505313"), looks := false }, kinds := [], alts := [], laidByText := true, laidKinds := [.data, .data], laidTests := true, laidLooks := .later }
def MerklePartsUptoCardSaid : Prop := Claim7.holds Tryd.pinned (.plain (OpenSpec.upto merklePartsSpec)) merklePartsUptoCard

/-- THE SECOND FORM's CARD OF 'lightermanlaw20.MerkleHalves'. -/
def merkleHalvesUptoCard : Claim7 := { stood := { row := merkleHalvesUptoRow, standIns := [], harness := (true, "09612d1a2646ed0d42398558dda7536f409bcd12736a80279ad33f8c46505313"), looks := false }, kinds := [], alts := [], laidByText := true, laidKinds := [.data, .data], laidTests := true, laidLooks := .later }
def MerkleHalvesUptoCardSaid : Prop := Claim7.holds Tryd.pinned (.plain (OpenSpec.upto merkleHalvesSpec)) merkleHalvesUptoCard
end Rows
end Go.Proofs.YtieepdhajjibpaaDoor
