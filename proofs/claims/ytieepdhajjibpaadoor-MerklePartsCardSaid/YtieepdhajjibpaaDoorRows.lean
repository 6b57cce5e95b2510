/-
  NARROWER THAN 'FOR EVERY INPUT', by the rows' own cells (each row's printed sentence says how): MerkleRoots: laid · MerkleOf: laid · MerkleChecks: laid · MerkleTwo: laid · MerklePins: laid · MerkleParts: laid · MerkleHalves: laid.
  DERIVED. THE GIVEN ROWS OF THIS SEAT. 7 by the template 'for every input the law returns true; each argument reads behind the call as it read before'; 0 by the template 'total and deterministic' (their statements: YtieepdhajjibpaaDoorTotals.lean).
  GIVEN WITH THE SEED: the statements are not yours to turn. If you find one false, say at which input.
  Laid BY PROGRAM, IN A SANDBOX (cutbox-rows.mjs): the forced cells as the released guide's own fill.sh prints them over the translation 92ffa0db5843830d… (all of the seat's roots in one cut). By AI agents, Wed Nov 11 2026. No macro, syntax, notation, axiom, sorry.
-/
import Derived.Test.YtieepdhajjibpaaDoorChecked
import GoSem.Claim
import GoSem.ClaimJoined
import GoSem.ClaimMapViews
import Derived.JoinedTies
import Derived.KernelRfl
namespace Go.Proofs.YtieepdhajjibpaaDoor
/- THE CELL 'sum', in the pinned program and in every row, IS THE sha256 OF THE DUMP (.gsa) THAT YtieepdhajjibpaaDoorProg.lean LOADS. Nothing in Lean hashes anything: it is a label: what it is worth is what the hold of that sum in a sandbox is worth. -/
noncomputable def Tryd.pinned : Pinned := { name := "ytieepdhajjibpaadoor", sum := "92ffa0db5843830dae66425a916ae139dc3685cbc0a71de3908de2ca9b04ccd7", checked := Tryd.checked }
namespace Rows
def none {H : Type} : Left H := { results := [], args := [] }

/- WHAT THE LISTED PACKAGE-LEVEL VARIABLES READ AS WHEN THE CALL BEGINS. Each datum BY PROGRAM (the guide's laid-datum.mjs) off the statement by which the dump's own 'gosem.cut.vars' lays the variable. In a bare row this is a premise. The card (YtieepdhajjibpaaDoorCards.lean) ties it to the program's text. -/
def laid_lighterman_sha_startWords {H : Type} : DataW H := .agg [.lit (.int .u32 1779033703), .lit (.int .u32 3144134277), .lit (.int .u32 1013904242), .lit (.int .u32 2773480762), .lit (.int .u32 1359893119), .lit (.int .u32 2600822924), .lit (.int .u32 528734635), .lit (.int .u32 1541459225)]
def laid_lighterman_sha_roundWords {H : Type} : DataW H := .agg [.lit (.int .u32 1116352408), .lit (.int .u32 1899447441), .lit (.int .u32 3049323471), .lit (.int .u32 3921009573), .lit (.int .u32 961987163), .lit (.int .u32 1508970993), .lit (.int .u32 2453635748), .lit (.int .u32 2870763221), .lit (.int .u32 3624381080), .lit (.int .u32 310598401), .lit (.int .u32 607225278), .lit (.int .u32 1426881987), .lit (.int .u32 1925078388), .lit (.int .u32 2162078206), .lit (.int .u32 2614888103), .lit (.int .u32 3248222580), .lit (.int .u32 3835390401), .lit (.int .u32 4022224774), .lit (.int .u32 264347078), .lit (.int .u32 604807628), .lit (.int .u32 770255983), .lit (.int .u32 1249150122), .lit (.int .u32 1555081692), .lit (.int .u32 1996064986), .lit (.int .u32 2554220882), .lit (.int .u32 2821834349), .lit (.int .u32 2952996808), .lit (.int .u32 3210313671), .lit (.int .u32 3336571891), .lit (.int .u32 3584528711), .lit (.int .u32 113926993), .lit (.int .u32 338241895), .lit (.int .u32 666307205), .lit (.int .u32 773529912), .lit (.int .u32 1294757372), .lit (.int .u32 1396182291), .lit (.int .u32 1695183700), .lit (.int .u32 1986661051), .lit (.int .u32 2177026350), .lit (.int .u32 2456956037), .lit (.int .u32 2730485921), .lit (.int .u32 2820302411), .lit (.int .u32 3259730800), .lit (.int .u32 3345764771), .lit (.int .u32 3516065817), .lit (.int .u32 3600352804), .lit (.int .u32 4094571909), .lit (.int .u32 275423344), .lit (.int .u32 430227734), .lit (.int .u32 506948616), .lit (.int .u32 659060556), .lit (.int .u32 883997877), .lit (.int .u32 958139571), .lit (.int .u32 1322822218), .lit (.int .u32 1537002063), .lit (.int .u32 1747873779), .lit (.int .u32 1955562222), .lit (.int .u32 2024104815), .lit (.int .u32 2227730452), .lit (.int .u32 2361852424), .lit (.int .u32 2428436474), .lit (.int .u32 2756734187), .lit (.int .u32 3204031479), .lit (.int .u32 3329325298)]

/-- 'lightermanlaw20.MerkleRoots': WHATEVER THE INPUT: true; the input reads as it did. -/
def merkleRootsSpec : ChangeSpec := { name := "merkleRoots", fn := fun _ => fun
  | [d1, d2, d3, d4] => { results := [.lit (.bool true)], args := [d1, d2, d3, d4] }
  | _ => none }
def merkleRootsRow : OpenClaim := { program := "ytieepdhajjibpaadoor", sum := "92ffa0db5843830dae66425a916ae139dc3685cbc0a71de3908de2ca9b04ccd7", func := "lighterman/lightermanlaw20.MerkleRoots", spec := "merkleRoots", recurses := true, named := ["lighterman/sha.startWords", "lighterman/sha.roundWords"], apart := false, laid := [("lighterman/sha.startWords", laid_lighterman_sha_startWords), ("lighterman/sha.roundWords", laid_lighterman_sha_roundWords)] }
def MerkleRootsSaid : Prop := merkleRootsRow.holds Tryd.pinned (OpenSpec.ofChange merkleRootsSpec)

/-- ITS FALSE NEIGHBOUR: 'it returns false'. Refute it at one input. -/
def merkleRootsWrong : ChangeSpec := { name := "merkleRoots", fn := fun _ => fun
  | [d1, d2, d3, d4] => { results := [.lit (.bool false)], args := [d1, d2, d3, d4] }
  | _ => none }
def MerkleRootsWrongFalsely : Prop := merkleRootsRow.holds Tryd.pinned (OpenSpec.ofChange merkleRootsWrong)

/-- 'lightermanlaw20.MerkleOf': WHATEVER THE INPUT: true; the input reads as it did. -/
def merkleOfSpec : ChangeSpec := { name := "merkleOf", fn := fun _ => fun
  | [d1, d2] => { results := [.lit (.bool true)], args := [d1, d2] }
  | _ => none }
def merkleOfRow : OpenClaim := { program := "ytieepdhajjibpaadoor", sum := "92ffa0db5843830dae66425a916ae139dc3685cbc0a71de3908de2ca9b04ccd7", func := "lighterman/lightermanlaw20.MerkleOf", spec := "merkleOf", recurses := true, named := ["lighterman/sha.startWords", "lighterman/sha.roundWords"], apart := false, laid := [("lighterman/sha.startWords", laid_lighterman_sha_startWords), ("lighterman/sha.roundWords", laid_lighterman_sha_roundWords)] }
def MerkleOfSaid : Prop := merkleOfRow.holds Tryd.pinned (OpenSpec.ofChange merkleOfSpec)

/-- ITS FALSE NEIGHBOUR: 'it returns false'. Refute it at one input. -/
def merkleOfWrong : ChangeSpec := { name := "merkleOf", fn := fun _ => fun
  | [d1, d2] => { results := [.lit (.bool false)], args := [d1, d2] }
  | _ => none }
def MerkleOfWrongFalsely : Prop := merkleOfRow.holds Tryd.pinned (OpenSpec.ofChange merkleOfWrong)

/-- 'lightermanlaw20.MerkleChecks': WHATEVER THE INPUT: true; the input reads as it did. -/
def merkleChecksSpec : ChangeSpec := { name := "merkleChecks", fn := fun _ => fun
  | [d1, d2, d3] => { results := [.lit (.bool true)], args := [d1, d2, d3] }
  | _ => none }
def merkleChecksRow : OpenClaim := { program := "ytieepdhajjibpaadoor", sum := "92ffa0db5843830dae66425a916ae139dc3685cbc0a71de3908de2ca9b04ccd7", func := "lighterman/lightermanlaw20.MerkleChecks", spec := "merkleChecks", recurses := true, named := ["lighterman/sha.startWords", "lighterman/sha.roundWords"], apart := false, laid := [("lighterman/sha.startWords", laid_lighterman_sha_startWords), ("lighterman/sha.roundWords", laid_lighterman_sha_roundWords)] }
def MerkleChecksSaid : Prop := merkleChecksRow.holds Tryd.pinned (OpenSpec.ofChange merkleChecksSpec)

/-- ITS FALSE NEIGHBOUR: 'it returns false'. Refute it at one input. -/
def merkleChecksWrong : ChangeSpec := { name := "merkleChecks", fn := fun _ => fun
  | [d1, d2, d3] => { results := [.lit (.bool false)], args := [d1, d2, d3] }
  | _ => none }
def MerkleChecksWrongFalsely : Prop := merkleChecksRow.holds Tryd.pinned (OpenSpec.ofChange merkleChecksWrong)

/-- 'lightermanlaw20.MerkleTwo': WHATEVER THE INPUT: true; the input reads as it did. -/
def merkleTwoSpec : ChangeSpec := { name := "merkleTwo", fn := fun _ => fun
  | [d1, d2, d3] => { results := [.lit (.bool true)], args := [d1, d2, d3] }
  | _ => none }
def merkleTwoRow : OpenClaim := { program := "ytieepdhajjibpaadoor", sum := "92ffa0db5843830dae66425a916ae139dc3685cbc0a71de3908de2ca9b04ccd7", func := "lighterman/lightermanlaw20.MerkleTwo", spec := "merkleTwo", recurses := true, named := ["lighterman/sha.startWords", "lighterman/sha.roundWords"], apart := false, laid := [("lighterman/sha.startWords", laid_lighterman_sha_startWords), ("lighterman/sha.roundWords", laid_lighterman_sha_roundWords)] }
def MerkleTwoSaid : Prop := merkleTwoRow.holds Tryd.pinned (OpenSpec.ofChange merkleTwoSpec)

/-- ITS FALSE NEIGHBOUR: 'it returns false'. Refute it at one input. -/
def merkleTwoWrong : ChangeSpec := { name := "merkleTwo", fn := fun _ => fun
  | [d1, d2, d3] => { results := [.lit (.bool false)], args := [d1, d2, d3] }
  | _ => none }
def MerkleTwoWrongFalsely : Prop := merkleTwoRow.holds Tryd.pinned (OpenSpec.ofChange merkleTwoWrong)

/-- 'lightermanlaw20.MerklePins': WHATEVER THE INPUT: true; the input reads as it did. -/
def merklePinsSpec : ChangeSpec := { name := "merklePins", fn := fun _ => fun
  | [d1, d2, d3, d4] => { results := [.lit (.bool true)], args := [d1, d2, d3, d4] }
  | _ => none }
def merklePinsRow : OpenClaim := { program := "ytieepdhajjibpaadoor", sum := "92ffa0db5843830dae66425a916ae139dc3685cbc0a71de3908de2ca9b04ccd7", func := "lighterman/lightermanlaw20.MerklePins", spec := "merklePins", recurses := true, named := ["lighterman/sha.startWords", "lighterman/sha.roundWords"], apart := false, laid := [("lighterman/sha.startWords", laid_lighterman_sha_startWords), ("lighterman/sha.roundWords", laid_lighterman_sha_roundWords)] }
def MerklePinsSaid : Prop := merklePinsRow.holds Tryd.pinned (OpenSpec.ofChange merklePinsSpec)

/-- ITS FALSE NEIGHBOUR: 'it returns false'. Refute it at one input. -/
def merklePinsWrong : ChangeSpec := { name := "merklePins", fn := fun _ => fun
  | [d1, d2, d3, d4] => { results := [.lit (.bool false)], args := [d1, d2, d3, d4] }
  | _ => none }
def MerklePinsWrongFalsely : Prop := merklePinsRow.holds Tryd.pinned (OpenSpec.ofChange merklePinsWrong)

/-- 'lightermanlaw20.MerkleParts': WHATEVER THE INPUT: true; the input reads as it did. -/
def merklePartsSpec : ChangeSpec := { name := "merkleParts", fn := fun _ => fun
  | [d1, d2, d3, d4] => { results := [.lit (.bool true)], args := [d1, d2, d3, d4] }
  | _ => none }
def merklePartsRow : OpenClaim := { program := "ytieepdhajjibpaadoor", sum := "92ffa0db5843830dae66425a916ae139dc3685cbc0a71de3908de2ca9b04ccd7", func := "lighterman/lightermanlaw20.MerkleParts", spec := "merkleParts", recurses := true, named := ["lighterman/sha.startWords", "lighterman/sha.roundWords"], apart := false, laid := [("lighterman/sha.startWords", laid_lighterman_sha_startWords), ("lighterman/sha.roundWords", laid_lighterman_sha_roundWords)] }
def MerklePartsSaid : Prop := merklePartsRow.holds Tryd.pinned (OpenSpec.ofChange merklePartsSpec)

/-- ITS FALSE NEIGHBOUR: 'it returns false'. Refute it at one input. -/
def merklePartsWrong : ChangeSpec := { name := "merkleParts", fn := fun _ => fun
  | [d1, d2, d3, d4] => { results := [.lit (.bool false)], args := [d1, d2, d3, d4] }
  | _ => none }
def MerklePartsWrongFalsely : Prop := merklePartsRow.holds Tryd.pinned (OpenSpec.ofChange merklePartsWrong)

/-- 'lightermanlaw20.MerkleHalves': WHATEVER THE INPUT: true; the input reads as it did. -/
def merkleHalvesSpec : ChangeSpec := { name := "merkleHalves", fn := fun _ => fun
  | [d1, d2, d3] => { results := [.lit (.bool true)], args := [d1, d2, d3] }
  | _ => none }
def merkleHalvesRow : OpenClaim := { program := "ytieepdhajjibpaadoor", sum := "92ffa0db5843830dae66425a916ae139dc3685cbc0a71de3908de2ca9b04ccd7", func := "lighterman/lightermanlaw20.MerkleHalves", spec := "merkleHalves", recurses := true, named := ["lighterman/sha.startWords", "lighterman/sha.roundWords"], apart := false, laid := [("lighterman/sha.startWords", laid_lighterman_sha_startWords), ("lighterman/sha.roundWords", laid_lighterman_sha_roundWords)] }
def MerkleHalvesSaid : Prop := merkleHalvesRow.holds Tryd.pinned (OpenSpec.ofChange merkleHalvesSpec)

/-- ITS FALSE NEIGHBOUR: 'it returns false'. Refute it at one input. -/
def merkleHalvesWrong : ChangeSpec := { name := "merkleHalves", fn := fun _ => fun
  | [d1, d2, d3] => { results := [.lit (.bool false)], args := [d1, d2, d3] }
  | _ => none }
def MerkleHalvesWrongFalsely : Prop := merkleHalvesRow.holds Tryd.pinned (OpenSpec.ofChange merkleHalvesWrong)

/- THE SECOND FORM. 'bulk': how many values and letters a reading holds, each counted each time it is reached (what is shared counts as often as it is met; a slice's spare places count too). A statement '..UptoSaid' is the law's where the arguments, and the package variables that the reading takes, are together of bulk at most 1048576: NARROWER than '..Said'. Prove '..Said' where nothing that the law and all that it calls make is longer than what came in: it says more and counts as full. Else prove '..UptoSaid'. A law counts once. -/
mutual
def uptoBulk {H : Type} : DataW H → Nat
  | .lit (.string bytes) => bytes.length + 1
  | .lit _ => 1
  | .nil => 1
  | .ptr d => uptoBulk d + 1
  | .slice elems spare => uptoBulkAll elems + uptoBulkAll spare + 1
  | .agg parts => uptoBulkAll parts + 1
  | .iface _ d => uptoBulk d + 1
  | .map entries => uptoBulkEntries entries + 1
  | .held _ => 1
def uptoBulkAll {H : Type} : List (DataW H) → Nat
  | [] => 0
  | d :: r => uptoBulk d + uptoBulkAll r
def uptoBulkEntries {H : Type} : List (Lit × DataW H) → Nat
  | [] => 0
  | x :: r => uptoBulkEntry x + uptoBulkEntries r
def uptoBulkEntry {H : Type} : Lit × DataW H → Nat
  | (.string bytes, d) => bytes.length + uptoBulk d + 1
  | (_, d) => uptoBulk d + 1
 end
def uptoSmall : (H : Type) → List (DataW H) → Bool := fun _ ds => decide (uptoBulkAll ds ≤ 1048576)
def OpenSpec.upto (s : _root_.Go.ChangeSpec) : _root_.Go.OpenSpec := { _root_.Go.OpenSpec.ofChange s with cond := some uptoSmall }

/-- 'lightermanlaw20.MerkleRoots', WHERE WHAT IT READS IS OF BULK AT MOST 1048576: true; the input reads as it did. -/
def merkleRootsUptoRow : OpenClaim := { program := "ytieepdhajjibpaadoor", sum := "92ffa0db5843830dae66425a916ae139dc3685cbc0a71de3908de2ca9b04ccd7", func := "lighterman/lightermanlaw20.MerkleRoots", spec := "merkleRoots", recurses := true, named := ["lighterman/sha.startWords", "lighterman/sha.roundWords"], apart := false, laid := [("lighterman/sha.startWords", laid_lighterman_sha_startWords), ("lighterman/sha.roundWords", laid_lighterman_sha_roundWords)], narrowed := true }
def MerkleRootsUptoSaid : Prop := merkleRootsUptoRow.holds Tryd.pinned (OpenSpec.upto merkleRootsSpec)

/-- 'lightermanlaw20.MerkleOf', WHERE WHAT IT READS IS OF BULK AT MOST 1048576: true; the input reads as it did. -/
def merkleOfUptoRow : OpenClaim := { program := "ytieepdhajjibpaadoor", sum := "92ffa0db5843830dae66425a916ae139dc3685cbc0a71de3908de2ca9b04ccd7", func := "lighterman/lightermanlaw20.MerkleOf", spec := "merkleOf", recurses := true, named := ["lighterman/sha.startWords", "lighterman/sha.roundWords"], apart := false, laid := [("lighterman/sha.startWords", laid_lighterman_sha_startWords), ("lighterman/sha.roundWords", laid_lighterman_sha_roundWords)], narrowed := true }
def MerkleOfUptoSaid : Prop := merkleOfUptoRow.holds Tryd.pinned (OpenSpec.upto merkleOfSpec)

/-- 'lightermanlaw20.MerkleChecks', WHERE WHAT IT READS IS OF BULK AT MOST 1048576: true; the input reads as it did. -/
def merkleChecksUptoRow : OpenClaim := { program := "ytieepdhajjibpaadoor", sum := "92ffa0db5843830dae66425a916ae139dc3685cbc0a71de3908de2ca9b04ccd7", func := "lighterman/lightermanlaw20.MerkleChecks", spec := "merkleChecks", recurses := true, named := ["lighterman/sha.startWords", "lighterman/sha.roundWords"], apart := false, laid := [("lighterman/sha.startWords", laid_lighterman_sha_startWords), ("lighterman/sha.roundWords", laid_lighterman_sha_roundWords)], narrowed := true }
def MerkleChecksUptoSaid : Prop := merkleChecksUptoRow.holds Tryd.pinned (OpenSpec.upto merkleChecksSpec)

/-- 'lightermanlaw20.MerkleTwo', WHERE WHAT IT READS IS OF BULK AT MOST 1048576: true; the input reads as it did. -/
def merkleTwoUptoRow : OpenClaim := { program := "ytieepdhajjibpaadoor", sum := "92ffa0db5843830dae66425a916ae139dc3685cbc0a71de3908de2ca9b04ccd7", func := "lighterman/lightermanlaw20.MerkleTwo", spec := "merkleTwo", recurses := true, named := ["lighterman/sha.startWords", "lighterman/sha.roundWords"], apart := false, laid := [("lighterman/sha.startWords", laid_lighterman_sha_startWords), ("lighterman/sha.roundWords", laid_lighterman_sha_roundWords)], narrowed := true }
def MerkleTwoUptoSaid : Prop := merkleTwoUptoRow.holds Tryd.pinned (OpenSpec.upto merkleTwoSpec)

/-- 'lightermanlaw20.MerklePins', WHERE WHAT IT READS IS OF BULK AT MOST 1048576: true; the input reads as it did. -/
def merklePinsUptoRow : OpenClaim := { program := "ytieepdhajjibpaadoor", sum := "92ffa0db5843830dae66425a916ae139dc3685cbc0a71de3908de2ca9b04ccd7", func := "lighterman/lightermanlaw20.MerklePins", spec := "merklePins", recurses := true, named := ["lighterman/sha.startWords", "lighterman/sha.roundWords"], apart := false, laid := [("lighterman/sha.startWords", laid_lighterman_sha_startWords), ("lighterman/sha.roundWords", laid_lighterman_sha_roundWords)], narrowed := true }
def MerklePinsUptoSaid : Prop := merklePinsUptoRow.holds Tryd.pinned (OpenSpec.upto merklePinsSpec)

/-- 'lightermanlaw20.MerkleParts', WHERE WHAT IT READS IS OF BULK AT MOST 1048576: true; the input reads as it did. -/
def merklePartsUptoRow : OpenClaim := { program := "ytieepdhajjibpaadoor", sum := "92ffa0db5843830dae66425a916ae139dc3685cbc0a71de3908de2ca9b04ccd7", func := "lighterman/lightermanlaw20.MerkleParts", spec := "merkleParts", recurses := true, named := ["lighterman/sha.startWords", "lighterman/sha.roundWords"], apart := false, laid := [("lighterman/sha.startWords", laid_lighterman_sha_startWords), ("lighterman/sha.roundWords", laid_lighterman_sha_roundWords)], narrowed := true }
def MerklePartsUptoSaid : Prop := merklePartsUptoRow.holds Tryd.pinned (OpenSpec.upto merklePartsSpec)

/-- 'lightermanlaw20.MerkleHalves', WHERE WHAT IT READS IS OF BULK AT MOST 1048576: true; the input reads as it did. -/
def merkleHalvesUptoRow : OpenClaim := { program := "ytieepdhajjibpaadoor", sum := "92ffa0db5843830dae66425a916ae139dc3685cbc0a71de3908de2ca9b04ccd7", func := "lighterman/lightermanlaw20.MerkleHalves", spec := "merkleHalves", recurses := true, named := ["lighterman/sha.startWords", "lighterman/sha.roundWords"], apart := false, laid := [("lighterman/sha.startWords", laid_lighterman_sha_startWords), ("lighterman/sha.roundWords", laid_lighterman_sha_roundWords)], narrowed := true }
def MerkleHalvesUptoSaid : Prop := merkleHalvesUptoRow.holds Tryd.pinned (OpenSpec.upto merkleHalvesSpec)

end Rows
end Go.Proofs.YtieepdhajjibpaaDoor
