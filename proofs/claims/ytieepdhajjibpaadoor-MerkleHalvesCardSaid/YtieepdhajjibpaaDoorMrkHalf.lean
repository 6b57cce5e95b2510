
/- MerkleHalves, plain: two rows of 2^e digests, each the argument with one byte told, and what stands above them. No claim of ours. -/
import Derived.Test.YtieepdhajjibpaaDoorMrkRow
namespace Go.Proofs.YtieepdhajjibpaaDoor
open Go.RowKit

/-- The digest with its byte j told. -/
def dset (d : Dg) (j : Nat) (v : UInt8) : Dg := ⟨d.1.set j v, by rw [List.length_set]; exact d.2⟩
theorem dset_twice (d : Dg) (j : Nat) (v u : UInt8) : dset (dset d j v) j u = dset d j u := Subtype.ext (by simp [dset])
theorem dset_cells (d : Dg) (j : Nat) (v : UInt8) : dcs (dset d j v) = (dcs d).set j (cel v) := by simp [dcs, dset, List.map_set]

/-- The argument behind k rounds, and the row of k digests. -/
def dAt (d : Dg) (j : Nat) : Nat → Dg
  | 0 => d
  | k + 1 => dset d j (UInt8.ofNat k)
theorem dAt_step (d : Dg) (j k : Nat) : dset (dAt d j k) j (UInt8.ofNat k) = dAt d j (k + 1) := by
  cases k with
  | zero => rfl
  | succ k => exact dset_twice _ _ _ _
def dRow (d : Dg) (j k : Nat) : List Dg := (List.range k).map fun i => dAt d j (i + 1)
theorem dRow_len (d : Dg) (j k : Nat) : (dRow d j k).length = k := by simp [dRow]
theorem dRow_succ (d : Dg) (j k : Nat) : dRow d j (k + 1) = dRow d j k ++ [dAt d j (k + 1)] := by simp [dRow, List.range_succ]

theorem root_halves {a b : List Dg} (x : Dg) {e : Nat} (ha : a.length = 2 ^ e) (hb : b.length = 2 ^ e) :
    rootL (a ++ b) = nodeD (rootL a) (rootL b) ∧ rootL ((a ++ b) ++ [x]) = nodeD (rootL (a ++ b)) x := by
  have hp : 0 < 2 ^ e := Nat.two_pow_pos e
  have hl : (a ++ b).length = 2 ^ (e + 1) := by rw [List.length_append, ha, hb, Nat.pow_succ]; omega
  refine ⟨root_join ha (by omega) (by omega), ?_⟩
  have h := root_join (b := [x]) hl (by simp) (by rw [hl, Nat.pow_succ]; simp; omega)
  rwa [root_one] at h
end Go.Proofs.YtieepdhajjibpaaDoor
