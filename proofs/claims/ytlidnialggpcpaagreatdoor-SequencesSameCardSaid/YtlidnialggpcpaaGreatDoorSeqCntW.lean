
/- The contract of the program's writeCount. -/
import Derived.Test.YtlidnialggpcpaaGreatDoorSeqBackP
import Derived.Test.YtlidnialggpcpaaGreatDoorPileA
namespace Go.Proofs.YtlidnialggpcpaaGreatDoor
open Go.RowKit

section
variable {w : World} {base g n : Nat} {xs : List UInt8}
theorem cntB_len (n : Nat) : (cntB n).length ≤ 2 := by
  unfold cntB
  split
  · rw [put_length]; omega
  · rw [List.length_append, put_length, put_length]; omega
set_option maxRecDepth 100000 in
set_option maxHeartbeats 1000000 in
theorem writeCount_any (h : cu.Wtr w base g xs) (hn : n < 32512) (hb : xs.length ≤ 1000000000) :
    Calls Tryz.prog 34 #[.pointer (some ⟨g, 0, none⟩), .int .i64 (n : Int)] w fun e w' => e = .returned (.tuple #[]) ∧ cu.Wtr w' base g (xs ++ cntB n) ∧ Below base w w' := by
  have hw1 : IntKind.u64.wrap (n : Int) = (n : Int) := by rw [IntKind.wrap_u64]; omega
  have HN := Lib.hid (cu.wnumber_yes n 1 h (by omega) (by omega) (by omega))
  by_cases h1 : n < 128
  · have hc : cntB n = put n 1 := by unfold cntB; rw [if_pos h1]
    rw [hc]
    have hlt : (n : Int) < 128 := by omega
    clear h hc
    go_enter Tryz.func34, Tryz.ntmps34
    go_wp2_with fail
    refine HN.out.mono ?_
    rintro e w1 ⟨rfl, h2, hB⟩
    have HB := Lib.hid (And.intro h2 hB)
    clear h2 hB
    go_wp2_with fail
    go_end0
    exact ⟨rfl, HB.out⟩
  · have hc : cntB n = put (128 + n / 256) 1 ++ put n 1 := by unfold cntB; rw [if_neg h1]
    rw [hc, ← List.append_assoc]
    have hlt : ¬ (n : Int) < 128 := by omega
    have hlt2 : (n : Int) < 32512 := by omega
    have hdv : (n : Int) / 256 = ((n / 256 : Nat) : Int) := by omega
    obtain ⟨q, hq⟩ : ∃ q, q = n / 256 := ⟨_, rfl⟩
    rw [← hq] at hdv ⊢
    have hq8 : q < 128 := by omega
    have hw2 : IntKind.u64.wrap (128 + (q : Int)) = ((128 + q : Nat) : Int) := by rw [IntKind.wrap_u64]; omega
    have HN1 := Lib.hid (cu.wnumber_yes (128 + q) 1 h (by omega) (by omega) (by omega))
    clear h hc hq HN
    go_enter Tryz.func34, Tryz.ntmps34
    go_wp2_with fail
    have HN1' := HN1.out
    rw [Int.natCast_add] at HN1'
    refine HN1'.mono ?_
    rintro e w1 ⟨rfl, h2, hB⟩
    have HN2 := Lib.hid (cu.wnumber_yes n 1 h2 (by omega) (by omega) (by rw [List.length_append, put_length]; omega))
    have HB := Lib.hid hB
    clear h2 hB HN1 HN1'
    go_wp2_with fail
    refine HN2.out.mono ?_
    rintro e w2 ⟨rfl, h3, hB2⟩
    have HF := Lib.hid (And.intro h3 (HB.out.trans hB2))
    clear h3 hB2
    go_wp2_with fail
    go_end0
    exact ⟨rfl, HF.out⟩
end
end Go.Proofs.YtlidnialggpcpaaGreatDoor
