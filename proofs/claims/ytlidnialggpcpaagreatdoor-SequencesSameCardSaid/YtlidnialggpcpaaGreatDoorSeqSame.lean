
/- The contract of the document's Same: two rows of the same sequences. -/
import Derived.Test.YtlidnialggpcpaaGreatDoorSeqSmall
namespace Go.Proofs.YtlidnialggpcpaaGreatDoor
open Go.RowKit

section
variable {w : World} {lo1 hi1 lo2 hi2 n c1 c2 : Nat} {A1 A2 : Option Addr} {qs : List Sq}
set_option maxRecDepth 100000 in
set_option maxHeartbeats 2000000 in
theorem same_yes13 (hd1 : DatR 3 scell w lo1 hi1 A1 qs) (hd2 : DatR 3 scell w lo2 hi2 A2 qs) (hn : qs.length = n) (hn2 : n ≤ 1000000) (h1 : hi1 ≤ w.heap.size) (h2 : hi2 ≤ w.heap.size) :
    Calls Tryz.prog 10 #[.slice A1 n c1, .slice A2 n c2] w fun e w' => e = .returned (.bool true) ∧ Below w.heap.size w w' := by
  have HD := Lib.hid (And.intro hd1 (And.intro hd2 hn))
  clear hd1 hd2 hn
  go_enter Tryz.func10, Tryz.ntmps10
  go_wp2_with fail
  go_loopg [5] n (fun gh i wx => ∃ j : Nat, j + gh = n ∧ i = .int .i64 (j : Int) ∧ Hid (Below w.heap.size w wx))
  case atStart => exact ⟨0, by omega, rfl, Below.refl _ _⟩
  case round =>
    obtain ⟨j, hj, rfl, HB⟩ := hrel
    have HJ := Lib.hid hj
    have hjn : j ≤ n := by omega
    clear hj
    by_cases hlt : j < n
    · obtain ⟨g', rfl⟩ : ∃ g', gk = g' + 1 := ⟨gk - 1, by have := HJ.out; omega⟩
      have hki : (j : Int) < (n : Int) := by omega
      have hjl : j < qs.length := by have := HD.out.2.2; omega
      obtain ⟨d1, o1, rfl, _, _, hc1⟩ := (HD.out.1.below HB.out h1).seq (by omega)
      obtain ⟨d2, o2, rfl, _, _, hc2⟩ := (HD.out.2.1.below HB.out h2).seq (by omega)
      obtain ⟨x0, x1, x2⟩ := hc1 j hjl
      obtain ⟨y0, y1, y2⟩ := hc2 j hjl
      generalize qs[j] = q at *
      clear hc1 hc2
      go_wp2_with fail
      go_quiet (fail)
      go_wp2_with fail
      go_roundg g'
      case rel => exact ⟨j + 1, by have := HJ.out; omega, by go_num, ⟨HB.out.os, HB.out.tape, HB.out.output, HB.out.size, HB.out.block⟩⟩
      case measure => omega
    · obtain rfl : j = n := by omega
      have hki : decide ((j : Int) < (j : Int)) = false := by simp
      go_wp2_with fail
      go_ret
      exact ⟨rfl, HB.out⟩
end
end Go.Proofs.YtlidnialggpcpaaGreatDoor
