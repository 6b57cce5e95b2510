
/- The document's example. -/
import Derived.Test.YtmominbmalhdoaaDoorFrmRead
import Derived.Test.YtmominbmalhdoaaDoorFrmWrite
namespace Go.Proofs.YtmominbmalhdoaaDoor
open Go.RowKit

theorem wr_five : wr15 5 false = [40, 181, 47, 253, 32, 5] := by decide +kernel
theorem hdr_five : hdr [32, 5] = ((5, 5, true, false), 2, 0) := by decide +kernel
theorem put_bn : put (bnum true 1 9) 3 = [75, 0, 0] := by decide +kernel
theorem blk_bn : blk [75, 0, 0] = ((true, 1, 9), 0) := by decide +kernel

set_option maxRecDepth 100000 in
set_option maxHeartbeats 1000000 in
theorem awake_any (w : World) (hgl : Glob w) :
    Calls Tryd.prog 8 #[] w fun e w' => e = .returned (.bool true) ∧ Below w.heap.size w w' := by
  have HG := Lib.hid hgl
  have hw2 := hgl.2.2
  have hW := Lib.hid (write15_any 5 false (by decide) w hgl)
  rw [wr_five] at hW
  clear hgl
  go_enter Tryd.func8, Tryd.ntmps8
  go_upto_region 2 with (go_at_call 11; refine hW.out.mono ?_; rintro e' w1 ⟨v, rfl, ho, hB⟩; obtain ⟨A, c, hv, hc, hd⟩ := ho.form; subst hv; have HB1 := Lib.hid hB; have HD := Lib.hid hd; clear hB ho hd)
  obtain ⟨d, o, hA, hd1, hd2, _, _⟩ := HD.out (by simp)
  subst hA
  have hcv := run_str (P := Tryd.prog) w1 22 Tryd.underlying22 Tryd.underlying5 (c := c) (m := 6) HD.out rfl 9 Tryd.underlying9
  rw [show str [40, 181, 47, 253, 32, 5] = (⟨#[40, 181, 47, 253, 32, 5]⟩ : ByteArray) from rfl] at hcv
  have hd4 : Dat true w1 w.heap.size w1.heap.size (some ⟨d, o + 4, none⟩) [32, 5] := HD.out.drop 4
  have hc6 : 6 ≤ c := hc
  have HG1 := Lib.hid (HG.out.below HB1.out hw2)
  have hRd := Lib.hid (read15_any (n := 2) (c := c - 4) hd4 rfl (by omega) (by decide) (Nat.le_refl _) HG1.out)
  rw [hdr_five, show ansH ((5, 5, true, false), 2, 0) = .tuple #[.agg #[.int .u64 5, .int .u64 5, .bool true, .bool false], .int .i64 2, .int .i64 0] from rfl] at hRd
  have hs1 := HB1.out.size
  have hWb := Lib.hid (fun W => writeBlock_yes true 1 9 W (by decide) (by decide))
  rw [put_bn] at hWb
  clear hd4 hc
  go_upto_region 5 with (go_at_call 9; refine hRd.out.mono ?_; rintro e' w2 ⟨rfl, hB⟩; have HB2 := Lib.hid (HB1.out.trans (hB.mono hs1)); clear hB)
  have HX2 : Hid (Box (w2.alloc (.cells #[.int .u64 5, .int .u64 5, .bool true, .bool false] 26)) w2.heap.size 26 #[.int .u64 5, .int .u64 5, .bool true, .bool false]) := Box.new _ _ _
  have HB3 : Hid (Below w.heap.size w (w2.alloc (.cells #[.int .u64 5, .int .u64 5, .bool true, .bool false] 26))) := HB2.out.alloc HB2.out.size _
  generalize w2.alloc (.cells #[.int .u64 5, .int .u64 5, .bool true, .bool false] 26) = w3 at *
  generalize w2.heap.size = q at *
  go_upto_region 6 with (go_at_call 15; refine (hWb.out _).mono ?_; rintro e' w4 ⟨A4, n4, c4, rfl, ho, hB⟩; have HB4 := Lib.hid (HB3.out.trans (hB.mono HB3.out.size)); have HX4 := Lib.hid (HX2.out.below hB HX2.out.lt); have HO4 := Lib.hid ho; clear hB ho)
  obtain ⟨A5, c5, hv5, hc5, hd5⟩ := HO4.out.form
  injection hv5 with e1 e2 e3
  subst e1
  subst e2
  subst e3
  obtain ⟨d4, o4, hA4, hdl, hdh, hcs, _⟩ := hd5 (by simp)
  subst hA4
  have hx75 : w4.cell? ⟨d4, o4, none⟩ = some (.int .u8 75) := hcs 0 (by decide)
  have hRb := Lib.hid (readBlock_any (n := 3) (c := c4) hd5 rfl hc5 (by decide) (Nat.le_refl _))
  rw [blk_bn, show ansB ((true, 1, 9), 0) = .tuple #[.agg #[.bool true, .int .i64 1, .int .i64 9], .int .i64 0] from rfl] at hRb
  have hc3 : 3 ≤ c4 := hc5
  have h43 := HB4.out.size
  clear hcs hc5 hd5
  go_upto_region 7 with (go_at_call 13; refine hRb.out.mono ?_; rintro e' w5 ⟨rfl, hB⟩; have HB5 := Lib.hid (HB4.out.trans (hB.mono h43)); have HX5 := Lib.hid (HX4.out.below hB HX4.out.lt); have hy75 : w5.cell? ⟨d4, o4, none⟩ = some (.int .u8 75) := (hB.cell (p := ⟨d4, o4, none⟩) (by exact hdh)).trans hx75; have hdh5 : d4 < w5.heap.size := Nat.lt_of_lt_of_le hdh hB.size; have hqh5 := HX5.out.lt; clear hB)
  have HX6 : Hid (Box (w5.alloc (.cells #[.bool true, .int .i64 1, .int .i64 9] 38)) w5.heap.size 38 #[.bool true, .int .i64 1, .int .i64 9]) := Box.new _ _ _
  have HX7 := Lib.hid (HX5.out.alloc (.cells #[.bool true, .int .i64 1, .int .i64 9] 38))
  have HB6 : Hid (Below w.heap.size w (w5.alloc (.cells #[.bool true, .int .i64 1, .int .i64 9] 38))) := HB5.out.alloc HB5.out.size _
  have hz75 : (w5.alloc (.cells #[.bool true, .int .i64 1, .int .i64 9] 38)).cell? ⟨d4, o4, none⟩ = some (.int .u8 75) := (World.cell?_of_block (a := ⟨d4, o4, none⟩) (Below.heap_alloc w5 _ d4 hdh5)).trans hy75
  clear hy75
  generalize w5.alloc (.cells #[.bool true, .int .i64 1, .int .i64 9] 38) = w6 at *
  generalize w5.heap.size = y at *
  have q0 := HX7.out.cell 0
  have q1 := HX7.out.cell 1
  have q2 := HX7.out.cell 2
  have q3 := HX7.out.cell 3
  have y0 := HX6.out.cell 0
  have y1 := HX6.out.cell 1
  have y2 := HX6.out.cell 2
  simp at q0 q1 q2 q3 y0 y1 y2
  go_wp2_with fail
  go_ret
  exact ⟨rfl, HB6.out⟩
end Go.Proofs.YtmominbmalhdoaaDoor
