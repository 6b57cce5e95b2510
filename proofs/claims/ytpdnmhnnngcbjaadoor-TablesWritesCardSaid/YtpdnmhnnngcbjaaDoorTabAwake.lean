
/- The document's example answers true, in whatever world, and nothing that was there has turned. -/
import Derived.Test.YtpdnmhnnngcbjaaDoorTabReads
namespace Go.Proofs.YtpdnmhnnngcbjaaDoor
open Go.RowKit

set_option maxRecDepth 100000 in
set_option maxHeartbeats 2000000 in
theorem tab_awake {B : Nat} (w : World) (hgl : Glob B w) :
    Calls Tryd.prog 6 #[] w fun e w' => e = .returned (.bool true) ∧ Below w.heap.size w w' := by
  have HG := Lib.hid hgl
  have hd0 := dat_one w 7 5
  rw [show cel 7 = .int .u8 7 from rfl] at hd0
  have HR := Lib.hid (read1_ok (n := 0) (ne := 0) (ce := 0) (E := none) (c := 1) (r := []) (z := 7) 0 (hgl.alloc (.cells #[.int .u8 7] 5)) (by decide) hd0 (by simp) rfl rfl (by decide))
  have hs0 : (w.alloc (.cells #[.int .u8 7] 5)).heap.size = w.heap.size + 1 := by simp
  have HS0 := Lib.hid hs0
  have HB0 : Hid (Below w.heap.size w (w.alloc (.cells #[.int .u8 7] 5))) := (Below.refl _ _).alloc (Nat.le_refl _) _
  clear hgl hd0 hs0
  go_enter Tryd.func6, Tryd.ntmps6
  go_wp2_with fail
  generalize w.alloc (.cells #[.int .u8 7] 5) = W at *
  refine HR.out.mono ?_
  rintro e w1 ⟨v1, rfl, ho1, hB1⟩
  obtain ⟨d1, c1, rfl, hd1, hd1w, _⟩ := ho1.place (by decide)
  rw [show ([(⟨((7 : UInt8).toNat : Int), 0, 0⟩ : En)] : List En).length = 1 from rfl] at ho1
  have HO1 := Lib.hid ho1
  have HB1 := Lib.hid (HB0.out.trans (hB1.mono (by have := HS0.out; omega)))
  have hs1 := hB1.size
  clear ho1 hB1 HR
  go_wp2_with fail
  have HX1 := Lib.hid (Box.new w1 26 #[.int .i64 0, .slice (some ⟨d1, 0, none⟩) 1 c1])
  have HB2 := Lib.hid (HB1.out.alloc (by have := HB1.out.size; omega) (.cells #[.int .i64 0, .slice (some ⟨d1, 0, none⟩) 1 c1] 26))
  have HO2 := Lib.hid (HO1.out.alloc (.cells #[.int .i64 0, .slice (some ⟨d1, 0, none⟩) 1 c1] 26))
  have hs2 : (w1.alloc (.cells #[.int .i64 0, .slice (some ⟨d1, 0, none⟩) 1 c1] 26)).heap.size = w1.heap.size + 1 := by simp
  have HS2 := Lib.hid hs2
  clear hs2 HO1 HB1
  generalize w1.alloc (.cells #[.int .i64 0, .slice (some ⟨d1, 0, none⟩) 1 c1] 26) = W2 at *
  refine (default_any 2 W2 (HG.out.below HB2.out HG.out.size) (by decide)).mono ?_
  rintro e w3 ⟨v3, rfl, ho3, hB3⟩
  obtain ⟨d3, c3, rfl, hd3, hd3w, _⟩ := ho3.place (by rw [tabG_len (by decide)]; decide)
  rw [tabG_len (by decide), show 2 ^ logN 2 = 64 from rfl] at ho3 ⊢
  have HB3 := Lib.hid (HB2.out.trans (hB3.mono HB2.out.size))
  have HX3 := Lib.hid (HX1.out.below hB3 (by have := HS2.out; omega))
  have HO3 := Lib.hid (HO2.out.below hB3 (Nat.le_refl _))
  have hs3 := hB3.size
  clear ho3 hB3 HX1 HO2 HB2
  go_wp2_with fail
  have HY3 := Lib.hid (Box.new w3 26 #[.int .i64 (logN 2 : Int), .slice (some ⟨d3, 0, none⟩) 64 c3])
  have HX4 := Lib.hid (HX3.out.alloc (.cells #[.int .i64 (logN 2 : Int), .slice (some ⟨d3, 0, none⟩) 64 c3] 26))
  have HO4 := Lib.hid (HO3.out.alloc (.cells #[.int .i64 (logN 2 : Int), .slice (some ⟨d3, 0, none⟩) 64 c3] 26))
  have HB4 := Lib.hid (HB3.out.alloc HB3.out.size (.cells #[.int .i64 (logN 2 : Int), .slice (some ⟨d3, 0, none⟩) 64 c3] 26))
  have hs4 : (w3.alloc (.cells #[.int .i64 (logN 2 : Int), .slice (some ⟨d3, 0, none⟩) 64 c3] 26)).heap.size = w3.heap.size + 1 := by simp
  have HS4 := Lib.hid hs4
  clear hs4 HX3 HO3 HB3
  generalize w3.alloc (.cells #[.int .i64 (logN 2 : Int), .slice (some ⟨d3, 0, none⟩) 64 c3] 26) = W4 at *
  refine (default_no 3 W4 (HG.out.below HB4.out HG.out.size) (by decide)).mono ?_
  rintro e w5 ⟨rfl, hB5⟩
  have HB5 := Lib.hid (HB4.out.trans (hB5.mono HB4.out.size))
  have HX5 := Lib.hid (HX4.out.below hB5 (by have := HS4.out; have := HS2.out; omega))
  have HY5 := Lib.hid (HY3.out.below hB5 (by have := HS4.out; omega))
  have HO5 := Lib.hid (HO4.out.below hB5 (Nat.le_refl _))
  have hs5 := hB5.size
  clear hB5 HX4 HO4 HB4 HY3
  have hga := (HG.out.below HB5.out HG.out.size).alloc (.cells #[.int .i64 0, .slice none 0 0] 26)
  have HM1 := Lib.hid (most_any 1 _ hga)
  have HM7 := Lib.hid (most_any 7 _ hga)
  rw [show mostZ 1 = 8 from rfl] at HM1
  rw [show mostZ 7 = 0 from rfl] at HM7
  obtain ⟨x0, x1, _, _⟩ := box2 (HX5.out.alloc (.cells #[.int .i64 0, .slice none 0 0] 26))
  obtain ⟨y0, y1, _, _⟩ := box2 (HY5.out.alloc (.cells #[.int .i64 0, .slice none 0 0] 26))
  have q1 := ((HO5.out.alloc (.cells #[.int .i64 0, .slice none 0 0] 26)).cells3 0 (by decide)).1.1
  have q1' : World.cell? _ ⟨d1, 0, none⟩ = some (.int .u8 7) := q1
  clear q1 hga
  go_wp2_with (first
    | (go_at_call 14; with_reducible refine HM1.out.mono ?_; rintro e' w' ⟨rfl, rfl⟩)
    | (go_at_call 14; with_reducible refine HM7.out.mono ?_; rintro e' w' ⟨rfl, rfl⟩))
  go_ret
  exact ⟨rfl, HB5.out.alloc HB5.out.size _⟩
end Go.Proofs.YtpdnmhnnngcbjaaDoor
