
/- The contracts of the program's Read, by modes 1 and 3. Made by gen-TabReads.py. -/
import Derived.Test.YtpdnmhnnngcbjaaDoorTabRead
namespace Go.Proofs.YtpdnmhnnngcbjaaDoor
open Go.RowKit

set_option maxRecDepth 100000 in
set_option maxHeartbeats 1000000 in
theorem read1_nil {B n ne ce : Nat} {E : Option Addr} {w : World} (L : Int) {A : Option Addr} {c : Nat} (hgl : Glob B w) (hn : n < 3) :
    Calls Tryd.prog 13 #[.int .i64 (n : Int), .int .i64 1, .slice A 0 c, .agg #[.int .i64 L, .slice E ne ce]] w fun e w' => e = .returned (.tuple #[.agg #[.int .i64 0, .slice none 0 0], .int .i64 0, .int .i64 10]) ∧ Below w.heap.size w w' := by
  have HB2 : Hid (Below w.heap.size w ((w.alloc (.cells #[.int .i64 L, .slice E ne ce] 26)).alloc (.cells #[.int .i64 0, .slice none 0 0] 26))) := ((Below.refl _ _).alloc (Nat.le_refl _) _).alloc (by simp) _
  have hsz : ((w.alloc (.cells #[.int .i64 L, .slice E ne ce] 26)).alloc (.cells #[.int .i64 0, .slice none 0 0] 26)).heap.size = w.heap.size + 2 := by simp
  have HSz := Lib.hid hsz
  have hx1 := Box.new (w.alloc (.cells #[.int .i64 L, .slice E ne ce] 26)) 26 #[.int .i64 0, .slice none 0 0]
  rw [World.size_alloc] at hx1
  have HX1 := Lib.hid hx1
  have HX0 := Lib.hid ((Box.new w 26 #[.int .i64 L, .slice E ne ce]).alloc (.cells #[.int .i64 0, .slice none 0 0] 26))
  have hg := (hgl.alloc (.cells #[.int .i64 L, .slice E ne ce] 26)).alloc (.cells #[.int .i64 0, .slice none 0 0] 26)
  have HG := Lib.hid hg
  have HK := Lib.hid (kind_any (n : Int) _ hg)
  rw [decide_eq_true (show (0 : Int) ≤ (n : Int) ∧ (n : Int) ≤ 2 by omega)] at HK
  have HC := Lib.hid (single_nil (n := n) (A := A) (c := c) (w := (w.alloc (.cells #[.int .i64 L, .slice E ne ce] 26)).alloc (.cells #[.int .i64 0, .slice none 0 0] 26)))
  clear hg hx1 hsz hgl 
  go_enter Tryd.func13, Tryd.ntmps13
  go_wp2_with (go_at_call 15; refine HK.out.mono ?_; rintro e' w' ⟨rfl, rfl⟩)
  go_wp2_with (go_at_call 28; refine HC.out.mono ?_; rintro e' w1 ⟨rfl, hB1⟩; have HB1 := Lib.hid hB1; obtain ⟨t0, t1, k0, k1⟩ := box2 (HX1.out.below hB1 (by have := HSz.out; omega)); clear hB1)
  have hs1 := HB1.out.size
  have hs2 := HSz.out
  refine bodyPost_ret (v := .tuple #[.agg #[.int .i64 0, .slice none 0 0], .int .i64 0, .int .i64 10]) (by simp [results, Tryd.results13, go_sem, t0, t1]) rfl ⟨rfl, ?_⟩
  exact ((HB2.out.trans (HB1.out.mono (by omega))).setCell (by show w.heap.size ≤ w.heap.size + 1; omega) _).setCell (by show w.heap.size ≤ w.heap.size + 1; omega) _
set_option maxRecDepth 100000 in
set_option maxHeartbeats 1000000 in
theorem read1_big {B n ne ce : Nat} {E : Option Addr} {w : World} (L : Int) {own : Bool} {lo hi m c : Nat} {A : Option Addr} {xs r : List UInt8} {z : UInt8} (hgl : Glob B w) (hn : n < 3) (hd : Dat own w lo hi A xs) (hhi : hi ≤ w.heap.size) (hx : xs = z :: r) (hm : xs.length = m) (hz : lastN n < z.toNat) :
    Calls Tryd.prog 13 #[.int .i64 (n : Int), .int .i64 1, .slice A m c, .agg #[.int .i64 L, .slice E ne ce]] w fun e w' => e = .returned (.tuple #[.agg #[.int .i64 0, .slice none 0 0], .int .i64 0, .int .i64 11]) ∧ Below w.heap.size w w' := by
  have HB2 : Hid (Below w.heap.size w ((w.alloc (.cells #[.int .i64 L, .slice E ne ce] 26)).alloc (.cells #[.int .i64 0, .slice none 0 0] 26))) := ((Below.refl _ _).alloc (Nat.le_refl _) _).alloc (by simp) _
  have hsz : ((w.alloc (.cells #[.int .i64 L, .slice E ne ce] 26)).alloc (.cells #[.int .i64 0, .slice none 0 0] 26)).heap.size = w.heap.size + 2 := by simp
  have HSz := Lib.hid hsz
  have hx1 := Box.new (w.alloc (.cells #[.int .i64 L, .slice E ne ce] 26)) 26 #[.int .i64 0, .slice none 0 0]
  rw [World.size_alloc] at hx1
  have HX1 := Lib.hid hx1
  have HX0 := Lib.hid ((Box.new w 26 #[.int .i64 L, .slice E ne ce]).alloc (.cells #[.int .i64 0, .slice none 0 0] 26))
  have hg := (hgl.alloc (.cells #[.int .i64 L, .slice E ne ce] 26)).alloc (.cells #[.int .i64 0, .slice none 0 0] 26)
  have HG := Lib.hid hg
  have HK := Lib.hid (kind_any (n : Int) _ hg)
  rw [decide_eq_true (show (0 : Int) ≤ (n : Int) ∧ (n : Int) ≤ 2 by omega)] at HK
  have HC := Lib.hid (single_big (c := c) hg hn ((hd.alloc hhi (.cells #[.int .i64 L, .slice E ne ce] 26)).alloc (by simp; omega) (.cells #[.int .i64 0, .slice none 0 0] 26)) (by simp; omega) hx hm hz)
  clear hg hx1 hsz hgl hd hx hm hz
  go_enter Tryd.func13, Tryd.ntmps13
  go_wp2_with (go_at_call 15; refine HK.out.mono ?_; rintro e' w' ⟨rfl, rfl⟩)
  go_wp2_with (go_at_call 28; refine HC.out.mono ?_; rintro e' w1 ⟨rfl, hB1⟩; have HB1 := Lib.hid hB1; obtain ⟨t0, t1, k0, k1⟩ := box2 (HX1.out.below hB1 (by have := HSz.out; omega)); clear hB1)
  have hs1 := HB1.out.size
  have hs2 := HSz.out
  refine bodyPost_ret (v := .tuple #[.agg #[.int .i64 0, .slice none 0 0], .int .i64 0, .int .i64 11]) (by simp [results, Tryd.results13, go_sem, t0, t1]) rfl ⟨rfl, ?_⟩
  exact ((HB2.out.trans (HB1.out.mono (by omega))).setCell (by show w.heap.size ≤ w.heap.size + 1; omega) _).setCell (by show w.heap.size ≤ w.heap.size + 1; omega) _
set_option maxRecDepth 100000 in
set_option maxHeartbeats 1000000 in
theorem read1_ok {B n ne ce : Nat} {E : Option Addr} {w : World} (L : Int) {own : Bool} {lo hi m c : Nat} {A : Option Addr} {xs r : List UInt8} {z : UInt8} (hgl : Glob B w) (hn : n < 3) (hd : Dat own w lo hi A xs) (hhi : hi ≤ w.heap.size) (hx : xs = z :: r) (hm : xs.length = m) (hz : z.toNat ≤ lastN n) :
    Calls Tryd.prog 13 #[.int .i64 (n : Int), .int .i64 1, .slice A m c, .agg #[.int .i64 L, .slice E ne ce]] w fun e w' => ∃ v, e = .returned (.tuple #[.agg #[.int .i64 0, v], .int .i64 1, .int .i64 0]) ∧ OwR 3 ecell w' 41 w.heap.size v [⟨(z.toNat : Int), 0, 0⟩] ∧ Below w.heap.size w w' := by
  have HB2 : Hid (Below w.heap.size w ((w.alloc (.cells #[.int .i64 L, .slice E ne ce] 26)).alloc (.cells #[.int .i64 0, .slice none 0 0] 26))) := ((Below.refl _ _).alloc (Nat.le_refl _) _).alloc (by simp) _
  have hsz : ((w.alloc (.cells #[.int .i64 L, .slice E ne ce] 26)).alloc (.cells #[.int .i64 0, .slice none 0 0] 26)).heap.size = w.heap.size + 2 := by simp
  have HSz := Lib.hid hsz
  have hx1 := Box.new (w.alloc (.cells #[.int .i64 L, .slice E ne ce] 26)) 26 #[.int .i64 0, .slice none 0 0]
  rw [World.size_alloc] at hx1
  have HX1 := Lib.hid hx1
  have HX0 := Lib.hid ((Box.new w 26 #[.int .i64 L, .slice E ne ce]).alloc (.cells #[.int .i64 0, .slice none 0 0] 26))
  have hg := (hgl.alloc (.cells #[.int .i64 L, .slice E ne ce] 26)).alloc (.cells #[.int .i64 0, .slice none 0 0] 26)
  have HG := Lib.hid hg
  have HK := Lib.hid (kind_any (n : Int) _ hg)
  rw [decide_eq_true (show (0 : Int) ≤ (n : Int) ∧ (n : Int) ≤ 2 by omega)] at HK
  have HC := Lib.hid (single_ok (c := c) hg hn ((hd.alloc hhi (.cells #[.int .i64 L, .slice E ne ce] 26)).alloc (by simp; omega) (.cells #[.int .i64 0, .slice none 0 0] 26)) (by simp; omega) hx hm hz)
  clear hg hx1 hsz hgl hd hx hm hz
  go_enter Tryd.func13, Tryd.ntmps13
  go_wp2_with (go_at_call 15; refine HK.out.mono ?_; rintro e' w' ⟨rfl, rfl⟩)
  go_wp2_with (go_at_call 28; refine HC.out.mono ?_; rintro e' w1 ⟨v1, rfl, ho1, hB1⟩; obtain ⟨A1, n1, c1, rfl⟩ := ho1.slice; have HO1 := Lib.hid ho1; have HB1 := Lib.hid hB1; obtain ⟨t0, t1, k0, k1⟩ := box2 (HX1.out.below hB1 (by have := HSz.out; omega)); clear ho1 hB1)
  have hs1 := HB1.out.size
  have hs2 := HSz.out
  refine bodyPost_ret (v := .tuple #[.agg #[.int .i64 0, .slice A1 n1 c1], .int .i64 1, .int .i64 0]) (by simp [results, Tryd.results13, go_sem, t0, t1]) rfl ⟨_, rfl, ?_, ?_⟩
  · refine (HO1.out.keep fun k hk => ?_).mono (by omega)
    have hk4 := (HO1.out.block k hk).1
    rw [Below.heap_setCell _ _ _ k (by show k ≠ w.heap.size + 1; omega), Below.heap_setCell _ _ _ k (by show k ≠ w.heap.size + 1; omega)]
  · exact ((HB2.out.trans (HB1.out.mono (by omega))).setCell (by show w.heap.size ≤ w.heap.size + 1; omega) _).setCell (by show w.heap.size ≤ w.heap.size + 1; omega) _
set_option maxRecDepth 100000 in
set_option maxHeartbeats 1000000 in
theorem read3_nil {B n ce m c : Nat} {E A : Option Addr} {w : World} (L : Int) (hgl : Glob B w) (hn : n < 3) :
    Calls Tryd.prog 13 #[.int .i64 (n : Int), .int .i64 3, .slice A m c, .agg #[.int .i64 L, .slice E 0 ce]] w fun e w' => e = .returned (.tuple #[.agg #[.int .i64 0, .slice none 0 0], .int .i64 0, .int .i64 11]) ∧ Below w.heap.size w w' := by
  have HB2 : Hid (Below w.heap.size w ((w.alloc (.cells #[.int .i64 L, .slice E 0 ce] 26)).alloc (.cells #[.int .i64 0, .slice none 0 0] 26))) := ((Below.refl _ _).alloc (Nat.le_refl _) _).alloc (by simp) _
  have hsz : ((w.alloc (.cells #[.int .i64 L, .slice E 0 ce] 26)).alloc (.cells #[.int .i64 0, .slice none 0 0] 26)).heap.size = w.heap.size + 2 := by simp
  have HSz := Lib.hid hsz
  have hx1 := Box.new (w.alloc (.cells #[.int .i64 L, .slice E 0 ce] 26)) 26 #[.int .i64 0, .slice none 0 0]
  rw [World.size_alloc] at hx1
  have HX1 := Lib.hid hx1
  have HX0 := Lib.hid ((Box.new w 26 #[.int .i64 L, .slice E 0 ce]).alloc (.cells #[.int .i64 0, .slice none 0 0] 26))
  have hg := (hgl.alloc (.cells #[.int .i64 L, .slice E 0 ce] 26)).alloc (.cells #[.int .i64 0, .slice none 0 0] 26)
  have HG := Lib.hid hg
  have HK := Lib.hid (kind_any (n : Int) _ hg)
  rw [decide_eq_true (show (0 : Int) ≤ (n : Int) ∧ (n : Int) ≤ 2 by omega)] at HK
  have HC := Lib.hid (again_nil L E ce ((w.alloc (.cells #[.int .i64 L, .slice E 0 ce] 26)).alloc (.cells #[.int .i64 0, .slice none 0 0] 26)))
  clear hg hx1 hsz hgl 
  go_enter Tryd.func13, Tryd.ntmps13
  go_wp2_with (go_at_call 15; refine HK.out.mono ?_; rintro e' w' ⟨rfl, rfl⟩)
  go_wp2_with (go_at_call 30; refine HC.out.mono ?_; rintro e' w1 ⟨rfl, hB1⟩; have HB1 := Lib.hid hB1; obtain ⟨t0, t1, k0, k1⟩ := box2 (HX1.out.below hB1 (by have := HSz.out; omega)); clear hB1)
  have hs1 := HB1.out.size
  have hs2 := HSz.out
  refine bodyPost_ret (v := .tuple #[.agg #[.int .i64 0, .slice none 0 0], .int .i64 0, .int .i64 11]) (by simp [results, Tryd.results13, go_sem, t0, t1]) rfl ⟨rfl, ?_⟩
  exact ((HB2.out.trans (HB1.out.mono (by omega))).setCell (by show w.heap.size ≤ w.heap.size + 1; omega) _).setCell (by show w.heap.size ≤ w.heap.size + 1; omega) _
set_option maxRecDepth 100000 in
set_option maxHeartbeats 1000000 in
theorem read3_any {B n ne ce m c lo hi : Nat} {A : Option Addr} {E : Addr} {w : World} {es : List En} (L : Int) (hgl : Glob B w) (hn : n < 3) (hd : DatR 3 ecell w lo hi (some E) es) (hhi : hi ≤ w.heap.size) (hm : es.length = ne) (h0 : 0 < ne) (hm2 : ne ≤ 1000000) :
    Calls Tryd.prog 13 #[.int .i64 (n : Int), .int .i64 3, .slice A m c, .agg #[.int .i64 L, .slice (some E) ne ce]] w fun e w' => ∃ v, e = .returned (.tuple #[.agg #[.int .i64 L, v], .int .i64 0, .int .i64 0]) ∧ OwR 3 ecell w' 41 w.heap.size v es ∧ Below w.heap.size w w' := by
  have HB2 : Hid (Below w.heap.size w ((w.alloc (.cells #[.int .i64 L, .slice (some E) ne ce] 26)).alloc (.cells #[.int .i64 0, .slice none 0 0] 26))) := ((Below.refl _ _).alloc (Nat.le_refl _) _).alloc (by simp) _
  have hsz : ((w.alloc (.cells #[.int .i64 L, .slice (some E) ne ce] 26)).alloc (.cells #[.int .i64 0, .slice none 0 0] 26)).heap.size = w.heap.size + 2 := by simp
  have HSz := Lib.hid hsz
  have hx1 := Box.new (w.alloc (.cells #[.int .i64 L, .slice (some E) ne ce] 26)) 26 #[.int .i64 0, .slice none 0 0]
  rw [World.size_alloc] at hx1
  have HX1 := Lib.hid hx1
  have HX0 := Lib.hid ((Box.new w 26 #[.int .i64 L, .slice (some E) ne ce]).alloc (.cells #[.int .i64 0, .slice none 0 0] 26))
  have hg := (hgl.alloc (.cells #[.int .i64 L, .slice (some E) ne ce] 26)).alloc (.cells #[.int .i64 0, .slice none 0 0] 26)
  have HG := Lib.hid hg
  have HK := Lib.hid (kind_any (n : Int) _ hg)
  rw [decide_eq_true (show (0 : Int) ≤ (n : Int) ∧ (n : Int) ≤ 2 by omega)] at HK
  have HC := Lib.hid (again_any (c := ce) L ((hd.alloc hhi (.cells #[.int .i64 L, .slice (some E) ne ce] 26)).alloc (by simp; omega) (.cells #[.int .i64 0, .slice none 0 0] 26)) (by simp; omega) hm h0 hm2)
  clear hg hx1 hsz hgl hd hm
  go_enter Tryd.func13, Tryd.ntmps13
  go_wp2_with (go_at_call 15; refine HK.out.mono ?_; rintro e' w' ⟨rfl, rfl⟩)
  go_wp2_with (go_at_call 30; refine HC.out.mono ?_; rintro e' w1 ⟨v1, rfl, ho1, hB1⟩; obtain ⟨A1, n1, c1, rfl⟩ := ho1.slice; have HO1 := Lib.hid ho1; have HB1 := Lib.hid hB1; obtain ⟨t0, t1, k0, k1⟩ := box2 (HX1.out.below hB1 (by have := HSz.out; omega)); clear ho1 hB1)
  have hs1 := HB1.out.size
  have hs2 := HSz.out
  refine bodyPost_ret (v := .tuple #[.agg #[.int .i64 L, .slice A1 n1 c1], .int .i64 0, .int .i64 0]) (by simp [results, Tryd.results13, go_sem, t0, t1]) rfl ⟨_, rfl, ?_, ?_⟩
  · refine (HO1.out.keep fun k hk => ?_).mono (by omega)
    have hk4 := (HO1.out.block k hk).1
    rw [Below.heap_setCell _ _ _ k (by show k ≠ w.heap.size + 1; omega), Below.heap_setCell _ _ _ k (by show k ≠ w.heap.size + 1; omega)]
  · exact ((HB2.out.trans (HB1.out.mono (by omega))).setCell (by show w.heap.size ≤ w.heap.size + 1; omega) _).setCell (by show w.heap.size ≤ w.heap.size + 1; omega) _
end Go.Proofs.YtpdnmhnnngcbjaaDoor
