
/- The contracts of the document's Start and Next. -/
import Derived.Test.YtchpaeelpaicbaaFseRead
import Derived.Deep.RegionWith
import Derived.RegionTactic
import Derived.ChangeAlike
namespace Go.Proofs.Ytchpaeelpaicbaa
open Go.RowKit

/-- What the document's Last answers, wherever its bits are. -/
def LastIs (lo hi : Nat) (Ab : Option Addr) (bits : List Bool) (M cb : Nat) (LK n : Int) (M2 : Nat) (LK2 : Int) (X : Nat) : Prop :=
  ∀ W, DatE Value.bool W lo hi Ab bits → hi ≤ W.heap.size → Calls Try.prog 38 #[.agg #[.slice Ab M cb, .int .i64 LK], .int .i64 n] W fun e w' =>
    e = .returned (.tuple #[.agg #[.slice Ab M2 cb, .int .i64 LK2], .int .u64 (X : Int)]) ∧ Below W.heap.size W w'

section
variable {w : World} {lo hi n c M cb M2 X : Nat} {A Ab : Option Addr} {bits : List Bool} {LK LK2 : Int}
set_option maxRecDepth 100000 in
set_option maxHeartbeats 1000000 in
theorem refStart_any (L : Int) (hd : DatE Value.bool w lo hi Ab bits) (hhi : hi ≤ w.heap.size) (hX : X < 32768) (hl : LastIs lo hi Ab bits M cb LK L M2 LK2 X) :
    Calls Try.prog 18 #[.agg #[.int .i64 L, .slice A n c], .agg #[.slice Ab M cb, .int .i64 LK]] w fun e w' =>
      e = .returned (.tuple #[.agg #[.slice Ab M2 cb, .int .i64 LK2], .int .i64 (X : Int)]) ∧ Below w.heap.size w w' := by
  have hw : IntKind.i64.wrap (X : Int) = (X : Int) := IntWalk.i64_in _ (by omega)
  have HD := Lib.hid hd
  have HL := Lib.hid hl
  clear hd hl
  go_enter Try.func18, Try.ntmps18
  go_wp2_with fail
  have hb0 := ((Box.new w 34 #[.int .i64 L, .slice A n c]).alloc (.cells #[.slice Ab M cb, .int .i64 LK] 49)).alloc (.cells #[.slice none 0 0, .int .i64 0] 49)
  have hb1 := (Box.new (w.alloc (.cells #[.int .i64 L, .slice A n c] 34)) 49 #[.slice Ab M cb, .int .i64 LK]).alloc (.cells #[.slice none 0 0, .int .i64 0] 49)
  have hb2 := Box.new ((w.alloc (.cells #[.int .i64 L, .slice A n c] 34)).alloc (.cells #[.slice Ab M cb, .int .i64 LK] 49)) 49 #[.slice none 0 0, .int .i64 0]
  rw [World.size_alloc] at hb1
  rw [World.size_alloc, World.size_alloc] at hb2
  have H1 := Lib.hid hb1
  have H2 := Lib.hid hb2
  have HB : Hid (Below w.heap.size w (((w.alloc (.cells #[.int .i64 L, .slice A n c] 34)).alloc (.cells #[.slice Ab M cb, .int .i64 LK] 49)).alloc (.cells #[.slice none 0 0, .int .i64 0] 49))) := (((Below.refl _ _).alloc (Nat.le_refl _) _).alloc (by simp) _).alloc (by simp; omega) _
  clear hb0 hb1 hb2
  generalize ((w.alloc (.cells #[.int .i64 L, .slice A n c] 34)).alloc (.cells #[.slice Ab M cb, .int .i64 LK] 49)).alloc (.cells #[.slice none 0 0, .int .i64 0] 49) = W at *
  refine (HL.out W (HD.out.below HB.out hhi) (by have := HB.out.size; omega)).mono ?_
  rintro e w1 ⟨rfl, hB⟩
  have H1' := Lib.hid (H1.out.below hB H1.out.lt)
  have H2' := Lib.hid (H2.out.below hB H2.out.lt)
  have HB' := Lib.hid (HB.out.trans (hB.mono HB.out.size))
  obtain ⟨b0, b1, f0, f1⟩ := box2 H1'.out
  obtain ⟨r0, r1, g0, g1⟩ := box2 H2'.out
  clear hB H1 H2 HB HD HL
  go_wp2_with fail
  refine bodyPost_ret (v := .tuple #[.agg #[.slice Ab M2 cb, .int .i64 LK2], .int .i64 (X : Int)]) (by simp [results, Try.results18, go_sem, r0, r1]) rfl ⟨rfl, ?_⟩
  have hs := HB'.out.size
  exact (((HB'.out.setCell (by show w.heap.size ≤ w.heap.size + 1; omega) _).setCell (by show w.heap.size ≤ w.heap.size + 1; omega) _).setCell (by show w.heap.size ≤ w.heap.size + 1 + 1; omega) _).setCell (by show w.heap.size ≤ w.heap.size + 1 + 1; omega) _
set_option maxRecDepth 100000 in
set_option maxHeartbeats 2000000 in
theorem refNext_any {lo2 hi2 : Nat} {es : List En} (L : Int) (s : Nat) {sy b e : Nat} (hd : DatE Value.bool w lo hi Ab bits) (hhi : hi ≤ w.heap.size) (hde : DatR 3 rcell w lo2 hi2 A es) (hhi2 : hi2 ≤ w.heap.size) (hn : es.length = n) (hn2 : n ≤ 65536) (hs : s < n) (hx : es[s]'(by omega) = ⟨sy, b, e⟩) (he : e ≤ 65536) (hX : X < 32768) (hl : LastIs lo hi Ab bits M cb LK (b : Int) M2 LK2 X) :
    Calls Try.prog 22 #[.agg #[.int .i64 L, .slice A n c], .int .i64 (s : Int), .agg #[.slice Ab M cb, .int .i64 LK]] w fun r w' =>
      r = .returned (.tuple #[.agg #[.slice Ab M2 cb, .int .i64 LK2], .int .i64 ((e + X : Nat) : Int)]) ∧ Below w.heap.size w w' := by
  have hw : IntKind.i64.wrap (X : Int) = (X : Int) := IntWalk.i64_in _ (by omega)
  have hw2 : IntKind.i64.wrap ((e : Int) + (X : Int)) = (e : Int) + (X : Int) := IntWalk.i64_in _ (by omega)
  have hsi : decide ((n : Int) ≤ (s : Int)) = false := by simp; omega
  have hsl : (s : Int) < (n : Int) := by omega
  have hs0 : (0 : Int) ≤ (s : Int) := by omega
  obtain ⟨d, o, rfl, _, hd2, hc⟩ := hde.ref (by omega)
  obtain ⟨e0, e1, e2⟩ := hc s (by omega)
  rw [hx] at e0 e1 e2
  simp only at e0 e1 e2
  have HD := Lib.hid hd
  have HL := Lib.hid hl
  have HE := Lib.hid (And.intro e0 (And.intro e1 e2))
  have hb0 := ((Box.new w 34 #[.int .i64 L, .slice (some ⟨d, o, none⟩) n c]).alloc (.cells #[.slice Ab M cb, .int .i64 LK] 49)).alloc (.cells #[.slice none 0 0, .int .i64 0] 49)
  have hb1 := (Box.new (w.alloc (.cells #[.int .i64 L, .slice (some ⟨d, o, none⟩) n c] 34)) 49 #[.slice Ab M cb, .int .i64 LK]).alloc (.cells #[.slice none 0 0, .int .i64 0] 49)
  have hb2 := Box.new ((w.alloc (.cells #[.int .i64 L, .slice (some ⟨d, o, none⟩) n c] 34)).alloc (.cells #[.slice Ab M cb, .int .i64 LK] 49)) 49 #[.slice none 0 0, .int .i64 0]
  rw [World.size_alloc] at hb1
  rw [World.size_alloc, World.size_alloc] at hb2
  have H0 := Lib.hid hb0
  have H1 := Lib.hid hb1
  have H2 := Lib.hid hb2
  have HB : Hid (Below w.heap.size w (((w.alloc (.cells #[.int .i64 L, .slice (some ⟨d, o, none⟩) n c] 34)).alloc (.cells #[.slice Ab M cb, .int .i64 LK] 49)).alloc (.cells #[.slice none 0 0, .int .i64 0] 49))) := (((Below.refl _ _).alloc (Nat.le_refl _) _).alloc (by simp) _).alloc (by simp; omega) _
  clear hd hde hl hc hx e0 e1 e2 hb0 hb1 hb2
  go_enter Try.func22, Try.ntmps22
  go_upto_region 3 with (fail)
  generalize ((w.alloc (.cells #[.int .i64 L, .slice (some ⟨d, o, none⟩) n c] 34)).alloc (.cells #[.slice Ab M cb, .int .i64 LK] 49)).alloc (.cells #[.slice none 0 0, .int .i64 0] 49) = W at *
  obtain ⟨t0, t1, _, _⟩ := box2 H0.out
  obtain ⟨b0, b1, f0, f1⟩ := box2 H1.out
  have e1 := (HB.out.cell (p := ⟨d, o + s * 3 + 1, none⟩) (by show d < w.heap.size; omega)).trans HE.out.2.1
  have HLW := Lib.hid (HL.out W.drew (HD.out.below HB.out.drew hhi) (by have := HB.out.size; show hi ≤ W.heap.size; omega))
  have hsW := HB.out.size
  have hbW := H2.out.lt
  go_region_with (go_at_call 38; refine HLW.out.mono ?_; rintro e' wn ⟨rfl, hB⟩; have HBn : Hid (Below W.heap.size W wn) := (⟨hB.os, hB.tape, hB.output, hB.size, hB.block⟩ : Below W.heap.size W wn); obtain ⟨c0, c1, k0, k1⟩ := box2 (H1.out.below HBn.out (by omega)); clear hB)
  all_goals
    have H1n : Hid (Box ((wn.setCell ⟨w.heap.size + 1, 0, none⟩ (.slice Ab M2 cb)).setCell ⟨w.heap.size + 1, 1, none⟩ (.int .i64 LK2)) (w.heap.size + 1) 49 #[.slice Ab M2 cb, .int .i64 LK2]) :=
      ((H1.out.below HBn.out (by omega)).put 0 _).put 1 _
    have H0n : Hid (Box ((wn.setCell ⟨w.heap.size + 1, 0, none⟩ (.slice Ab M2 cb)).setCell ⟨w.heap.size + 1, 1, none⟩ (.int .i64 LK2)) w.heap.size 34 #[.int .i64 L, .slice (some ⟨d, o, none⟩) n c]) :=
      ((H0.out.below HBn.out (by omega)).far (by show w.heap.size ≠ w.heap.size + 1; omega) _).far (by show w.heap.size ≠ w.heap.size + 1; omega) _
    have H2n : Hid (Box ((wn.setCell ⟨w.heap.size + 1, 0, none⟩ (.slice Ab M2 cb)).setCell ⟨w.heap.size + 1, 1, none⟩ (.int .i64 LK2)) (w.heap.size + 1 + 1) 49 #[.slice none 0 0, .int .i64 0]) :=
      ((H2.out.below HBn.out (by omega)).far (by show w.heap.size + 1 + 1 ≠ w.heap.size + 1; omega) _).far (by show w.heap.size + 1 + 1 ≠ w.heap.size + 1; omega) _
    have HB5 : Hid (Below w.heap.size w ((wn.setCell ⟨w.heap.size + 1, 0, none⟩ (.slice Ab M2 cb)).setCell ⟨w.heap.size + 1, 1, none⟩ (.int .i64 LK2))) :=
      ((HB.out.trans (HBn.out.mono hsW)).setCell (by show w.heap.size ≤ w.heap.size + 1; omega) _).setCell (by show w.heap.size ≤ w.heap.size + 1; omega) _
    clear c0 c1 k0 k1 t0 t1 b0 b1 f0 f1 e1
    generalize (wn.setCell ⟨w.heap.size + 1, 0, none⟩ (.slice Ab M2 cb)).setCell ⟨w.heap.size + 1, 1, none⟩ (.int .i64 LK2) = w5 at *
    obtain ⟨t0, t1, _, _⟩ := box2 H0n.out
    obtain ⟨b0, b1, _, _⟩ := box2 H1n.out
    obtain ⟨r0, r1, g0, g1⟩ := box2 H2n.out
    have e2 := (HB5.out.cell (p := ⟨d, o + s * 3 + 2, none⟩) (by show d < w.heap.size; omega)).trans HE.out.2.2
    go_wp2_with fail
    go_region
    all_goals
      go_wp2_with fail
      refine bodyPost_ret (v := .tuple #[.agg #[.slice Ab M2 cb, .int .i64 LK2], .int .i64 ((e + X : Nat) : Int)]) (by simp [results, Try.results22, go_sem, r0, r1]) rfl ⟨rfl, ?_⟩
      first
        | exact ((HB5.out.drew.setCell (by show w.heap.size ≤ w.heap.size + 1 + 1; omega) _).setCell (by show w.heap.size ≤ w.heap.size + 1 + 1; omega) _)
        | exact ((HB5.out.setCell (by show w.heap.size ≤ w.heap.size + 1 + 1; omega) _).setCell (by show w.heap.size ≤ w.heap.size + 1 + 1; omega) _).drew
end
end Go.Proofs.Ytchpaeelpaicbaa
