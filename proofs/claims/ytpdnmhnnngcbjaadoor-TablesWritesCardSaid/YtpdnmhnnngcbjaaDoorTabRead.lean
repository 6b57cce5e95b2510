
/- The contracts of the program's readSingle and readAgain. -/
import Derived.Test.YtpdnmhnnngcbjaaDoorTabProg
namespace Go.Proofs.YtpdnmhnnngcbjaaDoor
open Go.RowKit

theorem quiet_t {P : Program} {f : FuncId} {args : Array Value} {w : World} {n : Nat} {v : Value}
    (h : Calls P f args (w.drewN n) fun e w' => e = .returned v ∧ w.drewN n = w') : Calls P f args (w.drewN n) fun e w'' => e = .returned v ∧ ∃ m, w'' = w.drewN m :=
  h.mono fun _ _ ⟨he, hm⟩ => ⟨he, n, hm.symm⟩
theorem below_drewN {B : Nat} {a w : World} (h : Below B a w) (n : Nat) : Below B a (w.drewN n) := ⟨h.os, h.tape, h.output, h.size, h.block⟩

section
variable {B n m c lo hi : Nat} {w : World} {A : Option Addr} {own : Bool} {xs r : List UInt8} {z : UInt8}
theorem single_nil :
    Calls Tryd.prog 28 #[.int .i64 (n : Int), .slice A 0 c] w fun e w' => e = .returned (.tuple #[.agg #[.int .i64 0, .slice none 0 0], .int .i64 0, .int .i64 10]) ∧ Below w.heap.size w w' := by
  go_enter Tryd.func28, Tryd.ntmps28
  go_wp2_with fail
  refine bodyPost_ret (v := .tuple #[.agg #[.int .i64 0, .slice none 0 0], .int .i64 0, .int .i64 10]) (by simp [results, Tryd.results28, go_sem]) rfl ⟨rfl, ?_⟩
  exact (Below.refl _ _).alloc (Nat.le_refl _) _

set_option maxRecDepth 100000 in
set_option maxHeartbeats 1000000 in
theorem single_big (hgl : Glob B w) (hn : n < 3) (hd : Dat own w lo hi A xs) (hhi : hi ≤ w.heap.size) (hx : xs = z :: r) (hm : xs.length = m) (hz : lastN n < z.toNat) :
    Calls Tryd.prog 28 #[.int .i64 (n : Int), .slice A m c] w fun e w' => e = .returned (.tuple #[.agg #[.int .i64 0, .slice none 0 0], .int .i64 0, .int .i64 11]) ∧ Below w.heap.size w w' := by
  have HL : Hid (∀ W, Glob B W → Calls Tryd.prog 31 #[.int .i64 (n : Int)] W fun e w' => e = .returned (.int .i64 (lastN n : Int)) ∧ W = w') := fun W hW => by
    have := last_any (n : Int) W hW
    rwa [lastZ_nat hn] at this
  have HG := Lib.hid (hgl.alloc (.cells #[.int .i64 0, .slice none 0 0] 26))
  have hd1 := hd.alloc hhi (.cells #[.int .i64 0, .slice none 0 0] 26)
  subst hx
  obtain ⟨d, o, rfl, _, _, hc⟩ := hd1 (by simp)
  have q : World.cell? _ ⟨d, o, none⟩ = some (.int .u8 (z.toNat : Int)) := hc.1 0 (by simp)
  have hm1 : m = r.length + 1 := by rw [← hm]; rfl
  have hz8 := z.toNat_lt
  have HX := Lib.hid (Box.new w 26 #[.int .i64 0, .slice none 0 0])
  generalize lastN n = l at *
  generalize z.toNat = y at *
  have hm0 : ¬ (m : Int) = 0 := by omega
  have hmp : (0 : Int) < (m : Int) := by omega
  have hlz : (l : Int) < (y : Int) := by omega
  clear hgl hd hd1 hc hm hm1
  go_enter Tryd.func28, Tryd.ntmps28
  go_wp2_with fail
  go_quiet ((go_at_call 31; exact quiet_t (HL.out ((w.alloc (.cells #[.int .i64 0, .slice none 0 0] 26)).drewN _) HG.out)))
  obtain ⟨t0, t1, k0, k1⟩ := box2 HX.out
  go_wp2
  refine bodyPost_ret (v := .tuple #[.agg #[.int .i64 0, .slice none 0 0], .int .i64 0, .int .i64 11]) (by simp [results, Tryd.results28, go_sem]) rfl ⟨rfl, ?_⟩
  exact ((below_drewN ((Below.refl _ _).alloc (Nat.le_refl _) _) _).setCell (Nat.le_refl _) _).setCell (Nat.le_refl _) _

set_option maxRecDepth 100000 in
set_option maxHeartbeats 1000000 in
theorem single_ok (hgl : Glob B w) (hn : n < 3) (hd : Dat own w lo hi A xs) (hhi : hi ≤ w.heap.size) (hx : xs = z :: r) (hm : xs.length = m) (hz : z.toNat ≤ lastN n) :
    Calls Tryd.prog 28 #[.int .i64 (n : Int), .slice A m c] w fun e w' => ∃ v, e = .returned (.tuple #[.agg #[.int .i64 0, v], .int .i64 1, .int .i64 0]) ∧ OwR 3 ecell w' 41 w.heap.size v [⟨(z.toNat : Int), 0, 0⟩] ∧ Below w.heap.size w w' := by
  have HL : Hid (∀ W, Glob B W → Calls Tryd.prog 31 #[.int .i64 (n : Int)] W fun e w' => e = .returned (.int .i64 (lastN n : Int)) ∧ W = w') := fun W hW => by
    have := last_any (n : Int) W hW
    rwa [lastZ_nat hn] at this
  have HG := Lib.hid (hgl.alloc (.cells #[.int .i64 0, .slice none 0 0] 26))
  have hd1 := hd.alloc hhi (.cells #[.int .i64 0, .slice none 0 0] 26)
  subst hx
  obtain ⟨d, o, rfl, _, _, hc⟩ := hd1 (by simp)
  have q : World.cell? _ ⟨d, o, none⟩ = some (.int .u8 (z.toNat : Int)) := hc.1 0 (by simp)
  have hm1 : m = r.length + 1 := by rw [← hm]; rfl
  have hz8 := z.toNat_lt
  have HX := Lib.hid (Box.new w 26 #[.int .i64 0, .slice none 0 0])
  generalize lastN n = l at *
  generalize z.toNat = y at *
  have hm0 : ¬ (m : Int) = 0 := by omega
  have hmp : (0 : Int) < (m : Int) := by omega
  have hlz : decide ((l : Int) < (y : Int)) = false := by simp; omega
  have HB0 : Hid (Below w.heap.size w (w.alloc (.cells #[.int .i64 0, .slice none 0 0] 26))) := (Below.refl _ _).alloc (Nat.le_refl _) _
  have hsz : (w.alloc (.cells #[.int .i64 0, .slice none 0 0] 26)).heap.size = w.heap.size + 1 := by simp
  have HSz := Lib.hid hsz
  clear hgl hd hd1 hc hm hm1 hsz
  go_enter Tryd.func28, Tryd.ntmps28
  go_wp2_with fail
  generalize w.alloc (.cells #[.int .i64 0, .slice none 0 0] 26) = W at *
  go_quiet ((go_at_call 31; exact quiet_t (HL.out (W.drewN _) HG.out)))
  go_wp2_with (go_at_call 34; refine (one_any _ _).mono ?_; rintro e' w1 ⟨v1, rfl, ho, hB⟩; obtain ⟨A1, n1, c1, rfl⟩ := ho.slice; have HO := Lib.hid ho; have HB1 := Lib.hid (show Below W.heap.size W w1 from ⟨hB.os, hB.tape, hB.output, hB.size, hB.block⟩); obtain ⟨t0, t1, k0, k1⟩ := box2 (HX.out.below HB1.out (by have := HSz.out; omega)); clear ho hB)
  have hs := HSz.out
  go_wp2
  refine bodyPost_ret (v := .tuple #[.agg #[.int .i64 0, .slice A1 n1 c1], .int .i64 1, .int .i64 0]) (by simp [results, Tryd.results28, go_sem, t0, t1]) rfl ⟨_, rfl, ?_, ?_⟩
  · refine (HO.out.keep fun k hk => ?_).mono (show w.heap.size ≤ W.heap.size by omega)
    have hk4 : W.heap.size ≤ k := (HO.out.block k hk).1
    rw [Below.heap_setCell _ _ _ k (by show k ≠ w.heap.size; omega), Below.heap_setCell _ _ _ k (by show k ≠ w.heap.size; omega)]
  · exact ((HB0.out.trans (HB1.out.mono (by omega))).setCell (Nat.le_refl _) _).setCell (Nat.le_refl _) _

/-! Again. -/
theorem again_nil (L : Int) (A : Option Addr) (c : Nat) (w : World) :
    Calls Tryd.prog 30 #[.agg #[.int .i64 L, .slice A 0 c]] w fun e w' => e = .returned (.tuple #[.agg #[.int .i64 0, .slice none 0 0], .int .i64 0, .int .i64 11]) ∧ Below w.heap.size w w' := by
  go_enter Tryd.func30, Tryd.ntmps30
  go_wp2_with fail
  refine bodyPost_ret (v := .tuple #[.agg #[.int .i64 0, .slice none 0 0], .int .i64 0, .int .i64 11]) (by simp [results, Tryd.results30, go_sem]) rfl ⟨rfl, ?_⟩
  exact ((Below.refl _ _).alloc (Nat.le_refl _) _).alloc (by simp) _

set_option maxRecDepth 100000 in
set_option maxHeartbeats 1000000 in
theorem again_any {lo hi m c : Nat} {a : Addr} {es : List En} {w : World} (L : Int) (hd : DatR 3 ecell w lo hi (some a) es) (hhi : hi ≤ w.heap.size) (hm : es.length = m) (h0 : 0 < m) (hm2 : m ≤ 1000000) :
    Calls Tryd.prog 30 #[.agg #[.int .i64 L, .slice (some a) m c]] w fun e w' => ∃ v, e = .returned (.tuple #[.agg #[.int .i64 L, v], .int .i64 0, .int .i64 0]) ∧ OwR 3 ecell w' 41 w.heap.size v es ∧ Below w.heap.size w w' := by
  have hx0 := (Box.new w 26 #[.int .i64 L, .slice (some a) m c]).alloc (.cells #[.int .i64 0, .slice none 0 0] 26)
  have hx1 := Box.new (w.alloc (.cells #[.int .i64 L, .slice (some a) m c] 26)) 26 #[.int .i64 0, .slice none 0 0]
  rw [World.size_alloc] at hx1
  have hd2 := (hd.alloc hhi (.cells #[.int .i64 L, .slice (some a) m c] 26)).alloc (by simp; omega) (.cells #[.int .i64 0, .slice none 0 0] 26)
  have hb2 : Below w.heap.size w ((w.alloc (.cells #[.int .i64 L, .slice (some a) m c] 26)).alloc (.cells #[.int .i64 0, .slice none 0 0] 26)) := ((Below.refl _ _).alloc (Nat.le_refl _) _).alloc (by simp) _
  have hsz : ((w.alloc (.cells #[.int .i64 L, .slice (some a) m c] 26)).alloc (.cells #[.int .i64 0, .slice none 0 0] 26)).heap.size = w.heap.size + 2 := by simp
  have HX0 := Lib.hid hx0
  have HX1 := Lib.hid hx1
  have HD := Lib.hid hd2
  have HB2 := Lib.hid hb2
  have HSz := Lib.hid hsz
  have HM := Lib.hid hm
  have hm0 : ¬ (m : Int) = 0 := by omega
  clear hd hx0 hx1 hd2 hb2 hsz hm
  go_enter Tryd.func30, Tryd.ntmps30
  go_wp2_with fail
  generalize (w.alloc (.cells #[.int .i64 L, .slice (some a) m c] 26)).alloc (.cells #[.int .i64 0, .slice none 0 0] 26) = W at *
  have n0 : w.heap.size ≠ w.heap.size + 1 := by omega
  have hl0 : w.heap.size < W.heap.size := by have := HSz.out; omega
  obtain ⟨t0, t1, _, _⟩ := box2 HX0.out
  go_region_held3 (fun w' => w'.cell? ⟨w.heap.size, 0, none⟩ = some (.int .i64 L) ∧ w'.cell? ⟨w.heap.size, 1, none⟩ = some (.slice (some a) m c))
    (first | exact ⟨t0, t1⟩ | exact ⟨s0, s1⟩ | (rw [cell?_far _ _ n0, cell?_far _ _ n0, cell?_far _ _ n0, cell?_far _ _ n0]; exact ⟨s0, s1⟩) | go_keep)
    ((go_at_call 53; refine (cloneR_some (w := W.drew) (c := c) (show DatR 3 ecell W.drew lo hi (some a) es from HD.out) HM.out (by have := HM.out; omega) (by have := HSz.out; show hi ≤ W.heap.size; omega)).mono ?_; rintro e' w1 ⟨v1, rfl, ho1, hB1⟩; obtain ⟨A1, n1, c1, rfl⟩ := ho1.slice; have HO1 := Lib.hid ho1; have hB1' : Below W.heap.size W w1 := ⟨hB1.os, hB1.tape, hB1.output, hB1.size, hB1.block⟩; have HB1 := Lib.hid hB1'; have s0 := (hB1'.cell (p := ⟨w.heap.size, 0, none⟩) hl0).trans t0; have s1 := (hB1'.cell (p := ⟨w.heap.size, 1, none⟩) hl0).trans t1; obtain ⟨u0, u1, f0, f1⟩ := box2 (HX1.out.below hB1' (by have := HSz.out; omega)); clear ho1 hB1 hB1'))
  have hs1 := HB1.out.size
  have hs2 := HSz.out
  go_wp2_with fail
  refine bodyPost_ret (v := .tuple #[.agg #[.int .i64 L, .slice A1 n1 c1], .int .i64 0, .int .i64 0]) (by simp [results, Tryd.results30, go_sem, u0, u1]) rfl ⟨_, rfl, ?_, ?_⟩
  · refine (HO1.out.keep fun k hk => ?_).mono (show w.heap.size ≤ W.heap.size by omega)
    have hk4 : W.heap.size ≤ k := (HO1.out.block k hk).1
    rw [Below.heap_setCell _ _ _ k (by show k ≠ w.heap.size + 1; omega), Below.heap_setCell _ _ _ k (by show k ≠ w.heap.size + 1; omega)]
  · exact ((HB2.out.trans (HB1.out.mono (by omega))).setCell (by show w.heap.size ≤ w.heap.size + 1; omega) _).setCell (by show w.heap.size ≤ w.heap.size + 1; omega) _
end
end Go.Proofs.YtpdnmhnnngcbjaaDoor
