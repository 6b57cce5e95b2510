
/- The contracts of Start and Next, the program's and the document's, and of the document's One. -/
import Derived.Test.YtchpaeelpaicbaaFseAwake
import Derived.Test.YtchpaeelpaicbaaFseRefP
import Derived.Test.YtchpaeelpaicbaaBitBwd
import Derived.Test.YtchpaeelpaicbaaBitRefP
import Derived.Deep.RegionHeld3
namespace Go.Proofs.Ytchpaeelpaicbaa
open Go.RowKit

theorem bread_le' (xs : List UInt8) (left n : Int) : (bread xs left n).2 ≤ left ∧ left - 56 ≤ (bread xs left n).2 := by
  unfold bread
  split
  · next h =>
    have h' : 1 ≤ n ∧ n ≤ 56 := by simpa [wid] using h
    show left - n ≤ left ∧ left - 56 ≤ left - n
    omega
  · show left ≤ left ∧ left - 56 ≤ left
    omega
theorem bread_lt (xs : List UInt8) (left : Int) (n : Nat) : (bread xs left (n : Int)).1 < 2 ^ n := by
  unfold bread
  split
  · have h0 : there left (n : Int) ≤ n := by unfold there; omega
    have h1 := num_lt (((bitsOf xs).drop (left.toNat - there left (n : Int))).take (there left (n : Int)))
    have h2 : (((bitsOf xs).drop (left.toNat - there left (n : Int))).take (there left (n : Int))).length ≤ there left (n : Int) := by simp; omega
    have h3 := Nat.lt_of_lt_of_le h1 (Nat.pow_le_pow_right (by omega) h2)
    have h4 := Nat.mul_lt_mul_of_pos_right h3 (Nat.two_pow_pos ((n : Int).toNat - there left (n : Int)))
    rw [← Nat.pow_add, show there left (n : Int) + ((n : Int).toNat - there left (n : Int)) = n by omega] at h4
    exact h4
  · exact Nat.two_pow_pos _

theorem grown_alloc {w w' : World} {o : Obj} {r : Option Nat} (h : (w.alloc o).grownBy w' r) : w.grownBy w' r :=
  ⟨h.os, h.tape, h.output, by have := h.size; simp at this; omega, fun k hk hne => (h.block k (by simp; omega) hne).trans (heap_alloc_old w o hk)⟩
theorem grown_below {w w1 w' : World} {r : Option Nat} (hb : Below w.heap.size w w1) (h : w1.grownBy w' r) : w.grownBy w' r :=
  ⟨h.os.trans hb.os, h.tape.trans hb.tape, h.output.trans hb.output, Nat.le_trans hb.size h.size, fun k hk hne => (h.block k (by have := hb.size; omega) hne).trans (hb.block k hk)⟩

section
variable {w : World} {lo g : Nat} {xs : List UInt8} {left : Int} {A : Option Addr} {n c : Nat}
set_option maxRecDepth 100000 in
theorem start_any (l : Nat) (h : BW w lo g xs left) (hl : -1000000000000 ≤ left) (hl15 : l ≤ 15) :
    Calls Try.prog 17 #[.agg #[.int .i64 (l : Int), .slice A n c], .pointer (some ⟨g, 0, none⟩)] w fun e w' =>
      e = .returned (.int .i64 ((bread xs left (l : Int)).1 : Nat)) ∧ BW w' lo g xs (bread xs left (l : Int)).2 ∧ w.grownBy w' (some g) := by
  have HR := Lib.hid (bread_any (l : Int) (h.keep fun k _ hk => Below.heap_alloc w (.cells #[.int .i64 (l : Int), .slice A n c] 28) k (by have := h.lt; omega)) hl)
  have hlt := bread_lt xs left l
  have hp : 2 ^ l ≤ 2 ^ 15 := Nat.pow_le_pow_right (by omega) hl15
  generalize bread xs left (l : Int) = tt at *
  obtain ⟨X, left2⟩ := tt
  dsimp only at *
  have hX : X < 32768 := by omega
  have hw : IntKind.i64.wrap (X : Int) = (X : Int) := IntWalk.i64_in _ (by omega)
  clear h hlt hp
  go_enter Try.func17, Try.ntmps17
  go_wp2_with fail
  refine HR.out.mono ?_
  rintro e w1 ⟨rfl, hb, hs⟩
  have HB := Lib.hid hb
  have HS := Lib.hid hs
  clear hb hs
  go_wp2_with fail
  go_ret
  exact ⟨rfl, HB.out, grown_alloc HS.out.1⟩

set_option maxRecDepth 100000 in
set_option maxHeartbeats 1000000 in
theorem next_any {lo2 hi2 : Nat} {es : List En} (L : Int) (s : Nat) {sy b e : Nat} (h : BW w lo g xs left) (hl : -1000000000000 ≤ left) (hd : DatR 3 ecell w lo2 hi2 A es) (hhi : hi2 ≤ w.heap.size) (hn : es.length = n) (hn2 : n ≤ 65536) (hs : s < n) (hx : es[s]'(by omega) = ⟨sy, b, e⟩) (hb15 : b ≤ 15) (he : e ≤ 65536) :
    Calls Try.prog 21 #[.agg #[.int .i64 L, .slice A n c], .int .i64 (s : Int), .pointer (some ⟨g, 0, none⟩)] w fun r w' =>
      r = .returned (.int .i64 ((e + (bread xs left (b : Int)).1 : Nat) : Int)) ∧ BW w' lo g xs (bread xs left (b : Int)).2 ∧ w.grownBy w' (some g) := by
  have HW := Lib.hid h
  have HC := Lib.hid (isState_yes (w := w.alloc (.cells #[.int .i64 L, .slice A n c] 28)) (L := L) (A := A) (c := c) s hs)
  have hxb := Box.new w 28 #[.int .i64 L, .slice A n c]
  have HX := Lib.hid hxb
  have HD := Lib.hid hd
  have hglt := h.lt
  obtain ⟨d, o, rfl, _, hd2, hc⟩ := hd.ent (by omega)
  obtain ⟨e0, e1, e2⟩ := hc s (by omega)
  rw [hx] at e0 e1 e2
  simp only at e0 e1 e2
  have hlt := bread_lt xs left b
  have hp : 2 ^ b ≤ 2 ^ 15 := Nat.pow_le_pow_right (by omega) hb15
  have HE := Lib.hid (And.intro e0 (And.intro e1 e2))
  have hsi : (s : Int) < (n : Int) := by omega
  have HR0 := fun (W : World) (hW : BW W lo g xs left) => Lib.hid (bread_any (b : Int) hW hl)
  clear h hd hc hx hxb e0 e1 e2
  generalize bread xs left (b : Int) = tt at *
  obtain ⟨X, left2⟩ := tt
  dsimp only at *
  have hX : X < 32768 := by omega
  go_enter Try.func21, Try.ntmps21
  go_wp2_with fail
  refine HC.out.mono ?_
  rintro r w1 ⟨rfl, hB⟩
  have HB : Hid (Below w.heap.size w w1) := ((Below.refl _ _).alloc (Nat.le_refl _) _).trans (hB.mono (by simp))
  obtain ⟨t0, t1, _, _⟩ := box2 (HX.out.below hB (by simp))
  have e0 := (HB.out.cell (p := ⟨d, o + s * 3, none⟩) (by show d < w.heap.size; omega)).trans HE.out.1
  have e1 := (HB.out.cell (p := ⟨d, o + s * 3 + 1, none⟩) (by show d < w.heap.size; omega)).trans HE.out.2.1
  have e2 := (HB.out.cell (p := ⟨d, o + s * 3 + 2, none⟩) (by show d < w.heap.size; omega)).trans HE.out.2.2
  have hs1 := HB.out.size
  clear hB HC HX HE
  go_wp2_with fail
  have hbx := Box.new w1 67 #[.int .u8 (sy : Int), .int .i64 (b : Int), .int .i64 (e : Int)]
  have HBx := Lib.hid hbx
  have HB2 : Hid (Below w.heap.size w (w1.alloc (.cells #[.int .u8 (sy : Int), .int .i64 (b : Int), .int .i64 (e : Int)] 67))) := HB.out.alloc hs1 _
  have hgn : g < w1.heap.size := by omega
  clear hbx e0 e1 e2 t0 t1 HB
  generalize w1.alloc (.cells #[.int .u8 (sy : Int), .int .i64 (b : Int), .int .i64 (e : Int)] 67) = W at *
  generalize w1.heap.size = q at *
  have z1 := HBx.out.cell 1
  have z2 := HBx.out.cell 2
  simp at z1 z2
  have hqW := HBx.out.lt
  have HR := HR0 W.drew (HW.out.below HB2.out.drew hglt)
  have hw : IntKind.i64.wrap (X : Int) = (X : Int) := IntWalk.i64_in _ (by omega)
  have hw2 : IntKind.i64.wrap ((e : Int) + (X : Int)) = (e : Int) + (X : Int) := IntWalk.i64_in _ (by omega)
  have hgq : q ≠ g := by omega
  go_region_held3 (fun w' => w'.cell? ⟨q, 1, none⟩ = some (.int .i64 (b : Int)) ∧ w'.cell? ⟨q, 2, none⟩ = some (.int .i64 (e : Int))) (first | exact ⟨z1, z2⟩ | exact ⟨k1, k2⟩ | go_keep) ((go_at_call 37; refine HR.out.mono ?_; rintro e' wn ⟨rfl, hb, hs⟩; have k1 := (World.cell?_of_block (a := ⟨q, 1, none⟩) (hs.1.block q (by exact hqW) (by intro h; injection h with h; exact hgq h))).trans z1; have k2 := (World.cell?_of_block (a := ⟨q, 2, none⟩) (hs.1.block q (by exact hqW) (by intro h; injection h with h; exact hgq h))).trans z2; have HBn := Lib.hid hb; have HSn := Lib.hid hs; clear hb hs))
  all_goals
    go_wp2_with fail
    go_ret
    exact ⟨by first | rfl | (rw [Int.natCast_add]; rfl), HBn.out, grown_below (HB2.out.drew) HSn.out.1⟩
end

set_option maxRecDepth 100000 in
theorem refOne_any (sy : Int) (w : World) :
    Calls Try.prog 14 #[.int .i64 sy] w fun r w' => ∃ v, r = .returned (.agg #[.int .i64 0, v]) ∧ OwR 3 rcell w' 84 w.heap.size v [⟨sy, 0, 0⟩] ∧ Below w.heap.size w w' := by
  go_enter Try.func14, Try.ntmps14
  go_wp2_with fail
  refine bodyPost_ret (v := .agg #[.int .i64 0, .slice (some ⟨w.heap.size + 1, 0, none⟩) 1 1]) (by simp [results, Try.results14, go_sem]) rfl ⟨_, rfl, ?_, ?_⟩
  · refine ⟨rfl, .inr ⟨w.heap.size + 1, 1, #[.int .i64 sy, .int .i64 0, .int .i64 0], rfl, by omega, ?_, Nat.le_refl _, by decide, rfl, rfl⟩⟩
    have := heap_alloc_new (w.alloc (.cells #[.int .i64 0, .slice (some ⟨w.heap.size + 1, 0, none⟩) 1 1] 34)) (.cells #[.int .i64 sy, .int .i64 0, .int .i64 0] 84)
    rw [World.size_alloc] at this
    exact this
  · exact ((Below.refl _ _).alloc (Nat.le_refl _) _).alloc (by simp) _
end Go.Proofs.Ytchpaeelpaicbaa
