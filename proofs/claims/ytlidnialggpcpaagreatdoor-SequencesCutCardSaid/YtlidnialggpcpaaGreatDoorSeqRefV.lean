
/- The contracts of the document's Start, Next and value, by bread. -/
import Derived.Test.YtlidnialggpcpaaGreatDoorSeqRefN
namespace Go.Proofs.YtlidnialggpcpaaGreatDoor
open Go.RowKit

/-- The document's bits that are left, by value. -/
def bval (A : Option Addr) (c : Nat) (left : Int) : Value := .agg #[.slice A left.toNat c, .int .i64 ((left.toNat : Int) - left)]
structure RBit (w : World) (hi : Nat) (A : Option Addr) (c : Nat) (xs : List UInt8) (left : Int) : Prop where
  d : DatE Value.bool w 0 hi A ((bitsOf xs).take left.toNat)
  c : left.toNat ≤ c
  b : xs.length ≤ 100000000
  le : left ≤ 8 * xs.length
  low : -100000000000 ≤ left
theorem RBit.step {w : World} {hi : Nat} {A : Option Addr} {c : Nat} {xs : List UInt8} {left left' : Int} (h : RBit w hi A c xs left) (h1 : left' ≤ left) (h2 : -100000000000 ≤ left') : RBit w hi A c xs left' := by
  refine ⟨?_, by have := h.c; omega, h.b, by have := h.le; omega, h2⟩
  have := h.d.take left'.toNat
  rw [List.take_take, Nat.min_eq_left (by omega)] at this
  exact this
theorem RBit.below {w w' : World} {hi B : Nat} {A : Option Addr} {c : Nat} {xs : List UInt8} {left : Int} (h : RBit w hi A c xs left) (hb : Below B w w') (hB : hi ≤ B) : RBit w' hi A c xs left := ⟨h.d.below hb hB, h.c, h.b, h.le, h.low⟩
theorem RBit.last {w : World} {hi : Nat} {A : Option Addr} {c : Nat} {xs : List UInt8} {left : Int} (h : RBit w hi A c xs left) (n : Int) :
    LastIs 0 hi A ((bitsOf xs).take left.toNat) left.toNat c ((left.toNat : Int) - left) n (bread xs left n).2.toNat (((bread xs left n).2.toNat : Int) - (bread xs left n).2) (bread xs left n).1 := fun W hd hhi =>
  refLast_any n hd h.c h.b hhi h.le (by have := h.low; omega)

section
variable {w : World} {hi hi2 n c cb s : Nat} {A Ab : Option Addr} {xs : List UInt8} {left : Int} {t : Tb}
theorem rstart_any (hb : RBit w hi Ab cb xs left) (hhi : hi ≤ w.heap.size) (hl : t.lg ≤ 15) :
    Calls Tryz.prog 26 #[.agg #[.int .i64 (t.lg : Int), .slice A n c], bval Ab cb left] w fun e w' =>
      e = .returned (.tuple #[bval Ab cb (bread xs left (t.lg : Int)).2, .int .i64 ((bread xs left (t.lg : Int)).1 : Int)]) ∧ Below w.heap.size w w' := by
  have hlt := bread_lt xs left t.lg
  have hp : 2 ^ t.lg ≤ 2 ^ 15 := Nat.pow_le_pow_right (by omega) hl
  exact refStart_any (t.lg : Int) hb.d hhi (by omega) (hb.last _)
theorem rnext_any {k : Nat} (hb : RBit w hi Ab cb xs left) (hhi : hi ≤ w.heap.size) (hd : DatR 3 rcell w 0 hi2 A t.es) (hhi2 : hi2 ≤ w.heap.size) (ht : TOk k t) (hn : t.es.length = n) (hs : s < n) (L : Int) :
    Calls Tryz.prog 28 #[.agg #[.int .i64 L, .slice A n c], .int .i64 (s : Int), bval Ab cb left] w fun e w' =>
      e = .returned (.tuple #[bval Ab cb (nxv xs t.es s left).2, .int .i64 ((nxv xs t.es s left).1 : Int)]) ∧ Below w.heap.size w w' := by
  obtain ⟨sy, b, e, hx, _, hb15, heb⟩ := ht.ent s (by omega)
  have hlt := bread_lt xs left b
  have hp : 2 ^ b ≤ 2 ^ 15 := Nat.pow_le_pow_right (by omega) hb15
  have hp1 : 1 ≤ 2 ^ b := Nat.one_le_two_pow
  have hsm := ht.small
  have h := refNext_any (n := n) (c := c) (A := A) L s hb.d hhi hd hhi2 hn (by omega) hs hx (by omega) (by omega) (hb.last (b : Int))
  have e1 : nxv xs t.es s left = (e + (bread xs left (b : Int)).1, (bread xs left (b : Int)).2) := by
    unfold nxv
    rw [entAt_get (by omega) hx]
  rw [e1]
  exact h
set_option maxRecDepth 100000 in
set_option maxHeartbeats 2000000 in
theorem rvalue_any {k : Nat} (hk : k < 3) (hb : RBit w hi Ab cb xs left) (hhi : hi ≤ w.heap.size) (hd : DatR 3 rcell w 0 hi2 A t.es) (hhi2 : hi2 ≤ w.heap.size) (ht : TOk k t) (hn : t.es.length = n) (hs : s < n) (L : Int) :
    Calls Tryz.prog 27 #[.int .i64 (k : Int), .agg #[.int .i64 L, .slice A n c], .int .i64 (s : Int), bval Ab cb left] w fun e w' =>
      e = .returned (.tuple #[bval Ab cb (cdv xs k t.es s left).2, .int .u32 ((cdv xs k t.es s left).1 : Int)]) ∧ Below w.heap.size w w' := by
  obtain ⟨sy, b, e, hx, hsyl, _, _⟩ := ht.ent s (by omega)
  obtain ⟨hcode, hcdv, hend, hadd⟩ := cdv_lt xs hk (by omega) hx hsyl left
  have hlt32 := bread_lt xs left (cd.addN k sy)
  rw [hcdv]
  unfold bval
  have hlst := hb.last (cd.addN k sy : Int)
  have hbd := hb.d
  obtain ⟨MM, hMM⟩ : ∃ MM, MM = left.toNat := ⟨_, rfl⟩
  obtain ⟨KK, hKK⟩ : ∃ KK, KK = (left.toNat : Int) - left := ⟨_, rfl⟩
  rw [← hKK, ← hMM] at hlst
  rw [← hMM] at hbd
  rw [← hKK, ← hMM]
  obtain ⟨W, hW⟩ : ∃ W, W = ((w.alloc (.cells #[.int .i64 L, .slice A n c] 35)).alloc (.cells #[.slice Ab MM cb, .int .i64 KK] 77)).alloc (.cells #[.slice none 0 0, .int .i64 0] 77) := ⟨_, rfl⟩
  have hbl : Below w.heap.size w W := by rw [hW]; exact (((Below.refl _ _).alloc (Nat.le_refl _) _).alloc (by simp) _).alloc (by simp; omega) _
  have hWs : W.heap.size = w.heap.size + 3 := by rw [hW]; simp
  have hx0 : Box W w.heap.size 35 #[.int .i64 L, .slice A n c] := by rw [hW]; exact ((Box.new w _ _).alloc _).alloc _
  have hx1 : Box W (w.heap.size + 1) 77 #[.slice Ab MM cb, .int .i64 KK] := by
    rw [hW]
    have := Box.new (w.alloc (.cells #[.int .i64 L, .slice A n c] 35)) 77 #[.slice Ab MM cb, .int .i64 KK]
    rw [World.size_alloc] at this
    exact this.alloc _
  have hx2 : Box W (w.heap.size + 1 + 1) 77 #[.slice none 0 0, .int .i64 0] := by
    rw [hW]
    have := Box.new ((w.alloc (.cells #[.int .i64 L, .slice A n c] 35)).alloc (.cells #[.slice Ab MM cb, .int .i64 KK] 77)) 77 #[.slice none 0 0, .int .i64 0]
    rw [World.size_alloc, World.size_alloc] at this
    exact this
  obtain ⟨d, o, rfl, _, _, hc⟩ := (hd.below hbl hhi2).ref (by omega)
  have e0 := (hc s (by omega)).1
  rw [hx] at e0
  dsimp only at e0
  have HCc : Hid (∀ W', Calls Tryz.prog 62 #[.int .i64 (k : Int), .int .i64 (sy : Int)] W' fun e w' => e = .returned (.tuple #[.int .u32 (cd.beginN k sy : Int), .int .i64 (cd.addN k sy : Int), .int .i64 0]) ∧ Below W'.heap.size W' w') := fun W' => by
    have := cd.refCode_any (k : Int) (sy : Int) W'
    rw [hcode] at this
    exact this
  have hsi : (s : Int) < (n : Int) := by omega
  have HB := Lib.hid (hbd.below hbl hhi)
  have HLs := Lib.hid hlst
  have HBl := Lib.hid hbl
  have HX0 := Lib.hid hx0
  have HX1 := Lib.hid hx1
  have HX2 := Lib.hid hx2
  have HWs := Lib.hid hWs
  obtain ⟨q0, q1, _, _⟩ := box2 hx0
  generalize cd.beginN k sy = bg at *
  generalize cd.addN k sy = ad at *
  obtain ⟨Y, hY⟩ : ∃ Y, Y = (bread xs left (ad : Int)).1 := ⟨_, rfl⟩
  obtain ⟨l2, hl2⟩ : ∃ l2, l2 = (bread xs left (ad : Int)).2 := ⟨_, rfl⟩
  rw [← hY, ← hl2] at HLs ⊢
  obtain ⟨M2, hM2⟩ : ∃ M2, M2 = l2.toNat := ⟨_, rfl⟩
  obtain ⟨K2, hK2⟩ : ∃ K2, K2 = (l2.toNat : Int) - l2 := ⟨_, rfl⟩
  rw [← hK2, ← hM2] at HLs ⊢
  rw [← hY] at hlt32
  have hw1 : IntKind.u32.wrap (Y : Int) = (Y : Int) := by rw [IntKind.wrap_u32']; omega
  have hw2 : IntKind.u32.wrap ((bg : Int) + (Y : Int)) = (bg : Int) + (Y : Int) := by rw [IntKind.wrap_u32']; omega
  clear hlst hbd hMM hKK hM2 hK2 hb hd hc hx hcode hcdv hend hlt32 hbl hx0 hx1 hx2 hY hl2 hn hWs
  go_enter Tryz.func27, Tryz.ntmps27
  go_upto_region 1 with (fail)
  rw [← hW]
  clear hW
  go_wp2_with fail
  refine (HCc.out _).mono ?_
  rintro e1 w1 ⟨rfl, hB1⟩
  have hb1 := HBl.out.trans (hB1.mono (by have := HWs.out; omega))
  have y1 := HX1.out.below hB1 (by have := HWs.out; omega)
  have HY2 := Lib.hid (HX2.out.below hB1 (by have := HWs.out; omega))
  have HLc := Lib.hid (HLs.out w1 (HB.out.below hB1 (by have := HWs.out; omega)) (by have := hB1.size; have := HWs.out; omega))
  have HY1 := Lib.hid y1
  have HB1 := Lib.hid hb1
  have hz1 := hB1.size
  obtain ⟨u0, u1, f0, f1⟩ := box2 y1
  clear hB1 hb1 y1 q0 q1 e0 HX0 HX1 HX2 HCc HLs
  go_wp2_with fail
  refine HLc.out.mono ?_
  rintro e1 w2 ⟨rfl, hB2⟩
  have hb2 := HB1.out.trans (hB2.mono HB1.out.size)
  have y1 := HY1.out.below hB2 (by have := HWs.out; omega)
  have y2 := HY2.out.below hB2 (by have := HWs.out; omega)
  have HB2 := Lib.hid hb2
  obtain ⟨v0, v1, g0, g1⟩ := box2 y1
  obtain ⟨t0, t1, h0, h1⟩ := box2 y2
  have hne : w.heap.size + 1 + 1 ≠ w.heap.size + 1 := by omega
  clear hB2 hb2 y1 y2 u0 u1 f0 f1
  go_wp2_with fail
  refine bodyPost_ret (v := .tuple #[.agg #[.slice Ab M2 cb, .int .i64 K2], .int .u32 ((bg : Int) + (Y : Int))]) (by simp [results, Tryz.results27, go_sem, t0, t1]) rfl ⟨by rw [Int.natCast_add], ?_⟩
  exact (((HB2.out.setCell (by show w.heap.size ≤ w.heap.size + 1; omega) _).setCell (by show w.heap.size ≤ w.heap.size + 1; omega) _).setCell (by show w.heap.size ≤ w.heap.size + 1 + 1; omega) _).setCell (by show w.heap.size ≤ w.heap.size + 1 + 1; omega) _
end
end Go.Proofs.YtlidnialggpcpaaGreatDoor
