/- An argument of type []Piece: a list of numbers with how many bits they have. -/
import Derived.Test.YtomimpapdighhaaArgs
import Derived.Test.YtomimpapdighhaaBitPlain
import Derived.Deep.Slices
import Derived.Deep.Fields
import Derived.ChangeSame
namespace Go.Proofs.Ytomimpapdighhaa
open Go.ChangeShapes Go.WideShapes Go.ChangeAt Go.RowKit Go.Deep

/-- A piece: a number, how many bits. -/
structure Pce where
  x : Nat
  n : Int

/-- The piece r lies in the two cells from offset o of block b on. -/
structure PceAt (w : World) (b o : Nat) (r : Pce) : Prop where
  c0 : w.cell? ⟨b, o, none⟩ = some (.int .u64 (r.x : Int))
  c1 : w.cell? ⟨b, o + 1, none⟩ = some (.int .i64 r.n)
  wx : r.x < 18446744073709551616
  wn : -9223372036854775808 ≤ r.n ∧ r.n ≤ 9223372036854775807

/-- A slice at a of pieces. -/
def Pcs (w : World) (a : Option Addr) (rs : List Pce) : Prop :=
  0 < rs.length → ∃ b o, a = some ⟨b, o, none⟩ ∧ b < w.heap.size ∧ ∀ i (h : i < rs.length), PceAt w b (o + i * 2) rs[i]

theorem PceAt.below {w w' : World} {b o : Nat} {r : Pce} (h : PceAt w b o r) (hb : Below w.heap.size w w') (hl : b < w.heap.size) : PceAt w' b o r :=
  ⟨(hb.cell (p := ⟨b, o, none⟩) hl).trans h.c0, (hb.cell (p := ⟨b, o + 1, none⟩) hl).trans h.c1, h.wx, h.wn⟩

theorem pieces_of {H : Type} {enc : TypeId × Value → H} {W : World} {a : Option Addr} {len cap : Nat} {d : DataW H} {p : List MemPlace}
    (h : ∃ fuel, DataW.trod enc Try.prog W 0 (fun _ => true) true fuel 53 (Value.cells (.slice a len cap)).toList = some (d, p)) :
    ∃ rs : List Pce, rs.length = len ∧ len ≤ cap ∧ cap ≤ maxLen ∧ Pcs W a rs := by
  obtain ⟨fuel, h⟩ := h
  rcases open_slice Try.underlying53 h with ⟨hcs, _⟩ | ⟨ad, l, c, m, n, D, Pl, hcs, _, hl, hm, hmm, _, hi⟩
  · simp [Value.cells] at hcs
    obtain ⟨h1, h2, h3⟩ := hcs
    subst h1 h2 h3
    exact ⟨[], rfl, Nat.le_refl _, Nat.zero_le _, fun h => absurd h (by simp)⟩
  · simp [Value.cells] at hcs
    obtain ⟨h1, h2, h3⟩ := hcs
    subst h1 h2 h3
    have hlm : len ≤ m := by rw [hmm]; split <;> omega
    have hC : Try.prog.cellsOf 58 = 2 := by kernel_rfl
    rw [hC] at hi
    have hlist := list_of len (fun i (r : Pce) => (W.cell? (ad.add (i * 2)) = some (.int .u64 (r.x : Int)) ∧ W.cell? (ad.add (i * 2 + 1)) = some (.int .i64 r.n)) ∧ r.x < 18446744073709551616 ∧ (-9223372036854775808 ≤ r.n ∧ r.n ≤ 9223372036854775807)) (fun i hil => by
      obtain ⟨cs', hc', ht'⟩ := hi i (by omega)
      obtain ⟨ys, n', _, _, _, hyl, hf⟩ := DataW.trod_struct Try.underlying58 ht'
      obtain ⟨_, hcl, hat⟩ := World.cells?_some hc'
      have hyl2 : ys.length = 2 := hyl
      match cs', hcl with
      | [e0, e1], _ =>
        match ys, hyl2 with
        | [y0, y1], _ =>
          have k30 : Try.prog.cellsOf 33 = 1 := by kernel_rfl
          have k3 : Try.prog.cellsOf 3 = 1 := by kernel_rfl
          have f0 : DataW.trod enc Try.prog W 0 (fun _ => true) true n' 33 (([e0, e1].drop 0).take (Try.prog.cellsOf 33)) = some y0 := hf 0 _ rfl
          have f1 : DataW.trod enc Try.prog W 0 (fun _ => true) true n' 3 (([e0, e1].drop 1).take (Try.prog.cellsOf 3)) = some y1 := hf 1 _ rfl
          rw [k30] at f0
          rw [k3] at f1
          obtain ⟨n0, g0, _, w0⟩ := DataW.trod_int Try.underlying33 (x := y0) f0
          obtain ⟨n1, g1, _, w1⟩ := DataW.trod_int Try.underlying3 (x := y1) f1
          have a0 : W.cell? (ad.add (i * 2)) = some e0 := by have := hat 0 (by omega); rw [add_add] at this; exact this
          have a1 : W.cell? (ad.add (i * 2 + 1)) = some e1 := by have := hat 1 (by omega); rw [add_add] at this; exact this
          injection g0 with g0
          injection g1 with g1
          have x0 := u64_bounds w0
          have x1 := int_bounds w1
          exact ⟨⟨n0.toNat, n1⟩, ⟨a0.trans (by rw [g0]; simp; omega), a1.trans (by rw [g1])⟩, by show n0.toNat < _; omega, x1⟩)
    obtain ⟨rs, hrl, hrs⟩ := hlist
    refine ⟨rs, hrl, hl, hm, fun hpos => ?_⟩
    obtain ⟨b, o, spot⟩ := ad
    have hspot : spot = none := by simpa [Addr.add] using World.cell?_spot (hrs 0 hpos).1.1
    subst hspot
    have hb := World.block_lt_of_cell? W _ (hrs 0 hpos).1.1
    refine ⟨b, o, rfl, by simpa [Addr.add] using hb, fun i hil => ?_⟩
    obtain ⟨⟨q0, q1⟩, q4, q5⟩ := hrs i hil
    rw [Go.WideShapes.add_plain] at q0 q1
    exact ⟨q0, q1, q4, q5⟩
end Go.Proofs.Ytomimpapdighhaa
