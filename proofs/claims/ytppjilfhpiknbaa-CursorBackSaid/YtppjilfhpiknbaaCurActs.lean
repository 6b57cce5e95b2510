/- An argument of type []Act, as the walks want it: a list of records, each with its four cells and its bytes. -/
import Derived.Test.YtppjilfhpiknbaaCurArgs
import Derived.Deep.Slices
import Derived.Deep.Fields
import Derived.ChangeSame
namespace Go.Proofs.Ytppjilfhpiknbaa
open Go.ChangeShapes Go.WideShapes Go.ChangeAt Go.RowKit Go.Deep

/-- One act: a number or bytes, a count, a number, a slice of bytes (its address, its capacity, its bytes). -/
structure Rec where
  num : Bool
  n : Int
  x : Nat
  A : Option Addr
  c : Nat
  bs : List UInt8

instance : Inhabited Rec := ⟨⟨false, 0, 0, none, 0, []⟩⟩

/-- The record r lies in the four cells from offset o of block b on. -/
structure RecAt (w : World) (b o : Nat) (r : Rec) : Prop where
  c0 : w.cell? ⟨b, o, none⟩ = some (.bool r.num)
  c1 : w.cell? ⟨b, o + 1, none⟩ = some (.int .i64 r.n)
  c2 : w.cell? ⟨b, o + 2, none⟩ = some (.int .u64 (r.x : Int))
  c3 : w.cell? ⟨b, o + 3, none⟩ = some (.slice r.A r.bs.length r.c)
  wn : -9223372036854775808 ≤ r.n ∧ r.n ≤ 9223372036854775807
  wx : r.x < 18446744073709551616
  hd : Dat false w 0 w.heap.size r.A r.bs

/-- A slice at a of len acts. -/
def Acts (w : World) (a : Option Addr) (rs : List Rec) : Prop :=
  0 < rs.length → ∃ b o, a = some ⟨b, o, none⟩ ∧ b < w.heap.size ∧ ∀ i (h : i < rs.length), RecAt w b (o + i * 4) rs[i]

theorem RecAt.below {w w' : World} {b o : Nat} {r : Rec} (h : RecAt w b o r) (hb : Below w.heap.size w w') (hl : b < w.heap.size) : RecAt w' b o r :=
  ⟨(hb.cell (p := ⟨b, o, none⟩) hl).trans h.c0, (hb.cell (p := ⟨b, o + 1, none⟩) hl).trans h.c1, (hb.cell (p := ⟨b, o + 2, none⟩) hl).trans h.c2, (hb.cell (p := ⟨b, o + 3, none⟩) hl).trans h.c3,
    h.wn, h.wx, (h.hd.below hb (Nat.le_refl _)).mono (Nat.le_refl _) hb.size⟩

/-- A list out of what is known at each place. -/
theorem list_of {α : Type} [Inhabited α] (n : Nat) (p : Nat → α → Prop) (h : ∀ i, i < n → ∃ r, p i r) : ∃ l : List α, l.length = n ∧ ∀ i (hi : i < l.length), p i l[i] := by
  induction n with
  | zero => exact ⟨[], rfl, fun i hi => absurd hi (by simp)⟩
  | succ n ih =>
    obtain ⟨l, hl, hp⟩ := ih fun i hi => h i (by omega)
    obtain ⟨r, hr⟩ := h n (by omega)
    refine ⟨l ++ [r], by simp [hl], fun i hi => ?_⟩
    by_cases hin : i < l.length
    · rw [List.getElem_append_left hin]
      exact hp i hin
    · have : i = n := by simp at hi; omega
      subst this
      rw [List.getElem_append_right (by omega)]
      simpa [hl] using hr

section
variable {H : Type} {enc : TypeId × Value → H} {w : World} {base : Nat} {held : Bool}
theorem acts_of {fuel : Nat} {a : Option Addr} {len cap : Nat} {x : DataW H × List MemPlace} (h : DataW.trod enc Try.prog w base (fun _ => true) held fuel 23 [.slice a len cap] = some x) :
    ∃ rs : List Rec, rs.length = len ∧ len ≤ cap ∧ cap ≤ maxLen ∧ Acts w a rs := by
  rcases open_slice Try.underlying23 h with ⟨hcs, _⟩ | ⟨ad, l, c, m, n, D, Pl, hcs, _, hl, hm, hmm, _, hi⟩
  · injection hcs with hcs _
    injection hcs with h1 h2 h3
    subst h1 h2 h3
    exact ⟨[], rfl, Nat.le_refl _, Nat.zero_le _, fun h => absurd h (by simp)⟩
  · injection hcs with hcs _
    injection hcs with h1 h2 h3
    subst h1 h2 h3
    have hlm : len ≤ m := by rw [hmm]; split <;> omega
    have hC : Try.prog.cellsOf 32 = 4 := by kernel_rfl
    rw [hC] at hi
    have hlist := list_of len (fun i (r : Rec) => (w.cell? (ad.add (i * 4)) = some (.bool r.num) ∧ w.cell? (ad.add (i * 4 + 1)) = some (.int .i64 r.n) ∧ w.cell? (ad.add (i * 4 + 2)) = some (.int .u64 (r.x : Int)) ∧
        w.cell? (ad.add (i * 4 + 3)) = some (.slice r.A r.bs.length r.c)) ∧ (-9223372036854775808 ≤ r.n ∧ r.n ≤ 9223372036854775807) ∧ r.x < 18446744073709551616 ∧ Dat false w 0 w.heap.size r.A r.bs) (fun i hil => by
      obtain ⟨cs', hc', ht'⟩ := hi i (by omega)
      obtain ⟨ys, n', _, _, _, hyl, hf⟩ := DataW.trod_struct Try.underlying32 ht'
      obtain ⟨_, hcl, hat⟩ := World.cells?_some hc'
      have hyl4 : ys.length = 4 := hyl
      match cs', hcl with
      | [e0, e1, e2, e3], _ =>
        match ys, hyl4 with
        | [y0, y1, y2, y3], _ =>
          have k4 : Try.prog.cellsOf 4 = 1 := by kernel_rfl
          have k3 : Try.prog.cellsOf 3 = 1 := by kernel_rfl
          have k30 : Try.prog.cellsOf 30 = 1 := by kernel_rfl
          have k22 : Try.prog.cellsOf 22 = 1 := by kernel_rfl
          have f0 : DataW.trod enc Try.prog w base (fun _ => true) held n' 4 (([e0, e1, e2, e3].drop 0).take (Try.prog.cellsOf 4)) = some y0 := hf 0 _ rfl
          have f1 : DataW.trod enc Try.prog w base (fun _ => true) held n' 3 (([e0, e1, e2, e3].drop 1).take (Try.prog.cellsOf 3)) = some y1 := hf 1 _ rfl
          have f2 : DataW.trod enc Try.prog w base (fun _ => true) held n' 30 (([e0, e1, e2, e3].drop 2).take (Try.prog.cellsOf 30)) = some y2 := hf 2 _ rfl
          have f3 : DataW.trod enc Try.prog w base (fun _ => true) held n' 22 (([e0, e1, e2, e3].drop 3).take (Try.prog.cellsOf 22)) = some y3 := hf 3 _ rfl
          rw [k4] at f0
          rw [k3] at f1
          rw [k30] at f2
          rw [k22] at f3
          obtain ⟨b0, g0, _⟩ := DataW.trod_bool Try.underlying4 (x := y0) f0
          obtain ⟨n1, g1, _, w1⟩ := DataW.trod_int Try.underlying3 (x := y1) f1
          obtain ⟨n2, g2, _, w2⟩ := DataW.trod_int Try.underlying30 (x := y2) f2
          have a0 : w.cell? (ad.add (i * 4)) = some e0 := by have := hat 0 (by omega); rw [add_add] at this; exact this
          have a1 : w.cell? (ad.add (i * 4 + 1)) = some e1 := by have := hat 1 (by omega); rw [add_add] at this; exact this
          have a2 : w.cell? (ad.add (i * 4 + 2)) = some e2 := by have := hat 2 (by omega); rw [add_add] at this; exact this
          have a3 : w.cell? (ad.add (i * 4 + 3)) = some e3 := by have := hat 3 (by omega); rw [add_add] at this; exact this
          injection g0 with g0
          injection g1 with g1
          injection g2 with g2
          have x1 : -9223372036854775808 ≤ n1 ∧ n1 ≤ 9223372036854775807 := by simpa [Lit.wf, IntKind.min, IntKind.max, IntKind.signed, IntKind.bits] using w1
          have x2 : 0 ≤ n2 ∧ n2 ≤ 18446744073709551615 := by simpa [Lit.wf, IntKind.min, IntKind.max, IntKind.signed, IntKind.bits] using w2
          obtain ⟨aa, ll, cc, zs, h3, hrow⟩ : ∃ aa ll cc zs, e3 = .slice aa ll cc ∧ IsRow .u8 w aa ll cc zs := by
            rcases open_ints Try.underlying22 Try.underlying5 (by kernel_rfl) (x := y3) f3 with ⟨q, _⟩ | ⟨aa, ll, cc, zs, q, _, hl', hm', hz', _, hcell', hwz'⟩
            · exact ⟨none, 0, 0, [], by simpa using q, .inl ⟨rfl, rfl, rfl, rfl⟩⟩
            · exact ⟨some aa, ll, cc, zs, by simpa using q, .inr ⟨aa, rfl, hl', hm', by simpa using hz', hcell', hwz'⟩⟩
          obtain ⟨bs, hbl, _, _, hbd⟩ := row_dat hrow
          exact ⟨⟨b0, n1, n2.toNat, aa, cc, bs⟩, ⟨a0.trans (by rw [g0]), a1.trans (by rw [g1]), a2.trans (by rw [g2]; simp; omega), a3.trans (by rw [h3, hbl])⟩, x1, by show n2.toNat < _; omega, hbd⟩)
    obtain ⟨rs, hrl, hrs⟩ := hlist
    refine ⟨rs, hrl, hl, hm, fun hpos => ?_⟩
    obtain ⟨b, o, spot⟩ := ad
    have hspot : spot = none := by simpa [Addr.add] using World.cell?_spot (hrs 0 hpos).1.1
    subst hspot
    have hb := World.block_lt_of_cell? w _ (hrs 0 hpos).1.1
    refine ⟨b, o, rfl, by simpa [Addr.add] using hb, fun i hil => ?_⟩
    obtain ⟨⟨q0, q1, q2, q3⟩, q4, q5, q6⟩ := hrs i hil
    rw [Go.WideShapes.add_plain] at q0 q1 q2 q3
    exact ⟨q0, q1, q2, q3, q4, q5, q6⟩
end
end Go.Proofs.Ytppjilfhpiknbaa
