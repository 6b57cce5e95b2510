
/- What the document's states holds while it runs. -/
import Derived.Test.YtafdfjacfodbnaaWtWlk
import Derived.Test.YtafdfjacfodbnaaPileD
import Derived.Test.YtafdfjacfodbnaaPileB
namespace Go.Proofs.Ytafdfjacfodbnaa
open Go.RowKit

/-- The table's box, its entries, the box of the bits, the bits, the weights. -/
structure Rs (w wx : World) (tb vb : Nat) (L : Int) (A : Option Addr) (n c lo2 hi2 : Nat) (es : List En) (lo3 hi3 : Nat) (Ab : Option Addr) (cb : Nat) (xs : List UInt8) (left : Int) (base : Nat) (v : Value) (acc : List Nat) : Prop where
  t : Box wx tb 83 #[.int .i64 L, .slice A n c]
  e : DatR 3 rcell wx lo2 hi2 A es
  b : Box wx vb 78 #[.slice Ab left.toNat cb, .int .i64 ((left.toNat : Int) - left)]
  d : DatE Value.bool wx lo3 hi3 Ab ((bitsOf xs).take left.toNat)
  o : OwE u8cel wx 5 base v acc
  k : Below w.heap.size w wx
/-- Where all this lies. -/
structure RsO (w : World) (tb vb lo2 hi2 lo3 hi3 base : Nat) : Prop where
  a : w.heap.size ≤ lo3
  b : hi3 ≤ vb
  c : vb < lo2
  d : hi2 ≤ tb
  e : tb < base
  f : w.heap.size ≤ vb
  g : vb < tb
section
variable {w wx wy : World} {tb vb : Nat} {L : Int} {A : Option Addr} {n c lo2 hi2 : Nat} {es : List En} {lo3 hi3 : Nat} {Ab : Option Addr} {cb : Nat} {xs : List UInt8} {left left' : Int} {base : Nat} {v v' : Value} {acc acc' : List Nat}
theorem Rs.below (h : Rs w wx tb vb L A n c lo2 hi2 es lo3 hi3 Ab cb xs left base v acc) (o : RsO w tb vb lo2 hi2 lo3 hi3 base) (hB : Below wx.heap.size wx wy) : Rs w wy tb vb L A n c lo2 hi2 es lo3 hi3 Ab cb xs left base v acc :=
  ⟨h.t.below hB h.t.lt, h.e.below hB (by have := o.d; have := h.t.lt; omega), h.b.below hB h.b.lt, h.d.below hB (by have := o.b; have := h.b.lt; omega), h.o.below hB (Nat.le_refl _), h.k.trans (hB.mono h.k.size)⟩
theorem Rs.drew (h : Rs w wx tb vb L A n c lo2 hi2 es lo3 hi3 Ab cb xs left base v acc) : Rs w wx.drew tb vb L A n c lo2 hi2 es lo3 hi3 Ab cb xs left base v acc :=
  ⟨h.t, h.e, h.b, h.d, h.o, h.k.drew⟩
theorem Rs.push (h : Rs w wx tb vb L A n c lo2 hi2 es lo3 hi3 Ab cb xs left base v acc) (o : RsO w tb vb lo2 hi2 lo3 hi3 base) (ho : OwE u8cel wy 5 base v' acc') {ob : Obj} (hg : (wx.alloc ob).grownBy wy v.ownBlock) : Rs w wy tb vb L A n c lo2 hi2 es lo3 hi3 Ab cb xs left base v' acc' := by
  obtain ⟨o1, o2, o3, o4, o5, o6, o7⟩ := o
  have hq : ∀ k, v.ownBlock = some k → base ≤ k := fun k hk => (h.o.block k hk).1
  have h1 := h.t.lt
  have h2 := h.b.lt
  have h3 := h.k.size
  exact ⟨(h.t.alloc ob).grown hg (fun e => by have := hq tb e.symm; omega), (h.e.alloc (by omega) ob).grown hg (by simp; omega) (fun k hk => by have := hq k hk; omega), (h.b.alloc ob).grown hg (fun e => by have := hq vb e.symm; omega), (h.d.alloc (by omega) ob).grown hg (by simp; omega) (fun k hk => by have := hq k hk; omega), ho, (h.k.alloc h3 ob).grown hg (by simp; omega) (fun k hk => by have := hq k hk; omega)⟩
theorem Rs.put (h : Rs w wx tb vb L A n c lo2 hi2 es lo3 hi3 Ab cb xs left base v acc) (o : RsO w tb vb lo2 hi2 lo3 hi3 base) (hl : left' ≤ left) : Rs w ((wx.setCell ⟨vb, 0, none⟩ (.slice Ab left'.toNat cb)).setCell ⟨vb, 1, none⟩ (.int .i64 ((left'.toNat : Int) - left'))) tb vb L A n c lo2 hi2 es lo3 hi3 Ab cb xs left' base v acc := by
  obtain ⟨o1, o2, o3, o4, o5, o6, o7⟩ := o
  have h3' : DatE Value.bool wx lo3 hi3 Ab ((bitsOf xs).take left'.toNat) := by
    have := h.d.take left'.toNat
    rw [List.take_take, Nat.min_eq_left (by omega)] at this
    exact this
  refine ⟨(h.t.far (by show tb ≠ vb; omega) _).far (by show tb ≠ vb; omega) _, (h.e.far (.inl (by show vb < lo2; omega)) _).far (.inl (by show vb < lo2; omega)) _, (h.b.put 0 _).put 1 _, (h3'.far (.inr (by show hi3 ≤ vb; omega)) _).far (.inr (by show hi3 ≤ vb; omega)) _, h.o.keep fun k hk => ?_, (h.k.setCell (by show w.heap.size ≤ vb; omega) _).setCell (by show w.heap.size ≤ vb; omega) _⟩
  have := (h.o.block k hk).1
  rw [Below.heap_setCell _ _ _ k (by show k ≠ vb; omega), Below.heap_setCell _ _ _ k (by show k ≠ vb; omega)]
theorem Rs.last (_h : Rs w wx tb vb L A n c lo2 hi2 es lo3 hi3 Ab cb xs left base v acc) (k : Int) (hc : left.toNat ≤ cb) (hb : xs.length ≤ 100000) (hl : left ≤ 8 * xs.length) (hlow : -1000000 ≤ left) :
    LastIs lo3 hi3 Ab ((bitsOf xs).take left.toNat) left.toNat cb ((left.toNat : Int) - left) k (bread xs left k).2.toNat (((bread xs left k).2.toNat : Int) - (bread xs left k).2) (bread xs left k).1 :=
  fun _ hd hhi => refLast_any k hd hc (by omega) hhi hl (by omega)
end
end Go.Proofs.Ytafdfjacfodbnaa
