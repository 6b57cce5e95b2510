
/- Two states that tell weights by turns, on lists; and what the program's walk holds while it runs. -/
import Derived.Test.YtafdfjacfodbnaaPileD
import Derived.Test.YtafdfjacfodbnaaWtMax
import Derived.Test.YtafdfjacfodbnaaWtOf
namespace Go.Proofs.Ytafdfjacfodbnaa
open Go.RowKit

/-- What entries may be, in a table of n. -/
def FineW (es : List En) (n : Nat) : Prop := ∀ i (h : i < es.length), ∃ s b e : Nat, es[i] = ⟨s, b, e⟩ ∧ s < 256 ∧ b ≤ 15 ∧ e + 2 ^ b ≤ n
theorem tab_fineW {l : Nat} {ps : List Int} (h : MayF l ps) : FineW (tab l ps) (2 ^ l) := fun i hi => by
  obtain ⟨s, b, e, h1, h2, _, h4, h5⟩ := tab_bd h i hi
  have hl := h.l15
  exact ⟨s, b, e, h1, h2, by omega, by omega⟩
/-- The symbol of a state, its bits, its base. -/
def eS (es : List En) (a : Nat) : Nat := ((es[a]?.map En.s).getD 0).toNat
def eB (es : List En) (a : Nat) : Nat := ((es[a]?.map En.b).getD 0).toNat
def eE (es : List En) (a : Nat) : Nat := ((es[a]?.map En.e).getD 0).toNat
theorem e_get {es : List En} {n a : Nat} (hf : FineW es n) (ha : a < es.length) : es[a] = ⟨(eS es a : Int), (eB es a : Int), (eE es a : Int)⟩ ∧ eS es a < 256 ∧ eB es a ≤ 15 ∧ eE es a + 2 ^ eB es a ≤ n := by
  obtain ⟨s, b, e, h1, h2, h3, h4⟩ := hf a ha
  have q1 : eS es a = s := by unfold eS; rw [List.getElem?_eq_getElem ha, h1]; simp
  have q2 : eB es a = b := by unfold eB; rw [List.getElem?_eq_getElem ha, h1]; simp
  have q3 : eE es a = e := by unfold eE; rw [List.getElem?_eq_getElem ha, h1]; simp
  rw [q1, q2, q3]
  exact ⟨h1, h2, h3, h4⟩
/-- The weights that states a and b tell, in so many turns; and whether the bits ended. -/
def wlk (es : List En) (xs : List UInt8) : Nat → Nat → Nat → Int → List Nat × Bool
  | 0, _, _, _ => ([], false)
  | f + 1, a, b, left =>
    if left < (eB es a : Int) then ([eS es a, eS es b], true)
    else (eS es a :: (wlk es xs f b (eE es a + (bread xs left (eB es a : Int)).1) (bread xs left (eB es a : Int)).2).1, (wlk es xs f b (eE es a + (bread xs left (eB es a : Int)).1) (bread xs left (eB es a : Int)).2).2)
theorem wlk_stop {es : List En} {xs : List UInt8} {f a b : Nat} {left : Int} (h : left < (eB es a : Int)) : wlk es xs (f + 1) a b left = ([eS es a, eS es b], true) := by rw [wlk, if_pos h]
theorem wlk_go {es : List En} {xs : List UInt8} {f a b : Nat} {left : Int} (h : ¬ left < (eB es a : Int)) {X : Nat} {l2 : Int} (hx : bread xs left (eB es a : Int) = (X, l2)) :
    wlk es xs (f + 1) a b left = (eS es a :: (wlk es xs f b (eE es a + X) l2).1, (wlk es xs f b (eE es a + X) l2).2) := by rw [wlk, if_neg h, hx]
theorem wlk_len {es : List En} {xs : List UInt8} : ∀ (f a b : Nat) (left : Int), ((wlk es xs f a b left).2 = false → (wlk es xs f a b left).1.length = f) ∧ (wlk es xs f a b left).1.length ≤ f + 1
  | 0, a, b, left => ⟨fun _ => rfl, by simp [wlk]⟩
  | f + 1, a, b, left => by
    by_cases h : left < (eB es a : Int)
    · rw [wlk_stop h]
      refine ⟨fun h => absurd h (by simp), ?_⟩
      simp
    · obtain ⟨X, l2, hx⟩ : ∃ X l2, bread xs left (eB es a : Int) = (X, l2) := ⟨_, _, rfl⟩
      rw [wlk_go h hx]
      have ih := wlk_len (es := es) (xs := xs) f b (eE es a + X) l2
      exact ⟨fun h => by have := ih.1 h; simp; omega, by have := ih.2; simp; omega⟩
theorem wlk_lt {es : List En} {xs : List UInt8} (hs : ∀ a, eS es a < 256) : ∀ (f a b : Nat) (left : Int), ∀ x ∈ (wlk es xs f a b left).1, x < 256
  | 0, a, b, left => by simp [wlk]
  | f + 1, a, b, left => by
    intro x hx
    by_cases h : left < (eB es a : Int)
    · rw [wlk_stop h] at hx
      simp at hx
      rcases hx with rfl | rfl <;> exact hs _
    · obtain ⟨X, l2, hq⟩ : ∃ X l2, bread xs left (eB es a : Int) = (X, l2) := ⟨_, _, rfl⟩
      rw [wlk_go h hq] at hx
      rcases List.mem_cons.1 hx with rfl | hx
      · exact hs _
      · exact wlk_lt hs f _ _ _ x hx
theorem eS_lt {es : List En} {n : Nat} (hf : FineW es n) (a : Nat) : eS es a < 256 := by
  by_cases h : a < es.length
  · exact (e_get hf h).2.1
  · have h0 : es[a]? = none := List.getElem?_eq_none (by omega)
    unfold eS
    rw [h0]
    simp

theorem bread_stays {xs : List UInt8} {left : Int} {n : Nat} (h0 : 0 ≤ left) (h : ¬ left < (n : Int)) : 0 ≤ (bread xs left (n : Int)).2 := by
  unfold bread
  split
  · show 0 ≤ left - (n : Int)
    omega
  · exact h0

section
variable {w wx wy : World} {g : Nat}
theorem gb_alloc (h : w.grownBy wx (some g)) (o : Obj) : w.grownBy (wx.alloc o) (some g) :=
  ⟨h.os, h.tape, h.output, by have := h.size; simp; omega, fun k hk hne => (heap_alloc_old wx o (by have := h.size; omega)).trans (h.block k hk hne)⟩
theorem gb_then {row : Option Nat} (h : w.grownBy wx (some g)) (hg : wx.grownBy wy row) (hr : ∀ k, row = some k → k = g ∨ w.heap.size ≤ k) : w.grownBy wy (some g) :=
  ⟨hg.os.trans h.os, hg.tape.trans h.tape, hg.output.trans h.output, Nat.le_trans h.size hg.size, fun k hk hne => (hg.block k (by have := h.size; omega) (fun e => by
    rcases hr k e.symm with q | q
    · exact hne (by rw [q])
    · omega)).trans (h.block k hk hne)⟩
theorem gb_set (h : w.grownBy wx (some g)) {p : Addr} (hp : w.heap.size ≤ p.block) (u : Value) : w.grownBy (wx.setCell p u) (some g) :=
  ⟨h.os, h.tape, h.output, by have := h.size; simpa using this, fun k hk hne => (Below.heap_setCell wx p u k (by omega)).trans (h.block k hk hne)⟩
theorem gb_below (h : w.grownBy wx (some g)) (hB : Below wx.heap.size wx wy) : w.grownBy wy (some g) :=
  ⟨hB.os.trans h.os, hB.tape.trans h.tape, hB.output.trans h.output, Nat.le_trans h.size hB.size, fun k hk hne => (hB.block k (by have := h.size; omega)).trans (h.block k hk hne)⟩
end

/-- What the walk holds: the table's box, the states' box, the entries, the Backward, the weights. -/
structure Wk (w wx : World) (tb q : Nat) (L : Int) (A : Option Addr) (n c lo2 hi2 : Nat) (es : List En) (lo g : Nat) (xs : List UInt8) (left : Int) (a b : Nat) (v : Value) (acc : List Nat) : Prop where
  t : Box wx tb 106 #[.int .i64 L, .slice A n c]
  s : Box wx q 143 #[.int .i64 (a : Int), .int .i64 (b : Int)]
  e : DatR 3 ecell wx lo2 hi2 A es
  r : BW wx lo g xs left
  o : OwE u8cel wx 5 (q + 1) v acc
  k : w.grownBy wx (some g)
/-- Where all this lies. -/
structure WkO (w : World) (tb q lo2 hi2 lo g : Nat) : Prop where
  a : w.heap.size ≤ tb
  b : tb < q
  c : hi2 ≤ w.heap.size
  d : g < w.heap.size
  e : g < lo2
  f : w.heap.size ≤ q
section
variable {w wx wy : World} {tb q : Nat} {L : Int} {A : Option Addr} {n c lo2 hi2 : Nat} {es : List En} {lo g : Nat} {xs : List UInt8} {left left' : Int} {a b : Nat} {v v' : Value} {acc acc' : List Nat}
theorem Wk.below (h : Wk w wx tb q L A n c lo2 hi2 es lo g xs left a b v acc) (o : WkO w tb q lo2 hi2 lo g) (hB : Below wx.heap.size wx wy) : Wk w wy tb q L A n c lo2 hi2 es lo g xs left a b v acc :=
  ⟨h.t.below hB h.t.lt, h.s.below hB h.s.lt, h.e.below hB (by have := o.c; have := h.k.size; omega), h.r.below hB h.r.lt, h.o.below hB (Nat.le_refl _), gb_below h.k hB⟩
theorem Wk.drew (h : Wk w wx tb q L A n c lo2 hi2 es lo g xs left a b v acc) : Wk w wx.drew tb q L A n c lo2 hi2 es lo g xs left a b v acc :=
  ⟨h.t, h.s, h.e, h.r, h.o, gb_below h.k (Below.refl _ _).drew⟩
theorem Wk.drewN (h : Wk w wx tb q L A n c lo2 hi2 es lo g xs left a b v acc) (k : Nat) : Wk w (wx.drewN k) tb q L A n c lo2 hi2 es lo g xs left a b v acc :=
  ⟨h.t, h.s, h.e, h.r, h.o, gb_below h.k (below_drawn (Below.refl _ _) k)⟩
theorem Wk.next (h : Wk w wx tb q L A n c lo2 hi2 es lo g xs left a b v acc) (o : WkO w tb q lo2 hi2 lo g) (hb : BW wy lo g xs left') (hg : wx.grownBy wy (some g)) : Wk w wy tb q L A n c lo2 hi2 es lo g xs left' a b v acc := by
  obtain ⟨o1, o2, o3, o4, o5, o6⟩ := o
  refine ⟨h.t.grown hg (by intro e; injection e with e; omega), h.s.grown hg (by intro e; injection e with e; omega), h.e.grown hg (by have := h.k.size; omega) (by intro k hk; injection hk with hk; omega), hb, h.o.grown hg ?_, gb_then h.k hg (by intro k hk; injection hk with hk; omega)⟩
  right
  intro e
  have := (h.o.block g e).1
  omega
theorem Wk.push (h : Wk w wx tb q L A n c lo2 hi2 es lo g xs left a b v acc) (o : WkO w tb q lo2 hi2 lo g) (ho : OwE u8cel wy 5 (q + 1) v' acc') {ob : Obj} (hg : (wx.alloc ob).grownBy wy v.ownBlock) : Wk w wy tb q L A n c lo2 hi2 es lo g xs left a b v' acc' := by
  obtain ⟨o1, o2, o3, o4, o5, o6⟩ := o
  have hq : ∀ k, v.ownBlock = some k → q + 1 ≤ k := fun k hk => (h.o.block k hk).1
  have hs := h.k.size
  have h1 := h.r.lt
  refine ⟨(h.t.alloc ob).grown hg (fun e => by have := hq tb e.symm; omega), (h.s.alloc ob).grown hg (fun e => by have := hq q e.symm; omega), (h.e.alloc (by omega) ob).grown hg (by simp; omega) (fun k hk => by have := hq k hk; omega), (h.r.keep fun k _ hk => Below.heap_alloc wx ob k (by omega)).keep fun k _ hk => hg.block k (by simp; omega) (fun e => by have := hq k e.symm; omega), ho, gb_then (gb_alloc h.k ob) hg (fun k hk => by have := hq k hk; omega)⟩
theorem Wk.setA (h : Wk w wx tb q L A n c lo2 hi2 es lo g xs left a b v acc) (o : WkO w tb q lo2 hi2 lo g) (x : Nat) : Wk w (wx.setCell ⟨q, 0, none⟩ (.int .i64 (x : Int))) tb q L A n c lo2 hi2 es lo g xs left x b v acc := by
  obtain ⟨o1, o2, o3, o4, o5, o6⟩ := o
  refine ⟨h.t.far (by show tb ≠ q; omega) _, h.s.put 0 _, h.e.far (.inr (by show hi2 ≤ q; omega)) _, h.r.keep fun k _ hk => Below.heap_setCell _ _ _ k (by show k ≠ q; omega), h.o.keep fun k hk => Below.heap_setCell _ _ _ k (by have := (h.o.block k hk).1; show k ≠ q; omega), gb_set h.k (by show w.heap.size ≤ q; omega) _⟩
theorem Wk.setB (h : Wk w wx tb q L A n c lo2 hi2 es lo g xs left a b v acc) (o : WkO w tb q lo2 hi2 lo g) (x : Nat) : Wk w (wx.setCell ⟨q, 1, none⟩ (.int .i64 (x : Int))) tb q L A n c lo2 hi2 es lo g xs left a x v acc := by
  obtain ⟨o1, o2, o3, o4, o5, o6⟩ := o
  refine ⟨h.t.far (by show tb ≠ q; omega) _, h.s.put 1 _, h.e.far (.inr (by show hi2 ≤ q; omega)) _, h.r.keep fun k _ hk => Below.heap_setCell _ _ _ k (by show k ≠ q; omega), h.o.keep fun k hk => Below.heap_setCell _ _ _ k (by have := (h.o.block k hk).1; show k ≠ q; omega), gb_set h.k (by show w.heap.size ≤ q; omega) _⟩
end
/-- .. ahead of the states' box and the weights. -/
structure Wk0 (w wx : World) (L : Int) (A : Option Addr) (n c lo2 hi2 : Nat) (es : List En) (lo g : Nat) (xs : List UInt8) (left : Int) : Prop where
  t : Box wx w.heap.size 106 #[.int .i64 L, .slice A n c]
  e : DatR 3 ecell wx lo2 hi2 A es
  r : BW wx lo g xs left
  k : w.grownBy wx (some g)
  o1 : hi2 ≤ w.heap.size
  o2 : g < w.heap.size
  o3 : g < lo2
section
variable {w wx wy : World} {L : Int} {A : Option Addr} {n c lo2 hi2 : Nat} {es : List En} {lo g : Nat} {xs : List UInt8} {left left' : Int} {q a b : Nat}
theorem Wk0.alloc (h : Wk0 w wx L A n c lo2 hi2 es lo g xs left) (ob : Obj) : Wk0 w (wx.alloc ob) L A n c lo2 hi2 es lo g xs left :=
  ⟨h.t.alloc ob, h.e.alloc (by have := h.o1; have := h.k.size; omega) ob, h.r.keep fun k _ hk => Below.heap_alloc wx ob k (by have := h.r.lt; omega), gb_alloc h.k ob, h.o1, h.o2, h.o3⟩
theorem Wk0.drew (h : Wk0 w wx L A n c lo2 hi2 es lo g xs left) : Wk0 w wx.drew L A n c lo2 hi2 es lo g xs left :=
  ⟨h.t, h.e, h.r, gb_below h.k (Below.refl _ _).drew, h.o1, h.o2, h.o3⟩
theorem Wk0.next (h : Wk0 w wx L A n c lo2 hi2 es lo g xs left) (hb : BW wy lo g xs left') (hg : wx.grownBy wy (some g)) : Wk0 w wy L A n c lo2 hi2 es lo g xs left' := by
  obtain ⟨h1, h2, h3, h4, o1, o2, o3⟩ := h
  exact ⟨h1.grown hg (by intro e; injection e with e; omega), h2.grown hg (by have := h4.size; omega) (by intro k hk; injection hk with hk; omega), hb, gb_then h4 hg (by intro k hk; injection hk with hk; omega), o1, o2, o3⟩
theorem box_hid {t : TypeId} {cs : Array Value} (h : Box wx q t cs) (hg : wx.grownBy wy (some g)) (hne : q ≠ g) : Box wy q t cs := h.grown hg (by intro e; injection e with e; exact hne e)
theorem Wk0.new (h : Wk0 w wx L A n c lo2 hi2 es lo g xs left) : WkO w w.heap.size wx.heap.size lo2 hi2 lo g ∧ Wk w (wx.alloc (.cells #[.int .i64 (a : Int), .int .i64 (b : Int)] 143)) w.heap.size wx.heap.size L A n c lo2 hi2 es lo g xs left a b (.slice none 0 0) [] := by
  have h' := h.alloc (.cells #[.int .i64 (a : Int), .int .i64 (b : Int)] 143)
  have h1 := h.t.lt
  exact ⟨⟨Nat.le_refl _, h1, h.o1, h.o2, h.o3, by omega⟩, h'.t, Box.new _ _ _, h'.e, h'.r, OwE.nil _ _ _ _, h'.k⟩
theorem Wk0.old (h : Wk0 w wx L A n c lo2 hi2 es lo g xs left) {x y : Value} (hz : Box wx q 143 #[x, y]) (hq : w.heap.size < q) : WkO w w.heap.size q lo2 hi2 lo g ∧ Wk w ((wx.setCell ⟨q, 0, none⟩ (.int .i64 (a : Int))).setCell ⟨q, 1, none⟩ (.int .i64 (b : Int))) w.heap.size q L A n c lo2 hi2 es lo g xs left a b (.slice none 0 0) [] := by
  obtain ⟨h1, h2, h3, h4, o1, o2, o3⟩ := h
  refine ⟨⟨Nat.le_refl _, hq, o1, o2, o3, by omega⟩, (h1.far (by show w.heap.size ≠ q; omega) _).far (by show w.heap.size ≠ q; omega) _, (hz.put 0 _).put 1 _, (h2.far (.inr (by show hi2 ≤ q; omega)) _).far (.inr (by show hi2 ≤ q; omega)) _, h3.keep fun k _ hk => ?_, OwE.nil _ _ _ _, gb_set (gb_set h4 (by show w.heap.size ≤ q; omega) _) (by show w.heap.size ≤ q; omega) _⟩
  rw [Below.heap_setCell _ _ _ k (by show k ≠ q; omega), Below.heap_setCell _ _ _ k (by show k ≠ q; omega)]
end
end Go.Proofs.Ytafdfjacfodbnaa
