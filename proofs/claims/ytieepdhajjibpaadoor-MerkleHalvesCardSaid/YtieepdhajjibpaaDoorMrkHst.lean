
/- MerkleHalves: how its loop stands, and what each of its statements makes of it. No claim of ours. -/
import Derived.Test.YtieepdhajjibpaaDoorMrkHalf
import Derived.Test.YtieepdhajjibpaaDoorAppR
import Derived.Test.YtieepdhajjibpaaDoorMrkOf
namespace Go.Proofs.YtieepdhajjibpaaDoor
open Go.RowKit

/-- The loop's state: both digests in their boxes, both rows, apart from one another. -/
structure HSt (w wx : World) (x y : Dg) (i j m n : Nat) (A B : Value) : Prop where
  bx : Box wx w.heap.size 25 (dcs (dAt x 0 i)).toArray
  ty : Box wx (w.heap.size + 1) 25 (dcs (dAt y 1 j)).toArray
  oa : OwR 32 dcs wx 25 (w.heap.size + 2) A (dRow x 0 m)
  ob : OwR 32 dcs wx 25 (w.heap.size + 2) B (dRow y 1 n)
  ap : ∀ k, A.ownBlock = some k → B.ownBlock ≠ some k
  bel : Below w.heap.size w wx

theorem cel_nat (i : Nat) (h : i < 32) : cel (UInt8.ofNat i) = .int .u8 (i : Int) := by
  unfold cel
  rw [UInt8.toNat_ofNat', Nat.mod_eq_of_lt (by omega)]
theorem dAt_arr (d : Dg) (j i : Nat) (h : i < 32) : (dcs (dAt d j i)).toArray.setIfInBounds j (.int .u8 (i : Int)) = (dcs (dAt d j (i + 1))).toArray := by
  rw [← dAt_step, dset_cells, ← cel_nat i h]
  apply Array.ext'
  simp
theorem HSt.setx {w wx : World} {x y : Dg} {i j m n : Nat} {A B : Value} (h : HSt w wx x y i j m n A B) (hi : i < 32) : HSt w (wx.setCell ⟨w.heap.size, 0, none⟩ (.int .u8 (i : Int))) x y (i + 1) j m n A B :=
  ⟨by rw [← dAt_arr x 0 i hi]; exact h.bx.put 0 _, h.ty.far (by show w.heap.size + 1 ≠ w.heap.size; omega) _,
    h.oa.keep fun k hk => Below.heap_setCell _ _ _ k (by have := (h.oa.block k hk).1; show k ≠ w.heap.size; omega),
    h.ob.keep fun k hk => Below.heap_setCell _ _ _ k (by have := (h.ob.block k hk).1; show k ≠ w.heap.size; omega), h.ap, h.bel.setCell (Nat.le_refl _) _⟩
theorem HSt.sety {w wx : World} {x y : Dg} {i j m n : Nat} {A B : Value} (h : HSt w wx x y i j m n A B) (hj : j < 32) : HSt w (wx.setCell ⟨w.heap.size + 1, 1, none⟩ (.int .u8 (j : Int))) x y i (j + 1) m n A B :=
  ⟨h.bx.far (by show w.heap.size ≠ w.heap.size + 1; omega) _, by rw [← dAt_arr y 1 j hj]; exact h.ty.put 1 _,
    h.oa.keep fun k hk => Below.heap_setCell _ _ _ k (by have := (h.oa.block k hk).1; show k ≠ w.heap.size + 1; omega),
    h.ob.keep fun k hk => Below.heap_setCell _ _ _ k (by have := (h.ob.block k hk).1; show k ≠ w.heap.size + 1; omega), h.ap, h.bel.setCell (by show w.heap.size ≤ w.heap.size + 1; omega) _⟩
theorem HSt.appx {w wx w1 : World} {x y : Dg} {j m n : Nat} {A B V : Value} {o : Obj} (h : HSt w wx x y (m + 1) j m n A B)
    (ho : OwR 32 dcs w1 25 (w.heap.size + 2) V (dRow x 0 m ++ [dAt x 0 (m + 1)])) (hg : (wx.alloc o).grownBy w1 A.ownBlock) (hv : V.ownBlock = A.ownBlock ∨ V.ownBlock = some (wx.heap.size + 1)) :
    HSt w w1 x y (m + 1) j (m + 1) n V B := by
  have hs := h.bel.size
  have hb : ∀ k', A.ownBlock = some k' → w.heap.size + 2 ≤ k' := fun k' hk => (h.oa.block k' hk).1
  have hne : B.ownBlock = none ∨ B.ownBlock ≠ A.ownBlock := by
    cases hB : B.ownBlock with
    | none => exact .inl rfl
    | some k => exact .inr fun e => h.ap k e.symm hB
  refine ⟨(h.bx.alloc o).grown hg (fun e => by have := hb _ e.symm; omega), (h.ty.alloc o).grown hg (fun e => by have := hb _ e.symm; omega), by rw [dRow_succ]; exact ho, (h.ob.alloc o).grown hg hne, fun k hk => ?_,
    (h.bel.alloc (by omega) o).grown hg (by simp; omega) (fun k hk => by have := hb k hk; omega)⟩
  rcases hv with hv | hv
  · exact h.ap k (hv ▸ hk)
  · intro hB
    have h1 := (h.ob.block k hB).2
    rw [hk] at hv
    injection hv with hv
    omega
theorem HSt.appy {w wx w1 : World} {x y : Dg} {i m n : Nat} {A B V : Value} {o : Obj} (h : HSt w wx x y i (n + 1) m n A B)
    (ho : OwR 32 dcs w1 25 (w.heap.size + 2) V (dRow y 1 n ++ [dAt y 1 (n + 1)])) (hg : (wx.alloc o).grownBy w1 B.ownBlock) (hv : V.ownBlock = B.ownBlock ∨ V.ownBlock = some (wx.heap.size + 1)) :
    HSt w w1 x y i (n + 1) m (n + 1) A V := by
  have hs := h.bel.size
  have hb : ∀ k', B.ownBlock = some k' → w.heap.size + 2 ≤ k' := fun k' hk => (h.ob.block k' hk).1
  have hne : A.ownBlock = none ∨ A.ownBlock ≠ B.ownBlock := by
    cases hA : A.ownBlock with
    | none => exact .inl rfl
    | some k => exact .inr fun e => h.ap k hA e.symm
  refine ⟨(h.bx.alloc o).grown hg (fun e => by have := hb _ e.symm; omega), (h.ty.alloc o).grown hg (fun e => by have := hb _ e.symm; omega), (h.oa.alloc o).grown hg hne, by rw [dRow_succ]; exact ho, fun k hk hV => ?_,
    (h.bel.alloc (by omega) o).grown hg (by simp; omega) (fun k hk => by have := hb k hk; omega)⟩
  rcases hv with hv | hv
  · exact h.ap k hk (hv ▸ hV)
  · have h1 := (h.oa.block k hk).2
    rw [hV] at hv
    injection hv with hv
    omega

/-- What the last region may count on: all that stood in W, and the digest in its box. -/
structure SHP (W : World) (g : Nat) (P : Array Value) (V : World) : Prop where
  bel : Below W.heap.size W V
  box : Box V g 25 P
  hi : W.heap.size ≤ g
theorem SHP.below {W V V' : World} {g : Nat} {P : Array Value} (h : SHP W g P V) (hb : Below V.heap.size V V') : SHP W g P V' := ⟨h.bel.trans (hb.mono h.bel.size), h.box.below hb h.box.lt, h.hi⟩
theorem SHP.alloc {W V : World} {g : Nat} {P : Array Value} (h : SHP W g P V) (o : Obj) : SHP W g P (V.alloc o) := ⟨h.bel.alloc h.bel.size _, h.box.alloc _, h.hi⟩
theorem SHP.drew {W V : World} {g : Nat} {P : Array Value} (h : SHP W g P V) : SHP W g P V.drew := ⟨h.bel.drew, h.box, h.hi⟩
theorem SHP.grown {W V V' : World} {g : Nat} {P : Array Value} {C : Value} (h : SHP W g P V) (hg : V.grownBy V' C.ownBlock) (hb : ∀ k, C.ownBlock = some k → W.heap.size ≤ k ∧ k ≠ g) : SHP W g P V' :=
  ⟨h.bel.grown hg h.bel.size (fun k hk => (hb k hk).1), h.box.grown hg (fun e => (hb g e.symm).2 rfl), h.hi⟩
end Go.Proofs.YtieepdhajjibpaaDoor
