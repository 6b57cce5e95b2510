
/- A row of bundles, each of two cells, that is turned in place: what a sort's steps read of it and write. -/
import Derived.Test.YtafdfjacfodbnaaPileA
import Derived.Shelf.SlSortCmp.QuietGrown
namespace Go.Proofs.Ytafdfjacfodbnaa
open Go.RowKit Go.Sort

/-- A bundle: how often, the slice of its symbols, these symbols, and whether it is of one symbol. -/
structure Pk where
  n : Nat
  a : Option Addr
  l : Nat
  c : Nat
  y : List UInt8
  s : Bool
instance : Inhabited Pk := ⟨⟨0, none, 0, 0, [], false⟩⟩
def pcell (x : Pk) : List Value := [.int .u64 (x.n : Int), .slice x.a x.l x.c]
theorem pcell_len (x : Pk) : (pcell x).length = 2 := rfl
theorem pcell_one (x : Pk) : ∀ v ∈ pcell x, v.oneCell' = true := by
  intro v hv
  simp [pcell] at hv
  rcases hv with rfl | rfl <;> rfl

/-- The exchange of two elements. -/
def exch (xs : List Pk) (i j : Nat) : List Pk := (xs.set i xs[j]!).set j xs[i]!
theorem exch_len (xs : List Pk) (i j : Nat) : (exch xs i j).length = xs.length := by simp [exch]
theorem exch_get (xs : List Pk) (i j k : Nat) (hk : k < xs.length) : (exch xs i j)[k]! = if k = j then xs[i]! else if k = i then xs[j]! else xs[k]! := by
  unfold exch
  rw [getElem!_pos _ k (by simpa using hk), List.getElem_set, List.getElem_set]
  by_cases h1 : k = j
  · rw [if_pos h1.symm, if_pos h1]
  · rw [if_neg (fun e => h1 e.symm), if_neg h1]
    by_cases h2 : k = i
    · rw [if_pos h2.symm, if_pos h2]
    · rw [if_neg (fun e => h2 e.symm), if_neg h2, getElem!_pos xs k hk]
theorem getI_mid (p s : List Pk) (x : Pk) (i : Nat) (hi : i = p.length) : (p ++ x :: s)[i]! = x := by
  subst hi
  rw [getElem!_pos _ _ (by simp)]
  simp
theorem exch_at (p m s : List Pk) (x y : Pk) (i j : Nat) (hi : i = p.length) (hj : j = p.length + 1 + m.length) : exch (p ++ x :: (m ++ y :: s)) i j = p ++ y :: (m ++ x :: s) := by
  have e1 : (p ++ x :: (m ++ y :: s))[i]! = x := getI_mid _ _ _ _ hi
  have e2 : (p ++ x :: (m ++ y :: s))[j]! = y := by
    have := getI_mid (p ++ x :: m) s y j (by simp; omega)
    simpa using this
  unfold exch
  rw [e1, e2]
  subst hi
  rw [List.set_append_right _ _ (Nat.le_refl _), Nat.sub_self, List.set_cons_zero, List.set_append_right _ _ (by omega), hj, show p.length + 1 + m.length - p.length = m.length + 1 by omega, List.set_cons_succ, List.set_append_right _ _ (Nat.le_refl _), Nat.sub_self, List.set_cons_zero]
theorem exch_comm (xs : List Pk) (i j : Nat) : exch xs i j = exch xs j i := by
  apply List.ext_getElem
  · simp [exch_len]
  · intro k h1 h2
    have hk : k < xs.length := by simpa [exch_len] using h1
    have a := exch_get xs i j k hk
    have b := exch_get xs j i k hk
    rw [getElem!_pos _ k (by simpa [exch_len] using hk)] at a b
    rw [a, b]
    by_cases h : k = j
    · by_cases h' : k = i
      · rw [if_pos h, if_pos h', ← h, ← h']
      · rw [if_pos h, if_neg h', if_pos h]
    · rw [if_neg h]
      by_cases h' : k = i
      · rw [if_pos h', if_pos h']
      · rw [if_neg h', if_neg h', if_neg h]

/-- The row at block g holds xs; but for it all blocks are as they were in w0, or new. -/
def SR (w0 : World) (g n c : Nat) (xs : List Pk) (W : World) : Prop := OwR 2 pcell W 97 g (.slice (some ⟨g, 0, none⟩) n c) xs ∧ w0.grownBy W (some g) ∧ g < w0.heap.size

section
variable {w0 W : World} {g n c : Nat} {xs : List Pk}
theorem SR.lt (h : SR w0 g n c xs W) : g < W.heap.size := Nat.lt_of_lt_of_le h.2.2 h.2.1.size
theorem SR.len (h : SR w0 g n c xs W) : xs.length = n := h.1.len
theorem SR.start (h : OwR 2 pcell w0 97 g (.slice (some ⟨g, 0, none⟩) n c) xs) : SR w0 g n c xs w0 := ⟨h, World.grownBy.refl w0 _, (h.block g rfl).2⟩
theorem grown_grow (W : World) (q : Nat) (os : Array Obj) (r : Option Nat) : W.grownBy (grow (W.drewN q) os) r :=
  ⟨rfl, rfl, rfl, by rw [size_grow]; exact Nat.le_add_right _ _, fun k hk _ => heap_grow_old (W.drewN q) os hk⟩
theorem grownBy_trans {a b d : World} {r : Option Nat} (h : a.grownBy b r) (h' : b.grownBy d r) : a.grownBy d r :=
  ⟨h'.os.trans h.os, h'.tape.trans h.tape, h'.output.trans h.output, Nat.le_trans h.size h'.size, fun k hk hr => (h'.block k (by have := h.size; omega) hr).trans (h.block k hk hr)⟩
theorem SR.grown (h : SR w0 g n c xs W) (q : Nat) (os : Array Obj) : SR w0 g n c xs (grow (W.drewN q) os) :=
  ⟨h.1.keep fun k hk => heap_grow_old (W.drewN q) os (h.1.block k hk).2, grownBy_trans h.2.1 (grown_grow W q os _), h.2.2⟩
theorem SR.drew (h : SR w0 g n c xs W) : SR w0 g n c xs W.drew := by
  have := h.grown 1 #[]
  rw [grow_empty] at this
  exact this
theorem SR.cells (h : SR w0 g n c xs W) (i : Nat) (hi : i < n) : (W.cell? ⟨g, i * 2, none⟩ = some (.int .u64 (xs[i]!.n : Int)) ∧ W.cell? ⟨g, i * 2 + 1, none⟩ = some (.slice xs[i]!.a xs[i]!.l xs[i]!.c)) ∧
    W.frozen? ⟨g, i * 2, none⟩ = false ∧ W.frozen? ⟨g, i * 2 + 1, none⟩ = false := by
  have hx : i < xs.length := by rw [h.len]; exact hi
  rw [getElem!_pos xs i hx]
  have h0 := h.1.cellAt pcell_len i 0 hx (by decide) _ rfl
  have h1 := h.1.cellAt pcell_len i 1 hx (by decide) _ rfl
  exact ⟨⟨h0.1, h1.1⟩, h0.2, h1.2⟩
/-- The cells, in whatever world a comparison passes through. -/
theorem SR.cellsG (h : SR w0 g n c xs W) (i : Nat) (hi : i < n) : (∀ q os, (grow (W.drewN q) os).cell? ⟨g, i * 2, none⟩ = some (.int .u64 (xs[i]!.n : Int))) ∧ ∀ q os, (grow (W.drewN q) os).cell? ⟨g, i * 2 + 1, none⟩ = some (.slice xs[i]!.a xs[i]!.l xs[i]!.c) :=
  ⟨fun q os => ((h.grown q os).cells i hi).1.1, fun q os => ((h.grown q os).cells i hi).1.2⟩
theorem grown_set (W : World) (i : Nat) (v : Value) : W.grownBy (W.setCell ⟨g, i, none⟩ v) (some g) :=
  ⟨rfl, rfl, rfl, by simp, fun k _ hk => Below.heap_setCell W _ v k (fun e => hk (by rw [e]))⟩
theorem SR.put (h : SR w0 g n c xs W) (i : Nat) (hi : i < n) (x : Pk) : SR w0 g n c (xs.set i x) ((W.setCell ⟨g, i * 2, none⟩ (.int .u64 (x.n : Int))).setCell ⟨g, i * 2 + 1, none⟩ (.slice x.a x.l x.c)) := by
  have hx : i < xs.length := by rw [h.len]; exact hi
  have h1 := h.1.put pcell_len i 0 hx (by decide) (.int .u64 (x.n : Int)) ⟨x.n, xs[i].a, xs[i].l, xs[i].c, x.y, x.s⟩ rfl
  have h2 := h1.put pcell_len i 1 (by simpa using hx) (by decide) (.slice x.a x.l x.c) x (by simp [pcell])
  rw [List.set_set] at h2
  exact ⟨h2, grownBy_trans h.2.1 (grownBy_trans (grown_set W (i * 2) _) (grown_set _ (i * 2 + 1) _)), h.2.2⟩
/-- Two stores of two cells each. -/
theorem SR.swapped (h : SR w0 g n c xs W) (i j : Nat) (hi : i < n) (hj : j < n) :
    SR w0 g n c (exch xs i j) ((((W.setCell ⟨g, i * 2, none⟩ (.int .u64 (xs[j]!.n : Int))).setCell ⟨g, i * 2 + 1, none⟩ (.slice xs[j]!.a xs[j]!.l xs[j]!.c)).setCell ⟨g, j * 2, none⟩ (.int .u64 (xs[i]!.n : Int))).setCell ⟨g, j * 2 + 1, none⟩ (.slice xs[i]!.a xs[i]!.l xs[i]!.c)) :=
  (h.put i hi xs[j]!).put j hj xs[i]!
end
end Go.Proofs.Ytafdfjacfodbnaa
