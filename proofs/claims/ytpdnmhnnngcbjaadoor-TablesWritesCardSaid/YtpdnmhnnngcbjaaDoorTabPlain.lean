
/- Tables of codes, on lists: the given counts, the greatest powers and codes, by kind; the package's four variables as they are laid. -/
import Derived.Test.YtpdnmhnnngcbjaaDoorPileA
import Derived.Test.YtpdnmhnnngcbjaaDoorPileD
import Derived.Lib.LaidTab
namespace Go.Proofs.YtpdnmhnnngcbjaaDoor
open Go.RowKit

def partsN (k : Nat) : List Int :=
  [[4, 3, 2, 2, 2, 2, 2, 2, 2, 2, 2, 2, 2, 1, 1, 1, 2, 2, 2, 2, 2, 2, 2, 2, 2, 3, 2, 1, 1, 1, 1, 1, -1, -1, -1, -1],
   [1, 1, 1, 1, 1, 1, 2, 2, 2, 1, 1, 1, 1, 1, 1, 1, 1, 1, 1, 1, 1, 1, 1, 1, -1, -1, -1, -1, -1],
   [1, 4, 3, 2, 2, 2, 2, 2, 2, 1, 1, 1, 1, 1, 1, 1, 1, 1, 1, 1, 1, 1, 1, 1, 1, 1, 1, 1, 1, 1, 1, 1, 1, 1, 1, 1, 1, 1, 1, 1, 1, 1, 1, 1, 1, 1, -1, -1, -1, -1, -1, -1, -1]].getD k []
def logN (k : Nat) : Nat := [6, 5, 6].getD k 0
def mostN (k : Nat) : Nat := [9, 8, 9].getD k 0
def lastN (k : Nat) : Nat := [35, 31, 52].getD k 0
/-- The last code that a given table has. -/
def hasN (k : Nat) : Nat := [35, 28, 52].getD k 0
def lastZ (k : Int) : Int := if k < 0 ∨ 2 < k then -1 else (lastN k.toNat : Int)
def mostZ (k : Int) : Int := if k < 0 ∨ 2 < k then 0 else (mostN k.toNat : Int)

theorem lastZ_nat {n : Nat} (h : n < 3) : lastZ (n : Int) = (lastN n : Int) := by unfold lastZ; rw [if_neg (by omega)]; rfl
theorem mostZ_nat {n : Nat} (h : n < 3) : mostZ (n : Int) = (mostN n : Int) := by unfold mostZ; rw [if_neg (by omega)]; rfl
theorem last_le : ∀ k, k < 3 → lastN k ≤ 52 := by decide
theorem last_ge : ∀ k, k < 3 → 31 ≤ lastN k := by decide
theorem most_ge : ∀ k, k < 3 → 8 ≤ mostN k := by decide
theorem most_le : ∀ k, k < 3 → mostN k ≤ 9 := by decide
theorem log_le : ∀ k, k < 3 → logN k ≤ 6 := by decide
theorem parts_len : ∀ k, k < 3 → (partsN k).length = hasN k + 1 := by decide
theorem has_le : ∀ k, k < 3 → hasN k ≤ lastN k := by decide
theorem given_may : ∀ k, k < 3 → mayB (logN k : Int) (partsN k) = true := by decide +kernel
theorem parts_bd : ∀ k, k < 3 → ∀ p ∈ partsN k, -9223372036854775808 ≤ p ∧ p ≤ 9223372036854775807 := by decide +kernel
/-- A given table has just the codes up to its last one. -/
theorem given_wi : ∀ k, k < 3 → ∀ y, y < 256 → (1 ≤ (wi ((partsN k).getD y 0)).toNat ↔ y ≤ hasN k) := by decide +kernel

/-- The package's four variables hold what they were laid with; B: all of it lies below that block. -/
def Glob (B : Nat) (w : World) : Prop :=
  (∀ k, k < 3 → w.cell? ⟨3, k, none⟩ = some (.int .i64 (lastN k : Int))) ∧
  (∀ k, k < 3 → w.cell? ⟨1, k, none⟩ = some (.int .i64 (logN k : Int))) ∧
  (∀ k, k < 3 → w.cell? ⟨0, k, none⟩ = some (.int .i64 (mostN k : Int))) ∧
  (∀ k, k < 3 → ∃ A, w.cell? ⟨2, k, none⟩ = some (.slice (some A) (partsN k).length (partsN k).length) ∧ DatE icel w 0 B (some A) (partsN k)) ∧ 4 ≤ B ∧ B ≤ w.heap.size
theorem Glob.keep {B : Nat} {w w' : World} (h : Glob B w) (he : ∀ j, j < B → w'.heap[j]? = w.heap[j]?) (hs : B ≤ w'.heap.size) : Glob B w' := by
  obtain ⟨h1, h2, h3, h4, h5, h6⟩ := h
  refine ⟨fun k hk => (World.cell?_of_block (w := w) (w' := w') (a := ⟨3, k, none⟩) (he _ (by simp only; omega))).trans (h1 k hk),
   fun k hk => (World.cell?_of_block (w := w) (w' := w') (a := ⟨1, k, none⟩) (he _ (by simp only; omega))).trans (h2 k hk),
   fun k hk => (World.cell?_of_block (w := w) (w' := w') (a := ⟨0, k, none⟩) (he _ (by simp only; omega))).trans (h3 k hk), fun k hk => ?_, h5, hs⟩
  obtain ⟨A, h7, h8⟩ := h4 k hk
  exact ⟨A, (World.cell?_of_block (w := w) (w' := w') (a := ⟨2, k, none⟩) (he _ (by simp only; omega))).trans h7, h8.keep fun j _ hj => he j hj⟩
theorem Glob.size {B : Nat} {w : World} (h : Glob B w) : B ≤ w.heap.size := h.2.2.2.2.2
theorem Glob.below {B C : Nat} {w w' : World} (h : Glob B w) (hb : Below C w w') (hB : B ≤ C) : Glob B w' :=
  h.keep (fun j hj => hb.block j (by omega)) (Nat.le_trans h.size hb.size)
theorem Glob.alloc {B : Nat} {w : World} (h : Glob B w) (o : Obj) : Glob B (w.alloc o) :=
  h.keep (fun j hj => Below.heap_alloc w o j (by have := h.size; omega)) (by have := h.size; simp; omega)
theorem Glob.drew {B : Nat} {w : World} (h : Glob B w) : Glob B w.drew := h
theorem Glob.set {B : Nat} {w : World} (h : Glob B w) {p : Addr} (hp : B ≤ p.block) (v : Value) : Glob B (w.setCell p v) :=
  h.keep (fun j hj => Below.heap_setCell w p v j (by omega)) (by have := h.size; simp; omega)
theorem Glob.grown {B : Nat} {w w' : World} {row : Option Nat} (h : Glob B w) (hg : w.grownBy w' row) (hr : ∀ k, row = some k → B ≤ k) : Glob B w' :=
  h.keep (fun j hj => hg.block j (by have := h.size; omega) (fun e => by have := hr j e.symm; omega)) (Nat.le_trans h.size hg.size)
/-- The table that a kind is given. -/
def tabG (k : Nat) : List En := tab (logN k) (partsN k)
theorem givenF {k : Nat} (h : k < 3) : MayF (logN k) (partsN k) := mayF (given_may k h)
theorem tabG_len {k : Nat} (h : k < 3) : (tabG k).length = 2 ^ logN k := tab_length (givenF h)
end Go.Proofs.YtpdnmhnnngcbjaaDoor
