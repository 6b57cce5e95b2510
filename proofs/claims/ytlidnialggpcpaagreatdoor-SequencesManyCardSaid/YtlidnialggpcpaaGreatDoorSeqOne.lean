
/- The contracts of the program's codeOf and sequence. -/
import Derived.Test.YtlidnialggpcpaaGreatDoorSeqStart
import Derived.Test.YtlidnialggpcpaaGreatDoorPileF
import Derived.Test.YtlidnialggpcpaaGreatDoorSeqBackP
namespace Go.Proofs.YtlidnialggpcpaaGreatDoor
open Go.RowKit

/-- The orders of values and of states, by kind. -/
def vo (k : Nat) : Nat := match k with
  | 0 => 1
  | 1 => 2
  | _ => 0
def so (k : Nat) : Nat := match k with
  | 0 => 0
  | 1 => 2
  | _ => 1
theorem vo_lt (k : Nat) : vo k < 3 := by unfold vo; split <;> decide
theorem so_lt (k : Nat) : so k < 3 := by unfold so; split <;> decide
/-- All of the package-level variables that sequences and what it calls read. -/
structure GS (B : Nat) (w : World) : Prop where
  t : Glob B w
  c : cd.Glob w
  v : ∀ k, k < 3 → w.cell? ⟨0, k, none⟩ = some (.int .i64 (vo k : Int))
  s : ∀ k, k < 3 → w.cell? ⟨1, k, none⟩ = some (.int .i64 (so k : Int))
theorem GS.keep {B : Nat} {w w' : World} (h : GS B w) (he : ∀ j, j < B → w'.heap[j]? = w.heap[j]?) (hs : w.heap.size ≤ w'.heap.size) : GS B w' :=
  ⟨h.t.keep he (Nat.le_trans h.t.size hs), h.c.keep (fun j hj => he j (by have := h.t.2.2.2.2.1; omega)) (Nat.le_trans h.c.2.2.2 hs),
   fun k hk => (World.cell?_of_block (w := w) (w' := w') (a := ⟨0, k, none⟩) (he _ (by have := h.t.2.2.2.2.1; simp only; omega))).trans (h.v k hk),
   fun k hk => (World.cell?_of_block (w := w) (w' := w') (a := ⟨1, k, none⟩) (he _ (by have := h.t.2.2.2.2.1; simp only; omega))).trans (h.s k hk)⟩
theorem GS.size {B : Nat} {w : World} (h : GS B w) : B ≤ w.heap.size := h.t.size
theorem GS.below {B C : Nat} {w w' : World} (h : GS B w) (hb : Below C w w') (hB : B ≤ C) : GS B w' := h.keep (fun j hj => hb.block j (by omega)) hb.size
theorem GS.alloc {B : Nat} {w : World} (h : GS B w) (o : Obj) : GS B (w.alloc o) := h.keep (fun j hj => Below.heap_alloc w o j (by have := h.size; omega)) (by simp)
theorem GS.grown {B : Nat} {w w' : World} {row : Option Nat} (h : GS B w) (hg : w.grownBy w' row) (hr : ∀ k, row = some k → B ≤ k) : GS B w' :=
  h.keep (fun j hj => hg.block j (by have := h.size; omega) (fun e => by have := hr j e.symm; omega)) hg.size

theorem codeOf_any {w : World} {lo hi n c s sy : Nat} {A : Option Addr} {es : List En} (L : Int) (hd : DatR 3 ecell w lo hi A es) (hhi : hi ≤ w.heap.size) (hn : es.length = n) (hs : s < n) (hx : (es[s]'(by omega)).s = (sy : Int)) (hsy : sy < 256) (hn2 : n ≤ 65536) :
    Calls Tryz.prog 85 #[.agg #[.int .i64 L, .slice A n c], .int .i64 (s : Int)] w fun e w' => e = .returned (.int .i64 (sy : Int)) ∧ Below w.heap.size w w' := by
  obtain ⟨d, o, rfl, _, _, hc⟩ := (hd.alloc hhi (.cells #[.int .i64 L, .slice A n c] 27)).ent (by omega)
  have q := (hc s (by omega)).1
  rw [hx] at q
  have hsi : ¬ (n : Int) ≤ (s : Int) := by omega
  have hsb : decide (n ≤ s) = false := by simp; omega
  have hwr : IntKind.i64.wrap (sy : Int) = (sy : Int) := IntWalk.i64_in _ (by omega)
  clear hd hc hx hn
  go_enter Tryz.func85, Tryz.ntmps85
  go_wp2_with fail
  go_ret
  exact ⟨rfl, (Below.refl _ _).alloc (Nat.le_refl _) _⟩

def St.at (s : St) (k : Nat) : Nat := match k with
  | 0 => s.l
  | 1 => s.o
  | _ => s.m
theorem StOk.at {T : T3} {s : St} (h : StOk T s) {k : Nat} (hk : k < 3) : s.at k < (T.tb k).es.length := by
  rcases (show k = 0 ∨ k = 1 ∨ k = 2 by omega) with rfl | rfl | rfl
  · exact h.l
  · exact h.o
  · exact h.m
/-- A sequence's values, one by one. -/
def seqL (xs : List UInt8) (T : T3) (s : St) (left : Int) : Nat → Int
  | 0 => left
  | k + 1 => (cdv xs (vo k) (T.tb (vo k)).es (s.at (vo k)) (seqL xs T s left k)).2
def seqX (xs : List UInt8) (T : T3) (s : St) (left : Int) (k : Nat) : Nat := (cdv xs (vo k) (T.tb (vo k)).es (s.at (vo k)) (seqL xs T s left k)).1
theorem seqv_eq (xs : List UInt8) (T : T3) (s : St) (left : Int) : seqv xs T s left = (⟨seqX xs T s left 2, seqX xs T s left 1, seqX xs T s left 0⟩, seqL xs T s left 3) := rfl
theorem seqL_le (xs : List UInt8) (T : T3) (s : St) (left : Int) : ∀ k, seqL xs T s left k ≤ left ∧ left - 56 * k ≤ seqL xs T s left k
  | 0 => by show left ≤ left ∧ left - 56 * (0 : Nat) ≤ left; omega
  | k + 1 => by
    have h1 := seqL_le xs T s left k
    have h2 := cdv_le xs (vo k) (T.tb (vo k)).es (s.at (vo k)) (seqL xs T s left k)
    rw [seqL]
    omega
/-- The box of numbers after k values. -/
def nums (f : Nat → Nat) (k : Nat) : Array Value := #[.int .u32 (if 2 < k then (f 2 : Int) else 0), .int .u32 (if 0 < k then (f 0 : Int) else 0), .int .u32 (if 1 < k then (f 1 : Int) else 0)]
theorem nums_set (f : Nat → Nat) {k : Nat} (hk : k < 3) : (nums f k).setIfInBounds (vo k) (.int .u32 (f k : Int)) = nums f (k + 1) := by
  rcases (show k = 0 ∨ k = 1 ∨ k = 2 by omega) with rfl | rfl | rfl <;> rfl
theorem nums_at (f : Nat → Nat) {k : Nat} (hk : k < 3) : (nums f k)[vo k]? = some (.int .u32 0) := by
  rcases (show k = 0 ∨ k = 1 ∨ k = 2 by omega) with rfl | rfl | rfl <;> rfl
def St.cells (s : St) : Array Value := #[.int .i64 (s.l : Int), .int .i64 (s.o : Int), .int .i64 (s.m : Int)]
theorem St.cell (s : St) {k : Nat} (hk : k < 3) : s.cells[k]? = some (.int .i64 (s.at k : Int)) := by
  rcases (show k = 0 ∨ k = 1 ∨ k = 2 by omega) with rfl | rfl | rfl <;> rfl
/-- What one value of a kind is, of an entry that is known. -/
theorem cdv_lt {n sy b e s : Nat} {es : List En} (xs : List UInt8) (hn : n < 3) (hs : s < es.length) (hx : es[s] = ⟨sy, b, e⟩) (hl : sy ≤ lastN n) (left : Int) :
    cd.codeN (n : Int) (sy : Int) = (cd.beginN n sy, cd.addN n sy, 0) ∧ cdv xs n es s left = (cd.beginN n sy + (bread xs left (cd.addN n sy : Int)).1, (bread xs left (cd.addN n sy : Int)).2) ∧ cd.beginN n sy + 2 ^ cd.addN n sy ≤ 4294967296 ∧ cd.addN n sy ≤ 31 := by
  refine ⟨?_, ?_, cd.end_le n hn sy hl, add_56 hn hl⟩
  · unfold cd.codeN
    rw [if_neg (by omega), show ((n : Nat) : Int).toNat = n by omega, show ((sy : Nat) : Int).toNat = sy by omega, if_neg (by have : cd.lastN n = lastN n := rfl; omega)]
  · unfold cdv
    rw [entAt_get hs hx]
end Go.Proofs.YtlidnialggpcpaaGreatDoor
