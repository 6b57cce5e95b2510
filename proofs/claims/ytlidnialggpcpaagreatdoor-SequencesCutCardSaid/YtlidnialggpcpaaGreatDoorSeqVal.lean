
/- Three tables by value, as they lie in slots and in a box. -/
import Derived.Test.YtlidnialggpcpaaGreatDoorSeqTab
import Derived.Test.YtlidnialggpcpaaGreatDoorPileD
namespace Go.Proofs.YtlidnialggpcpaaGreatDoor
open Go.RowKit

def T3.tb (T : T3) (k : Nat) : Tb := match k with
  | 0 => T.t0
  | 1 => T.t1
  | _ => T.t2
/-- Three tables' values. -/
structure Ts where
  l : Nat → Nat
  A : Nat → Option Addr
  n : Nat → Nat
  c : Nat → Nat
def Ts.cells (x : Ts) : Array Value := #[.int .i64 (x.l 0 : Int), .slice (x.A 0) (x.n 0) (x.c 0), .int .i64 (x.l 1 : Int), .slice (x.A 1) (x.n 1) (x.c 1), .int .i64 (x.l 2 : Int), .slice (x.A 2) (x.n 2) (x.c 2)]
def Ts.val (x : Ts) : Value := .agg #[.int .i64 (x.l 0 : Int), .slice (x.A 0) (x.n 0) (x.c 0), .int .i64 (x.l 1 : Int), .slice (x.A 1) (x.n 1) (x.c 1), .int .i64 (x.l 2 : Int), .slice (x.A 2) (x.n 2) (x.c 2)]
theorem Ts.val_eq (x : Ts) : x.val = .agg x.cells := rfl
theorem Ts.at (x : Ts) {k : Nat} (h : k < 3) : x.cells[k * 2]? = some (.int .i64 (x.l k : Int)) ∧ x.cells[k * 2 + 1]? = some (.slice (x.A k) (x.n k) (x.c k)) := by
  rcases (show k = 0 ∨ k = 1 ∨ k = 2 by omega) with rfl | rfl | rfl <;> exact ⟨rfl, rfl⟩
/-- They are these tables, and lie below block hi. -/
structure TsIn (w : World) (hi : Nat) (x : Ts) (T : T3) : Prop where
  l : ∀ k, k < 3 → x.l k = (T.tb k).lg
  n : ∀ k, k < 3 → x.n k = (T.tb k).es.length
  d : ∀ k, k < 3 → DatR 3 ecell w 0 hi (x.A k) (T.tb k).es
theorem TsIn.keep {w w' : World} {hi : Nat} {x : Ts} {T : T3} (h : TsIn w hi x T) (he : ∀ k, k < hi → w'.heap[k]? = w.heap[k]?) : TsIn w' hi x T := ⟨h.l, h.n, fun k hk => (h.d k hk).keep fun j _ hj => he j hj⟩
theorem TsIn.below {w w' : World} {hi B : Nat} {x : Ts} {T : T3} (h : TsIn w hi x T) (hb : Below B w w') (hB : hi ≤ B) : TsIn w' hi x T := h.keep fun k hk => hb.block k (by omega)
theorem TsIn.mono {w : World} {hi hi' : Nat} {x : Ts} {T : T3} (h : TsIn w hi x T) (hB : hi ≤ hi') : TsIn w hi' x T := ⟨h.l, h.n, fun k hk => (h.d k hk).mono (Nat.le_refl _) hB⟩
theorem T3Ok.tb {T : T3} (h : T3Ok T) {k : Nat} (hk : k < 3) : TOk k (T.tb k) := by
  rcases (show k = 0 ∨ k = 1 ∨ k = 2 by omega) with rfl | rfl | rfl
  · exact h.o0
  · exact h.o1
  · exact h.o2

/-- A box of three cells, the first k of which are f's, the others as h has them. -/
def tri (f h : Nat → Value) (k : Nat) : Array Value := #[if 0 < k then f 0 else h 0, if 1 < k then f 1 else h 1, if 2 < k then f 2 else h 2]
theorem tri_set (f h : Nat → Value) {k : Nat} (hk : k < 3) : (tri f h k).setIfInBounds k (f k) = tri f h (k + 1) := by
  rcases (show k = 0 ∨ k = 1 ∨ k = 2 by omega) with rfl | rfl | rfl <;> rfl
theorem tri_at (f h : Nat → Value) {k : Nat} (hk : k < 3) : (tri f h k)[k]? = some (h k) := by
  rcases (show k = 0 ∨ k = 1 ∨ k = 2 by omega) with rfl | rfl | rfl <;> rfl
theorem tri_all (f h : Nat → Value) : tri f h 3 = #[f 0, f 1, f 2] := rfl

/-! The first states, one by one. -/
def startL (xs : List UInt8) (T : T3) (left : Int) : Nat → Int
  | 0 => left
  | k + 1 => (bread xs (startL xs T left k) ((T.tb k).lg : Int)).2
def startX (xs : List UInt8) (T : T3) (left : Int) (k : Nat) : Nat := (bread xs (startL xs T left k) ((T.tb k).lg : Int)).1
theorem startv_eq (xs : List UInt8) (T : T3) (left : Int) : startv xs T left = (⟨startX xs T left 0, startX xs T left 1, startX xs T left 2⟩, startL xs T left 3) := rfl
theorem startL_le (xs : List UInt8) (T : T3) (left : Int) : ∀ k, startL xs T left k ≤ left ∧ left - 56 * k ≤ startL xs T left k
  | 0 => by show left ≤ left ∧ left - 56 * (0 : Nat) ≤ left; omega
  | k + 1 => by
    have h1 := startL_le xs T left k
    have h2 := bread_le' xs (startL xs T left k) ((T.tb k).lg : Int)
    rw [startL]
    omega
theorem grown_set {w wx : World} {r : Option Nat} (h : w.grownBy wx r) {p : Addr} (hp : w.heap.size ≤ p.block) (v : Value) : w.grownBy (wx.setCell p v) r :=
  ⟨h.os, h.tape, h.output, by have := h.size; simpa [World.setCell] using this, fun k hk hne => (Below.heap_setCell wx p v k (by omega)).trans (h.block k hk hne)⟩
theorem grown_then {w w1 w2 : World} {r : Option Nat} (h : w.grownBy w1 r) (h2 : w1.grownBy w2 r) : w.grownBy w2 r :=
  ⟨h2.os.trans h.os, h2.tape.trans h.tape, h2.output.trans h.output, Nat.le_trans h.size h2.size, fun k hk hne => (h2.block k (by have := h.size; omega) hne).trans (h.block k hk hne)⟩
theorem grown_of_below {w w' : World} (hb : Below w.heap.size w w') (r : Option Nat) : w.grownBy w' r := ⟨hb.os, hb.tape, hb.output, hb.size, fun k hk _ => hb.block k hk⟩
def iv (n : Nat) : Value := .int .i64 (n : Int)
end Go.Proofs.YtlidnialggpcpaaGreatDoor
