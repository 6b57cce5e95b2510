
/- A digest that grows, on lists: what its state and its rest are; a step of a piece. What a row's turn leaves. Nothing of the program's code is named here. -/
import Derived.Test.YtieepdhajjibpaaDoorShaVecs
import Derived.Test.YtieepdhajjibpaaDoorShaSpread
import Derived.ArgAppend
namespace Go.Proofs.YtieepdhajjibpaaDoor
open Go.RowKit

theorem wd_drop (bs : List UInt8) (p q : Nat) : wd bs (p + q) = wd (bs.drop p) q := by
  unfold wd
  simp only [List.getD, List.getElem?_drop, Nat.add_assoc]
theorem nxt_drop (bs : List UInt8) (p : Nat) (ws : List UInt32) (t : Nat) : nxt bs p ws t = nxt (bs.drop p) 0 ws t := by
  unfold nxt
  rw [wd_drop, Nat.zero_add]
theorem sch_drop (bs : List UInt8) (p t : Nat) : sch bs p t = sch (bs.drop p) 0 t := by
  induction t with
  | zero => rfl
  | succ t ih => rw [sch, sch, ih, nxt_drop]
theorem block_drop (ks : List UInt32) (bs : List UInt8) (p : Nat) (v : V8) : block ks bs p v = block ks (bs.drop p) 0 v := by
  unfold block
  rw [sch_drop]
theorem wd_app (bs ys : List UInt8) (q : Nat) (h : q + 4 ≤ bs.length) : wd (bs ++ ys) q = wd bs q := by
  unfold wd
  simp only [List.getD]
  rw [List.getElem?_append_left (by omega), List.getElem?_append_left (by omega), List.getElem?_append_left (by omega), List.getElem?_append_left (by omega)]
theorem sch_app (bs ys : List UInt8) (p : Nat) (h : p + 64 ≤ bs.length) (t : Nat) : sch (bs ++ ys) p t = sch bs p t := by
  induction t with
  | zero => rfl
  | succ t ih =>
    rw [sch, sch, ih]
    unfold nxt
    split
    · rw [wd_app _ _ _ (by omega)]
    · rfl
theorem blocks_app (ks : List UInt32) (bs ys : List UInt8) (n : Nat) (h : 64 * n ≤ bs.length) : blocks ks (bs ++ ys) n = blocks ks bs n := by
  induction n with
  | zero => rfl
  | succ n ih =>
    rw [blocks, blocks, ih (by omega)]
    unfold block
    rw [sch_app _ _ _ (by omega)]

/-- The state of the bytes so far. -/
def stOf (xs : List UInt8) : V8 := blocks kw xs (xs.length / 64)
/-- The digest's cells. -/
def hcells (v : V8) (r : List UInt8) (n : Nat) : Array Value := (v.cells.toList ++ (r.map cel ++ [Value.int .u64 (n : Int)])).toArray
/-- r is a rest of the bytes so far. -/
def Rst (xs r : List UInt8) : Prop := r.length = 64 ∧ r.take (xs.length % 64) = xs.drop (64 * (xs.length / 64))
/-- A rest with the piece p laid in from o on. -/
def lay (r : List UInt8) (o : Nat) (p : List UInt8) : List UInt8 := r.take o ++ p ++ r.drop (o + p.length)

theorem lay_length (r p : List UInt8) (o : Nat) (h : o + p.length ≤ r.length) : (lay r o p).length = r.length := by
  simp [lay]
  omega
theorem Rst.laid {xs r : List UInt8} (h : Rst xs r) (p : List UInt8) :
    (lay r (xs.length % 64) p).take (xs.length % 64 + p.length) = (xs ++ p).drop (64 * (xs.length / 64)) := by
  obtain ⟨hl, ht⟩ := h
  unfold lay
  rw [List.take_append_of_le_length (by simp; omega), List.take_of_length_le (by simp; omega), List.drop_append_of_le_length (by omega), ht]
/-- A piece that makes no block whole. -/
theorem Rst.part {xs r p : List UInt8} (h : Rst xs r) (hp : xs.length % 64 + p.length < 64) : Rst (xs ++ p) (lay r (xs.length % 64) p) ∧ stOf (xs ++ p) = stOf xs := by
  have hl := h.laid p
  have e1 : (xs ++ p).length % 64 = xs.length % 64 + p.length := by rw [List.length_append]; omega
  have e2 : (xs ++ p).length / 64 = xs.length / 64 := by rw [List.length_append]; omega
  refine ⟨⟨by rw [lay_length _ _ _ (by rw [h.1]; omega), h.1], by rw [e1, e2, hl]⟩, ?_⟩
  unfold stOf
  rw [e2, blocks_app _ _ _ _ (by omega)]
/-- A piece that makes a block whole. -/
theorem Rst.whole {xs r p : List UInt8} (h : Rst xs r) (hp : xs.length % 64 + p.length = 64) : Rst (xs ++ p) (lay r (xs.length % 64) p) ∧ stOf (xs ++ p) = block kw (lay r (xs.length % 64) p) 0 (stOf xs) := by
  have hl := h.laid p
  have e1 : (xs ++ p).length % 64 = 0 := by rw [List.length_append]; omega
  have e2 : (xs ++ p).length / 64 = xs.length / 64 + 1 := by rw [List.length_append]; omega
  have hr : (lay r (xs.length % 64) p).length = 64 := by rw [lay_length _ _ _ (by rw [h.1]; omega), h.1]
  refine ⟨⟨hr, ?_⟩, ?_⟩
  · rw [e1, e2, List.take_zero, List.drop_eq_nil_of_le (by rw [List.length_append]; omega)]
  · unfold stOf
    rw [e2, blocks, blocks_app _ _ _ _ (by omega), block_drop, ← hl, hp, List.take_of_length_le (by omega)]

section
variable {w w' w'' : World} {g : Nat}
/-- The world has turned in block g alone; what is new lies behind. -/
theorem wide_refl (w : World) (r : Option Nat) : w.grownBy w r := ⟨rfl, rfl, rfl, Nat.le_refl _, fun _ _ _ => rfl⟩
theorem wide_trans {r : Option Nat} (h : w.grownBy w' r) (h' : w'.grownBy w'' r) : w.grownBy w'' r :=
  ⟨h'.os.trans h.os, h'.tape.trans h.tape, h'.output.trans h.output, Nat.le_trans h.size h'.size, fun k hk hr => (h'.block k (by have := h.size; omega) hr).trans (h.block k hk hr)⟩
theorem wide_below {r : Option Nat} (h : Below w.heap.size w w') : w.grownBy w' r := ⟨h.os, h.tape, h.output, h.size, fun k hk _ => h.block k hk⟩
theorem wide_row (cs : Array Value) : w.grownBy (w.setRow g cs) (some g) :=
  ⟨rfl, rfl, rfl, by simp, fun k _ hr => setRow_other _ _ _ _ (fun e => hr (by rw [e]))⟩
theorem wide_set (i : Nat) (u : Value) : w.grownBy (w.setCell ⟨g, i, none⟩ u) (some g) :=
  ⟨rfl, rfl, rfl, by simp [World.setCell], fun k _ hr => Below.heap_setCell w _ u k (fun e => hr (by rw [e]))⟩
theorem wide_to_below {B : Nat} (h : w.grownBy w' (some g)) (hB : B ≤ w.heap.size) (hg : B ≤ g) : Below B w w' :=
  ⟨h.os, h.tape, h.output, h.size, fun k hk => h.block k (by omega) (fun e => by injection e with e; omega)⟩
end
end Go.Proofs.YtieepdhajjibpaaDoor
