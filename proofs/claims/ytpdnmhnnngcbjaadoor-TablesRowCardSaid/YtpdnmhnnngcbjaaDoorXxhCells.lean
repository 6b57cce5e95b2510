
/- Bytes as cells; what a row's turn leaves; quiet calls; a range of a row as a slice. Nothing of the program is named here. -/
import Derived.Test.YtpdnmhnnngcbjaaDoorCurPlain
import Derived.Test.YtpdnmhnnngcbjaaDoorShaRow
import Derived.Laws.BytesArg
namespace Go.Proofs.YtpdnmhnnngcbjaaDoor
open Go.RowKit

def bcells (bs : List UInt8) : Array Value := (bs.map cel).toArray
theorem bcells_get (bs : List UInt8) (i : Nat) (h : i < bs.length) : (bcells bs)[i]? = some (.int .u8 ((bs.getD i 0).toNat : Int)) := by
  simp [bcells, h, List.getD, cel]
theorem one_cel (ys : List UInt8) : ∀ v ∈ ys.map cel, v.oneCell' = true := by
  intro v hv
  obtain ⟨x, _, rfl⟩ := List.mem_map.1 hv
  rfl
theorem bcells_one (bs : List UInt8) : (bcells bs).all (·.oneCell') = true := by
  rw [Array.all_eq_true_iff_forall_mem]
  intro v hv
  exact one_cel bs v (by simpa [bcells] using hv)
theorem below_row {B : Nat} {a w : World} (h : Below B a w) {g : Nat} (hg : B ≤ g) (cs : Array Value) : Below B a (w.setRow g cs) :=
  h.trans ⟨rfl, rfl, rfl, by simp, fun k hk => setRow_other _ _ _ _ (by omega)⟩
theorem below_drawn {B : Nat} {a w : World} (h : Below B a w) (n : Nat) : Below B a (w.drewN n) := ⟨h.os, h.tape, h.output, h.size, h.block⟩
theorem quiet_left {P : Program} {f : FuncId} {args : Array Value} {w : World} {a n : Nat} {v : Value}
    (h : Calls P f args (w.drewN (a + n)) fun e w' => e = .returned v ∧ w.drewN (a + n) = w') : Calls P f args (w.drewN (a + n)) fun e w'' => e = .returned v ∧ ∃ m, w'' = w.drewN (a + m) :=
  h.mono fun _ _ ⟨he, hm⟩ => ⟨he, n, hm.symm⟩

/-- What make([]byte, L) lays. -/
theorem made_bytes (L : Nat) : madeCells (Value.cells (.int .u8 0)) L = bcells (List.replicate L 0) := by
  apply Array.ext
  · simp [madeCells, bcells]
  · intro i h1 h2
    simp [madeCells, bcells, Value.cells, cel, Nat.mod_one]
theorem bcells_set (ys : List UInt8) (i : Nat) (z : Int) (h0 : 0 ≤ z) (h1 : z < 256) : (bcells ys).setIfInBounds i (.int .u8 z) = bcells (ys.set i (UInt8.ofNat z.toNat)) := by
  have e : Value.int .u8 z = cel (UInt8.ofNat z.toNat) := by
    unfold cel
    congr 1
    simp
    omega
  rw [e]
  unfold bcells
  rw [List.setIfInBounds_toArray, List.map_set]

/-- A row of bytes from block g's cell o on, as a slice of a part of it. -/
theorem dat_box {w : World} {g : Nat} {t : TypeId} {bs : List UInt8} (h : Box w g t (bcells bs)) (o n : Nat) (hn : o + n ≤ bs.length) : Dat true w 0 w.heap.size (some ⟨g, o, none⟩) ((bs.drop o).take n) := fun _ =>
  ⟨g, o, rfl, Nat.zero_le _, h.lt, fun j hj => by
    have hj' : j < n := by simp at hj; omega
    rw [h.cell (o + j), bcells_get bs (o + j) (by omega)]
    simp [cel, List.getD, hj'], fun _ j => h.free j⟩

section
variable {w w' w'' : World} {g : Nat}
/-- The world has turned in block g alone; what is new lies behind. -/
theorem wide_refl (w : World) (r : Option Nat) : w.grownBy w r := ⟨rfl, rfl, rfl, Nat.le_refl _, fun _ _ _ => rfl⟩
theorem wide_trans {r : Option Nat} (h : w.grownBy w' r) (h' : w'.grownBy w'' r) : w.grownBy w'' r :=
  ⟨h'.os.trans h.os, h'.tape.trans h.tape, h'.output.trans h.output, Nat.le_trans h.size h'.size, fun k hk hr => (h'.block k (by have := h.size; omega) hr).trans (h.block k hk hr)⟩
theorem wide_below {r : Option Nat} (h : Below w.heap.size w w') : w.grownBy w' r := ⟨h.os, h.tape, h.output, h.size, fun k hk _ => h.block k hk⟩
theorem wide_row (cs : Array Value) : w.grownBy (w.setRow g cs) (some g) :=
  ⟨rfl, rfl, rfl, by simp, fun k _ hr => setRow_other _ _ _ _ (fun e => hr (by rw [e]))⟩
theorem wide_set (i : Nat) (u : Value) : w.grownBy (w.setCell ⟨g, i, none⟩ u) (some g) :=
  ⟨rfl, rfl, rfl, by simp [World.setCell], fun k _ hr => Below.heap_setCell w _ u k (fun e => hr (by rw [e]))⟩
theorem wide_to_below {B : Nat} (h : w.grownBy w' (some g)) (hB : B ≤ w.heap.size) (hg : B ≤ g) : Below B w w' :=
  ⟨h.os, h.tape, h.output, h.size, fun k hk => h.block k (by omega) (fun e => by injection e with e; omega)⟩
end
end Go.Proofs.YtpdnmhnnngcbjaaDoor
