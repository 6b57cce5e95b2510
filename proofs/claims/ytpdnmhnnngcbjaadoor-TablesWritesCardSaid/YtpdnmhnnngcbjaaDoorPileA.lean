/- The contracts of CurPlain, Els, Args, ArgsInts, Recs, CurApp, ShaRow, XxhCells, AppZ, Vars, AppR, in one text. -/
import Derived.WalkKit
import Derived.WalkSpells
import Derived.Deep.Draws
import Derived.Maps.AppendAt
import Derived.Deep.AppendLies
import Derived.OwnWalk
import Derived.Test.YtpdnmhnnngcbjaaDoorRows
import Derived.ProofKit
import Derived.OpenShut
import Derived.ShutString
import Derived.ChangeOld
import Derived.Deep.RegionLaw
import Derived.RegionTactic
import Derived.Laws.BytesArg
import Derived.Laws.IdiomCopy
import Derived.Laws.CopyRow
import Derived.Laws.Tables
import Derived.Laws.Rows
import Derived.StillTailTactics
import Derived.Deep.MidRow
/- Plain lemmas for the cursor layer: little-endian numbers as lists of bytes, blocks of memory that are known whole, slices that read as a list of bytes. Nothing of the program is named here. -/
namespace Go.Proofs.YtpdnmhnnngcbjaaDoor
open Go.RowKit

/-- The number that bytes make, the lowest first. -/
def le : List UInt8 → Nat
  | [] => 0
  | x :: r => x.toNat + 256 * le r

/-- A number in n bytes, the lowest first. -/
def put (x : Nat) : Nat → List UInt8
  | 0 => []
  | n + 1 => UInt8.ofNat (x % 256) :: put (x / 256) n

theorem le_lt (xs : List UInt8) : le xs < 256 ^ xs.length := by
  induction xs with
  | nil => simp [le]
  | cons x r ih =>
    have := x.toNat_lt
    simp only [le, List.length_cons, Nat.pow_succ]
    omega
theorem le_snoc (xs : List UInt8) (x : UInt8) : le (xs ++ [x]) = le xs + x.toNat * 256 ^ xs.length := by
  induction xs with
  | nil => simp [le]
  | cons y r ih =>
    simp only [List.cons_append, le, ih, List.length_cons, Nat.pow_succ, Nat.mul_add]
    have : 256 * (x.toNat * 256 ^ r.length) = x.toNat * (256 ^ r.length * 256) := by
      rw [Nat.mul_comm 256, Nat.mul_assoc]
    omega
theorem put_length (x n : Nat) : (put x n).length = n := by
  induction n generalizing x with
  | zero => rfl
  | succ n ih => simp [put, ih]
theorem put_snoc (x n : Nat) : put x (n + 1) = put x n ++ [UInt8.ofNat (x / 256 ^ n % 256)] := by
  induction n generalizing x with
  | zero => simp [put]
  | succ n ih =>
    rw [put, ih (x / 256), put]
    simp only [List.cons_append, Nat.pow_succ]
    rw [Nat.div_div_eq_div_mul, Nat.mul_comm 256]
theorem le_put (x n : Nat) : le (put x n) = x % 256 ^ n := by
  induction n generalizing x with
  | zero => simp [put, le, Nat.mod_one]
  | succ n ih =>
    rw [put, le, ih]
    have h : (UInt8.ofNat (x % 256)).toNat = x % 256 := by simp
    rw [h, Nat.pow_succ, Nat.mul_comm (256 ^ n), Nat.mod_mul]

/-- One round of reading a number: the next byte is laid above those that are there. -/
theorem or_step (x c k : Nat) (hx : x < 256 ^ k) (hc : c < 256) (hk : k < 8) :
    bits .or .u64 (x : Int) (IntKind.u64.wrap (IntKind.u64.wrap (c : Int) * 2 ^ (8 * k))) = ((x + c * 256 ^ k : Nat) : Int) := by
  have hp : (256 : Nat) ^ k = 2 ^ (8 * k) := by rw [Nat.pow_mul]
  rw [hp] at hx ⊢
  have hP : 2 ^ (8 * k) ≤ 2 ^ 56 := Nat.pow_le_pow_right (by omega) (by omega)
  have hcp : c * 2 ^ (8 * k) ≤ 255 * 2 ^ 56 := Nat.mul_le_mul (by omega) hP
  have h1 : IntKind.u64.wrap (c : Int) = (c : Int) := by rw [IntKind.wrap_u64]; omega
  have h2 : (c : Int) * 2 ^ (8 * k) = ((c * 2 ^ (8 * k) : Nat) : Int) := by simp
  rw [h1, h2]
  have h3 : IntKind.u64.wrap ((c * 2 ^ (8 * k) : Nat) : Int) = ((c * 2 ^ (8 * k) : Nat) : Int) := by rw [IntKind.wrap_u64]; omega
  rw [h3, u64_or_nat _ _ (by omega) (by omega), Nat.or_comm, nat_join (8 * k) _ _ (Nat.mul_mod_left _ _) hx, Nat.add_comm]

/-- The byte k of a number, as it is shifted down and cut. -/
theorem byte_step (x k : Nat) : IntKind.u8.wrap ((x : Int) / 2 ^ (8 * k)) = (((UInt8.ofNat (x / 256 ^ k % 256)).toNat : Nat) : Int) := by
  have hp : (256 : Nat) ^ k = 2 ^ (8 * k) := by rw [Nat.pow_mul]
  rw [hp, IntKind.wrap_u8']
  have h : (x : Int) / 2 ^ (8 * k) = ((x / 2 ^ (8 * k) : Nat) : Int) := by simp
  rw [h]
  simp

/-- A byte as a cell. -/
def cel (x : UInt8) : Value := .int .u8 (x.toNat : Int)

/-- Block g is just these cells of type t, none frozen. -/
def Box (w : World) (g : Nat) (t : TypeId) (cs : Array Value) : Prop := w.heap[g]? = some (.cells cs t (0, 0))

/-- A slice at A holds the bytes xs; they lie in a block from lo on and below hi; 'own': that block is nowhere frozen. -/
def Dat (own : Bool) (w : World) (lo hi : Nat) (A : Option Addr) (xs : List UInt8) : Prop :=
  0 < xs.length → ∃ d o, A = some ⟨d, o, none⟩ ∧ lo ≤ d ∧ d < hi ∧ (∀ j, j < xs.length → w.cell? ⟨d, o + j, none⟩ = some (cel (xs.getD j 0))) ∧
    (own = true → ∀ j, w.frozen? ⟨d, j, none⟩ = false)

section
variable {w w' : World} {g : Nat} {t : TypeId} {cs : Array Value}
theorem Box.lt (h : Box w g t cs) : g < w.heap.size := (Array.getElem?_eq_some_iff.1 h).1
theorem Box.cell (h : Box w g t cs) (i : Nat) : w.cell? ⟨g, i, none⟩ = cs[i]? := cell_of_row w g i cs t (0, 0) h
theorem Box.free (h : Box w g t cs) (i : Nat) : w.frozen? ⟨g, i, none⟩ = false := by
  unfold Box at h
  simp [World.frozen?, h]
theorem Box.new (w : World) (t : TypeId) (cs : Array Value) : Box (w.alloc (.cells cs t)) w.heap.size t cs := heap_alloc_new w _
theorem Box.keep (h : Box w g t cs) (he : w'.heap[g]? = w.heap[g]?) : Box w' g t cs := he.trans h
theorem Box.alloc (h : Box w g t cs) (o : Obj) : Box (w.alloc o) g t cs := h.keep (Below.heap_alloc w o g h.lt)
theorem Box.put (h : Box w g t cs) (i : Nat) (u : Value) : Box (w.setCell ⟨g, i, none⟩ u) g t (cs.setIfInBounds i u) := by
  unfold Box at h ⊢
  simp [World.setCell, Array.getElem?_modify, h]
theorem Box.far (h : Box w g t cs) {p : Addr} (hp : g ≠ p.block) (u : Value) : Box (w.setCell p u) g t cs := h.keep (Below.heap_setCell w p u g hp)
theorem Box.below {B : Nat} (h : Box w g t cs) (hb : Below B w w') (hg : g < B) : Box w' g t cs := h.keep (hb.block g hg)
theorem Box.grown {row : Option Nat} (h : Box w g t cs) (hb : w.grownBy w' row) (hg : some g ≠ row) : Box w' g t cs := h.keep (hb.block g h.lt hg)
end

section
variable {own : Bool} {w w' : World} {lo hi : Nat} {A : Option Addr} {xs : List UInt8}
theorem Dat.nil (own : Bool) (w : World) (lo hi : Nat) (A : Option Addr) : Dat own w lo hi A [] := fun h => absurd h (by simp)
theorem Dat.keep (h : Dat own w lo hi A xs) (he : ∀ k, lo ≤ k → k < hi → w'.heap[k]? = w.heap[k]?) : Dat own w' lo hi A xs := fun hx => by
  obtain ⟨d, o, hA, h1, h2, hc, hf⟩ := h hx
  exact ⟨d, o, hA, h1, h2, fun j hj => (World.cell?_of_block (he d h1 h2)).trans (hc j hj), fun ho j => (World.frozen?_of_block (he d h1 h2)).trans (hf ho j)⟩
theorem Dat.below {B : Nat} (h : Dat own w lo hi A xs) (hb : Below B w w') (hB : hi ≤ B) : Dat own w' lo hi A xs := h.keep fun k _ hk => hb.block k (by omega)
theorem Dat.grown {row : Option Nat} (h : Dat own w lo hi A xs) (hb : w.grownBy w' row) (hs : hi ≤ w.heap.size) (hr : ∀ k, row = some k → k < lo ∨ hi ≤ k) : Dat own w' lo hi A xs :=
  h.keep fun k h1 h2 => hb.block k (by omega) (fun e => by have := hr k e.symm; omega)
theorem Dat.alloc (h : Dat own w lo hi A xs) (hs : hi ≤ w.heap.size) (o : Obj) : Dat own (w.alloc o) lo hi A xs := h.keep fun k _ h2 => Below.heap_alloc w o k (by omega)
theorem Dat.drew (h : Dat own w lo hi A xs) : Dat own w.drew lo hi A xs := h
theorem Dat.far (h : Dat own w lo hi A xs) {p : Addr} (hp : p.block < lo ∨ hi ≤ p.block) (u : Value) : Dat own (w.setCell p u) lo hi A xs := h.keep fun k h1 h2 => Below.heap_setCell w p u k (by omega)
theorem Dat.mono {lo' hi' : Nat} (h : Dat own w lo hi A xs) (hl : lo' ≤ lo) (hh : hi ≤ hi') : Dat own w lo' hi' A xs := fun hx => by
  obtain ⟨d, o, hA, h1, h2, hc⟩ := h hx
  exact ⟨d, o, hA, by omega, by omega, hc⟩
theorem Dat.take (h : Dat own w lo hi A xs) (k : Nat) : Dat own w lo hi A (xs.take k) := fun hx => by
  have hlen : (xs.take k).length ≤ xs.length := by simp; omega
  obtain ⟨d, o, hA, h1, h2, hc, hf⟩ := h (by omega)
  refine ⟨d, o, hA, h1, h2, fun j hj => ?_, hf⟩
  rw [hc j (by omega)]
  have hk : j < k := by simp at hj; omega
  simp [List.getD, hk]
theorem Dat.drop (h : Dat own w lo hi A xs) (k : Nat) : Dat own w lo hi (A.map (·.add k)) (xs.drop k) := fun hx => by
  have hlen : (xs.drop k).length = xs.length - k := by simp
  obtain ⟨d, o, hA, h1, h2, hc, hf⟩ := h (by omega)
  refine ⟨d, o + k, ?_, h1, h2, fun j hj => ?_, hf⟩
  · subst hA
    simp only [Option.map_some, Addr.add]
    split <;> simp_all
  · have := hc (k + j) (by omega)
    rw [show o + k + j = o + (k + j) by omega, this]
    simp [List.getD]
theorem Dat.cut (h : Dat own w lo hi A xs) {k c : Nat} (hc : xs.length ≤ c) : Dat own w lo hi (if c = k then A else A.map (·.add k)) (xs.drop k) := by
  by_cases hk : c = k
  · rw [if_pos hk, List.drop_of_length_le (by omega)]
    exact Dat.nil own w lo hi A
  · rw [if_neg hk]
    exact h.drop k
end
end Go.Proofs.YtpdnmhnnngcbjaaDoor

/- Slices of elements of one cell each, of whatever type: those that are read (DatE), those that the call itself owns (OwE), appending to them. Nothing of the program is named here. -/
namespace Go.Proofs.YtpdnmhnnngcbjaaDoor
open Go.RowKit

/-- A slice at A holds the elements xs, each in one cell; they lie in a block from lo on and below hi. -/
def DatE {α : Type} (f : α → Value) (w : World) (lo hi : Nat) (A : Option Addr) (xs : List α) : Prop :=
  0 < xs.length → ∃ d o, A = some ⟨d, o, none⟩ ∧ lo ≤ d ∧ d < hi ∧ ∀ j (h : j < xs.length), w.cell? ⟨d, o + j, none⟩ = some (f xs[j])

/-- The slice v is the call's own (blocks from base on) and holds the elements xs; u: the number of their type. -/
def OwE {α : Type} (f : α → Value) (w : World) (u base : Nat) (v : Value) (xs : List α) : Prop := w.ownsRow base u 1 v xs.length (xs.map f)

section
variable {α : Type} {f : α → Value} {w w' : World} {lo hi : Nat} {A : Option Addr} {xs : List α}
theorem DatE.nil (f : α → Value) (w : World) (lo hi : Nat) (A : Option Addr) : DatE f w lo hi A [] := fun h => absurd h (by simp)
theorem DatE.keep (h : DatE f w lo hi A xs) (he : ∀ k, lo ≤ k → k < hi → w'.heap[k]? = w.heap[k]?) : DatE f w' lo hi A xs := fun hx => by
  obtain ⟨d, o, hA, h1, h2, hc⟩ := h hx
  exact ⟨d, o, hA, h1, h2, fun j hj => (World.cell?_of_block (he d h1 h2)).trans (hc j hj)⟩
theorem DatE.below {B : Nat} (h : DatE f w lo hi A xs) (hb : Below B w w') (hB : hi ≤ B) : DatE f w' lo hi A xs := h.keep fun k _ hk => hb.block k (by omega)
theorem DatE.grown {row : Option Nat} (h : DatE f w lo hi A xs) (hb : w.grownBy w' row) (hs : hi ≤ w.heap.size) (hr : ∀ k, row = some k → k < lo ∨ hi ≤ k) : DatE f w' lo hi A xs :=
  h.keep fun k h1 h2 => hb.block k (by omega) (fun e => by have := hr k e.symm; omega)
theorem DatE.alloc (h : DatE f w lo hi A xs) (hs : hi ≤ w.heap.size) (o : Obj) : DatE f (w.alloc o) lo hi A xs := h.keep fun k _ h2 => Below.heap_alloc w o k (by omega)
theorem DatE.far (h : DatE f w lo hi A xs) {p : Addr} (hp : p.block < lo ∨ hi ≤ p.block) (u : Value) : DatE f (w.setCell p u) lo hi A xs := h.keep fun k h1 h2 => Below.heap_setCell w p u k (by omega)
theorem DatE.mono {lo' hi' : Nat} (h : DatE f w lo hi A xs) (hl : lo' ≤ lo) (hh : hi ≤ hi') : DatE f w lo' hi' A xs := fun hx => by
  obtain ⟨d, o, hA, h1, h2, hc⟩ := h hx
  exact ⟨d, o, hA, by omega, by omega, hc⟩
theorem DatE.take (h : DatE f w lo hi A xs) (k : Nat) : DatE f w lo hi A (xs.take k) := fun hx => by
  have hlen : (xs.take k).length ≤ xs.length := by simp; omega
  obtain ⟨d, o, hA, h1, h2, hc⟩ := h (by omega)
  refine ⟨d, o, hA, h1, h2, fun j hj => ?_⟩
  rw [hc j (by omega), List.getElem_take]
theorem DatE.drop (h : DatE f w lo hi A xs) (k : Nat) : DatE f w lo hi (A.map (·.add k)) (xs.drop k) := fun hx => by
  have hlen : (xs.drop k).length = xs.length - k := by simp
  obtain ⟨d, o, hA, h1, h2, hc⟩ := h (by omega)
  refine ⟨d, o + k, ?_, h1, h2, fun j hj => ?_⟩
  · subst hA
    simp only [Option.map_some, Addr.add]
    split <;> simp_all
  · have := hc (k + j) (by omega)
    rw [show o + k + j = o + (k + j) by omega, this, List.getElem_drop]
theorem DatE.cut (h : DatE f w lo hi A xs) {k c : Nat} (hc : xs.length ≤ c) : DatE f w lo hi (if c = k then A else A.map (·.add k)) (xs.drop k) := by
  by_cases hk : c = k
  · rw [if_pos hk, List.drop_of_length_le (by omega)]
    exact DatE.nil f w lo hi A
  · rw [if_neg hk]
    exact h.drop k
end

section
variable {α : Type} {f : α → Value} {P : Program} {w w' : World} {u base lo hi : Nat} {v : Value} {xs ys : List α} {A : Option Addr} {m c : Nat}
theorem OwE.nil (f : α → Value) (w : World) (u base : Nat) : OwE f w u base (.slice none 0 0) [] := World.ownsRow_nil w base u 1
theorem OwE.alloc (h : OwE f w u base v xs) (o : Obj) : OwE f (w.alloc o) u base v xs := World.ownsRow.alloc h o
theorem OwE.grown {row : Option Nat} (h : OwE f w u base v xs) (hg : w.grownBy w' row) (hne : v.ownBlock = none ∨ v.ownBlock ≠ row) : OwE f w' u base v xs := World.ownsRow.kept h hg hne
theorem OwE.keep (h : OwE f w u base v xs) (he : ∀ k, v.ownBlock = some k → w'.heap[k]? = w.heap[k]?) : OwE f w' u base v xs := by
  refine ⟨h.1, ?_⟩
  rcases h.2 with hn | ⟨g, cap, cur, rfl, hb, hh, q⟩
  · exact .inl hn
  · exact .inr ⟨g, cap, cur, rfl, hb, (he g rfl).trans hh, q⟩
theorem OwE.mono {b : Nat} (h : OwE f w u base v xs) (hb : b ≤ base) : OwE f w u b v xs := by
  refine ⟨h.1, ?_⟩
  rcases h.2 with hn | ⟨g, cap, cur, hv, hg, q⟩
  · exact .inl hn
  · exact .inr ⟨g, cap, cur, hv, by omega, q⟩
theorem OwE.block (h : OwE f w u base v xs) : ∀ k, v.ownBlock = some k → base ≤ k ∧ k < w.heap.size := World.ownsRow.lt h
/-- As a slice that holds these elements. -/
theorem OwE.form (h : OwE f w u base v xs) : ∃ A c, v = .slice A xs.length c ∧ xs.length ≤ c ∧ DatE f w base w.heap.size A xs := by
  rcases h.2 with ⟨rfl, h0⟩ | ⟨g, cap, cur, rfl, hb, hh, hnc, _, _, ht⟩
  · have : xs = [] := List.eq_nil_of_length_eq_zero h0
    subst this
    exact ⟨none, 0, rfl, by simp, DatE.nil _ _ _ _ _⟩
  · refine ⟨_, cap, rfl, hnc, fun hx => ⟨g, 0, rfl, hb, (Array.getElem?_eq_some_iff.1 hh).1, fun j hj => ?_⟩⟩
    have hc := World.ownsRow.cells h (g := g) rfl j (f xs[j]) (by simp [hj])
    have ha : (⟨g, 0, none⟩ : Addr).add j = ⟨g, 0 + j, none⟩ := by unfold Addr.add; split <;> simp_all
    rw [ha] at hc
    exact hc
theorem OwE.slice (h : OwE f w u base v xs) : ∃ A n c, v = .slice A n c := by
  obtain ⟨A, c, hv, _⟩ := h.form
  exact ⟨A, _, c, hv⟩
theorem OwE.ne_box {g : Nat} {t : TypeId} {cs : Array Value} (h : OwE f w u base v xs) (hg : Box w g t cs) (hne : u ≠ t) : v.ownBlock ≠ some g := by
  rcases h.2 with ⟨rfl, _⟩ | ⟨g', cap, cur, rfl, _, hh, _⟩
  · simp [Value.ownBlock]
  · intro he
    have : g' = g := by simpa [Value.ownBlock] using he
    subst this
    unfold Box at hg
    rw [hg] at hh
    injection hh with hh
    injection hh with _ ht
    exact hne ht.symm

theorem run_appE_none (t ty : TypeId) (i : TypeInfo) (ht : P.underlying t = some (.slice u)) (hn : P.info? u = some i) (h : OwE f w u base v xs) :
    (Builtin.append_ #[t, t] ty #[v, .slice none 0 c]).run P w = .ok v w := by
  rcases h.2 with ⟨rfl, h0⟩ | ⟨g, cap, cur, rfl, _, _, hnc, _⟩
  · simp [Builtin.append_, run_underlying ht, sizeOf, typeInfo, hn, Builtin.lenOf, Builtin.firstCells]
  · simp [Builtin.append_, run_underlying ht, sizeOf, typeInfo, hn, Builtin.lenOf, Builtin.firstCells, hnc, storeCells]

theorem run_appE (hf : ∀ x, (f x).oneCell' = true) (w : World) (t ty : TypeId) (i : TypeInfo) (z : Value) (bytes : Nat) (ht : P.underlying t = some (.slice u)) (hn : P.info? u = some i) (hz : i.zero = some z) (hsize : i.size = 1) (hby : i.bytes = bytes)
    (hzs : z.cells.size = 1) (hb64 : bytes ≤ 64)
    (h : OwE f w u base v xs) (hd : DatE f w lo hi A ys) (hm : ys.length = m) (hb : xs.length + m ≤ 1099511627776) (hbase : base ≤ w.heap.size) :
    ∃ v' w', (Builtin.append_ #[t, t] ty #[v, .slice A m c]).run P w = .ok v' w' ∧ OwE f w' u base v' (xs ++ ys) ∧ w.grownBy w' v.ownBlock ∧ (v'.ownBlock = v.ownBlock ∨ v'.ownBlock = some w.heap.size) := by
  subst hm
  rcases A with _ | ad
  · have hy : ys = [] := by
      rcases ys with _ | ⟨y, r⟩
      · rfl
      · obtain ⟨_, _, h', _⟩ := hd (by simp)
        cases h'
    subst hy
    exact ⟨v, w, run_appE_none t ty i ht hn h, by simpa using h, World.grownBy.refl w _, .inl rfl⟩
  · have hcells : ∀ j x, (ys.map f)[j]? = some x → w.cell? (ad.add j) = some x := by
      intro j x hx
      have hj : j < ys.length := by
        rcases Nat.lt_or_ge j ys.length with h1 | h1
        · exact h1
        · simp [List.getElem?_eq_none h1] at hx
      obtain ⟨d, o, hA, _, _, hc⟩ := hd (by omega)
      injection hA with hA
      subst hA
      have ha : (⟨d, o, none⟩ : Addr).add j = ⟨d, o + j, none⟩ := by unfold Addr.add; split <;> simp_all
      rw [ha, hc j hj, ← hx]
      simp [hj]
    have hbytes : (xs.length + ys.length) * bytes ≤ 140737488355328 := Nat.le_trans (Nat.mul_le_mul hb hb64) (by decide)
    obtain ⟨v', w', hrun, h2, h3, _, h5⟩ := run_append_own_at (P := P) w base t ty u i z 1 bytes ht hn hz hsize hby hzs (by omega) v xs.length (xs.map f) h ad ys.length c (ys.map f) (by simp) hcells
      (by intro x hx; obtain ⟨y, _, rfl⟩ := List.mem_map.1 hx; exact hf y) (by unfold maxLen; omega) hbytes hbase
    refine ⟨v', w', hrun, ?_, h3, h5⟩
    unfold OwE
    rw [List.map_append, List.length_append]
    exact h2

theorem wp_appE {o : Oper} {a : Act} {K : Act → World → Prop} {Q : Exit → Act → World → Prop} (hf : ∀ x, (f x).oneCell' = true) (w : World) (s x : Operand) (t : TypeId)
    (ho : o.op = .call { callee := .builtin .append, args := #[s, x], argTypes := #[t, t] })
    (i : TypeInfo) (z : Value) (bytes : Nat) (ht : P.underlying t = some (.slice u)) (hn : P.info? u = some i) (hz : i.zero = some z) (hsize : i.size = 1) (hby : i.bytes = bytes) (hzs : z.cells.size = 1) (hb64 : bytes ≤ 64)
    (hs : a.eval s = v) (h : OwE f w u base v xs) (hx : a.eval x = .slice A m c) (hd : DatE f w lo hi A ys) (hm : ys.length = m) (hb : xs.length + m ≤ 1099511627776) (hbase : base ≤ w.heap.size)
    (hK : ∀ v' w', OwE f w' u base v' (xs ++ ys) → w.grownBy w' v.ownBlock → (v'.ownBlock = v.ownBlock ∨ v'.ownBlock = some w.heap.size) → K (a.put o.dst v') w') : o.wp P a w K Q := by
  obtain ⟨v', w', hrun, h2, h3, h4⟩ := run_appE (P := P) (c := c) hf w t o.type i z bytes ht hn hz hsize hby hzs hb64 h hd hm hb hbase
  unfold Oper.wp execOp
  simp only [ho, resolve, invoke, builtin, Sem.run_bind, Sem.run_pure, Result.andThen_ok, List.map_toArray, List.map_cons, List.map_nil, hs, hx, hrun]
  exact hK v' w' h2 h3 h4

theorem list_appE {ops : Array Oper} {rest : List Oper} {o : Oper} {a : Act} {Q : Exit → Act → World → Prop} (hf : ∀ x, (f x).oneCell' = true) (w : World) (hgd : o.guard = none) (s x : Operand) (t : TypeId)
    (ho : o.op = .call { callee := .builtin .append, args := #[s, x], argTypes := #[t, t] })
    (i : TypeInfo) (z : Value) (bytes : Nat) (ht : P.underlying t = some (.slice u)) (hn : P.info? u = some i) (hz : i.zero = some z) (hsize : i.size = 1) (hby : i.bytes = bytes) (hzs : z.cells.size = 1) (hb64 : bytes ≤ 64)
    (hs : a.eval s = v) (h : OwE f w u base v xs) (hx : a.eval x = .slice A m c) (hd : DatE f w lo hi A ys) (hm : ys.length = m) (hb : xs.length + m ≤ 1099511627776) (hbase : base ≤ w.heap.size)
    (hK : ∀ v' w', OwE f w' u base v' (xs ++ ys) → w.grownBy w' v.ownBlock → (v'.ownBlock = v.ownBlock ∨ v'.ownBlock = some w.heap.size) → wpList P ops Q rest (a.put o.dst v') w') : wpList P ops Q (o :: rest) a w :=
  wpList_plain hgd fun _ hKK => wp_appE hf w s x t ho i z bytes ht hn hz hsize hby hzs hb64 hs h hx hd hm hb hbase fun v' w' h2 h3 h4 => hKK _ _ (hK v' w' h2 h3 h4)

/-- The new row of one element. -/
theorem datE_one (f : α → Value) (w : World) (x : α) (u : TypeId) (v : Value) (hv : v = f x) : DatE f (w.alloc (.cells #[v] u)) w.heap.size (w.heap.size + 1) (some ⟨w.heap.size, 0, none⟩) [x] := fun _ =>
  ⟨w.heap.size, 0, rfl, Nat.le_refl _, by omega, fun j hj => by
    have h := (Box.new w u #[v]).cell (0 + j)
    have hj0 : j = 0 := by simp at hj; omega
    subst hj0 hv
    exact h⟩
end
end Go.Proofs.YtpdnmhnnngcbjaaDoor

/- Arguments of type []byte, as slices that read as lists of bytes; what each law's frame wants. Made of XxhArgs, but that it stands on no layer. -/
namespace Go.Proofs.YtpdnmhnnngcbjaaDoor
open Go.ChangeShapes Go.WideShapes Go.ChangeAt Go.RowKit

/-- A slice of integers that came in: nil, or a row of 'cap' cells with the numbers zs, each of which fits its kind. -/
def IsRow (k : IntKind) (w : World) (a : Option Addr) (len cap : Nat) (zs : List Int) : Prop :=
  (a = none ∧ len = 0 ∧ cap = 0 ∧ zs = []) ∨
  ∃ x, a = some x ∧ len ≤ cap ∧ cap ≤ maxLen ∧ zs.length = cap ∧ (∀ i, i < zs.length → w.cell? (x.add i) = some (.int k (zs.getD i 0))) ∧ ∀ n ∈ zs, (Lit.int k n).wf = true

theorem byte_wf {n : Int} (h : (Lit.int .u8 n).wf = true) : ((UInt8.ofNat n.toNat).toNat : Int) = n := by
  have hx : 0 ≤ n ∧ n ≤ 255 := by simpa [Lit.wf, IntKind.min, IntKind.max, IntKind.signed, IntKind.bits] using h
  simp
  omega

/-- The bytes of such a slice. -/
theorem row_dat {w : World} {a : Option Addr} {len cap : Nat} {zs : List Int} (h : IsRow .u8 w a len cap zs) : ∃ xs : List UInt8, xs.length = len ∧ len ≤ cap ∧ cap ≤ maxLen ∧ Dat false w 0 w.heap.size a xs := by
  rcases h with ⟨rfl, rfl, rfl, rfl⟩ | ⟨x, rfl, hl, hm, hz, hc, hw⟩
  · exact ⟨[], rfl, Nat.le_refl _, Nat.zero_le _, Dat.nil _ _ _ _ _⟩
  · refine ⟨(zs.take len).map fun z => UInt8.ofNat z.toNat, by simp; omega, hl, hm, fun hx => ?_⟩
    have hlen : ((zs.take len).map fun z => UInt8.ofNat z.toNat).length = len := by simp; omega
    obtain ⟨b, off, rfl, hc'⟩ := ints_at hc (by omega)
    have hlt := World.block_lt_of_cell? w _ (hc' 0 (by omega))
    refine ⟨b, off, rfl, Nat.zero_le _, hlt, fun j hj => ?_, fun ho => by cases ho⟩
    rw [hc' j (by omega)]
    have hjz : j < zs.length := by omega
    have e : ((zs.take len).map fun z => UInt8.ofNat z.toNat).getD j 0 = UInt8.ofNat (zs[j]).toNat := by
      rw [List.getD_eq_getElem?_getD, List.getElem?_map, List.getElem?_take, if_pos (by omega), List.getElem?_eq_getElem hjz]
      rfl
    rw [e, cel, byte_wf (hw _ (List.getElem_mem hjz))]
    simp [List.getD, hjz]


/-- Such a slice, out of a row's condition. -/
theorem row_of_trod {H : Type} {enc : TypeId × Value → H} {W : World} {a : Option Addr} {len cap : Nat} {d : DataW H} {p : List MemPlace}
    (h : ∃ fuel, DataW.trod enc Tryd.prog W 0 (fun _ => true) true fuel 27 (Value.cells (.slice a len cap)).toList = some (d, p)) : ∃ zs, IsRow .u8 W a len cap zs := by
  obtain ⟨fuel, hf⟩ := h
  rcases open_ints Tryd.underlying27 Tryd.underlying5 (by kernel_rfl) hf with ⟨hcs, _⟩ | ⟨x, l, c, zs, hcs, _, hl, hm, hz, _, hcell, hwz⟩
  · simp [Value.cells] at hcs
    obtain ⟨rfl, rfl, rfl⟩ := hcs
    exact ⟨[], .inl ⟨rfl, rfl, rfl, rfl⟩⟩
  · simp [Value.cells] at hcs
    obtain ⟨rfl, rfl, rfl⟩ := hcs
    exact ⟨zs, .inr ⟨_, rfl, hl, hm, by simpa using hz, hcell, hwz⟩⟩

theorem own : ownKnob Tryd.prog.godebug = none := by kernel_rfl
theorem laidOut : laidOutB Tryd.prog = true := by kernel_rfl

/-- The bounds of an int. -/
theorem int_bounds {n : Int} (h : (Lit.int .i64 n).wf = true) : -9223372036854775808 ≤ n ∧ n ≤ 9223372036854775807 := by simpa [Lit.wf, IntKind.min, IntKind.max, IntKind.signed, IntKind.bits] using h
theorem u8_bounds {n : Int} (h : (Lit.int .u8 n).wf = true) : 0 ≤ n ∧ n ≤ 255 := by simpa [Lit.wf, IntKind.min, IntKind.max, IntKind.signed, IntKind.bits] using h
theorem u16_bounds {n : Int} (h : (Lit.int .u16 n).wf = true) : 0 ≤ n ∧ n ≤ 65535 := by simpa [Lit.wf, IntKind.min, IntKind.max, IntKind.signed, IntKind.bits] using h
theorem u64_bounds {n : Int} (h : (Lit.int .u64 n).wf = true) : 0 ≤ n ∧ n ≤ 18446744073709551615 := by simpa [Lit.wf, IntKind.min, IntKind.max, IntKind.signed, IntKind.bits] using h

/-- A list out of what is known at each place. -/
theorem list_of {α : Type} (n : Nat) (p : Nat → α → Prop) (h : ∀ i, i < n → ∃ r, p i r) : ∃ l : List α, l.length = n ∧ ∀ i (hi : i < l.length), p i l[i] := by
  induction n with
  | zero => exact ⟨[], rfl, fun i hi => absurd hi (by simp)⟩
  | succ n ih =>
    obtain ⟨l, hl, hp⟩ := ih fun i hi => h i (by omega)
    obtain ⟨r, hr⟩ := h n (by omega)
    refine ⟨l ++ [r], by simp [hl], fun i hi => ?_⟩
    by_cases hin : i < l.length
    · rw [List.getElem_append_left hin]
      exact hp i hin
    · have : i = n := by simp at hi; omega
      subst this
      rw [List.getElem_append_right (by omega)]
      simpa [hl] using hr
end Go.Proofs.YtpdnmhnnngcbjaaDoor

/- An argument of type []int, as a slice of elements. -/
namespace Go.Proofs.YtpdnmhnnngcbjaaDoor
open Go.ChangeShapes Go.WideShapes Go.ChangeAt Go.RowKit

def icel (n : Int) : Value := .int .i64 n
/-- The ints of such a slice; each fits. -/
theorem ints_of_trod {H : Type} {enc : TypeId × Value → H} {W : World} {a : Option Addr} {len cap : Nat} {d : DataW H} {p : List MemPlace}
    (h : ∃ fuel, DataW.trod enc Tryd.prog W 0 (fun _ => true) true fuel 22 (Value.cells (.slice a len cap)).toList = some (d, p)) :
    ∃ ns : List Int, ns.length = len ∧ len ≤ cap ∧ cap ≤ maxLen ∧ DatE icel W 0 W.heap.size a ns ∧ ∀ n ∈ ns, -9223372036854775808 ≤ n ∧ n ≤ 9223372036854775807 := by
  have hrow : ∃ zs, IsRow .i64 W a len cap zs := by
    obtain ⟨fuel, hf⟩ := h
    rcases open_ints Tryd.underlying22 Tryd.underlying3 (by kernel_rfl) hf with ⟨hcs, _⟩ | ⟨x, l, c, zs, hcs, _, hl, hm, hz, _, hcell, hwz⟩
    · simp [Value.cells] at hcs
      obtain ⟨rfl, rfl, rfl⟩ := hcs
      exact ⟨[], .inl ⟨rfl, rfl, rfl, rfl⟩⟩
    · simp [Value.cells] at hcs
      obtain ⟨rfl, rfl, rfl⟩ := hcs
      exact ⟨zs, .inr ⟨_, rfl, hl, hm, by simpa using hz, hcell, hwz⟩⟩
  obtain ⟨zs, hr⟩ := hrow
  rcases hr with ⟨rfl, rfl, rfl, rfl⟩ | ⟨x, rfl, hl, hm, hz, hc, hw⟩
  · exact ⟨[], rfl, Nat.le_refl _, Nat.zero_le _, DatE.nil _ _ _ _ _, fun n hn => by cases hn⟩
  · refine ⟨zs.take len, by simp; omega, hl, hm, fun hx => ?_, fun n hn => int_bounds (hw n (List.mem_of_mem_take hn))⟩
    have hlen : (zs.take len).length = len := by simp; omega
    obtain ⟨b, off, rfl, hc'⟩ := ints_at hc (by omega)
    have hlt := World.block_lt_of_cell? W _ (hc' 0 (by omega))
    refine ⟨b, off, rfl, Nat.zero_le _, hlt, fun j hj => ?_⟩
    rw [hc' j (by omega), List.getElem_take]
    have hjz : j < zs.length := by omega
    simp [icel, List.getD, hjz]
end Go.Proofs.YtpdnmhnnngcbjaaDoor

/- Slices of records, each in as many cells as a record has, one behind the other: those that are read (DatR), those that the call itself owns (OwR), making, storing, appending. Nothing of the program is named here. -/
namespace Go.Proofs.YtpdnmhnnngcbjaaDoor
open Go.RowKit

/-- A slice at A holds the records xs, each in z cells; they lie in a block from lo on and below hi. -/
def DatR {α : Type} (z : Nat) (f : α → List Value) (w : World) (lo hi : Nat) (A : Option Addr) (xs : List α) : Prop :=
  0 < xs.length → ∃ d o, A = some ⟨d, o, none⟩ ∧ lo ≤ d ∧ d < hi ∧ ∀ j (h : j < xs.length) i v, (f xs[j])[i]? = some v → w.cell? ⟨d, o + j * z + i, none⟩ = some v

/-- The slice v is the call's own (blocks from base on) and holds the records xs; u: the number of their type. -/
def OwR {α : Type} (z : Nat) (f : α → List Value) (w : World) (u base : Nat) (v : Value) (xs : List α) : Prop := w.ownsRow base u z v xs.length (xs.flatMap f)

theorem add_plain' (d o k : Nat) : (⟨d, o, none⟩ : Addr).add k = ⟨d, o + k, none⟩ := by unfold Addr.add; split <;> simp_all
theorem add_lit' (g j : Nat) : (⟨g, 0, none⟩ : Addr).add j = ⟨g, j, none⟩ := by unfold Addr.add; split <;> simp_all

section
variable {α : Type} {z : Nat} {f : α → List Value}
theorem flat_len (hz : ∀ x, (f x).length = z) (xs : List α) : (xs.flatMap f).length = xs.length * z := by
  induction xs with
  | nil => simp
  | cons x r ih => rw [List.flatMap_cons, List.length_append, ih, hz, List.length_cons, Nat.succ_mul]; omega
theorem flat_get (hz : ∀ x, (f x).length = z) : ∀ (xs : List α) (j i : Nat) (hj : j < xs.length), i < z → (xs.flatMap f)[j * z + i]? = (f xs[j])[i]?
  | [], j, i, hj, _ => by simp at hj
  | x :: r, 0, i, _, hi => by
    rw [List.flatMap_cons, Nat.zero_mul, Nat.zero_add, List.getElem?_append_left (by rw [hz]; exact hi)]
    rfl
  | x :: r, j + 1, i, hj, hi => by
    rw [List.flatMap_cons, List.getElem?_append_right (by rw [hz, Nat.succ_mul]; omega), hz]
    have e : (j + 1) * z + i - z = j * z + i := by rw [Nat.succ_mul]; omega
    rw [e, flat_get hz r j i (by simpa using hj) hi]
    rfl
theorem flat_set (hz : ∀ x, (f x).length = z) (v : Value) (y : α) : ∀ (xs : List α) (j i : Nat) (hj : j < xs.length), i < z → f y = (f xs[j]).set i v → (xs.flatMap f).set (j * z + i) v = (xs.set j y).flatMap f
  | [], j, i, hj, _, _ => by simp at hj
  | x :: r, 0, i, _, hi, h => by
    rw [List.flatMap_cons, Nat.zero_mul, Nat.zero_add, List.set_append_left _ _ (by rw [hz]; exact hi), List.set_cons_zero, List.flatMap_cons, h]
    rfl
  | x :: r, j + 1, i, hj, hi, h => by
    have e : (j + 1) * z + i - (f x).length = j * z + i := by rw [hz, Nat.succ_mul]; omega
    rw [List.flatMap_cons, List.set_append_right _ _ (by rw [hz, Nat.succ_mul]; omega), e, flat_set hz v y r j i (by simpa using hj) hi (by simpa using h), List.set_cons_succ, List.flatMap_cons]
theorem flat_replicate (n : Nat) (x : α) : (List.replicate n x).flatMap f = (List.replicate n (f x)).flatten := by
  rw [List.flatMap_replicate]
theorem made_recs (hz : ∀ x, (f x).length = z) (hz0 : 0 < z) (x : α) (cs : Array Value) (hcs : cs.toList = f x) (n : Nat) : (madeCells cs (n * z)).toList = (List.replicate n x).flatMap f := by
  have hcl : cs.size = z := by rw [← Array.length_toList, hcs, hz]
  apply List.ext_getElem?
  intro k
  by_cases hk : k < n * z
  · have hd : k / z < n := (Nat.div_lt_iff_lt_mul hz0).2 hk
    have hm : k % z < z := Nat.mod_lt _ hz0
    have e : k = k / z * z + k % z := by rw [Nat.mul_comm]; exact (Nat.div_add_mod k z).symm
    have h1 := flat_get hz (List.replicate n x) (k / z) (k % z) (by simpa using hd) hm
    rw [← e] at h1
    rw [h1]
    simp only [List.getElem_replicate]
    unfold madeCells
    rw [hcl]
    have hlt : k % z < cs.size := by omega
    simp only [Array.toList_map, Array.toList_range, List.getElem?_map, List.getElem?_range hk, Option.map_some]
    rw [← hcs, Array.getElem?_toList]
    simp [hlt]
  · rw [List.getElem?_eq_none (by simp [madeCells]; omega), List.getElem?_eq_none (by rw [flat_len hz]; simp; omega)]
end

section
variable {α : Type} {z : Nat} {f : α → List Value} {w w' : World} {lo hi : Nat} {A : Option Addr} {xs : List α}
theorem DatR.nil (z : Nat) (f : α → List Value) (w : World) (lo hi : Nat) (A : Option Addr) : DatR z f w lo hi A [] := fun h => absurd h (by simp)
theorem DatR.keep (h : DatR z f w lo hi A xs) (he : ∀ k, lo ≤ k → k < hi → w'.heap[k]? = w.heap[k]?) : DatR z f w' lo hi A xs := fun hx => by
  obtain ⟨d, o, hA, h1, h2, hc⟩ := h hx
  exact ⟨d, o, hA, h1, h2, fun j hj i v hv => (World.cell?_of_block (he d h1 h2)).trans (hc j hj i v hv)⟩
theorem DatR.below {B : Nat} (h : DatR z f w lo hi A xs) (hb : Below B w w') (hB : hi ≤ B) : DatR z f w' lo hi A xs := h.keep fun k _ hk => hb.block k (by omega)
theorem DatR.grown {row : Option Nat} (h : DatR z f w lo hi A xs) (hb : w.grownBy w' row) (hs : hi ≤ w.heap.size) (hr : ∀ k, row = some k → k < lo ∨ hi ≤ k) : DatR z f w' lo hi A xs :=
  h.keep fun k h1 h2 => hb.block k (by omega) (fun e => by have := hr k e.symm; omega)
theorem DatR.alloc (h : DatR z f w lo hi A xs) (hs : hi ≤ w.heap.size) (o : Obj) : DatR z f (w.alloc o) lo hi A xs := h.keep fun k _ h2 => Below.heap_alloc w o k (by omega)
theorem DatR.far (h : DatR z f w lo hi A xs) {p : Addr} (hp : p.block < lo ∨ hi ≤ p.block) (u : Value) : DatR z f (w.setCell p u) lo hi A xs := h.keep fun k h1 h2 => Below.heap_setCell w p u k (by omega)
theorem DatR.mono {lo' hi' : Nat} (h : DatR z f w lo hi A xs) (hl : lo' ≤ lo) (hh : hi ≤ hi') : DatR z f w lo' hi' A xs := fun hx => by
  obtain ⟨d, o, hA, h1, h2, hc⟩ := h hx
  exact ⟨d, o, hA, by omega, by omega, hc⟩
end

section
variable {α : Type} {z : Nat} {f : α → List Value} {P : Program} {w w' : World} {u base lo hi : Nat} {v : Value} {xs ys : List α} {A : Option Addr} {m c : Nat}
theorem OwR.nil (z : Nat) (f : α → List Value) (w : World) (u base : Nat) : OwR z f w u base (.slice none 0 0) [] := World.ownsRow_nil w base u z
theorem OwR.alloc (h : OwR z f w u base v xs) (o : Obj) : OwR z f (w.alloc o) u base v xs := World.ownsRow.alloc h o
theorem OwR.grown {row : Option Nat} (h : OwR z f w u base v xs) (hg : w.grownBy w' row) (hne : v.ownBlock = none ∨ v.ownBlock ≠ row) : OwR z f w' u base v xs := World.ownsRow.kept h hg hne
theorem OwR.keep (h : OwR z f w u base v xs) (he : ∀ k, v.ownBlock = some k → w'.heap[k]? = w.heap[k]?) : OwR z f w' u base v xs := by
  refine ⟨h.1, ?_⟩
  rcases h.2 with hn | ⟨g, cap, cur, rfl, hb, hh, q⟩
  · exact .inl hn
  · exact .inr ⟨g, cap, cur, rfl, hb, (he g rfl).trans hh, q⟩
theorem OwR.mono {b : Nat} (h : OwR z f w u base v xs) (hb : b ≤ base) : OwR z f w u b v xs := by
  refine ⟨h.1, ?_⟩
  rcases h.2 with hn | ⟨g, cap, cur, hv, hg, q⟩
  · exact .inl hn
  · exact .inr ⟨g, cap, cur, hv, by omega, q⟩
theorem OwR.block (h : OwR z f w u base v xs) : ∀ k, v.ownBlock = some k → base ≤ k ∧ k < w.heap.size := World.ownsRow.lt h
theorem OwR.below {B : Nat} (h : OwR z f w u base v xs) (hb : Below B w w') (hB : w.heap.size ≤ B) : OwR z f w' u base v xs :=
  h.keep fun k hk => hb.block k (by have := (h.block k hk).2; omega)
theorem OwR.drawn (h : OwR z f w u base v xs) (q : Nat) : OwR z f (w.drewN q) u base v xs := h
theorem OwR.aside {d n c g : Nat} (h : OwR z f w u base (.slice (some ⟨d, 0, none⟩) n c) xs) (hd : d ≠ g) (i : Nat) (x : Value) : OwR z f (w.setCell ⟨g, i, none⟩ x) u base (.slice (some ⟨d, 0, none⟩) n c) xs :=
  h.keep fun k hk => Below.heap_setCell _ _ _ k (by
    have e : d = k := by simpa [Value.ownBlock] using hk
    show k ≠ g
    omega)
/-- As a slice that holds these records. -/
theorem OwR.form (hz : ∀ x, (f x).length = z) (h : OwR z f w u base v xs) : ∃ A c, v = .slice A xs.length c ∧ xs.length ≤ c ∧ DatR z f w base w.heap.size A xs := by
  rcases h.2 with ⟨rfl, h0⟩ | ⟨g, cap, cur, rfl, hb, hh, hnc, _, _, ht⟩
  · have : xs = [] := List.eq_nil_of_length_eq_zero h0
    subst this
    exact ⟨none, 0, rfl, by simp, DatR.nil _ _ _ _ _ _⟩
  · refine ⟨_, cap, rfl, hnc, fun hx => ⟨g, 0, rfl, hb, (Array.getElem?_eq_some_iff.1 hh).1, fun j hj i x hi => ?_⟩⟩
    have hiz : i < z := by
      rcases Nat.lt_or_ge i z with q | q
      · exact q
      · rw [List.getElem?_eq_none (by rw [hz]; exact q)] at hi; cases hi
    have hc := World.ownsRow.cells h (g := g) rfl (j * z + i) x (by rw [flat_get hz xs j i hj hiz]; exact hi)
    rw [add_lit'] at hc
    rw [Nat.zero_add]
    exact hc
theorem OwR.len {A : Option Addr} {n c : Nat} (h : OwR z f w u base (.slice A n c) xs) : xs.length = n := by
  rcases h.2 with ⟨e, h0⟩ | ⟨g, cap, cur, e, _⟩
  · injection e with _ e2 _
    omega
  · injection e with _ e2 _
    exact e2.symm
theorem OwR.dat {A : Option Addr} {n c : Nat} (hz : ∀ x, (f x).length = z) (h : OwR z f w u base (.slice A n c) xs) : DatR z f w base w.heap.size A xs := by
  obtain ⟨A', c', hv, _, hd⟩ := h.form hz
  injection hv with h1
  subst h1
  exact hd
theorem OwR.cap {A : Option Addr} {n c : Nat} (hz : ∀ x, (f x).length = z) (h : OwR z f w u base (.slice A n c) xs) : n ≤ c := by
  obtain ⟨A', c', hv, hc, _⟩ := h.form hz
  injection hv with _ h2 h3
  omega
theorem OwR.slice (h : OwR z f w u base v xs) : ∃ A n c, v = .slice A n c := by
  rcases h.2 with ⟨rfl, _⟩ | ⟨g, cap, cur, rfl, _⟩
  · exact ⟨_, _, _, rfl⟩
  · exact ⟨_, _, _, rfl⟩
theorem OwR.place (h : OwR z f w u base v xs) (hx : 0 < xs.length) : ∃ d c, v = .slice (some ⟨d, 0, none⟩) xs.length c ∧ base ≤ d ∧ d < w.heap.size ∧ xs.length ≤ c := by
  rcases h.2 with ⟨_, h0⟩ | ⟨g, cap, cur, rfl, hb, hh, hn, _⟩
  · omega
  · exact ⟨g, cap, rfl, hb, (Array.getElem?_eq_some_iff.1 hh).1, hn⟩
theorem OwR.cellAt {d n c : Nat} (hz : ∀ x, (f x).length = z) (h : OwR z f w u base (.slice (some ⟨d, 0, none⟩) n c) xs) (j i : Nat) (hj : j < xs.length) (hi : i < z) (x : Value) (hx : (f xs[j])[i]? = some x) :
    w.cell? ⟨d, j * z + i, none⟩ = some x ∧ w.frozen? ⟨d, j * z + i, none⟩ = false := by
  have hc := World.ownsRow.cells h (g := d) rfl (j * z + i) x (by rw [flat_get hz xs j i hj hi]; exact hx)
  rw [add_lit'] at hc
  refine ⟨hc, ?_⟩
  rcases h.2 with ⟨e, _⟩ | ⟨g', cap, cur, e, _, hh, _⟩
  · cases e
  · injection e with e
    injection e with e
    injection e with e
    subst e
    simp [World.frozen?, hh]
/-- One cell of one record is stored. -/
theorem OwR.put {d n c : Nat} (hz : ∀ x, (f x).length = z) (h : OwR z f w u base (.slice (some ⟨d, 0, none⟩) n c) xs) (j i : Nat) (hj : j < xs.length) (hi : i < z) (x : Value) (y : α) (hy : f y = (f xs[j]).set i x) :
    OwR z f (w.setCell ⟨d, j * z + i, none⟩ x) u base (.slice (some ⟨d, 0, none⟩) n c) (xs.set j y) := by
  rcases h.2 with ⟨e, _⟩ | ⟨g', cap, cur, e, hb, hh, hnc, hcm, hcs, ht⟩
  · cases e
  · injection e with e1 e2 e3
    injection e1 with e1
    injection e1 with e1
    subst e1
    subst e3
    refine ⟨by rw [flat_len hz], .inr ⟨d, c, cur.setIfInBounds (j * z + i) x, by rw [List.length_set, ← e2], hb, Box.put hh _ _, by simpa using hnc, hcm, by simpa using hcs, ?_⟩⟩
    rw [Array.toList_setIfInBounds, List.take_set, List.length_set, ht, flat_set hz x y xs j i hj hi hy]
/-- A row that has just been made. -/
theorem OwR.made {n : Nat} (hz : ∀ x, (f x).length = z) (hz0 : 0 < z) {x : α} {cs : Array Value} (hcs : cs.toList = f x) {V : Value} (h : w.ownsRow base u z V n (madeCells cs (n * z)).toList) : OwR z f w u base V (List.replicate n x) := by
  unfold OwR
  rw [made_recs hz hz0 x cs hcs] at h
  rw [List.length_replicate]
  exact h

theorem run_appR_none (t ty : TypeId) (i : TypeInfo) (ht : P.underlying t = some (.slice u)) (hn : P.info? u = some i) (h : OwR z f w u base v xs) :
    (Builtin.append_ #[t, t] ty #[v, .slice none 0 c]).run P w = .ok v w := by
  rcases h.2 with ⟨rfl, h0⟩ | ⟨g, cap, cur, rfl, _, _, hnc, _⟩
  · simp [Builtin.append_, run_underlying ht, sizeOf, typeInfo, hn, Builtin.lenOf, Builtin.firstCells]
  · simp [Builtin.append_, run_underlying ht, sizeOf, typeInfo, hn, Builtin.lenOf, Builtin.firstCells, hnc, storeCells]

theorem run_appR (hz : ∀ x, (f x).length = z) (hz0 : 0 < z) (hf : ∀ x, ∀ v ∈ f x, v.oneCell' = true) (w : World) (t ty : TypeId) (i : TypeInfo) (zv : Value) (bytes : Nat) (ht : P.underlying t = some (.slice u)) (hn : P.info? u = some i) (hzv : i.zero = some zv) (hsize : i.size = z) (hby : i.bytes = bytes)
    (hzs : zv.cells.size = z) (hb64 : bytes ≤ 64)
    (h : OwR z f w u base v xs) (hd : DatR z f w lo hi A ys) (hm : ys.length = m) (hb : xs.length + m ≤ 1099511627776) (hbase : base ≤ w.heap.size) :
    ∃ v' w', (Builtin.append_ #[t, t] ty #[v, .slice A m c]).run P w = .ok v' w' ∧ OwR z f w' u base v' (xs ++ ys) ∧ w.grownBy w' v.ownBlock ∧ (v'.ownBlock = v.ownBlock ∨ v'.ownBlock = some w.heap.size) := by
  subst hm
  rcases A with _ | ad
  · have hy : ys = [] := by
      rcases ys with _ | ⟨y, r⟩
      · rfl
      · obtain ⟨_, _, h', _⟩ := hd (by simp)
        cases h'
    subst hy
    exact ⟨v, w, run_appR_none t ty i ht hn h, by simpa using h, World.grownBy.refl w _, .inl rfl⟩
  · have hcells : ∀ j x, (ys.flatMap f)[j]? = some x → w.cell? (ad.add j) = some x := by
      intro k x hx
      have hk : k < ys.length * z := by
        rcases Nat.lt_or_ge k (ys.length * z) with h1 | h1
        · exact h1
        · rw [List.getElem?_eq_none (by rw [flat_len hz]; exact h1)] at hx; cases hx
      have hj : k / z < ys.length := (Nat.div_lt_iff_lt_mul hz0).2 hk
      have hi' : k % z < z := Nat.mod_lt _ hz0
      have e : k = k / z * z + k % z := by rw [Nat.mul_comm]; exact (Nat.div_add_mod k z).symm
      obtain ⟨d, o, hA, _, _, hc⟩ := hd (Nat.lt_of_le_of_lt (Nat.zero_le _) hj)
      injection hA with hA
      subst hA
      have ha : (⟨d, o, none⟩ : Addr).add k = ⟨d, o + k, none⟩ := add_plain' d o k
      rw [e, flat_get hz ys _ _ hj hi'] at hx
      have := hc _ hj _ _ hx
      rw [ha, e]
      rw [show o + (k / z * z + k % z) = o + k / z * z + k % z by omega]
      exact this
    have hbytes : (xs.length + ys.length) * bytes ≤ 140737488355328 := Nat.le_trans (Nat.mul_le_mul hb hb64) (by decide)
    obtain ⟨v', w', hrun, h2, h3, _, h5⟩ := run_append_own_at (P := P) w base t ty u i zv z bytes ht hn hzv hsize hby hzs hz0 v xs.length (xs.flatMap f) h ad ys.length c (ys.flatMap f) (flat_len hz ys) hcells
      (by intro x hx; obtain ⟨y, _, hy⟩ := List.mem_flatMap.1 hx; exact hf y x hy) (by unfold maxLen; omega) hbytes hbase
    refine ⟨v', w', hrun, ?_, h3, h5⟩
    unfold OwR
    rw [List.flatMap_append, List.length_append]
    exact h2

theorem list_appR {ops : Array Oper} {rest : List Oper} {o : Oper} {a : Act} {Q : Exit → Act → World → Prop} (hz : ∀ x, (f x).length = z) (hz0 : 0 < z) (hf : ∀ x, ∀ v ∈ f x, v.oneCell' = true) (w : World) (hgd : o.guard = none) (s x : Operand) (t : TypeId)
    (ho : o.op = .call { callee := .builtin .append, args := #[s, x], argTypes := #[t, t] })
    (i : TypeInfo) (zv : Value) (bytes : Nat) (ht : P.underlying t = some (.slice u)) (hn : P.info? u = some i) (hzv : i.zero = some zv) (hsize : i.size = z) (hby : i.bytes = bytes) (hzs : zv.cells.size = z) (hb64 : bytes ≤ 64)
    (hs : a.eval s = v) (h : OwR z f w u base v xs) (hx : a.eval x = .slice A m c) (hd : DatR z f w lo hi A ys) (hm : ys.length = m) (hb : xs.length + m ≤ 1099511627776) (hbase : base ≤ w.heap.size)
    (hK : ∀ v' w', OwR z f w' u base v' (xs ++ ys) → w.grownBy w' v.ownBlock → (v'.ownBlock = v.ownBlock ∨ v'.ownBlock = some w.heap.size) → wpList P ops Q rest (a.put o.dst v') w') : wpList P ops Q (o :: rest) a w :=
  wpList_plain hgd fun _ hKK => by
    obtain ⟨v', w', hrun, h2, h3, h4⟩ := run_appR (P := P) (c := c) hz hz0 hf w t o.type i zv bytes ht hn hzv hsize hby hzs hb64 h hd hm hb hbase
    unfold Oper.wp execOp
    simp only [ho, resolve, invoke, builtin, Sem.run_bind, Sem.run_pure, Result.andThen_ok, List.map_toArray, List.map_cons, List.map_nil, hs, hx, hrun]
    exact hKK _ _ (hK v' w' h2 h3 h4)

/-- The new row of one record. -/
theorem datR_one (w : World) (x : α) (u : TypeId) (cs : Array Value) (hcs : cs.toList = f x) : DatR z f (w.alloc (.cells cs u)) w.heap.size (w.heap.size + 1) (some ⟨w.heap.size, 0, none⟩) [x] := fun _ =>
  ⟨w.heap.size, 0, rfl, Nat.le_refl _, by omega, fun j hj i y hy => by
    have hj0 : j = 0 := by simp at hj; omega
    subst hj0
    have h := (Box.new w u cs).cell (0 + 0 * z + i)
    rw [h, show 0 + 0 * z + i = i by omega, ← Array.getElem?_toList, hcs]
    exact hy⟩
end
end Go.Proofs.YtpdnmhnnngcbjaaDoor

/- Appending bytes to a slice that the call itself owns, whatever the source (nil, empty or not); a slice of bytes turned into a string. Nothing of the program is named here. -/
namespace Go.Proofs.YtpdnmhnnngcbjaaDoor
open Go.RowKit

/-- The slice v is the call's own (blocks from base on) and holds the bytes xs; u: the number of the type uint8. -/
def OwB (w : World) (u base : Nat) (v : Value) (xs : List UInt8) : Prop := w.ownsRow base u 1 v xs.length (xs.map cel)

section
variable {P : Program} {w w' : World} {u base lo hi : Nat} {own : Bool} {v : Value} {xs ys : List UInt8} {A : Option Addr} {m c : Nat}
theorem OwB.nil (w : World) (u base : Nat) : OwB w u base (.slice none 0 0) [] := World.ownsRow_nil w base u 1
theorem OwB.alloc (h : OwB w u base v xs) (o : Obj) : OwB (w.alloc o) u base v xs := World.ownsRow.alloc h o
theorem OwB.grown {row : Option Nat} (h : OwB w u base v xs) (hg : w.grownBy w' row) (hne : v.ownBlock = none ∨ v.ownBlock ≠ row) : OwB w' u base v xs := World.ownsRow.kept h hg hne
theorem OwB.drew (h : OwB w u base v xs) : OwB w.drew u base v xs := h
/-- As a slice that reads as these bytes. -/
theorem OwB.form (h : OwB w u base v xs) : ∃ A c, v = .slice A xs.length c ∧ xs.length ≤ c ∧ Dat true w base w.heap.size A xs := by
  rcases h.2 with ⟨rfl, h0⟩ | ⟨g, cap, cur, rfl, hb, hh, hnc, _, _, ht⟩
  · have : xs = [] := List.eq_nil_of_length_eq_zero h0
    subst this
    exact ⟨none, 0, rfl, by simp, Dat.nil _ _ _ _ _⟩
  · refine ⟨_, cap, rfl, hnc, fun hx => ⟨g, 0, rfl, hb, (Array.getElem?_eq_some_iff.1 hh).1, fun j hj => ?_, fun _ j => ?_⟩⟩
    · have hc := World.ownsRow.cells h (g := g) rfl j (cel xs[j]) (by simp [hj])
      have ha : (⟨g, 0, none⟩ : Addr).add j = ⟨g, 0 + j, none⟩ := by unfold Addr.add; split <;> simp_all
      rw [ha] at hc
      simpa [List.getD, hj] using hc
    · simp [World.frozen?, hh]
theorem OwB.block (h : OwB w u base v xs) : ∀ k, v.ownBlock = some k → base ≤ k ∧ k < w.heap.size := World.ownsRow.lt h
theorem OwB.ne_box {g : Nat} {t : TypeId} {cs : Array Value} (h : OwB w u base v xs) (hg : Box w g t cs) (hne : u ≠ t) : v.ownBlock ≠ some g := by
  rcases h.2 with ⟨rfl, _⟩ | ⟨g', cap, cur, rfl, _, hh, _⟩
  · simp [Value.ownBlock]
  · intro he
    have : g' = g := by simpa [Value.ownBlock] using he
    subst this
    unfold Box at hg
    rw [hg] at hh
    injection hh with hh
    injection hh with _ ht
    exact hne ht.symm

theorem run_app_none (t ty : TypeId) (i : TypeInfo) (ht : P.underlying t = some (.slice u)) (hn : P.info? u = some i) (h : OwB w u base v xs) :
    (Builtin.append_ #[t, t] ty #[v, .slice none 0 c]).run P w = .ok v w := by
  rcases h.2 with ⟨rfl, h0⟩ | ⟨g, cap, cur, rfl, _, _, hnc, _⟩
  · simp [Builtin.append_, run_underlying ht, sizeOf, typeInfo, hn, Builtin.lenOf, Builtin.firstCells]
  · simp [Builtin.append_, run_underlying ht, sizeOf, typeInfo, hn, Builtin.lenOf, Builtin.firstCells, hnc, storeCells]

theorem run_app (w : World) (t ty : TypeId) (i : TypeInfo) (ht : P.underlying t = some (.slice u)) (hn : P.info? u = some i) (hz : i.zero = some (.int .u8 0)) (hsize : i.size = 1) (hby : i.bytes = 1)
    (h : OwB w u base v xs) (hd : Dat own w lo hi A ys) (hm : ys.length = m) (hb : xs.length + m ≤ 1099511627776) (hbase : base ≤ w.heap.size) :
    ∃ v' w', (Builtin.append_ #[t, t] ty #[v, .slice A m c]).run P w = .ok v' w' ∧ OwB w' u base v' (xs ++ ys) ∧ w.grownBy w' v.ownBlock ∧ (v'.ownBlock = v.ownBlock ∨ v'.ownBlock = some w.heap.size) := by
  subst hm
  rcases A with _ | ad
  · have hy : ys = [] := by
      rcases ys with _ | ⟨y, r⟩
      · rfl
      · obtain ⟨_, _, h', _⟩ := hd (by simp)
        cases h'
    subst hy
    exact ⟨v, w, run_app_none t ty i ht hn h, by simpa using h, World.grownBy.refl w _, .inl rfl⟩
  · have hcells : ∀ j x, (ys.map cel)[j]? = some x → w.cell? (ad.add j) = some x := by
      intro j x hx
      have hj : j < ys.length := by
        rcases Nat.lt_or_ge j ys.length with h1 | h1
        · exact h1
        · simp [List.getElem?_eq_none h1] at hx
      obtain ⟨d, o, hA, _, _, hc, _⟩ := hd (by omega)
      injection hA with hA
      subst hA
      have ha : (⟨d, o, none⟩ : Addr).add j = ⟨d, o + j, none⟩ := by unfold Addr.add; split <;> simp_all
      rw [ha, hc j hj, ← hx]
      simp [List.getD, hj]
    obtain ⟨v', w', hrun, h2, h3, _, h5⟩ := run_append_own_at (P := P) w base t ty u i _ 1 1 ht hn hz hsize hby rfl (by omega) v xs.length (xs.map cel) h ad ys.length c (ys.map cel) (by simp) hcells
      (by intro x hx; obtain ⟨y, _, rfl⟩ := List.mem_map.1 hx; rfl) (by unfold maxLen; omega) (by omega) hbase
    refine ⟨v', w', hrun, ?_, h3, h5⟩
    unfold OwB
    rw [List.map_append, List.length_append]
    exact h2

theorem wp_app {o : Oper} {a : Act} {K : Act → World → Prop} {Q : Exit → Act → World → Prop} (w : World) (s x : Operand) (t : TypeId)
    (ho : o.op = .call { callee := .builtin .append, args := #[s, x], argTypes := #[t, t] })
    (i : TypeInfo) (ht : P.underlying t = some (.slice u)) (hn : P.info? u = some i) (hz : i.zero = some (.int .u8 0)) (hsize : i.size = 1) (hby : i.bytes = 1)
    (hs : a.eval s = v) (h : OwB w u base v xs) (hx : a.eval x = .slice A m c) (hd : Dat own w lo hi A ys) (hm : ys.length = m) (hb : xs.length + m ≤ 1099511627776) (hbase : base ≤ w.heap.size)
    (hK : ∀ v' w', OwB w' u base v' (xs ++ ys) → w.grownBy w' v.ownBlock → (v'.ownBlock = v.ownBlock ∨ v'.ownBlock = some w.heap.size) → K (a.put o.dst v') w') : o.wp P a w K Q := by
  obtain ⟨v', w', hrun, h2, h3, h4⟩ := run_app (P := P) (c := c) w t o.type i ht hn hz hsize hby h hd hm hb hbase
  unfold Oper.wp execOp
  simp only [ho, resolve, invoke, builtin, Sem.run_bind, Sem.run_pure, Result.andThen_ok, List.map_toArray, List.map_cons, List.map_nil, hs, hx, hrun]
  exact hK v' w' h2 h3 h4

theorem list_app {ops : Array Oper} {rest : List Oper} {o : Oper} {a : Act} {Q : Exit → Act → World → Prop} (w : World) (hgd : o.guard = none) (s x : Operand) (t : TypeId)
    (ho : o.op = .call { callee := .builtin .append, args := #[s, x], argTypes := #[t, t] })
    (i : TypeInfo) (ht : P.underlying t = some (.slice u)) (hn : P.info? u = some i) (hz : i.zero = some (.int .u8 0)) (hsize : i.size = 1) (hby : i.bytes = 1)
    (hs : a.eval s = v) (h : OwB w u base v xs) (hx : a.eval x = .slice A m c) (hd : Dat own w lo hi A ys) (hm : ys.length = m) (hb : xs.length + m ≤ 1099511627776) (hbase : base ≤ w.heap.size)
    (hK : ∀ v' w', OwB w' u base v' (xs ++ ys) → w.grownBy w' v.ownBlock → (v'.ownBlock = v.ownBlock ∨ v'.ownBlock = some w.heap.size) → wpList P ops Q rest (a.put o.dst v') w') : wpList P ops Q (o :: rest) a w :=
  wpList_plain hgd fun _ hKK => wp_app w s x t ho i ht hn hz hsize hby hs h hx hd hm hb hbase fun v' w' h2 h3 h4 => hKK _ _ (hK v' w' h2 h3 h4)

theorem step_app {ops : Array Oper} {o : Oper} {a : Act} {K : Act → World → Prop} {Q : Exit → Act → World → Prop} {E : Prop} (w : World) (hgd : o.guard = none) (s x : Operand) (t : TypeId)
    (ho : o.op = .call { callee := .builtin .append, args := #[s, x], argTypes := #[t, t] })
    (i : TypeInfo) (ht : P.underlying t = some (.slice u)) (hn : P.info? u = some i) (hz : i.zero = some (.int .u8 0)) (hsize : i.size = 1) (hby : i.bytes = 1)
    (hs : a.eval s = v) (h : OwB w u base v xs) (hx : a.eval x = .slice A m c) (hd : Dat own w lo hi A ys) (hm : ys.length = m) (hb : xs.length + m ≤ 1099511627776) (hbase : base ≤ w.heap.size)
    (hK : ∀ v' w', OwB w' u base v' (xs ++ ys) → w.grownBy w' v.ownBlock → (v'.ownBlock = v.ownBlock ∨ v'.ownBlock = some w.heap.size) → K (a.put o.dst v') w') :
    if Region.wanted o (yielded ops a.tmps) = true then Oper.wp P o a w K Q else E := by
  have hw : Region.wanted o (yielded ops a.tmps) = true := by simp [Region.wanted, hgd]
  rw [if_pos hw]
  exact wp_app w s x t ho i ht hn hz hsize hby hs h hx hd hm hb hbase hK

/-- Bytes as a string. -/
def str (xs : List UInt8) : ByteArray := ⟨xs.toArray⟩
theorem run_str (w : World) (src : TypeId) (hs : P.underlying src = some (.slice u)) (he : P.underlying u = some (.int .u8)) (hd : Dat own w lo hi A xs) (hm : xs.length = m) :
    ∀ dst, P.underlying dst = some .string → (convert src dst (.slice A m c)).run P w = .ok (.string (str xs)) w := by
  intro dst hds
  subst hm
  rcases xs with _ | ⟨x, r⟩
  · rw [run_convert_bytes_string w src dst u A _ c hs he hds]
    cases A <;> simp [Conv.bytesToString, str, loadCells, loadCellsFrom, Sem.run_pure] <;> rfl
  · obtain ⟨d, o, rfl, _, _, hc, _⟩ := hd (by simp)
    have := run_convert_bytes_arg (P := P) w src u hs he d o (x :: r).length c ((x :: r).map fun b => (b.toNat : Int)) (by simp) (fun j hj => by
      rw [hc j hj]
      unfold cel
      rw [List.getD_eq_getElem?_getD, List.getD_eq_getElem?_getD, List.getElem?_map, List.getElem?_eq_getElem hj]
      rfl) dst hds
    rw [this]
    congr 2
    unfold strOfNums str
    congr 2
    rw [List.map_map]
    conv => rhs; rw [← List.map_id (x :: r)]
    apply List.map_congr_left
    intro b _
    simp
end
end Go.Proofs.YtpdnmhnnngcbjaaDoor

/- Loads, stores and copies of a part of a row; an element of an array's value. Nothing of the program is named here. -/
namespace Go.Proofs.YtpdnmhnnngcbjaaDoor
open Go.RowKit

section
variable {P : Program}

theorem run_index_agg (w : World) (t e : TypeId) (n : Nat) (kk : IntKind) (ht : P.underlying t = some (.array n e)) (he : P.underlying e = some (.int kk)) (hs : (P.info? e).map (·.size) = some 1)
    (cs : Array Value) (k : IntKind) (i : Int) (v : Value) (h0 : 0 ≤ i) (h1 : i < n) (hv : cs[i.toNat]? = some v) : (Instr.index t (.agg cs) (.int k i)).run P w = .ok v w := by
  cases hq : P.info? e with
  | none => simp [hq] at hs
  | some ie =>
    have hz : ie.size = 1 := by simpa [hq] using hs
    simp [Instr.index, asIntOf, run_underlying ht, h0, h1, sizeOf, typeInfo, hq, hz, part, isAgg, run_underlying he, hv]

theorem run_loadVar_sub (w : World) (g o : Nat) (ty : TypeId) (vs : List Value) (d : TypeDesc) (hg : ∀ j v, vs[j]? = some v → w.cell? ⟨g, o + j, none⟩ = some v)
    (hu : P.underlying ty = some d) (hd : (match d with | .struct _ | .array _ _ => true | _ => false) = true) (hi : (P.info? ty).map (·.size) = some vs.length) :
    (loadVar ty ⟨g, o, none⟩).run P w = .ok (.agg vs.toArray) w := by
  have hl : (loadCells ⟨g, o, none⟩ vs.length).run P w = .ok vs.toArray w :=
    run_loadCells_list (P := P) w ⟨g, o, none⟩ vs (fun j v hv => by
      have hadd : (⟨g, o, none⟩ : Addr).add j = ⟨g, o + j, none⟩ := by unfold Addr.add; split <;> simp_all
      rw [hadd]
      exact hg j v hv)
  cases hq : P.info? ty with
  | none => simp [hq] at hi
  | some i =>
    have hs : i.size = vs.length := by simpa [hq] using hi
    have hagg : (isAgg ty).run P w = .ok true w := by
      unfold isAgg
      rw [Sem.run_bind, run_underlying hu w]
      cases d <;> simp_all
    simp [loadVar, Sem.run_bind, hagg, sizeOf, typeInfo, hq, hs, hl]

theorem wp_load_sub {o : Oper} {a : Act} {w : World} {K : Act → World → Prop} {Q : Exit → Act → World → Prop} (ty : TypeId) (x : Operand) (ho : o.op = .load ty x)
    (g p : Nat) (hx : a.eval x = .pointer (some ⟨g, p, none⟩)) (vs : List Value) (d : TypeDesc) (hg : ∀ j v, vs[j]? = some v → w.cell? ⟨g, p + j, none⟩ = some v)
    (hu : P.underlying ty = some d) (hd : (match d with | .struct _ | .array _ _ => true | _ => false) = true) (hi : (P.info? ty).map (·.size) = some vs.length)
    (h : K (a.put o.dst (.agg vs.toArray)) w) : o.wp P a w K Q := by
  unfold Oper.wp execOp
  simp only [ho, hx, Instr.loadAt, Instr.sureAddr, Sem.run_bind, Sem.run_pure, Result.andThen_ok, run_loadVar_sub w g p ty vs d hg hu hd hi]
  exact h
theorem wpList_load_sub {ops : Array Oper} {rest : List Oper} {o : Oper} {a : Act} {w : World} {Q : Exit → Act → World → Prop} (hgd : o.guard = none) (ty : TypeId) (x : Operand) (ho : o.op = .load ty x)
    (g p : Nat) (hx : a.eval x = .pointer (some ⟨g, p, none⟩)) (vs : List Value) (d : TypeDesc) (hg : ∀ j v, vs[j]? = some v → w.cell? ⟨g, p + j, none⟩ = some v)
    (hu : P.underlying ty = some d) (hd : (match d with | .struct _ | .array _ _ => true | _ => false) = true) (hi : (P.info? ty).map (·.size) = some vs.length)
    (h : wpList P ops Q rest (a.put o.dst (.agg vs.toArray)) w) : wpList P ops Q (o :: rest) a w :=
  wpList_plain hgd fun _ hK => wp_load_sub ty x ho g p hx vs d hg hu hd hi (hK _ _ h)

/-- A row with the cells vs laid over those from o on. -/
def over (cur : Array Value) (o : Nat) (vs : List Value) : Array Value := (cur.toList.take o ++ vs ++ cur.toList.drop (o + vs.length)).toArray

theorem run_storeVar_sub (w : World) (g o : Nat) (t ty : TypeId) (cur cells : Array Value) (hg : w.heap[g]? = some (.cells cur t (0, 0))) (hi : (P.info? ty).map (·.size) = some cells.size)
    (ho : o + cells.size ≤ cur.size) (h1 : cells.all (·.oneCell') = true) :
    (storeVar ty ⟨g, o, none⟩ (.agg cells)).run P w = .ok () (w.setRow g (over cur o cells.toList)) := by
  have := run_storeCells_at P g o t cells.toList 0 cur w hg (by simpa using ho) (fun v hv => (Array.all_eq_true_iff_forall_mem.1 h1) v (by simpa using hv))
  simp only [Nat.add_zero] at this
  cases hq : P.info? ty with
  | none => simp [hq] at hi
  | some i =>
    have hs : cells.size = i.size := by simp [hq] at hi; omega
    simp [storeVar, sizeOf, typeInfo, hq, Value.cells, hs, this, over]

theorem wp_store_sub {o : Oper} {a : Act} {w : World} {K : Act → World → Prop} {Q : Exit → Act → World → Prop} (ty : TypeId) (x y : Operand) (ho : o.op = .store ty x y)
    (g p : Nat) (cells : Array Value) (hx : a.eval x = .pointer (some ⟨g, p, none⟩)) (hy : a.eval y = .agg cells)
    (t : TypeId) (cur : Array Value) (hg : w.heap[g]? = some (.cells cur t (0, 0))) (hi : (P.info? ty).map (·.size) = some cells.size)
    (hold : p + cells.size ≤ cur.size) (h1 : cells.all (·.oneCell') = true)
    (h : K (a.put o.dst undef) (w.setRow g (over cur p cells.toList))) : o.wp P a w K Q := by
  unfold Oper.wp execOp
  simp only [ho, hx, hy, Instr.storeAt, Instr.sureAddr, Sem.run_bind, Sem.run_pure, Result.andThen_ok, run_storeVar_sub w g p t ty cur cells hg hi hold h1]
  exact h
theorem wpList_store_sub {ops : Array Oper} {rest : List Oper} {o : Oper} {a : Act} {w : World} {Q : Exit → Act → World → Prop} (hgd : o.guard = none) (ty : TypeId) (x y : Operand) (ho : o.op = .store ty x y)
    (g p : Nat) (cells : Array Value) (hx : a.eval x = .pointer (some ⟨g, p, none⟩)) (hy : a.eval y = .agg cells)
    (t : TypeId) (cur : Array Value) (hg : w.heap[g]? = some (.cells cur t (0, 0))) (hi : (P.info? ty).map (·.size) = some cells.size)
    (hold : p + cells.size ≤ cur.size) (h1 : cells.all (·.oneCell') = true)
    (h : wpList P ops Q rest (a.put o.dst undef) (w.setRow g (over cur p cells.toList))) : wpList P ops Q (o :: rest) a w :=
  wpList_plain hgd fun _ hK => wp_store_sub ty x y ho g p cells hx hy t cur hg hi hold h1 (hK _ _ h)

theorem run_copy_over (w : World) (dT sT ty elem : TypeId) (g o dLen dCap : Nat) (a : Addr) (sLen sCap : Nat) (cur : Array Value) (t : TypeId) (cs : List Value)
    (hu : P.underlying dT = some (.slice elem)) (hs : (P.info? elem).map (·.size) = some 1)
    (hg : w.heap[g]? = some (.cells cur t (0, 0))) (hn : cs.length = Nat.min sLen dLen)
    (hsrc : ∀ j v, cs[j]? = some v → w.cell? (a.add j) = some v) (hfit : o + cs.length ≤ cur.size) (h1 : ∀ v ∈ cs, v.oneCell' = true) :
    (Builtin.copy_ #[dT, sT] ty #[.slice (some ⟨g, o, none⟩) dLen dCap, .slice (some a) sLen sCap]).run P w = .ok (goInt cs.length) (w.setRow g (over cur o cs)) :=
  run_copy_row (P := P) w dT sT ty elem g o dLen dCap a sLen sCap cur t cs hu hs hg hn hsrc hfit h1

theorem wp_copy {o : Oper} {a : Act} {K : Act → World → Prop} {Q : Exit → Act → World → Prop} (w : World) (d s : Operand) (dT sT : TypeId)
    (ho : o.op = .call { callee := .builtin .copy, args := #[d, s], argTypes := #[dT, sT] })
    (elem : TypeId) (g p dLen dCap : Nat) (ad : Addr) (sLen sCap : Nat) (hd : a.eval d = .slice (some ⟨g, p, none⟩) dLen dCap) (hss : a.eval s = .slice (some ad) sLen sCap) (cur : Array Value) (t : TypeId) (cs : List Value)
    (hu : P.underlying dT = some (.slice elem)) (hs : (P.info? elem).map (·.size) = some 1)
    (hg : w.heap[g]? = some (.cells cur t (0, 0))) (hn : cs.length = Nat.min sLen dLen)
    (hsrc : ∀ j v, cs[j]? = some v → w.cell? (ad.add j) = some v) (hfit : p + cs.length ≤ cur.size) (h1 : ∀ v ∈ cs, v.oneCell' = true)
    (hK : K (a.put o.dst (goInt cs.length)) (w.setRow g (over cur p cs))) : o.wp P a w K Q := by
  have hrun := run_copy_over (P := P) w dT sT o.type elem g p dLen dCap ad sLen sCap cur t cs hu hs hg hn hsrc hfit h1
  unfold Oper.wp execOp
  simp only [ho, resolve, invoke, builtin, Sem.run_bind, Sem.run_pure, Result.andThen_ok, List.map_toArray, List.map_cons, List.map_nil, hd, hss, hrun]
  exact hK
theorem step_copy {ops : Array Oper} {o : Oper} {a : Act} {K : Act → World → Prop} {Q : Exit → Act → World → Prop} {E : Prop} (w : World) (hgd : o.guard = none) (d s : Operand) (dT sT : TypeId)
    (ho : o.op = .call { callee := .builtin .copy, args := #[d, s], argTypes := #[dT, sT] })
    (elem : TypeId) (g p dLen dCap : Nat) (ad : Addr) (sLen sCap : Nat) (hd : a.eval d = .slice (some ⟨g, p, none⟩) dLen dCap) (hss : a.eval s = .slice (some ad) sLen sCap) (cur : Array Value) (t : TypeId) (cs : List Value)
    (hu : P.underlying dT = some (.slice elem)) (hs : (P.info? elem).map (·.size) = some 1)
    (hg : w.heap[g]? = some (.cells cur t (0, 0))) (hn : cs.length = Nat.min sLen dLen)
    (hsrc : ∀ j v, cs[j]? = some v → w.cell? (ad.add j) = some v) (hfit : p + cs.length ≤ cur.size) (h1 : ∀ v ∈ cs, v.oneCell' = true)
    (hK : K (a.put o.dst (goInt cs.length)) (w.setRow g (over cur p cs))) :
    if Region.wanted o (yielded ops a.tmps) = true then Oper.wp P o a w K Q else E := by
  have hw : Region.wanted o (yielded ops a.tmps) = true := by simp [Region.wanted, hgd]
  rw [if_pos hw]
  exact wp_copy w d s dT sT ho elem g p dLen dCap ad sLen sCap hd hss cur t cs hu hs hg hn hsrc hfit h1 hK
theorem step_load_sub {ops : Array Oper} {o : Oper} {a : Act} {w : World} {K : Act → World → Prop} {Q : Exit → Act → World → Prop} {E : Prop} (hgd : o.guard = none) (ty : TypeId) (x : Operand) (ho : o.op = .load ty x)
    (g p : Nat) (hx : a.eval x = .pointer (some ⟨g, p, none⟩)) (vs : List Value) (d : TypeDesc) (hg : ∀ j v, vs[j]? = some v → w.cell? ⟨g, p + j, none⟩ = some v)
    (hu : P.underlying ty = some d) (hd : (match d with | .struct _ | .array _ _ => true | _ => false) = true) (hi : (P.info? ty).map (·.size) = some vs.length)
    (h : K (a.put o.dst (.agg vs.toArray)) w) : if Region.wanted o (yielded ops a.tmps) = true then Oper.wp P o a w K Q else E := by
  have hw : Region.wanted o (yielded ops a.tmps) = true := by simp [Region.wanted, hgd]
  rw [if_pos hw]
  exact wp_load_sub ty x ho g p hx vs d hg hu hd hi h
theorem step_store_sub {ops : Array Oper} {o : Oper} {a : Act} {w : World} {K : Act → World → Prop} {Q : Exit → Act → World → Prop} {E : Prop} (hgd : o.guard = none) (ty : TypeId) (x y : Operand) (ho : o.op = .store ty x y)
    (g p : Nat) (cells : Array Value) (hx : a.eval x = .pointer (some ⟨g, p, none⟩)) (hy : a.eval y = .agg cells)
    (t : TypeId) (cur : Array Value) (hg : w.heap[g]? = some (.cells cur t (0, 0))) (hi : (P.info? ty).map (·.size) = some cells.size)
    (hold : p + cells.size ≤ cur.size) (h1 : cells.all (·.oneCell') = true)
    (h : K (a.put o.dst undef) (w.setRow g (over cur p cells.toList))) : if Region.wanted o (yielded ops a.tmps) = true then Oper.wp P o a w K Q else E := by
  have hw : Region.wanted o (yielded ops a.tmps) = true := by simp [Region.wanted, hgd]
  rw [if_pos hw]
  exact wp_store_sub ty x y ho g p cells hx hy t cur hg hi hold h1 h
theorem run_zero_of {t : TypeId} {v : Value} (h : (P.info? t).map (·.zero) = some (some v)) (W : World) : (zeroValue t).run P W = .ok v W := by
  cases hq : P.info? t with
  | none => simp [hq] at h
  | some i =>
    have hz : i.zero = some v := by simpa [hq] using h
    simp [zeroValue, typeInfo, hq, hz]

/-- A load of a part of a row, as a step of a region whose head only reads. -/
theorem still_load_mid {ops : Array Oper} {o : Oper} {a : Act} {w : World} {K : Act → Prop} {E : Prop} (hgd : o.guard = none) (ty : TypeId) (x : Operand) (ho : o.op = .load ty x)
    (b p : Nat) (hx : a.eval x = .pointer (some ⟨b, p, none⟩)) (cs : List Value) (d : TypeDesc) (hc : w.rangeAt b p cs) (hu : P.underlying ty = some d) (hd : d.isRow = true) (hi : (P.info? ty).map (·.size) = some cs.length)
    (h : K (a.put o.dst (.agg cs.toArray))) : if Region.wanted o (yielded ops a.tmps) = true then o.still P a w K else E := by
  have hw : Region.wanted o (yielded ops a.tmps) = true := by simp [Region.wanted, hgd]
  rw [if_pos hw]
  unfold Oper.still execOp
  simp only [ho, hx, Sem.run_bind, run_loadAt_mid w b p ty cs d hc hu hd hi, Result.andThen_ok, Sem.run_pure]
  exact ⟨rfl, h⟩
end
end Go.Proofs.YtpdnmhnnngcbjaaDoor

/- Bytes as cells; what a row's turn leaves; quiet calls; a range of a row as a slice. Nothing of the program is named here. -/
namespace Go.Proofs.YtpdnmhnnngcbjaaDoor
open Go.RowKit

def bcells (bs : List UInt8) : Array Value := (bs.map cel).toArray
theorem bcells_get (bs : List UInt8) (i : Nat) (h : i < bs.length) : (bcells bs)[i]? = some (.int .u8 ((bs.getD i 0).toNat : Int)) := by
  simp [bcells, h, List.getD, cel]
theorem one_cel (ys : List UInt8) : ∀ v ∈ ys.map cel, v.oneCell' = true := by
  intro v hv
  obtain ⟨x, _, rfl⟩ := List.mem_map.1 hv
  rfl
theorem bcells_one (bs : List UInt8) : (bcells bs).all (·.oneCell') = true := by
  rw [Array.all_eq_true_iff_forall_mem]
  intro v hv
  exact one_cel bs v (by simpa [bcells] using hv)
theorem below_row {B : Nat} {a w : World} (h : Below B a w) {g : Nat} (hg : B ≤ g) (cs : Array Value) : Below B a (w.setRow g cs) :=
  h.trans ⟨rfl, rfl, rfl, by simp, fun k hk => setRow_other _ _ _ _ (by omega)⟩
theorem below_drawn {B : Nat} {a w : World} (h : Below B a w) (n : Nat) : Below B a (w.drewN n) := ⟨h.os, h.tape, h.output, h.size, h.block⟩
theorem quiet_left {P : Program} {f : FuncId} {args : Array Value} {w : World} {a n : Nat} {v : Value}
    (h : Calls P f args (w.drewN (a + n)) fun e w' => e = .returned v ∧ w.drewN (a + n) = w') : Calls P f args (w.drewN (a + n)) fun e w'' => e = .returned v ∧ ∃ m, w'' = w.drewN (a + m) :=
  h.mono fun _ _ ⟨he, hm⟩ => ⟨he, n, hm.symm⟩

/-- What make([]byte, L) lays. -/
theorem made_bytes (L : Nat) : madeCells (Value.cells (.int .u8 0)) L = bcells (List.replicate L 0) := by
  apply Array.ext
  · simp [madeCells, bcells]
  · intro i h1 h2
    simp [madeCells, bcells, Value.cells, cel, Nat.mod_one]
theorem bcells_set (ys : List UInt8) (i : Nat) (z : Int) (h0 : 0 ≤ z) (h1 : z < 256) : (bcells ys).setIfInBounds i (.int .u8 z) = bcells (ys.set i (UInt8.ofNat z.toNat)) := by
  have e : Value.int .u8 z = cel (UInt8.ofNat z.toNat) := by
    unfold cel
    congr 1
    simp
    omega
  rw [e]
  unfold bcells
  rw [List.setIfInBounds_toArray, List.map_set]

/-- A row of bytes from block g's cell o on, as a slice of a part of it. -/
theorem dat_box {w : World} {g : Nat} {t : TypeId} {bs : List UInt8} (h : Box w g t (bcells bs)) (o n : Nat) (hn : o + n ≤ bs.length) : Dat true w 0 w.heap.size (some ⟨g, o, none⟩) ((bs.drop o).take n) := fun _ =>
  ⟨g, o, rfl, Nat.zero_le _, h.lt, fun j hj => by
    have hj' : j < n := by simp at hj; omega
    rw [h.cell (o + j), bcells_get bs (o + j) (by omega)]
    simp [cel, List.getD, hj'], fun _ j => h.free j⟩

section
variable {w w' w'' : World} {g : Nat}
/-- The world has turned in block g alone; what is new lies behind. -/
theorem wide_refl (w : World) (r : Option Nat) : w.grownBy w r := ⟨rfl, rfl, rfl, Nat.le_refl _, fun _ _ _ => rfl⟩
theorem wide_trans {r : Option Nat} (h : w.grownBy w' r) (h' : w'.grownBy w'' r) : w.grownBy w'' r :=
  ⟨h'.os.trans h.os, h'.tape.trans h.tape, h'.output.trans h.output, Nat.le_trans h.size h'.size, fun k hk hr => (h'.block k (by have := h.size; omega) hr).trans (h.block k hk hr)⟩
theorem wide_below {r : Option Nat} (h : Below w.heap.size w w') : w.grownBy w' r := ⟨h.os, h.tape, h.output, h.size, fun k hk _ => h.block k hk⟩
theorem wide_row (cs : Array Value) : w.grownBy (w.setRow g cs) (some g) :=
  ⟨rfl, rfl, rfl, by simp, fun k _ hr => setRow_other _ _ _ _ (fun e => hr (by rw [e]))⟩
theorem wide_set (i : Nat) (u : Value) : w.grownBy (w.setCell ⟨g, i, none⟩ u) (some g) :=
  ⟨rfl, rfl, rfl, by simp [World.setCell], fun k _ hr => Below.heap_setCell w _ u k (fun e => hr (by rw [e]))⟩
theorem wide_to_below {B : Nat} (h : w.grownBy w' (some g)) (hB : B ≤ w.heap.size) (hg : B ≤ g) : Below B w w' :=
  ⟨h.os, h.tape, h.output, h.size, fun k hk => h.block k (by omega) (fun e => by injection e with e; omega)⟩
end
end Go.Proofs.YtpdnmhnnngcbjaaDoor

/- Appending noughts that are made on the spot ('append(x, make([]T, n)...)') to a slice of the call's own, whose elements are of one cell each. Nothing of the program is named here. -/
namespace Go.Proofs.YtpdnmhnnngcbjaaDoor
open Go.RowKit

section
variable {α : Type} {f : α → Value} {P : Program} {w w' : World} {u base : Nat} {v : Value} {xs : List α}

theorem zeroCells_one (z : Value) (n : Nat) : Builtin.zeroCells #[z] n = (List.replicate n z).toArray := by
  apply Array.ext
  · simp [Builtin.zeroCells]
  · intro i h1 h2
    simp [Builtin.zeroCells, Nat.mod_one]

theorem run_appZ_zero (w : World) (t tn ty : TypeId) (i : TypeInfo) (kn k : IntKind) (ht : P.underlying t = some (.slice u)) (htn : P.underlying tn = some (.int kn)) (hn : P.info? u = some i) (A : Option Addr) (sLen sCap : Nat) (hle : sLen ≤ sCap) :
    (Builtin.append_ #[t, tn] ty #[.slice A sLen sCap, .int k 0]).run P w = .ok (.slice A sLen sCap) w := by
  have hw : IntKind.i64.wrap 0 = 0 := by rw [IntKind.wrap_i64]; omega
  rcases A with _ | a <;> simp [Builtin.append_, run_underlying ht, run_underlying htn, sizeOf, typeInfo, hn, asInt, asIntOf, hw, hle, storeCells]

theorem run_appZ_room (w : World) (t tn ty : TypeId) (i : TypeInfo) (z : Value) (k kn : IntKind) (bytes : Nat) (ht : P.underlying t = some (.slice u)) (htn : P.underlying tn = some (.int kn)) (hn : P.info? u = some i) (hz : i.zero = some z) (hsize : i.size = 1) (hby : i.bytes = bytes)
    (hzs : z.cells = #[z]) (h1 : z.oneCell' = true) (g sLen sCap m : Nat) (cur : Array Value) (hg : w.heap[g]? = some (.cells cur u (0, 0))) (h0 : m ≠ 0) (hroom : sLen + m ≤ sCap) (hfit : sLen + m ≤ cur.size) (hm : (m : Int) ≤ 9223372036854775807) (hb : (m : Int) * bytes ≤ 281474976710656) :
    (Builtin.append_ #[t, tn] ty #[.slice (some ⟨g, 0, none⟩) sLen sCap, .int k m]).run P w =
      .ok (.slice (some ⟨g, 0, none⟩) (sLen + m) sCap) (w.setRow g (cur.toList.take sLen ++ List.replicate m z ++ cur.toList.drop (sLen + m)).toArray) := by
  have hst := run_storeCells_at P g sLen u (List.replicate m z) 0 cur w hg (by simpa using hfit) (by intro x hx; rw [List.mem_replicate] at hx; rw [hx.2]; exact h1)
  simp only [Nat.add_zero, List.length_replicate] at hst
  have hw : IntKind.i64.wrap (m : Int) = m := by rw [IntKind.wrap_i64]; omega
  have hneg : ¬ ((m : Int) < 0) := by omega
  have hbb : ¬ (281474976710656 < (m : Int) * (bytes : Int)) := by omega
  subst hby
  simp [Builtin.append_, run_underlying ht, run_underlying htn, sizeOf, typeInfo, hn, hsize, asInt, asIntOf, zeroValue, hz, hw, hneg, hbb, hroom, h0, hzs, zeroCells_one, Addr.add_lit, hst]

theorem run_appZ_grow (w : World) (t tn ty : TypeId) (i : TypeInfo) (z : Value) (k kn : IntKind) (bytes : Nat) (ht : P.underlying t = some (.slice u)) (htn : P.underlying tn = some (.int kn)) (hn : P.info? u = some i) (hz : i.zero = some z) (hsize : i.size = 1) (hby : i.bytes = bytes)
    (hzs : z.cells = #[z]) (A : Option Addr) (sLen sCap m : Nat) (olds : List Value) (hold : (Builtin.firstCells 1 sLen (.slice A sLen sCap)).run P w.drew = .ok olds.toArray w.drew) (h0 : m ≠ 0) (hgr : sCap < sLen + m) (h63 : ((sLen + m : Nat) : Int) ≤ 9223372036854775807)
    (hb : (m : Int) * bytes ≤ 281474976710656) (hfit : Builtin.nextslicecap (sLen + m) sCap * bytes ≤ 281474976710656) :
    (Builtin.append_ #[t, tn] ty #[.slice A sLen sCap, .int k m]).run P w =
      .ok (.slice (some ⟨w.heap.size, 0, none⟩) (sLen + m) (grownCap w (sLen + m) sCap u))
        (w.drew.alloc (.cells (olds ++ List.replicate m z ++ List.replicate (grownCap w (sLen + m) sCap u - (sLen + m)) z).toArray u)) := by
  have hw : IntKind.i64.wrap (m : Int) = m := by rw [IntKind.wrap_i64]; omega
  have hneg : ¬ ((m : Int) < 0) := by omega
  have hbb : ¬ (281474976710656 < (m : Int) * (bytes : Int)) := by omega
  have hn2 : ¬ (sLen + m ≤ sCap) := by omega
  have h63' : ¬ (9223372036854775807 < ((sLen : Int) + (m : Int))) := by omega
  have h48' : ¬ (281474976710656 < Builtin.nextslicecap (sLen + m) sCap * bytes) := by omega
  subst hby
  simp [Builtin.append_, run_underlying ht, run_underlying htn, sizeOf, typeInfo, hn, hsize, asInt, asIntOf, zeroValue, hz, hw, hneg, hbb, hn2, h63', h48', h0, hzs, zeroCells_one, Question.forced, hold, newRow, grownCap]
  congr 2
  apply Array.ext'
  simp

theorem run_appZ (hf : ∀ x, (f x).oneCell' = true) (w : World) (t tn ty : TypeId) (i : TypeInfo) (x0 : α) (k kn : IntKind) (bytes : Nat) (ht : P.underlying t = some (.slice u)) (htn : P.underlying tn = some (.int kn)) (hn : P.info? u = some i) (hz : i.zero = some (f x0)) (hsize : i.size = 1) (hby : i.bytes = bytes)
    (hzs : (f x0).cells = #[f x0]) (hb64 : bytes ≤ 64) (h : OwE f w u base v xs) (m : Nat) (hb : xs.length + m ≤ 1099511627776) (hbase : base ≤ w.heap.size) :
    ∃ v' w', (Builtin.append_ #[t, tn] ty #[v, .int k m]).run P w = .ok v' w' ∧ OwE f w' u base v' (xs ++ List.replicate m x0) ∧ w.grownBy w' v.ownBlock ∧ (v'.ownBlock = v.ownBlock ∨ v'.ownBlock = some w.heap.size) := by
  have hbytes : (xs.length + m) * bytes ≤ 140737488355328 := Nat.le_trans (Nat.mul_le_mul hb hb64) (by decide)
  have hmb : (m : Int) * bytes ≤ 281474976710656 := by
    have : m * bytes ≤ (xs.length + m) * bytes := Nat.mul_le_mul_right _ (by omega)
    rw [← Int.natCast_mul]
    omega
  by_cases h0 : m = 0
  · subst h0
    obtain ⟨A, c, hv, hc, _⟩ := h.form
    exact ⟨v, w, by rw [hv]; exact run_appZ_zero w t tn ty i kn k ht htn hn A _ _ hc, by simpa using h, World.grownBy.refl w _, .inl rfl⟩
  · have grown : ∀ (old : Nat), old < xs.length + m → ∀ (row : Option Nat),
        OwE f (w.drew.alloc (.cells (xs.map f ++ List.replicate m (f x0) ++ List.replicate (grownCap w (xs.length + m) old u - (xs.length + m)) (f x0)).toArray u)) u base
          (.slice (some ⟨w.heap.size, 0, none⟩) (xs.length + m) (grownCap w (xs.length + m) old u)) (xs ++ List.replicate m x0) ∧
        w.grownBy (w.drew.alloc (.cells (xs.map f ++ List.replicate m (f x0) ++ List.replicate (grownCap w (xs.length + m) old u - (xs.length + m)) (f x0)).toArray u)) row := by
      intro old ho row
      have hge := grownCap_ge w (xs.length + m) old u
      have hcm : grownCap w (xs.length + m) old u ≤ maxLen := grownCap_le_maxLen w (xs.length + m) old u (by unfold maxLen; omega)
      have hlen : (xs ++ List.replicate m x0).length = xs.length + m := by simp
      refine ⟨?_, ⟨rfl, rfl, rfl, by simp, fun k hk _ => heap_alloc_old w.drew _ hk⟩⟩
      unfold OwE
      rw [hlen]
      refine ⟨by simp, .inr ⟨w.heap.size, _, _, rfl, hbase, heap_alloc_new w.drew _, hge, hcm, ?_, ?_⟩⟩
      · simp
        omega
      · simp only [Nat.mul_one]
        rw [List.take_append_of_le_length (by simp), List.take_of_length_le (by simp)]
        simp
    rcases h.2 with ⟨rfl, hx0⟩ | ⟨g, cap, cur, rfl, hbg, hg, hnc, hcm, hcs, htake⟩
    · have hx : xs = [] := List.eq_nil_of_length_eq_zero hx0
      subst hx
      have hr := run_appZ_grow (P := P) w t tn ty i (f x0) k kn bytes ht htn hn hz hsize hby hzs none 0 0 m [] (run_firstCells_none w.drew 1 0 0 0) h0 (by omega) (by omega) hmb (growslice_fits (by omega) (by simpa using hbytes))
      have hgr := grown 0 (by simp; omega) (Value.ownBlock (.slice none 0 0))
      simp only [List.length_nil, List.map_nil] at hgr
      exact ⟨_, _, hr, hgr.1, hgr.2, .inr rfl⟩
    · have hcs' : cur.size = cap := by simpa using hcs
      by_cases hroom : xs.length + m ≤ cap
      · have hr := run_appZ_room (P := P) w t tn ty i (f x0) k kn bytes ht htn hn hz hsize hby hzs (hf x0) g xs.length cap m cur hg h0 hroom (by omega) (by omega) hmb
        refine ⟨_, _, hr, ?_, ⟨rfl, rfl, rfl, by simp, fun k _ hk => setRow_other w g k _ (fun e => hk (by simp [Value.ownBlock, e]))⟩, .inl rfl⟩
        have hlen : (xs ++ List.replicate m x0).length = xs.length + m := by simp
        unfold OwE
        rw [hlen]
        refine ⟨by simp, .inr ⟨g, cap, _, rfl, hbg, setRow_heap w g cur _ u _ hg, hroom, hcm, ?_, ?_⟩⟩
        · simp only [List.size_toArray, List.length_append, List.length_take, List.length_drop, Array.length_toList, List.length_replicate]
          omega
        · simp only [Nat.mul_one] at htake ⊢
          rw [htake, List.take_append_of_le_length (by simp), List.take_of_length_le (by simp)]
          simp
      · have holds : ∀ j y, (xs.map f)[j]? = some y → w.drew.cell? ((⟨g, 0, none⟩ : Addr).add j) = some y := by
          intro j y hj
          have := World.ownsRow.cells h (g := g) rfl j y hj
          simpa using this
        have hr := run_appZ_grow (P := P) w t tn ty i (f x0) k kn bytes ht htn hn hz hsize hby hzs (some ⟨g, 0, none⟩) xs.length cap m (xs.map f) (run_firstCells_some w.drew 1 xs.length _ _ _ (xs.map f) (by simp) holds) h0 (by omega) (by omega) hmb (growslice_fits (by omega) hbytes)
        have hgr := grown cap (by omega) (Value.ownBlock (.slice (some ⟨g, 0, none⟩) xs.length cap))
        exact ⟨_, _, hr, hgr.1, hgr.2, .inr rfl⟩

theorem list_appZ {ops : Array Oper} {rest : List Oper} {o : Oper} {a : Act} {Q : Exit → Act → World → Prop} (hf : ∀ x, (f x).oneCell' = true) (w : World) (hgd : o.guard = none) (s x : Operand) (t tn : TypeId)
    (ho : o.op = .call { callee := .builtin .append, args := #[s, x], argTypes := #[t, tn] })
    (i : TypeInfo) (x0 : α) (k kn : IntKind) (bytes : Nat) (ht : P.underlying t = some (.slice u)) (htn : P.underlying tn = some (.int kn)) (hn : P.info? u = some i) (hz : i.zero = some (f x0)) (hsize : i.size = 1) (hby : i.bytes = bytes) (hzs : (f x0).cells = #[f x0]) (hb64 : bytes ≤ 64)
    (hs : a.eval s = v) (h : OwE f w u base v xs) (m : Nat) (hx : a.eval x = .int k m) (hb : xs.length + m ≤ 1099511627776) (hbase : base ≤ w.heap.size)
    (hK : ∀ v' w', OwE f w' u base v' (xs ++ List.replicate m x0) → w.grownBy w' v.ownBlock → (v'.ownBlock = v.ownBlock ∨ v'.ownBlock = some w.heap.size) → wpList P ops Q rest (a.put o.dst v') w') : wpList P ops Q (o :: rest) a w :=
  wpList_plain hgd fun _ hKK => by
    obtain ⟨v', w', hrun, h2, h3, h4⟩ := run_appZ (P := P) hf w t tn o.type i x0 k kn bytes ht htn hn hz hsize hby hzs hb64 h m hb hbase
    unfold Oper.wp execOp
    simp only [ho, resolve, invoke, builtin, Sem.run_bind, Sem.run_pure, Result.andThen_ok, List.map_toArray, List.map_cons, List.map_nil, hs, hx, hrun]
    exact hKK _ _ (hK v' w' h2 h3 h4)
end
end Go.Proofs.YtpdnmhnnngcbjaaDoor

/- A variable that is an array: laid by one law, with its cells under a name of one's own; an array of ints that counts. Nothing of the program is named here. -/
namespace Go.Proofs.YtpdnmhnnngcbjaaDoor
open Go.RowKit

section
variable {P : Program}
theorem wpList_alloc_z {ops : Array Oper} {rest : List Oper} {o : Oper} {a : Act} {w : World} {Q : Exit → Act → World → Prop} (hgd : o.guard = none) (t : TypeId) (ho : o.op = .alloc t) (cs : Array Value) (hz : (P.info? t).map (·.zero) = some (some (.agg cs)))
    (h : wpList P ops Q rest (a.put o.dst (.pointer (some ⟨w.heap.size, 0, none⟩))) (w.alloc (.cells cs t))) : wpList P ops Q (o :: rest) a w :=
  wpList_plain hgd fun _ hK => by
    have hz' := run_zero_of (P := P) hz w
    unfold Oper.wp execOp
    simp only [ho, Instr.alloc, Sem.run_bind, hz', Result.andThen_ok]
    exact hK _ _ h
end

/-- An array of 256 ints. -/
def arr (g : Nat → Nat) : Array Value := ((List.range 256).map fun s => Value.int .i64 (g s : Int)).toArray
theorem arr_get (g : Nat → Nat) (s : Nat) (h : s < 256) : (arr g)[s]? = some (.int .i64 (g s : Int)) := by simp [arr, h]
theorem arr_set (g : Nat → Nat) (s x : Nat) : (arr g).setIfInBounds s (.int .i64 (x : Int)) = arr (fun i => if i = s then x else g i) := by
  apply Array.ext'
  unfold arr
  simp only [List.setIfInBounds_toArray]
  apply List.ext_getElem
  · simp
  intro j h1 h2
  rw [List.getElem_set]
  simp only [List.getElem_map, List.getElem_range]
  by_cases hj : s = j
  · subst hj; simp
  · rw [if_neg hj, if_neg (fun e => hj e.symm)]
theorem arr_congr {g h : Nat → Nat} (e : ∀ s, s < 256 → g s = h s) : arr g = arr h := by
  unfold arr
  congr 1
  refine List.map_congr_left fun s hs => ?_
  rw [e s (List.mem_range.1 hs)]
end Go.Proofs.YtpdnmhnnngcbjaaDoor

/- Appending records to a slice of the call's own, as a step of a region that draws its order. Nothing of the program is named here. -/
namespace Go.Proofs.YtpdnmhnnngcbjaaDoor
open Go.RowKit

theorem step_appR {α : Type} {z : Nat} {f : α → List Value} {P : Program} {u base lo hi : Nat} {v : Value} {xs ys : List α} {A : Option Addr} {m c : Nat} {ops : Array Oper} {o : Oper} {a : Act} {K : Act → World → Prop} {Q : Exit → Act → World → Prop} {E : Prop} (hz : ∀ x, (f x).length = z) (hz0 : 0 < z) (hf : ∀ x, ∀ v ∈ f x, v.oneCell' = true) (w : World) (hgd : o.guard = none) (s x : Operand) (t : TypeId)
    (ho : o.op = .call { callee := .builtin .append, args := #[s, x], argTypes := #[t, t] })
    (i : TypeInfo) (zv : Value) (bytes : Nat) (ht : P.underlying t = some (.slice u)) (hn : P.info? u = some i) (hzv : i.zero = some zv) (hsize : i.size = z) (hby : i.bytes = bytes) (hzs : zv.cells.size = z) (hb64 : bytes ≤ 64)
    (hs : a.eval s = v) (h : OwR z f w u base v xs) (hx : a.eval x = .slice A m c) (hd : DatR z f w lo hi A ys) (hm : ys.length = m) (hb : xs.length + m ≤ 1099511627776) (hbase : base ≤ w.heap.size)
    (hK : ∀ v' w', OwR z f w' u base v' (xs ++ ys) → w.grownBy w' v.ownBlock → (v'.ownBlock = v.ownBlock ∨ v'.ownBlock = some w.heap.size) → K (a.put o.dst v') w') :
    if Region.wanted o (yielded ops a.tmps) = true then Oper.wp P o a w K Q else E := by
  have hw : Region.wanted o (yielded ops a.tmps) = true := by simp [Region.wanted, hgd]
  rw [if_pos hw]
  obtain ⟨v', w', hrun, h2, h3, h4⟩ := run_appR (P := P) (c := c) hz hz0 hf w t o.type i zv bytes ht hn hzv hsize hby hzs hb64 h hd hm hb hbase
  unfold Oper.wp execOp
  simp only [ho, resolve, invoke, builtin, Sem.run_bind, Sem.run_pure, Result.andThen_ok, List.map_toArray, List.map_cons, List.map_nil, hs, hx, hrun]
  exact hK v' w' h2 h3 h4
end Go.Proofs.YtpdnmhnnngcbjaaDoor
