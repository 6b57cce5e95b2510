/- The contracts of CurPlain, Els, Args, ArgsInts, Recs, CurApp, ShaRow, XxhCells, AppZ, Vars, CucRead, CucTake, CucNum, AppR, CucClone, CucWrite, CucRef, CucRefNum, in one text. -/
import Derived.WalkKit
import Derived.WalkSpells
import Derived.Deep.Draws
import Derived.Maps.AppendAt
import Derived.Deep.AppendLies
import Derived.OwnWalk
import Derived.Test.YtlidnialggpcpaaGreatDoorRows
import Derived.ProofKit
import Derived.OpenShut
import Derived.ShutString
import Derived.ChangeOld
import Derived.Deep.RegionLaw
import Derived.RegionTactic
import Derived.Laws.BytesArg
import Derived.Laws.IdiomCopy
import Derived.Laws.CopyRow
import Derived.Laws.Tables
import Derived.Laws.Rows
import Derived.StillTailTactics
import Derived.Deep.MidRow
import Derived.WalkLawsBesides
import Derived.Lib.Hide
/- Plain lemmas for the cursor layer: little-endian numbers as lists of bytes, blocks of memory that are known whole, slices that read as a list of bytes. Nothing of the program is named here. -/
namespace Go.Proofs.YtlidnialggpcpaaGreatDoor
open Go.RowKit

/-- The number that bytes make, the lowest first. -/
def le : List UInt8 → Nat
  | [] => 0
  | x :: r => x.toNat + 256 * le r

/-- A number in n bytes, the lowest first. -/
def put (x : Nat) : Nat → List UInt8
  | 0 => []
  | n + 1 => UInt8.ofNat (x % 256) :: put (x / 256) n

theorem le_lt (xs : List UInt8) : le xs < 256 ^ xs.length := by
  induction xs with
  | nil => simp [le]
  | cons x r ih =>
    have := x.toNat_lt
    simp only [le, List.length_cons, Nat.pow_succ]
    omega
theorem le_snoc (xs : List UInt8) (x : UInt8) : le (xs ++ [x]) = le xs + x.toNat * 256 ^ xs.length := by
  induction xs with
  | nil => simp [le]
  | cons y r ih =>
    simp only [List.cons_append, le, ih, List.length_cons, Nat.pow_succ, Nat.mul_add]
    have : 256 * (x.toNat * 256 ^ r.length) = x.toNat * (256 ^ r.length * 256) := by
      rw [Nat.mul_comm 256, Nat.mul_assoc]
    omega
theorem put_length (x n : Nat) : (put x n).length = n := by
  induction n generalizing x with
  | zero => rfl
  | succ n ih => simp [put, ih]
theorem put_snoc (x n : Nat) : put x (n + 1) = put x n ++ [UInt8.ofNat (x / 256 ^ n % 256)] := by
  induction n generalizing x with
  | zero => simp [put]
  | succ n ih =>
    rw [put, ih (x / 256), put]
    simp only [List.cons_append, Nat.pow_succ]
    rw [Nat.div_div_eq_div_mul, Nat.mul_comm 256]
/-- One round of reading a number: the next byte is laid above those that are there. -/
theorem or_step (x c k : Nat) (hx : x < 256 ^ k) (hc : c < 256) (hk : k < 8) :
    bits .or .u64 (x : Int) (IntKind.u64.wrap (IntKind.u64.wrap (c : Int) * 2 ^ (8 * k))) = ((x + c * 256 ^ k : Nat) : Int) := by
  have hp : (256 : Nat) ^ k = 2 ^ (8 * k) := by rw [Nat.pow_mul]
  rw [hp] at hx ⊢
  have hP : 2 ^ (8 * k) ≤ 2 ^ 56 := Nat.pow_le_pow_right (by omega) (by omega)
  have hcp : c * 2 ^ (8 * k) ≤ 255 * 2 ^ 56 := Nat.mul_le_mul (by omega) hP
  have h1 : IntKind.u64.wrap (c : Int) = (c : Int) := by rw [IntKind.wrap_u64]; omega
  have h2 : (c : Int) * 2 ^ (8 * k) = ((c * 2 ^ (8 * k) : Nat) : Int) := by simp
  rw [h1, h2]
  have h3 : IntKind.u64.wrap ((c * 2 ^ (8 * k) : Nat) : Int) = ((c * 2 ^ (8 * k) : Nat) : Int) := by rw [IntKind.wrap_u64]; omega
  rw [h3, u64_or_nat _ _ (by omega) (by omega), Nat.or_comm, nat_join (8 * k) _ _ (Nat.mul_mod_left _ _) hx, Nat.add_comm]

/-- The byte k of a number, as it is shifted down and cut. -/
theorem byte_step (x k : Nat) : IntKind.u8.wrap ((x : Int) / 2 ^ (8 * k)) = (((UInt8.ofNat (x / 256 ^ k % 256)).toNat : Nat) : Int) := by
  have hp : (256 : Nat) ^ k = 2 ^ (8 * k) := by rw [Nat.pow_mul]
  rw [hp, IntKind.wrap_u8']
  have h : (x : Int) / 2 ^ (8 * k) = ((x / 2 ^ (8 * k) : Nat) : Int) := by simp
  rw [h]
  simp

/-- A byte as a cell. -/
def cel (x : UInt8) : Value := .int .u8 (x.toNat : Int)

/-- Block g is just these cells of type t, none frozen. -/
def Box (w : World) (g : Nat) (t : TypeId) (cs : Array Value) : Prop := w.heap[g]? = some (.cells cs t (0, 0))

/-- A slice at A holds the bytes xs; they lie in a block from lo on and below hi; 'own': that block is nowhere frozen. -/
def Dat (own : Bool) (w : World) (lo hi : Nat) (A : Option Addr) (xs : List UInt8) : Prop :=
  0 < xs.length → ∃ d o, A = some ⟨d, o, none⟩ ∧ lo ≤ d ∧ d < hi ∧ (∀ j, j < xs.length → w.cell? ⟨d, o + j, none⟩ = some (cel (xs.getD j 0))) ∧
    (own = true → ∀ j, w.frozen? ⟨d, j, none⟩ = false)

section
variable {w w' : World} {g : Nat} {t : TypeId} {cs : Array Value}
theorem Box.lt (h : Box w g t cs) : g < w.heap.size := (Array.getElem?_eq_some_iff.1 h).1
theorem Box.cell (h : Box w g t cs) (i : Nat) : w.cell? ⟨g, i, none⟩ = cs[i]? := cell_of_row w g i cs t (0, 0) h
theorem Box.free (h : Box w g t cs) (i : Nat) : w.frozen? ⟨g, i, none⟩ = false := by
  unfold Box at h
  simp [World.frozen?, h]
theorem Box.new (w : World) (t : TypeId) (cs : Array Value) : Box (w.alloc (.cells cs t)) w.heap.size t cs := heap_alloc_new w _
theorem Box.keep (h : Box w g t cs) (he : w'.heap[g]? = w.heap[g]?) : Box w' g t cs := he.trans h
theorem Box.alloc (h : Box w g t cs) (o : Obj) : Box (w.alloc o) g t cs := h.keep (Below.heap_alloc w o g h.lt)
theorem Box.put (h : Box w g t cs) (i : Nat) (u : Value) : Box (w.setCell ⟨g, i, none⟩ u) g t (cs.setIfInBounds i u) := by
  unfold Box at h ⊢
  simp [World.setCell, Array.getElem?_modify, h]
theorem Box.far (h : Box w g t cs) {p : Addr} (hp : g ≠ p.block) (u : Value) : Box (w.setCell p u) g t cs := h.keep (Below.heap_setCell w p u g hp)
theorem Box.below {B : Nat} (h : Box w g t cs) (hb : Below B w w') (hg : g < B) : Box w' g t cs := h.keep (hb.block g hg)
theorem Box.grown {row : Option Nat} (h : Box w g t cs) (hb : w.grownBy w' row) (hg : some g ≠ row) : Box w' g t cs := h.keep (hb.block g h.lt hg)
end

section
variable {own : Bool} {w w' : World} {lo hi : Nat} {A : Option Addr} {xs : List UInt8}
theorem Dat.nil (own : Bool) (w : World) (lo hi : Nat) (A : Option Addr) : Dat own w lo hi A [] := fun h => absurd h (by simp)
theorem Dat.keep (h : Dat own w lo hi A xs) (he : ∀ k, lo ≤ k → k < hi → w'.heap[k]? = w.heap[k]?) : Dat own w' lo hi A xs := fun hx => by
  obtain ⟨d, o, hA, h1, h2, hc, hf⟩ := h hx
  exact ⟨d, o, hA, h1, h2, fun j hj => (World.cell?_of_block (he d h1 h2)).trans (hc j hj), fun ho j => (World.frozen?_of_block (he d h1 h2)).trans (hf ho j)⟩
theorem Dat.below {B : Nat} (h : Dat own w lo hi A xs) (hb : Below B w w') (hB : hi ≤ B) : Dat own w' lo hi A xs := h.keep fun k _ hk => hb.block k (by omega)
theorem Dat.grown {row : Option Nat} (h : Dat own w lo hi A xs) (hb : w.grownBy w' row) (hs : hi ≤ w.heap.size) (hr : ∀ k, row = some k → k < lo ∨ hi ≤ k) : Dat own w' lo hi A xs :=
  h.keep fun k h1 h2 => hb.block k (by omega) (fun e => by have := hr k e.symm; omega)
theorem Dat.alloc (h : Dat own w lo hi A xs) (hs : hi ≤ w.heap.size) (o : Obj) : Dat own (w.alloc o) lo hi A xs := h.keep fun k _ h2 => Below.heap_alloc w o k (by omega)
theorem Dat.drew (h : Dat own w lo hi A xs) : Dat own w.drew lo hi A xs := h
theorem Dat.far (h : Dat own w lo hi A xs) {p : Addr} (hp : p.block < lo ∨ hi ≤ p.block) (u : Value) : Dat own (w.setCell p u) lo hi A xs := h.keep fun k h1 h2 => Below.heap_setCell w p u k (by omega)
theorem Dat.mono {lo' hi' : Nat} (h : Dat own w lo hi A xs) (hl : lo' ≤ lo) (hh : hi ≤ hi') : Dat own w lo' hi' A xs := fun hx => by
  obtain ⟨d, o, hA, h1, h2, hc⟩ := h hx
  exact ⟨d, o, hA, by omega, by omega, hc⟩
theorem Dat.take (h : Dat own w lo hi A xs) (k : Nat) : Dat own w lo hi A (xs.take k) := fun hx => by
  have hlen : (xs.take k).length ≤ xs.length := by simp; omega
  obtain ⟨d, o, hA, h1, h2, hc, hf⟩ := h (by omega)
  refine ⟨d, o, hA, h1, h2, fun j hj => ?_, hf⟩
  rw [hc j (by omega)]
  have hk : j < k := by simp at hj; omega
  simp [List.getD, hk]
theorem Dat.drop (h : Dat own w lo hi A xs) (k : Nat) : Dat own w lo hi (A.map (·.add k)) (xs.drop k) := fun hx => by
  have hlen : (xs.drop k).length = xs.length - k := by simp
  obtain ⟨d, o, hA, h1, h2, hc, hf⟩ := h (by omega)
  refine ⟨d, o + k, ?_, h1, h2, fun j hj => ?_, hf⟩
  · subst hA
    simp only [Option.map_some, Addr.add]
    split <;> simp_all
  · have := hc (k + j) (by omega)
    rw [show o + k + j = o + (k + j) by omega, this]
    simp [List.getD]
theorem Dat.cut (h : Dat own w lo hi A xs) {k c : Nat} (hc : xs.length ≤ c) : Dat own w lo hi (if c = k then A else A.map (·.add k)) (xs.drop k) := by
  by_cases hk : c = k
  · rw [if_pos hk, List.drop_of_length_le (by omega)]
    exact Dat.nil own w lo hi A
  · rw [if_neg hk]
    exact h.drop k
end
end Go.Proofs.YtlidnialggpcpaaGreatDoor

/- Slices of elements of one cell each, of whatever type: those that are read (DatE), those that the call itself owns (OwE), appending to them. Nothing of the program is named here. -/
namespace Go.Proofs.YtlidnialggpcpaaGreatDoor
open Go.RowKit

/-- A slice at A holds the elements xs, each in one cell; they lie in a block from lo on and below hi. -/
def DatE {α : Type} (f : α → Value) (w : World) (lo hi : Nat) (A : Option Addr) (xs : List α) : Prop :=
  0 < xs.length → ∃ d o, A = some ⟨d, o, none⟩ ∧ lo ≤ d ∧ d < hi ∧ ∀ j (h : j < xs.length), w.cell? ⟨d, o + j, none⟩ = some (f xs[j])

/-- The slice v is the call's own (blocks from base on) and holds the elements xs; u: the number of their type. -/
def OwE {α : Type} (f : α → Value) (w : World) (u base : Nat) (v : Value) (xs : List α) : Prop := w.ownsRow base u 1 v xs.length (xs.map f)

section
variable {α : Type} {f : α → Value} {w w' : World} {lo hi : Nat} {A : Option Addr} {xs : List α}
theorem DatE.nil (f : α → Value) (w : World) (lo hi : Nat) (A : Option Addr) : DatE f w lo hi A [] := fun h => absurd h (by simp)
theorem DatE.keep (h : DatE f w lo hi A xs) (he : ∀ k, lo ≤ k → k < hi → w'.heap[k]? = w.heap[k]?) : DatE f w' lo hi A xs := fun hx => by
  obtain ⟨d, o, hA, h1, h2, hc⟩ := h hx
  exact ⟨d, o, hA, h1, h2, fun j hj => (World.cell?_of_block (he d h1 h2)).trans (hc j hj)⟩
theorem DatE.below {B : Nat} (h : DatE f w lo hi A xs) (hb : Below B w w') (hB : hi ≤ B) : DatE f w' lo hi A xs := h.keep fun k _ hk => hb.block k (by omega)
theorem DatE.grown {row : Option Nat} (h : DatE f w lo hi A xs) (hb : w.grownBy w' row) (hs : hi ≤ w.heap.size) (hr : ∀ k, row = some k → k < lo ∨ hi ≤ k) : DatE f w' lo hi A xs :=
  h.keep fun k h1 h2 => hb.block k (by omega) (fun e => by have := hr k e.symm; omega)
theorem DatE.alloc (h : DatE f w lo hi A xs) (hs : hi ≤ w.heap.size) (o : Obj) : DatE f (w.alloc o) lo hi A xs := h.keep fun k _ h2 => Below.heap_alloc w o k (by omega)
theorem DatE.far (h : DatE f w lo hi A xs) {p : Addr} (hp : p.block < lo ∨ hi ≤ p.block) (u : Value) : DatE f (w.setCell p u) lo hi A xs := h.keep fun k h1 h2 => Below.heap_setCell w p u k (by omega)
theorem DatE.mono {lo' hi' : Nat} (h : DatE f w lo hi A xs) (hl : lo' ≤ lo) (hh : hi ≤ hi') : DatE f w lo' hi' A xs := fun hx => by
  obtain ⟨d, o, hA, h1, h2, hc⟩ := h hx
  exact ⟨d, o, hA, by omega, by omega, hc⟩
theorem DatE.take (h : DatE f w lo hi A xs) (k : Nat) : DatE f w lo hi A (xs.take k) := fun hx => by
  have hlen : (xs.take k).length ≤ xs.length := by simp; omega
  obtain ⟨d, o, hA, h1, h2, hc⟩ := h (by omega)
  refine ⟨d, o, hA, h1, h2, fun j hj => ?_⟩
  rw [hc j (by omega), List.getElem_take]
theorem DatE.drop (h : DatE f w lo hi A xs) (k : Nat) : DatE f w lo hi (A.map (·.add k)) (xs.drop k) := fun hx => by
  have hlen : (xs.drop k).length = xs.length - k := by simp
  obtain ⟨d, o, hA, h1, h2, hc⟩ := h (by omega)
  refine ⟨d, o + k, ?_, h1, h2, fun j hj => ?_⟩
  · subst hA
    simp only [Option.map_some, Addr.add]
    split <;> simp_all
  · have := hc (k + j) (by omega)
    rw [show o + k + j = o + (k + j) by omega, this, List.getElem_drop]
theorem DatE.cut (h : DatE f w lo hi A xs) {k c : Nat} (hc : xs.length ≤ c) : DatE f w lo hi (if c = k then A else A.map (·.add k)) (xs.drop k) := by
  by_cases hk : c = k
  · rw [if_pos hk, List.drop_of_length_le (by omega)]
    exact DatE.nil f w lo hi A
  · rw [if_neg hk]
    exact h.drop k
end

section
variable {α : Type} {f : α → Value} {P : Program} {w w' : World} {u base lo hi : Nat} {v : Value} {xs ys : List α} {A : Option Addr} {m c : Nat}
theorem OwE.nil (f : α → Value) (w : World) (u base : Nat) : OwE f w u base (.slice none 0 0) [] := World.ownsRow_nil w base u 1
theorem OwE.alloc (h : OwE f w u base v xs) (o : Obj) : OwE f (w.alloc o) u base v xs := World.ownsRow.alloc h o
theorem OwE.grown {row : Option Nat} (h : OwE f w u base v xs) (hg : w.grownBy w' row) (hne : v.ownBlock = none ∨ v.ownBlock ≠ row) : OwE f w' u base v xs := World.ownsRow.kept h hg hne
theorem OwE.keep (h : OwE f w u base v xs) (he : ∀ k, v.ownBlock = some k → w'.heap[k]? = w.heap[k]?) : OwE f w' u base v xs := by
  refine ⟨h.1, ?_⟩
  rcases h.2 with hn | ⟨g, cap, cur, rfl, hb, hh, q⟩
  · exact .inl hn
  · exact .inr ⟨g, cap, cur, rfl, hb, (he g rfl).trans hh, q⟩
theorem OwE.mono {b : Nat} (h : OwE f w u base v xs) (hb : b ≤ base) : OwE f w u b v xs := by
  refine ⟨h.1, ?_⟩
  rcases h.2 with hn | ⟨g, cap, cur, hv, hg, q⟩
  · exact .inl hn
  · exact .inr ⟨g, cap, cur, hv, by omega, q⟩
theorem OwE.block (h : OwE f w u base v xs) : ∀ k, v.ownBlock = some k → base ≤ k ∧ k < w.heap.size := World.ownsRow.lt h
/-- As a slice that holds these elements. -/
theorem OwE.form (h : OwE f w u base v xs) : ∃ A c, v = .slice A xs.length c ∧ xs.length ≤ c ∧ DatE f w base w.heap.size A xs := by
  rcases h.2 with ⟨rfl, h0⟩ | ⟨g, cap, cur, rfl, hb, hh, hnc, _, _, ht⟩
  · have : xs = [] := List.eq_nil_of_length_eq_zero h0
    subst this
    exact ⟨none, 0, rfl, by simp, DatE.nil _ _ _ _ _⟩
  · refine ⟨_, cap, rfl, hnc, fun hx => ⟨g, 0, rfl, hb, (Array.getElem?_eq_some_iff.1 hh).1, fun j hj => ?_⟩⟩
    have hc := World.ownsRow.cells h (g := g) rfl j (f xs[j]) (by simp [hj])
    have ha : (⟨g, 0, none⟩ : Addr).add j = ⟨g, 0 + j, none⟩ := by unfold Addr.add; split <;> simp_all
    rw [ha] at hc
    exact hc
theorem OwE.slice (h : OwE f w u base v xs) : ∃ A n c, v = .slice A n c := by
  obtain ⟨A, c, hv, _⟩ := h.form
  exact ⟨A, _, c, hv⟩
theorem OwE.ne_box {g : Nat} {t : TypeId} {cs : Array Value} (h : OwE f w u base v xs) (hg : Box w g t cs) (hne : u ≠ t) : v.ownBlock ≠ some g := by
  rcases h.2 with ⟨rfl, _⟩ | ⟨g', cap, cur, rfl, _, hh, _⟩
  · simp [Value.ownBlock]
  · intro he
    have : g' = g := by simpa [Value.ownBlock] using he
    subst this
    unfold Box at hg
    rw [hg] at hh
    injection hh with hh
    injection hh with _ ht
    exact hne ht.symm

theorem run_appE_none (t ty : TypeId) (i : TypeInfo) (ht : P.underlying t = some (.slice u)) (hn : P.info? u = some i) (h : OwE f w u base v xs) :
    (Builtin.append_ #[t, t] ty #[v, .slice none 0 c]).run P w = .ok v w := by
  rcases h.2 with ⟨rfl, h0⟩ | ⟨g, cap, cur, rfl, _, _, hnc, _⟩
  · simp [Builtin.append_, run_underlying ht, sizeOf, typeInfo, hn, Builtin.lenOf, Builtin.firstCells]
  · simp [Builtin.append_, run_underlying ht, sizeOf, typeInfo, hn, Builtin.lenOf, Builtin.firstCells, hnc, storeCells]

theorem run_appE (hf : ∀ x, (f x).oneCell' = true) (w : World) (t ty : TypeId) (i : TypeInfo) (z : Value) (bytes : Nat) (ht : P.underlying t = some (.slice u)) (hn : P.info? u = some i) (hz : i.zero = some z) (hsize : i.size = 1) (hby : i.bytes = bytes)
    (hzs : z.cells.size = 1) (hb64 : bytes ≤ 64)
    (h : OwE f w u base v xs) (hd : DatE f w lo hi A ys) (hm : ys.length = m) (hb : xs.length + m ≤ 1099511627776) (hbase : base ≤ w.heap.size) :
    ∃ v' w', (Builtin.append_ #[t, t] ty #[v, .slice A m c]).run P w = .ok v' w' ∧ OwE f w' u base v' (xs ++ ys) ∧ w.grownBy w' v.ownBlock ∧ (v'.ownBlock = v.ownBlock ∨ v'.ownBlock = some w.heap.size) := by
  subst hm
  rcases A with _ | ad
  · have hy : ys = [] := by
      rcases ys with _ | ⟨y, r⟩
      · rfl
      · obtain ⟨_, _, h', _⟩ := hd (by simp)
        cases h'
    subst hy
    exact ⟨v, w, run_appE_none t ty i ht hn h, by simpa using h, World.grownBy.refl w _, .inl rfl⟩
  · have hcells : ∀ j x, (ys.map f)[j]? = some x → w.cell? (ad.add j) = some x := by
      intro j x hx
      have hj : j < ys.length := by
        rcases Nat.lt_or_ge j ys.length with h1 | h1
        · exact h1
        · simp [List.getElem?_eq_none h1] at hx
      obtain ⟨d, o, hA, _, _, hc⟩ := hd (by omega)
      injection hA with hA
      subst hA
      have ha : (⟨d, o, none⟩ : Addr).add j = ⟨d, o + j, none⟩ := by unfold Addr.add; split <;> simp_all
      rw [ha, hc j hj, ← hx]
      simp [hj]
    have hbytes : (xs.length + ys.length) * bytes ≤ 140737488355328 := Nat.le_trans (Nat.mul_le_mul hb hb64) (by decide)
    obtain ⟨v', w', hrun, h2, h3, _, h5⟩ := run_append_own_at (P := P) w base t ty u i z 1 bytes ht hn hz hsize hby hzs (by omega) v xs.length (xs.map f) h ad ys.length c (ys.map f) (by simp) hcells
      (by intro x hx; obtain ⟨y, _, rfl⟩ := List.mem_map.1 hx; exact hf y) (by unfold maxLen; omega) hbytes hbase
    refine ⟨v', w', hrun, ?_, h3, h5⟩
    unfold OwE
    rw [List.map_append, List.length_append]
    exact h2

theorem wp_appE {o : Oper} {a : Act} {K : Act → World → Prop} {Q : Exit → Act → World → Prop} (hf : ∀ x, (f x).oneCell' = true) (w : World) (s x : Operand) (t : TypeId)
    (ho : o.op = .call { callee := .builtin .append, args := #[s, x], argTypes := #[t, t] })
    (i : TypeInfo) (z : Value) (bytes : Nat) (ht : P.underlying t = some (.slice u)) (hn : P.info? u = some i) (hz : i.zero = some z) (hsize : i.size = 1) (hby : i.bytes = bytes) (hzs : z.cells.size = 1) (hb64 : bytes ≤ 64)
    (hs : a.eval s = v) (h : OwE f w u base v xs) (hx : a.eval x = .slice A m c) (hd : DatE f w lo hi A ys) (hm : ys.length = m) (hb : xs.length + m ≤ 1099511627776) (hbase : base ≤ w.heap.size)
    (hK : ∀ v' w', OwE f w' u base v' (xs ++ ys) → w.grownBy w' v.ownBlock → (v'.ownBlock = v.ownBlock ∨ v'.ownBlock = some w.heap.size) → K (a.put o.dst v') w') : o.wp P a w K Q := by
  obtain ⟨v', w', hrun, h2, h3, h4⟩ := run_appE (P := P) (c := c) hf w t o.type i z bytes ht hn hz hsize hby hzs hb64 h hd hm hb hbase
  unfold Oper.wp execOp
  simp only [ho, resolve, invoke, builtin, Sem.run_bind, Sem.run_pure, Result.andThen_ok, List.map_toArray, List.map_cons, List.map_nil, hs, hx, hrun]
  exact hK v' w' h2 h3 h4

theorem list_appE {ops : Array Oper} {rest : List Oper} {o : Oper} {a : Act} {Q : Exit → Act → World → Prop} (hf : ∀ x, (f x).oneCell' = true) (w : World) (hgd : o.guard = none) (s x : Operand) (t : TypeId)
    (ho : o.op = .call { callee := .builtin .append, args := #[s, x], argTypes := #[t, t] })
    (i : TypeInfo) (z : Value) (bytes : Nat) (ht : P.underlying t = some (.slice u)) (hn : P.info? u = some i) (hz : i.zero = some z) (hsize : i.size = 1) (hby : i.bytes = bytes) (hzs : z.cells.size = 1) (hb64 : bytes ≤ 64)
    (hs : a.eval s = v) (h : OwE f w u base v xs) (hx : a.eval x = .slice A m c) (hd : DatE f w lo hi A ys) (hm : ys.length = m) (hb : xs.length + m ≤ 1099511627776) (hbase : base ≤ w.heap.size)
    (hK : ∀ v' w', OwE f w' u base v' (xs ++ ys) → w.grownBy w' v.ownBlock → (v'.ownBlock = v.ownBlock ∨ v'.ownBlock = some w.heap.size) → wpList P ops Q rest (a.put o.dst v') w') : wpList P ops Q (o :: rest) a w :=
  wpList_plain hgd fun _ hKK => wp_appE hf w s x t ho i z bytes ht hn hz hsize hby hzs hb64 hs h hx hd hm hb hbase fun v' w' h2 h3 h4 => hKK _ _ (hK v' w' h2 h3 h4)

/-- The new row of one element. -/
theorem datE_one (f : α → Value) (w : World) (x : α) (u : TypeId) (v : Value) (hv : v = f x) : DatE f (w.alloc (.cells #[v] u)) w.heap.size (w.heap.size + 1) (some ⟨w.heap.size, 0, none⟩) [x] := fun _ =>
  ⟨w.heap.size, 0, rfl, Nat.le_refl _, by omega, fun j hj => by
    have h := (Box.new w u #[v]).cell (0 + j)
    have hj0 : j = 0 := by simp at hj; omega
    subst hj0 hv
    exact h⟩
end
end Go.Proofs.YtlidnialggpcpaaGreatDoor

/- Arguments of type []byte, as slices that read as lists of bytes; what each law's frame wants. Made of XxhArgs, but that it stands on no layer. -/
namespace Go.Proofs.YtlidnialggpcpaaGreatDoor
open Go.ChangeShapes Go.WideShapes Go.ChangeAt Go.RowKit

/-- A slice of integers that came in: nil, or a row of 'cap' cells with the numbers zs, each of which fits its kind. -/
def IsRow (k : IntKind) (w : World) (a : Option Addr) (len cap : Nat) (zs : List Int) : Prop :=
  (a = none ∧ len = 0 ∧ cap = 0 ∧ zs = []) ∨
  ∃ x, a = some x ∧ len ≤ cap ∧ cap ≤ maxLen ∧ zs.length = cap ∧ (∀ i, i < zs.length → w.cell? (x.add i) = some (.int k (zs.getD i 0))) ∧ ∀ n ∈ zs, (Lit.int k n).wf = true

theorem byte_wf {n : Int} (h : (Lit.int .u8 n).wf = true) : ((UInt8.ofNat n.toNat).toNat : Int) = n := by
  have hx : 0 ≤ n ∧ n ≤ 255 := by simpa [Lit.wf, IntKind.min, IntKind.max, IntKind.signed, IntKind.bits] using h
  simp
  omega

/-- The bytes of such a slice. -/
theorem row_dat {w : World} {a : Option Addr} {len cap : Nat} {zs : List Int} (h : IsRow .u8 w a len cap zs) : ∃ xs : List UInt8, xs.length = len ∧ len ≤ cap ∧ cap ≤ maxLen ∧ Dat false w 0 w.heap.size a xs := by
  rcases h with ⟨rfl, rfl, rfl, rfl⟩ | ⟨x, rfl, hl, hm, hz, hc, hw⟩
  · exact ⟨[], rfl, Nat.le_refl _, Nat.zero_le _, Dat.nil _ _ _ _ _⟩
  · refine ⟨(zs.take len).map fun z => UInt8.ofNat z.toNat, by simp; omega, hl, hm, fun hx => ?_⟩
    have hlen : ((zs.take len).map fun z => UInt8.ofNat z.toNat).length = len := by simp; omega
    obtain ⟨b, off, rfl, hc'⟩ := ints_at hc (by omega)
    have hlt := World.block_lt_of_cell? w _ (hc' 0 (by omega))
    refine ⟨b, off, rfl, Nat.zero_le _, hlt, fun j hj => ?_, fun ho => by cases ho⟩
    rw [hc' j (by omega)]
    have hjz : j < zs.length := by omega
    have e : ((zs.take len).map fun z => UInt8.ofNat z.toNat).getD j 0 = UInt8.ofNat (zs[j]).toNat := by
      rw [List.getD_eq_getElem?_getD, List.getElem?_map, List.getElem?_take, if_pos (by omega), List.getElem?_eq_getElem hjz]
      rfl
    rw [e, cel, byte_wf (hw _ (List.getElem_mem hjz))]
    simp [List.getD, hjz]


/-- Such a slice, out of a row's condition. -/
theorem row_of_trod {H : Type} {enc : TypeId × Value → H} {W : World} {a : Option Addr} {len cap : Nat} {d : DataW H} {p : List MemPlace}
    (h : ∃ fuel, DataW.trod enc Tryz.prog W 0 (fun _ => true) true fuel 22 (Value.cells (.slice a len cap)).toList = some (d, p)) : ∃ zs, IsRow .u8 W a len cap zs := by
  obtain ⟨fuel, hf⟩ := h
  rcases open_ints Tryz.underlying22 Tryz.underlying5 (by kernel_rfl) hf with ⟨hcs, _⟩ | ⟨x, l, c, zs, hcs, _, hl, hm, hz, _, hcell, hwz⟩
  · simp [Value.cells] at hcs
    obtain ⟨rfl, rfl, rfl⟩ := hcs
    exact ⟨[], .inl ⟨rfl, rfl, rfl, rfl⟩⟩
  · simp [Value.cells] at hcs
    obtain ⟨rfl, rfl, rfl⟩ := hcs
    exact ⟨zs, .inr ⟨_, rfl, hl, hm, by simpa using hz, hcell, hwz⟩⟩

theorem own : ownKnob Tryz.prog.godebug = none := by kernel_rfl
theorem laidOut : laidOutB Tryz.prog = true := by kernel_rfl

theorem u8_bounds {n : Int} (h : (Lit.int .u8 n).wf = true) : 0 ≤ n ∧ n ≤ 255 := by simpa [Lit.wf, IntKind.min, IntKind.max, IntKind.signed, IntKind.bits] using h
theorem u16_bounds {n : Int} (h : (Lit.int .u16 n).wf = true) : 0 ≤ n ∧ n ≤ 65535 := by simpa [Lit.wf, IntKind.min, IntKind.max, IntKind.signed, IntKind.bits] using h
/-- A list out of what is known at each place. -/
theorem list_of {α : Type} (n : Nat) (p : Nat → α → Prop) (h : ∀ i, i < n → ∃ r, p i r) : ∃ l : List α, l.length = n ∧ ∀ i (hi : i < l.length), p i l[i] := by
  induction n with
  | zero => exact ⟨[], rfl, fun i hi => absurd hi (by simp)⟩
  | succ n ih =>
    obtain ⟨l, hl, hp⟩ := ih fun i hi => h i (by omega)
    obtain ⟨r, hr⟩ := h n (by omega)
    refine ⟨l ++ [r], by simp [hl], fun i hi => ?_⟩
    by_cases hin : i < l.length
    · rw [List.getElem_append_left hin]
      exact hp i hin
    · have : i = n := by simp at hi; omega
      subst this
      rw [List.getElem_append_right (by omega)]
      simpa [hl] using hr
end Go.Proofs.YtlidnialggpcpaaGreatDoor

/- An argument of type []int, as a slice of elements. -/
namespace Go.Proofs.YtlidnialggpcpaaGreatDoor
open Go.ChangeShapes Go.WideShapes Go.ChangeAt Go.RowKit

def icel (n : Int) : Value := .int .i64 n
end Go.Proofs.YtlidnialggpcpaaGreatDoor

/- Slices of records, each in as many cells as a record has, one behind the other: those that are read (DatR), those that the call itself owns (OwR), making, storing, appending. Nothing of the program is named here. -/
namespace Go.Proofs.YtlidnialggpcpaaGreatDoor
open Go.RowKit

/-- A slice at A holds the records xs, each in z cells; they lie in a block from lo on and below hi. -/
def DatR {α : Type} (z : Nat) (f : α → List Value) (w : World) (lo hi : Nat) (A : Option Addr) (xs : List α) : Prop :=
  0 < xs.length → ∃ d o, A = some ⟨d, o, none⟩ ∧ lo ≤ d ∧ d < hi ∧ ∀ j (h : j < xs.length) i v, (f xs[j])[i]? = some v → w.cell? ⟨d, o + j * z + i, none⟩ = some v

/-- The slice v is the call's own (blocks from base on) and holds the records xs; u: the number of their type. -/
def OwR {α : Type} (z : Nat) (f : α → List Value) (w : World) (u base : Nat) (v : Value) (xs : List α) : Prop := w.ownsRow base u z v xs.length (xs.flatMap f)

theorem add_plain' (d o k : Nat) : (⟨d, o, none⟩ : Addr).add k = ⟨d, o + k, none⟩ := by unfold Addr.add; split <;> simp_all
theorem add_lit' (g j : Nat) : (⟨g, 0, none⟩ : Addr).add j = ⟨g, j, none⟩ := by unfold Addr.add; split <;> simp_all

section
variable {α : Type} {z : Nat} {f : α → List Value}
theorem flat_len (hz : ∀ x, (f x).length = z) (xs : List α) : (xs.flatMap f).length = xs.length * z := by
  induction xs with
  | nil => simp
  | cons x r ih => rw [List.flatMap_cons, List.length_append, ih, hz, List.length_cons, Nat.succ_mul]; omega
theorem flat_get (hz : ∀ x, (f x).length = z) : ∀ (xs : List α) (j i : Nat) (hj : j < xs.length), i < z → (xs.flatMap f)[j * z + i]? = (f xs[j])[i]?
  | [], j, i, hj, _ => by simp at hj
  | x :: r, 0, i, _, hi => by
    rw [List.flatMap_cons, Nat.zero_mul, Nat.zero_add, List.getElem?_append_left (by rw [hz]; exact hi)]
    rfl
  | x :: r, j + 1, i, hj, hi => by
    rw [List.flatMap_cons, List.getElem?_append_right (by rw [hz, Nat.succ_mul]; omega), hz]
    have e : (j + 1) * z + i - z = j * z + i := by rw [Nat.succ_mul]; omega
    rw [e, flat_get hz r j i (by simpa using hj) hi]
    rfl
theorem flat_set (hz : ∀ x, (f x).length = z) (v : Value) (y : α) : ∀ (xs : List α) (j i : Nat) (hj : j < xs.length), i < z → f y = (f xs[j]).set i v → (xs.flatMap f).set (j * z + i) v = (xs.set j y).flatMap f
  | [], j, i, hj, _, _ => by simp at hj
  | x :: r, 0, i, _, hi, h => by
    rw [List.flatMap_cons, Nat.zero_mul, Nat.zero_add, List.set_append_left _ _ (by rw [hz]; exact hi), List.set_cons_zero, List.flatMap_cons, h]
    rfl
  | x :: r, j + 1, i, hj, hi, h => by
    have e : (j + 1) * z + i - (f x).length = j * z + i := by rw [hz, Nat.succ_mul]; omega
    rw [List.flatMap_cons, List.set_append_right _ _ (by rw [hz, Nat.succ_mul]; omega), e, flat_set hz v y r j i (by simpa using hj) hi (by simpa using h), List.set_cons_succ, List.flatMap_cons]
theorem made_recs (hz : ∀ x, (f x).length = z) (hz0 : 0 < z) (x : α) (cs : Array Value) (hcs : cs.toList = f x) (n : Nat) : (madeCells cs (n * z)).toList = (List.replicate n x).flatMap f := by
  have hcl : cs.size = z := by rw [← Array.length_toList, hcs, hz]
  apply List.ext_getElem?
  intro k
  by_cases hk : k < n * z
  · have hd : k / z < n := (Nat.div_lt_iff_lt_mul hz0).2 hk
    have hm : k % z < z := Nat.mod_lt _ hz0
    have e : k = k / z * z + k % z := by rw [Nat.mul_comm]; exact (Nat.div_add_mod k z).symm
    have h1 := flat_get hz (List.replicate n x) (k / z) (k % z) (by simpa using hd) hm
    rw [← e] at h1
    rw [h1]
    simp only [List.getElem_replicate]
    unfold madeCells
    rw [hcl]
    have hlt : k % z < cs.size := by omega
    simp only [Array.toList_map, Array.toList_range, List.getElem?_map, List.getElem?_range hk, Option.map_some]
    rw [← hcs, Array.getElem?_toList]
    simp [hlt]
  · rw [List.getElem?_eq_none (by simp [madeCells]; omega), List.getElem?_eq_none (by rw [flat_len hz]; simp; omega)]
end

section
variable {α : Type} {z : Nat} {f : α → List Value} {w w' : World} {lo hi : Nat} {A : Option Addr} {xs : List α}
theorem DatR.nil (z : Nat) (f : α → List Value) (w : World) (lo hi : Nat) (A : Option Addr) : DatR z f w lo hi A [] := fun h => absurd h (by simp)
theorem DatR.keep (h : DatR z f w lo hi A xs) (he : ∀ k, lo ≤ k → k < hi → w'.heap[k]? = w.heap[k]?) : DatR z f w' lo hi A xs := fun hx => by
  obtain ⟨d, o, hA, h1, h2, hc⟩ := h hx
  exact ⟨d, o, hA, h1, h2, fun j hj i v hv => (World.cell?_of_block (he d h1 h2)).trans (hc j hj i v hv)⟩
theorem DatR.below {B : Nat} (h : DatR z f w lo hi A xs) (hb : Below B w w') (hB : hi ≤ B) : DatR z f w' lo hi A xs := h.keep fun k _ hk => hb.block k (by omega)
theorem DatR.grown {row : Option Nat} (h : DatR z f w lo hi A xs) (hb : w.grownBy w' row) (hs : hi ≤ w.heap.size) (hr : ∀ k, row = some k → k < lo ∨ hi ≤ k) : DatR z f w' lo hi A xs :=
  h.keep fun k h1 h2 => hb.block k (by omega) (fun e => by have := hr k e.symm; omega)
theorem DatR.alloc (h : DatR z f w lo hi A xs) (hs : hi ≤ w.heap.size) (o : Obj) : DatR z f (w.alloc o) lo hi A xs := h.keep fun k _ h2 => Below.heap_alloc w o k (by omega)
theorem DatR.far (h : DatR z f w lo hi A xs) {p : Addr} (hp : p.block < lo ∨ hi ≤ p.block) (u : Value) : DatR z f (w.setCell p u) lo hi A xs := h.keep fun k h1 h2 => Below.heap_setCell w p u k (by omega)
theorem DatR.mono {lo' hi' : Nat} (h : DatR z f w lo hi A xs) (hl : lo' ≤ lo) (hh : hi ≤ hi') : DatR z f w lo' hi' A xs := fun hx => by
  obtain ⟨d, o, hA, h1, h2, hc⟩ := h hx
  exact ⟨d, o, hA, by omega, by omega, hc⟩
end

section
variable {α : Type} {z : Nat} {f : α → List Value} {P : Program} {w w' : World} {u base lo hi : Nat} {v : Value} {xs ys : List α} {A : Option Addr} {m c : Nat}
theorem OwR.nil (z : Nat) (f : α → List Value) (w : World) (u base : Nat) : OwR z f w u base (.slice none 0 0) [] := World.ownsRow_nil w base u z
theorem OwR.alloc (h : OwR z f w u base v xs) (o : Obj) : OwR z f (w.alloc o) u base v xs := World.ownsRow.alloc h o
theorem OwR.grown {row : Option Nat} (h : OwR z f w u base v xs) (hg : w.grownBy w' row) (hne : v.ownBlock = none ∨ v.ownBlock ≠ row) : OwR z f w' u base v xs := World.ownsRow.kept h hg hne
theorem OwR.keep (h : OwR z f w u base v xs) (he : ∀ k, v.ownBlock = some k → w'.heap[k]? = w.heap[k]?) : OwR z f w' u base v xs := by
  refine ⟨h.1, ?_⟩
  rcases h.2 with hn | ⟨g, cap, cur, rfl, hb, hh, q⟩
  · exact .inl hn
  · exact .inr ⟨g, cap, cur, rfl, hb, (he g rfl).trans hh, q⟩
theorem OwR.mono {b : Nat} (h : OwR z f w u base v xs) (hb : b ≤ base) : OwR z f w u b v xs := by
  refine ⟨h.1, ?_⟩
  rcases h.2 with hn | ⟨g, cap, cur, hv, hg, q⟩
  · exact .inl hn
  · exact .inr ⟨g, cap, cur, hv, by omega, q⟩
theorem OwR.block (h : OwR z f w u base v xs) : ∀ k, v.ownBlock = some k → base ≤ k ∧ k < w.heap.size := World.ownsRow.lt h
theorem OwR.below {B : Nat} (h : OwR z f w u base v xs) (hb : Below B w w') (hB : w.heap.size ≤ B) : OwR z f w' u base v xs :=
  h.keep fun k hk => hb.block k (by have := (h.block k hk).2; omega)
theorem OwR.drawn (h : OwR z f w u base v xs) (q : Nat) : OwR z f (w.drewN q) u base v xs := h
theorem OwR.aside {d n c g : Nat} (h : OwR z f w u base (.slice (some ⟨d, 0, none⟩) n c) xs) (hd : d ≠ g) (i : Nat) (x : Value) : OwR z f (w.setCell ⟨g, i, none⟩ x) u base (.slice (some ⟨d, 0, none⟩) n c) xs :=
  h.keep fun k hk => Below.heap_setCell _ _ _ k (by
    have e : d = k := by simpa [Value.ownBlock] using hk
    show k ≠ g
    omega)
/-- As a slice that holds these records. -/
theorem OwR.form (hz : ∀ x, (f x).length = z) (h : OwR z f w u base v xs) : ∃ A c, v = .slice A xs.length c ∧ xs.length ≤ c ∧ DatR z f w base w.heap.size A xs := by
  rcases h.2 with ⟨rfl, h0⟩ | ⟨g, cap, cur, rfl, hb, hh, hnc, _, _, ht⟩
  · have : xs = [] := List.eq_nil_of_length_eq_zero h0
    subst this
    exact ⟨none, 0, rfl, by simp, DatR.nil _ _ _ _ _ _⟩
  · refine ⟨_, cap, rfl, hnc, fun hx => ⟨g, 0, rfl, hb, (Array.getElem?_eq_some_iff.1 hh).1, fun j hj i x hi => ?_⟩⟩
    have hiz : i < z := by
      rcases Nat.lt_or_ge i z with q | q
      · exact q
      · rw [List.getElem?_eq_none (by rw [hz]; exact q)] at hi; cases hi
    have hc := World.ownsRow.cells h (g := g) rfl (j * z + i) x (by rw [flat_get hz xs j i hj hiz]; exact hi)
    rw [add_lit'] at hc
    rw [Nat.zero_add]
    exact hc
theorem OwR.len {A : Option Addr} {n c : Nat} (h : OwR z f w u base (.slice A n c) xs) : xs.length = n := by
  rcases h.2 with ⟨e, h0⟩ | ⟨g, cap, cur, e, _⟩
  · injection e with _ e2 _
    omega
  · injection e with _ e2 _
    exact e2.symm
theorem OwR.dat {A : Option Addr} {n c : Nat} (hz : ∀ x, (f x).length = z) (h : OwR z f w u base (.slice A n c) xs) : DatR z f w base w.heap.size A xs := by
  obtain ⟨A', c', hv, _, hd⟩ := h.form hz
  injection hv with h1
  subst h1
  exact hd
theorem OwR.cap {A : Option Addr} {n c : Nat} (hz : ∀ x, (f x).length = z) (h : OwR z f w u base (.slice A n c) xs) : n ≤ c := by
  obtain ⟨A', c', hv, hc, _⟩ := h.form hz
  injection hv with _ h2 h3
  omega
theorem OwR.slice (h : OwR z f w u base v xs) : ∃ A n c, v = .slice A n c := by
  rcases h.2 with ⟨rfl, _⟩ | ⟨g, cap, cur, rfl, _⟩
  · exact ⟨_, _, _, rfl⟩
  · exact ⟨_, _, _, rfl⟩
theorem OwR.place (h : OwR z f w u base v xs) (hx : 0 < xs.length) : ∃ d c, v = .slice (some ⟨d, 0, none⟩) xs.length c ∧ base ≤ d ∧ d < w.heap.size ∧ xs.length ≤ c := by
  rcases h.2 with ⟨_, h0⟩ | ⟨g, cap, cur, rfl, hb, hh, hn, _⟩
  · omega
  · exact ⟨g, cap, rfl, hb, (Array.getElem?_eq_some_iff.1 hh).1, hn⟩
theorem OwR.cellAt {d n c : Nat} (hz : ∀ x, (f x).length = z) (h : OwR z f w u base (.slice (some ⟨d, 0, none⟩) n c) xs) (j i : Nat) (hj : j < xs.length) (hi : i < z) (x : Value) (hx : (f xs[j])[i]? = some x) :
    w.cell? ⟨d, j * z + i, none⟩ = some x ∧ w.frozen? ⟨d, j * z + i, none⟩ = false := by
  have hc := World.ownsRow.cells h (g := d) rfl (j * z + i) x (by rw [flat_get hz xs j i hj hi]; exact hx)
  rw [add_lit'] at hc
  refine ⟨hc, ?_⟩
  rcases h.2 with ⟨e, _⟩ | ⟨g', cap, cur, e, _, hh, _⟩
  · cases e
  · injection e with e
    injection e with e
    injection e with e
    subst e
    simp [World.frozen?, hh]
/-- One cell of one record is stored. -/
theorem OwR.put {d n c : Nat} (hz : ∀ x, (f x).length = z) (h : OwR z f w u base (.slice (some ⟨d, 0, none⟩) n c) xs) (j i : Nat) (hj : j < xs.length) (hi : i < z) (x : Value) (y : α) (hy : f y = (f xs[j]).set i x) :
    OwR z f (w.setCell ⟨d, j * z + i, none⟩ x) u base (.slice (some ⟨d, 0, none⟩) n c) (xs.set j y) := by
  rcases h.2 with ⟨e, _⟩ | ⟨g', cap, cur, e, hb, hh, hnc, hcm, hcs, ht⟩
  · cases e
  · injection e with e1 e2 e3
    injection e1 with e1
    injection e1 with e1
    subst e1
    subst e3
    refine ⟨by rw [flat_len hz], .inr ⟨d, c, cur.setIfInBounds (j * z + i) x, by rw [List.length_set, ← e2], hb, Box.put hh _ _, by simpa using hnc, hcm, by simpa using hcs, ?_⟩⟩
    rw [Array.toList_setIfInBounds, List.take_set, List.length_set, ht, flat_set hz x y xs j i hj hi hy]
/-- A row that has just been made. -/
theorem OwR.made {n : Nat} (hz : ∀ x, (f x).length = z) (hz0 : 0 < z) {x : α} {cs : Array Value} (hcs : cs.toList = f x) {V : Value} (h : w.ownsRow base u z V n (madeCells cs (n * z)).toList) : OwR z f w u base V (List.replicate n x) := by
  unfold OwR
  rw [made_recs hz hz0 x cs hcs] at h
  rw [List.length_replicate]
  exact h

theorem run_appR_none (t ty : TypeId) (i : TypeInfo) (ht : P.underlying t = some (.slice u)) (hn : P.info? u = some i) (h : OwR z f w u base v xs) :
    (Builtin.append_ #[t, t] ty #[v, .slice none 0 c]).run P w = .ok v w := by
  rcases h.2 with ⟨rfl, h0⟩ | ⟨g, cap, cur, rfl, _, _, hnc, _⟩
  · simp [Builtin.append_, run_underlying ht, sizeOf, typeInfo, hn, Builtin.lenOf, Builtin.firstCells]
  · simp [Builtin.append_, run_underlying ht, sizeOf, typeInfo, hn, Builtin.lenOf, Builtin.firstCells, hnc, storeCells]

theorem run_appR (hz : ∀ x, (f x).length = z) (hz0 : 0 < z) (hf : ∀ x, ∀ v ∈ f x, v.oneCell' = true) (w : World) (t ty : TypeId) (i : TypeInfo) (zv : Value) (bytes : Nat) (ht : P.underlying t = some (.slice u)) (hn : P.info? u = some i) (hzv : i.zero = some zv) (hsize : i.size = z) (hby : i.bytes = bytes)
    (hzs : zv.cells.size = z) (hb64 : bytes ≤ 64)
    (h : OwR z f w u base v xs) (hd : DatR z f w lo hi A ys) (hm : ys.length = m) (hb : xs.length + m ≤ 1099511627776) (hbase : base ≤ w.heap.size) :
    ∃ v' w', (Builtin.append_ #[t, t] ty #[v, .slice A m c]).run P w = .ok v' w' ∧ OwR z f w' u base v' (xs ++ ys) ∧ w.grownBy w' v.ownBlock ∧ (v'.ownBlock = v.ownBlock ∨ v'.ownBlock = some w.heap.size) := by
  subst hm
  rcases A with _ | ad
  · have hy : ys = [] := by
      rcases ys with _ | ⟨y, r⟩
      · rfl
      · obtain ⟨_, _, h', _⟩ := hd (by simp)
        cases h'
    subst hy
    exact ⟨v, w, run_appR_none t ty i ht hn h, by simpa using h, World.grownBy.refl w _, .inl rfl⟩
  · have hcells : ∀ j x, (ys.flatMap f)[j]? = some x → w.cell? (ad.add j) = some x := by
      intro k x hx
      have hk : k < ys.length * z := by
        rcases Nat.lt_or_ge k (ys.length * z) with h1 | h1
        · exact h1
        · rw [List.getElem?_eq_none (by rw [flat_len hz]; exact h1)] at hx; cases hx
      have hj : k / z < ys.length := (Nat.div_lt_iff_lt_mul hz0).2 hk
      have hi' : k % z < z := Nat.mod_lt _ hz0
      have e : k = k / z * z + k % z := by rw [Nat.mul_comm]; exact (Nat.div_add_mod k z).symm
      obtain ⟨d, o, hA, _, _, hc⟩ := hd (Nat.lt_of_le_of_lt (Nat.zero_le _) hj)
      injection hA with hA
      subst hA
      have ha : (⟨d, o, none⟩ : Addr).add k = ⟨d, o + k, none⟩ := add_plain' d o k
      rw [e, flat_get hz ys _ _ hj hi'] at hx
      have := hc _ hj _ _ hx
      rw [ha, e]
      rw [show o + (k / z * z + k % z) = o + k / z * z + k % z by omega]
      exact this
    have hbytes : (xs.length + ys.length) * bytes ≤ 140737488355328 := Nat.le_trans (Nat.mul_le_mul hb hb64) (by decide)
    obtain ⟨v', w', hrun, h2, h3, _, h5⟩ := run_append_own_at (P := P) w base t ty u i zv z bytes ht hn hzv hsize hby hzs hz0 v xs.length (xs.flatMap f) h ad ys.length c (ys.flatMap f) (flat_len hz ys) hcells
      (by intro x hx; obtain ⟨y, _, hy⟩ := List.mem_flatMap.1 hx; exact hf y x hy) (by unfold maxLen; omega) hbytes hbase
    refine ⟨v', w', hrun, ?_, h3, h5⟩
    unfold OwR
    rw [List.flatMap_append, List.length_append]
    exact h2

theorem list_appR {ops : Array Oper} {rest : List Oper} {o : Oper} {a : Act} {Q : Exit → Act → World → Prop} (hz : ∀ x, (f x).length = z) (hz0 : 0 < z) (hf : ∀ x, ∀ v ∈ f x, v.oneCell' = true) (w : World) (hgd : o.guard = none) (s x : Operand) (t : TypeId)
    (ho : o.op = .call { callee := .builtin .append, args := #[s, x], argTypes := #[t, t] })
    (i : TypeInfo) (zv : Value) (bytes : Nat) (ht : P.underlying t = some (.slice u)) (hn : P.info? u = some i) (hzv : i.zero = some zv) (hsize : i.size = z) (hby : i.bytes = bytes) (hzs : zv.cells.size = z) (hb64 : bytes ≤ 64)
    (hs : a.eval s = v) (h : OwR z f w u base v xs) (hx : a.eval x = .slice A m c) (hd : DatR z f w lo hi A ys) (hm : ys.length = m) (hb : xs.length + m ≤ 1099511627776) (hbase : base ≤ w.heap.size)
    (hK : ∀ v' w', OwR z f w' u base v' (xs ++ ys) → w.grownBy w' v.ownBlock → (v'.ownBlock = v.ownBlock ∨ v'.ownBlock = some w.heap.size) → wpList P ops Q rest (a.put o.dst v') w') : wpList P ops Q (o :: rest) a w :=
  wpList_plain hgd fun _ hKK => by
    obtain ⟨v', w', hrun, h2, h3, h4⟩ := run_appR (P := P) (c := c) hz hz0 hf w t o.type i zv bytes ht hn hzv hsize hby hzs hb64 h hd hm hb hbase
    unfold Oper.wp execOp
    simp only [ho, resolve, invoke, builtin, Sem.run_bind, Sem.run_pure, Result.andThen_ok, List.map_toArray, List.map_cons, List.map_nil, hs, hx, hrun]
    exact hKK _ _ (hK v' w' h2 h3 h4)

/-- The new row of one record. -/
theorem datR_one (w : World) (x : α) (u : TypeId) (cs : Array Value) (hcs : cs.toList = f x) : DatR z f (w.alloc (.cells cs u)) w.heap.size (w.heap.size + 1) (some ⟨w.heap.size, 0, none⟩) [x] := fun _ =>
  ⟨w.heap.size, 0, rfl, Nat.le_refl _, by omega, fun j hj i y hy => by
    have hj0 : j = 0 := by simp at hj; omega
    subst hj0
    have h := (Box.new w u cs).cell (0 + 0 * z + i)
    rw [h, show 0 + 0 * z + i = i by omega, ← Array.getElem?_toList, hcs]
    exact hy⟩
end
end Go.Proofs.YtlidnialggpcpaaGreatDoor

/- Appending bytes to a slice that the call itself owns, whatever the source (nil, empty or not); a slice of bytes turned into a string. Nothing of the program is named here. -/
namespace Go.Proofs.YtlidnialggpcpaaGreatDoor
open Go.RowKit

/-- The slice v is the call's own (blocks from base on) and holds the bytes xs; u: the number of the type uint8. -/
def OwB (w : World) (u base : Nat) (v : Value) (xs : List UInt8) : Prop := w.ownsRow base u 1 v xs.length (xs.map cel)

section
variable {P : Program} {w w' : World} {u base lo hi : Nat} {own : Bool} {v : Value} {xs ys : List UInt8} {A : Option Addr} {m c : Nat}
theorem OwB.nil (w : World) (u base : Nat) : OwB w u base (.slice none 0 0) [] := World.ownsRow_nil w base u 1
theorem OwB.alloc (h : OwB w u base v xs) (o : Obj) : OwB (w.alloc o) u base v xs := World.ownsRow.alloc h o
theorem OwB.grown {row : Option Nat} (h : OwB w u base v xs) (hg : w.grownBy w' row) (hne : v.ownBlock = none ∨ v.ownBlock ≠ row) : OwB w' u base v xs := World.ownsRow.kept h hg hne
theorem OwB.drew (h : OwB w u base v xs) : OwB w.drew u base v xs := h
/-- As a slice that reads as these bytes. -/
theorem OwB.form (h : OwB w u base v xs) : ∃ A c, v = .slice A xs.length c ∧ xs.length ≤ c ∧ Dat true w base w.heap.size A xs := by
  rcases h.2 with ⟨rfl, h0⟩ | ⟨g, cap, cur, rfl, hb, hh, hnc, _, _, ht⟩
  · have : xs = [] := List.eq_nil_of_length_eq_zero h0
    subst this
    exact ⟨none, 0, rfl, by simp, Dat.nil _ _ _ _ _⟩
  · refine ⟨_, cap, rfl, hnc, fun hx => ⟨g, 0, rfl, hb, (Array.getElem?_eq_some_iff.1 hh).1, fun j hj => ?_, fun _ j => ?_⟩⟩
    · have hc := World.ownsRow.cells h (g := g) rfl j (cel xs[j]) (by simp [hj])
      have ha : (⟨g, 0, none⟩ : Addr).add j = ⟨g, 0 + j, none⟩ := by unfold Addr.add; split <;> simp_all
      rw [ha] at hc
      simpa [List.getD, hj] using hc
    · simp [World.frozen?, hh]
theorem OwB.block (h : OwB w u base v xs) : ∀ k, v.ownBlock = some k → base ≤ k ∧ k < w.heap.size := World.ownsRow.lt h
theorem OwB.ne_box {g : Nat} {t : TypeId} {cs : Array Value} (h : OwB w u base v xs) (hg : Box w g t cs) (hne : u ≠ t) : v.ownBlock ≠ some g := by
  rcases h.2 with ⟨rfl, _⟩ | ⟨g', cap, cur, rfl, _, hh, _⟩
  · simp [Value.ownBlock]
  · intro he
    have : g' = g := by simpa [Value.ownBlock] using he
    subst this
    unfold Box at hg
    rw [hg] at hh
    injection hh with hh
    injection hh with _ ht
    exact hne ht.symm

theorem run_app_none (t ty : TypeId) (i : TypeInfo) (ht : P.underlying t = some (.slice u)) (hn : P.info? u = some i) (h : OwB w u base v xs) :
    (Builtin.append_ #[t, t] ty #[v, .slice none 0 c]).run P w = .ok v w := by
  rcases h.2 with ⟨rfl, h0⟩ | ⟨g, cap, cur, rfl, _, _, hnc, _⟩
  · simp [Builtin.append_, run_underlying ht, sizeOf, typeInfo, hn, Builtin.lenOf, Builtin.firstCells]
  · simp [Builtin.append_, run_underlying ht, sizeOf, typeInfo, hn, Builtin.lenOf, Builtin.firstCells, hnc, storeCells]

theorem run_app (w : World) (t ty : TypeId) (i : TypeInfo) (ht : P.underlying t = some (.slice u)) (hn : P.info? u = some i) (hz : i.zero = some (.int .u8 0)) (hsize : i.size = 1) (hby : i.bytes = 1)
    (h : OwB w u base v xs) (hd : Dat own w lo hi A ys) (hm : ys.length = m) (hb : xs.length + m ≤ 1099511627776) (hbase : base ≤ w.heap.size) :
    ∃ v' w', (Builtin.append_ #[t, t] ty #[v, .slice A m c]).run P w = .ok v' w' ∧ OwB w' u base v' (xs ++ ys) ∧ w.grownBy w' v.ownBlock ∧ (v'.ownBlock = v.ownBlock ∨ v'.ownBlock = some w.heap.size) := by
  subst hm
  rcases A with _ | ad
  · have hy : ys = [] := by
      rcases ys with _ | ⟨y, r⟩
      · rfl
      · obtain ⟨_, _, h', _⟩ := hd (by simp)
        cases h'
    subst hy
    exact ⟨v, w, run_app_none t ty i ht hn h, by simpa using h, World.grownBy.refl w _, .inl rfl⟩
  · have hcells : ∀ j x, (ys.map cel)[j]? = some x → w.cell? (ad.add j) = some x := by
      intro j x hx
      have hj : j < ys.length := by
        rcases Nat.lt_or_ge j ys.length with h1 | h1
        · exact h1
        · simp [List.getElem?_eq_none h1] at hx
      obtain ⟨d, o, hA, _, _, hc, _⟩ := hd (by omega)
      injection hA with hA
      subst hA
      have ha : (⟨d, o, none⟩ : Addr).add j = ⟨d, o + j, none⟩ := by unfold Addr.add; split <;> simp_all
      rw [ha, hc j hj, ← hx]
      simp [List.getD, hj]
    obtain ⟨v', w', hrun, h2, h3, _, h5⟩ := run_append_own_at (P := P) w base t ty u i _ 1 1 ht hn hz hsize hby rfl (by omega) v xs.length (xs.map cel) h ad ys.length c (ys.map cel) (by simp) hcells
      (by intro x hx; obtain ⟨y, _, rfl⟩ := List.mem_map.1 hx; rfl) (by unfold maxLen; omega) (by omega) hbase
    refine ⟨v', w', hrun, ?_, h3, h5⟩
    unfold OwB
    rw [List.map_append, List.length_append]
    exact h2

theorem wp_app {o : Oper} {a : Act} {K : Act → World → Prop} {Q : Exit → Act → World → Prop} (w : World) (s x : Operand) (t : TypeId)
    (ho : o.op = .call { callee := .builtin .append, args := #[s, x], argTypes := #[t, t] })
    (i : TypeInfo) (ht : P.underlying t = some (.slice u)) (hn : P.info? u = some i) (hz : i.zero = some (.int .u8 0)) (hsize : i.size = 1) (hby : i.bytes = 1)
    (hs : a.eval s = v) (h : OwB w u base v xs) (hx : a.eval x = .slice A m c) (hd : Dat own w lo hi A ys) (hm : ys.length = m) (hb : xs.length + m ≤ 1099511627776) (hbase : base ≤ w.heap.size)
    (hK : ∀ v' w', OwB w' u base v' (xs ++ ys) → w.grownBy w' v.ownBlock → (v'.ownBlock = v.ownBlock ∨ v'.ownBlock = some w.heap.size) → K (a.put o.dst v') w') : o.wp P a w K Q := by
  obtain ⟨v', w', hrun, h2, h3, h4⟩ := run_app (P := P) (c := c) w t o.type i ht hn hz hsize hby h hd hm hb hbase
  unfold Oper.wp execOp
  simp only [ho, resolve, invoke, builtin, Sem.run_bind, Sem.run_pure, Result.andThen_ok, List.map_toArray, List.map_cons, List.map_nil, hs, hx, hrun]
  exact hK v' w' h2 h3 h4

theorem list_app {ops : Array Oper} {rest : List Oper} {o : Oper} {a : Act} {Q : Exit → Act → World → Prop} (w : World) (hgd : o.guard = none) (s x : Operand) (t : TypeId)
    (ho : o.op = .call { callee := .builtin .append, args := #[s, x], argTypes := #[t, t] })
    (i : TypeInfo) (ht : P.underlying t = some (.slice u)) (hn : P.info? u = some i) (hz : i.zero = some (.int .u8 0)) (hsize : i.size = 1) (hby : i.bytes = 1)
    (hs : a.eval s = v) (h : OwB w u base v xs) (hx : a.eval x = .slice A m c) (hd : Dat own w lo hi A ys) (hm : ys.length = m) (hb : xs.length + m ≤ 1099511627776) (hbase : base ≤ w.heap.size)
    (hK : ∀ v' w', OwB w' u base v' (xs ++ ys) → w.grownBy w' v.ownBlock → (v'.ownBlock = v.ownBlock ∨ v'.ownBlock = some w.heap.size) → wpList P ops Q rest (a.put o.dst v') w') : wpList P ops Q (o :: rest) a w :=
  wpList_plain hgd fun _ hKK => wp_app w s x t ho i ht hn hz hsize hby hs h hx hd hm hb hbase fun v' w' h2 h3 h4 => hKK _ _ (hK v' w' h2 h3 h4)

theorem step_app {ops : Array Oper} {o : Oper} {a : Act} {K : Act → World → Prop} {Q : Exit → Act → World → Prop} {E : Prop} (w : World) (hgd : o.guard = none) (s x : Operand) (t : TypeId)
    (ho : o.op = .call { callee := .builtin .append, args := #[s, x], argTypes := #[t, t] })
    (i : TypeInfo) (ht : P.underlying t = some (.slice u)) (hn : P.info? u = some i) (hz : i.zero = some (.int .u8 0)) (hsize : i.size = 1) (hby : i.bytes = 1)
    (hs : a.eval s = v) (h : OwB w u base v xs) (hx : a.eval x = .slice A m c) (hd : Dat own w lo hi A ys) (hm : ys.length = m) (hb : xs.length + m ≤ 1099511627776) (hbase : base ≤ w.heap.size)
    (hK : ∀ v' w', OwB w' u base v' (xs ++ ys) → w.grownBy w' v.ownBlock → (v'.ownBlock = v.ownBlock ∨ v'.ownBlock = some w.heap.size) → K (a.put o.dst v') w') :
    if Region.wanted o (yielded ops a.tmps) = true then Oper.wp P o a w K Q else E := by
  have hw : Region.wanted o (yielded ops a.tmps) = true := by simp [Region.wanted, hgd]
  rw [if_pos hw]
  exact wp_app w s x t ho i ht hn hz hsize hby hs h hx hd hm hb hbase hK

/-- Bytes as a string. -/
def str (xs : List UInt8) : ByteArray := ⟨xs.toArray⟩
theorem run_str (w : World) (src : TypeId) (hs : P.underlying src = some (.slice u)) (he : P.underlying u = some (.int .u8)) (hd : Dat own w lo hi A xs) (hm : xs.length = m) :
    ∀ dst, P.underlying dst = some .string → (convert src dst (.slice A m c)).run P w = .ok (.string (str xs)) w := by
  intro dst hds
  subst hm
  rcases xs with _ | ⟨x, r⟩
  · rw [run_convert_bytes_string w src dst u A _ c hs he hds]
    cases A <;> simp [Conv.bytesToString, str, loadCells, loadCellsFrom, Sem.run_pure] <;> rfl
  · obtain ⟨d, o, rfl, _, _, hc, _⟩ := hd (by simp)
    have := run_convert_bytes_arg (P := P) w src u hs he d o (x :: r).length c ((x :: r).map fun b => (b.toNat : Int)) (by simp) (fun j hj => by
      rw [hc j hj]
      unfold cel
      rw [List.getD_eq_getElem?_getD, List.getD_eq_getElem?_getD, List.getElem?_map, List.getElem?_eq_getElem hj]
      rfl) dst hds
    rw [this]
    congr 2
    unfold strOfNums str
    congr 2
    rw [List.map_map]
    conv => rhs; rw [← List.map_id (x :: r)]
    apply List.map_congr_left
    intro b _
    simp
end
end Go.Proofs.YtlidnialggpcpaaGreatDoor

/- Loads, stores and copies of a part of a row; an element of an array's value. Nothing of the program is named here. -/
namespace Go.Proofs.YtlidnialggpcpaaGreatDoor
open Go.RowKit

section
variable {P : Program}

/-- A row with the cells vs laid over those from o on. -/
def over (cur : Array Value) (o : Nat) (vs : List Value) : Array Value := (cur.toList.take o ++ vs ++ cur.toList.drop (o + vs.length)).toArray

theorem run_zero_of {t : TypeId} {v : Value} (h : (P.info? t).map (·.zero) = some (some v)) (W : World) : (zeroValue t).run P W = .ok v W := by
  cases hq : P.info? t with
  | none => simp [hq] at h
  | some i =>
    have hz : i.zero = some v := by simpa [hq] using h
    simp [zeroValue, typeInfo, hq, hz]

end
end Go.Proofs.YtlidnialggpcpaaGreatDoor

/- Bytes as cells; what a row's turn leaves; quiet calls; a range of a row as a slice. Nothing of the program is named here. -/
namespace Go.Proofs.YtlidnialggpcpaaGreatDoor
open Go.RowKit

theorem below_row {B : Nat} {a w : World} (h : Below B a w) {g : Nat} (hg : B ≤ g) (cs : Array Value) : Below B a (w.setRow g cs) :=
  h.trans ⟨rfl, rfl, rfl, by simp, fun k hk => setRow_other _ _ _ _ (by omega)⟩
theorem below_drawn {B : Nat} {a w : World} (h : Below B a w) (n : Nat) : Below B a (w.drewN n) := ⟨h.os, h.tape, h.output, h.size, h.block⟩
theorem quiet_left {P : Program} {f : FuncId} {args : Array Value} {w : World} {a n : Nat} {v : Value}
    (h : Calls P f args (w.drewN (a + n)) fun e w' => e = .returned v ∧ w.drewN (a + n) = w') : Calls P f args (w.drewN (a + n)) fun e w'' => e = .returned v ∧ ∃ m, w'' = w.drewN (a + m) :=
  h.mono fun _ _ ⟨he, hm⟩ => ⟨he, n, hm.symm⟩

section
variable {w w' w'' : World} {g : Nat}
end
end Go.Proofs.YtlidnialggpcpaaGreatDoor

/- Appending noughts that are made on the spot ('append(x, make([]T, n)...)') to a slice of the call's own, whose elements are of one cell each. Nothing of the program is named here. -/
namespace Go.Proofs.YtlidnialggpcpaaGreatDoor
open Go.RowKit

section
variable {α : Type} {f : α → Value} {P : Program} {w w' : World} {u base : Nat} {v : Value} {xs : List α}

theorem zeroCells_one (z : Value) (n : Nat) : Builtin.zeroCells #[z] n = (List.replicate n z).toArray := by
  apply Array.ext
  · simp [Builtin.zeroCells]
  · intro i h1 h2
    simp [Builtin.zeroCells, Nat.mod_one]

theorem run_appZ_zero (w : World) (t tn ty : TypeId) (i : TypeInfo) (kn k : IntKind) (ht : P.underlying t = some (.slice u)) (htn : P.underlying tn = some (.int kn)) (hn : P.info? u = some i) (A : Option Addr) (sLen sCap : Nat) (hle : sLen ≤ sCap) :
    (Builtin.append_ #[t, tn] ty #[.slice A sLen sCap, .int k 0]).run P w = .ok (.slice A sLen sCap) w := by
  have hw : IntKind.i64.wrap 0 = 0 := by rw [IntKind.wrap_i64]; omega
  rcases A with _ | a <;> simp [Builtin.append_, run_underlying ht, run_underlying htn, sizeOf, typeInfo, hn, asInt, asIntOf, hw, hle, storeCells]

theorem run_appZ_room (w : World) (t tn ty : TypeId) (i : TypeInfo) (z : Value) (k kn : IntKind) (bytes : Nat) (ht : P.underlying t = some (.slice u)) (htn : P.underlying tn = some (.int kn)) (hn : P.info? u = some i) (hz : i.zero = some z) (hsize : i.size = 1) (hby : i.bytes = bytes)
    (hzs : z.cells = #[z]) (h1 : z.oneCell' = true) (g sLen sCap m : Nat) (cur : Array Value) (hg : w.heap[g]? = some (.cells cur u (0, 0))) (h0 : m ≠ 0) (hroom : sLen + m ≤ sCap) (hfit : sLen + m ≤ cur.size) (hm : (m : Int) ≤ 9223372036854775807) (hb : (m : Int) * bytes ≤ 281474976710656) :
    (Builtin.append_ #[t, tn] ty #[.slice (some ⟨g, 0, none⟩) sLen sCap, .int k m]).run P w =
      .ok (.slice (some ⟨g, 0, none⟩) (sLen + m) sCap) (w.setRow g (cur.toList.take sLen ++ List.replicate m z ++ cur.toList.drop (sLen + m)).toArray) := by
  have hst := run_storeCells_at P g sLen u (List.replicate m z) 0 cur w hg (by simpa using hfit) (by intro x hx; rw [List.mem_replicate] at hx; rw [hx.2]; exact h1)
  simp only [Nat.add_zero, List.length_replicate] at hst
  have hw : IntKind.i64.wrap (m : Int) = m := by rw [IntKind.wrap_i64]; omega
  have hneg : ¬ ((m : Int) < 0) := by omega
  have hbb : ¬ (281474976710656 < (m : Int) * (bytes : Int)) := by omega
  subst hby
  simp [Builtin.append_, run_underlying ht, run_underlying htn, sizeOf, typeInfo, hn, hsize, asInt, asIntOf, zeroValue, hz, hw, hneg, hbb, hroom, h0, hzs, zeroCells_one, Addr.add_lit, hst]

theorem run_appZ_grow (w : World) (t tn ty : TypeId) (i : TypeInfo) (z : Value) (k kn : IntKind) (bytes : Nat) (ht : P.underlying t = some (.slice u)) (htn : P.underlying tn = some (.int kn)) (hn : P.info? u = some i) (hz : i.zero = some z) (hsize : i.size = 1) (hby : i.bytes = bytes)
    (hzs : z.cells = #[z]) (A : Option Addr) (sLen sCap m : Nat) (olds : List Value) (hold : (Builtin.firstCells 1 sLen (.slice A sLen sCap)).run P w.drew = .ok olds.toArray w.drew) (h0 : m ≠ 0) (hgr : sCap < sLen + m) (h63 : ((sLen + m : Nat) : Int) ≤ 9223372036854775807)
    (hb : (m : Int) * bytes ≤ 281474976710656) (hfit : Builtin.nextslicecap (sLen + m) sCap * bytes ≤ 281474976710656) :
    (Builtin.append_ #[t, tn] ty #[.slice A sLen sCap, .int k m]).run P w =
      .ok (.slice (some ⟨w.heap.size, 0, none⟩) (sLen + m) (grownCap w (sLen + m) sCap u))
        (w.drew.alloc (.cells (olds ++ List.replicate m z ++ List.replicate (grownCap w (sLen + m) sCap u - (sLen + m)) z).toArray u)) := by
  have hw : IntKind.i64.wrap (m : Int) = m := by rw [IntKind.wrap_i64]; omega
  have hneg : ¬ ((m : Int) < 0) := by omega
  have hbb : ¬ (281474976710656 < (m : Int) * (bytes : Int)) := by omega
  have hn2 : ¬ (sLen + m ≤ sCap) := by omega
  have h63' : ¬ (9223372036854775807 < ((sLen : Int) + (m : Int))) := by omega
  have h48' : ¬ (281474976710656 < Builtin.nextslicecap (sLen + m) sCap * bytes) := by omega
  subst hby
  simp [Builtin.append_, run_underlying ht, run_underlying htn, sizeOf, typeInfo, hn, hsize, asInt, asIntOf, zeroValue, hz, hw, hneg, hbb, hn2, h63', h48', h0, hzs, zeroCells_one, Question.forced, hold, newRow, grownCap]
  congr 2
  apply Array.ext'
  simp

theorem run_appZ (hf : ∀ x, (f x).oneCell' = true) (w : World) (t tn ty : TypeId) (i : TypeInfo) (x0 : α) (k kn : IntKind) (bytes : Nat) (ht : P.underlying t = some (.slice u)) (htn : P.underlying tn = some (.int kn)) (hn : P.info? u = some i) (hz : i.zero = some (f x0)) (hsize : i.size = 1) (hby : i.bytes = bytes)
    (hzs : (f x0).cells = #[f x0]) (hb64 : bytes ≤ 64) (h : OwE f w u base v xs) (m : Nat) (hb : xs.length + m ≤ 1099511627776) (hbase : base ≤ w.heap.size) :
    ∃ v' w', (Builtin.append_ #[t, tn] ty #[v, .int k m]).run P w = .ok v' w' ∧ OwE f w' u base v' (xs ++ List.replicate m x0) ∧ w.grownBy w' v.ownBlock ∧ (v'.ownBlock = v.ownBlock ∨ v'.ownBlock = some w.heap.size) := by
  have hbytes : (xs.length + m) * bytes ≤ 140737488355328 := Nat.le_trans (Nat.mul_le_mul hb hb64) (by decide)
  have hmb : (m : Int) * bytes ≤ 281474976710656 := by
    have : m * bytes ≤ (xs.length + m) * bytes := Nat.mul_le_mul_right _ (by omega)
    rw [← Int.natCast_mul]
    omega
  by_cases h0 : m = 0
  · subst h0
    obtain ⟨A, c, hv, hc, _⟩ := h.form
    exact ⟨v, w, by rw [hv]; exact run_appZ_zero w t tn ty i kn k ht htn hn A _ _ hc, by simpa using h, World.grownBy.refl w _, .inl rfl⟩
  · have grown : ∀ (old : Nat), old < xs.length + m → ∀ (row : Option Nat),
        OwE f (w.drew.alloc (.cells (xs.map f ++ List.replicate m (f x0) ++ List.replicate (grownCap w (xs.length + m) old u - (xs.length + m)) (f x0)).toArray u)) u base
          (.slice (some ⟨w.heap.size, 0, none⟩) (xs.length + m) (grownCap w (xs.length + m) old u)) (xs ++ List.replicate m x0) ∧
        w.grownBy (w.drew.alloc (.cells (xs.map f ++ List.replicate m (f x0) ++ List.replicate (grownCap w (xs.length + m) old u - (xs.length + m)) (f x0)).toArray u)) row := by
      intro old ho row
      have hge := grownCap_ge w (xs.length + m) old u
      have hcm : grownCap w (xs.length + m) old u ≤ maxLen := grownCap_le_maxLen w (xs.length + m) old u (by unfold maxLen; omega)
      have hlen : (xs ++ List.replicate m x0).length = xs.length + m := by simp
      refine ⟨?_, ⟨rfl, rfl, rfl, by simp, fun k hk _ => heap_alloc_old w.drew _ hk⟩⟩
      unfold OwE
      rw [hlen]
      refine ⟨by simp, .inr ⟨w.heap.size, _, _, rfl, hbase, heap_alloc_new w.drew _, hge, hcm, ?_, ?_⟩⟩
      · simp
        omega
      · simp only [Nat.mul_one]
        rw [List.take_append_of_le_length (by simp), List.take_of_length_le (by simp)]
        simp
    rcases h.2 with ⟨rfl, hx0⟩ | ⟨g, cap, cur, rfl, hbg, hg, hnc, hcm, hcs, htake⟩
    · have hx : xs = [] := List.eq_nil_of_length_eq_zero hx0
      subst hx
      have hr := run_appZ_grow (P := P) w t tn ty i (f x0) k kn bytes ht htn hn hz hsize hby hzs none 0 0 m [] (run_firstCells_none w.drew 1 0 0 0) h0 (by omega) (by omega) hmb (growslice_fits (by omega) (by simpa using hbytes))
      have hgr := grown 0 (by simp; omega) (Value.ownBlock (.slice none 0 0))
      simp only [List.length_nil, List.map_nil] at hgr
      exact ⟨_, _, hr, hgr.1, hgr.2, .inr rfl⟩
    · have hcs' : cur.size = cap := by simpa using hcs
      by_cases hroom : xs.length + m ≤ cap
      · have hr := run_appZ_room (P := P) w t tn ty i (f x0) k kn bytes ht htn hn hz hsize hby hzs (hf x0) g xs.length cap m cur hg h0 hroom (by omega) (by omega) hmb
        refine ⟨_, _, hr, ?_, ⟨rfl, rfl, rfl, by simp, fun k _ hk => setRow_other w g k _ (fun e => hk (by simp [Value.ownBlock, e]))⟩, .inl rfl⟩
        have hlen : (xs ++ List.replicate m x0).length = xs.length + m := by simp
        unfold OwE
        rw [hlen]
        refine ⟨by simp, .inr ⟨g, cap, _, rfl, hbg, setRow_heap w g cur _ u _ hg, hroom, hcm, ?_, ?_⟩⟩
        · simp only [List.size_toArray, List.length_append, List.length_take, List.length_drop, Array.length_toList, List.length_replicate]
          omega
        · simp only [Nat.mul_one] at htake ⊢
          rw [htake, List.take_append_of_le_length (by simp), List.take_of_length_le (by simp)]
          simp
      · have holds : ∀ j y, (xs.map f)[j]? = some y → w.drew.cell? ((⟨g, 0, none⟩ : Addr).add j) = some y := by
          intro j y hj
          have := World.ownsRow.cells h (g := g) rfl j y hj
          simpa using this
        have hr := run_appZ_grow (P := P) w t tn ty i (f x0) k kn bytes ht htn hn hz hsize hby hzs (some ⟨g, 0, none⟩) xs.length cap m (xs.map f) (run_firstCells_some w.drew 1 xs.length _ _ _ (xs.map f) (by simp) holds) h0 (by omega) (by omega) hmb (growslice_fits (by omega) hbytes)
        have hgr := grown cap (by omega) (Value.ownBlock (.slice (some ⟨g, 0, none⟩) xs.length cap))
        exact ⟨_, _, hr, hgr.1, hgr.2, .inr rfl⟩

theorem list_appZ {ops : Array Oper} {rest : List Oper} {o : Oper} {a : Act} {Q : Exit → Act → World → Prop} (hf : ∀ x, (f x).oneCell' = true) (w : World) (hgd : o.guard = none) (s x : Operand) (t tn : TypeId)
    (ho : o.op = .call { callee := .builtin .append, args := #[s, x], argTypes := #[t, tn] })
    (i : TypeInfo) (x0 : α) (k kn : IntKind) (bytes : Nat) (ht : P.underlying t = some (.slice u)) (htn : P.underlying tn = some (.int kn)) (hn : P.info? u = some i) (hz : i.zero = some (f x0)) (hsize : i.size = 1) (hby : i.bytes = bytes) (hzs : (f x0).cells = #[f x0]) (hb64 : bytes ≤ 64)
    (hs : a.eval s = v) (h : OwE f w u base v xs) (m : Nat) (hx : a.eval x = .int k m) (hb : xs.length + m ≤ 1099511627776) (hbase : base ≤ w.heap.size)
    (hK : ∀ v' w', OwE f w' u base v' (xs ++ List.replicate m x0) → w.grownBy w' v.ownBlock → (v'.ownBlock = v.ownBlock ∨ v'.ownBlock = some w.heap.size) → wpList P ops Q rest (a.put o.dst v') w') : wpList P ops Q (o :: rest) a w :=
  wpList_plain hgd fun _ hKK => by
    obtain ⟨v', w', hrun, h2, h3, h4⟩ := run_appZ (P := P) hf w t tn o.type i x0 k kn bytes ht htn hn hz hsize hby hzs hb64 h m hb hbase
    unfold Oper.wp execOp
    simp only [ho, resolve, invoke, builtin, Sem.run_bind, Sem.run_pure, Result.andThen_ok, List.map_toArray, List.map_cons, List.map_nil, hs, hx, hrun]
    exact hKK _ _ (hK v' w' h2 h3 h4)
end
end Go.Proofs.YtlidnialggpcpaaGreatDoor

/- A variable that is an array: laid by one law, with its cells under a name of one's own; an array of ints that counts. Nothing of the program is named here. -/
namespace Go.Proofs.YtlidnialggpcpaaGreatDoor
open Go.RowKit

section
variable {P : Program}
theorem wpList_alloc_z {ops : Array Oper} {rest : List Oper} {o : Oper} {a : Act} {w : World} {Q : Exit → Act → World → Prop} (hgd : o.guard = none) (t : TypeId) (ho : o.op = .alloc t) (cs : Array Value) (hz : (P.info? t).map (·.zero) = some (some (.agg cs)))
    (h : wpList P ops Q rest (a.put o.dst (.pointer (some ⟨w.heap.size, 0, none⟩))) (w.alloc (.cells cs t))) : wpList P ops Q (o :: rest) a w :=
  wpList_plain hgd fun _ hK => by
    have hz' := run_zero_of (P := P) hz w
    unfold Oper.wp execOp
    simp only [ho, Instr.alloc, Sem.run_bind, hz', Result.andThen_ok]
    exact hK _ _ h
end

/-- An array of 256 ints. -/
def arr (g : Nat → Nat) : Array Value := ((List.range 256).map fun s => Value.int .i64 (g s : Int)).toArray
theorem arr_get (g : Nat → Nat) (s : Nat) (h : s < 256) : (arr g)[s]? = some (.int .i64 (g s : Int)) := by simp [arr, h]
theorem arr_set (g : Nat → Nat) (s x : Nat) : (arr g).setIfInBounds s (.int .i64 (x : Int)) = arr (fun i => if i = s then x else g i) := by
  apply Array.ext'
  unfold arr
  simp only [List.setIfInBounds_toArray]
  apply List.ext_getElem
  · simp
  intro j h1 h2
  rw [List.getElem_set]
  simp only [List.getElem_map, List.getElem_range]
  by_cases hj : s = j
  · subst hj; simp
  · rw [if_neg hj, if_neg (fun e => hj e.symm)]
end Go.Proofs.YtlidnialggpcpaaGreatDoor

/- The contracts of cursor's Reader, each method at each kind of reader, and of bytes.Clone. No condition but those that each theorem states. -/
namespace Go.Proofs.YtlidnialggpcpaaGreatDoor.cu
open Go.RowKit

/-- Block g is a reader: a slice at A of n bytes, capacity c; its error e. -/
def Rdr (w : World) (g : Nat) (A : Option Addr) (n c : Nat) (e : Int) : Prop := Box w g 106 #[.slice A n c, .int .i64 e]

section
variable {w : World} {g : Nat} {A : Option Addr} {n c : Nat} {e : Int}
theorem Rdr.c0 (h : Rdr w g A n c e) : w.cell? ⟨g, 0, none⟩ = some (.slice A n c) := h.cell 0
theorem Rdr.c1 (h : Rdr w g A n c e) : w.cell? ⟨g, 1, none⟩ = some (.int .i64 e) := h.cell 1
theorem Rdr.f0 (h : Rdr w g A n c e) : w.frozen? ⟨g, 0, none⟩ = false := h.free 0
theorem Rdr.f1 (h : Rdr w g A n c e) : w.frozen? ⟨g, 1, none⟩ = false := h.free 1
end

theorem isWidth_yes (n : Int) (w : World) (h1 : 1 ≤ n) (h2 : n ≤ 8) :
    Calls Tryz.prog 78 #[.int .i64 n] w fun e w' => e = .returned (.bool true) ∧ w = w' := by
  go_enter Tryz.func78, Tryz.ntmps78
  go_wp2
  go_ret
  exact ⟨rfl, rfl⟩
theorem isWidth_no (n : Int) (w : World) (h : n < 1 ∨ 8 < n) :
    Calls Tryz.prog 78 #[.int .i64 n] w fun e w' => e = .returned (.bool false) ∧ w = w' := by
  rcases h with h | h
  · go_enter Tryz.func78, Tryz.ntmps78
    go_wp2
    go_ret
    exact ⟨rfl, rfl⟩
  · have h1 : 1 ≤ n := by omega
    have hd : decide (n ≤ 8) = false := by simp; omega
    go_enter Tryz.func78, Tryz.ntmps78
    go_wp2
    go_ret
    exact ⟨rfl, rfl⟩

theorem err_any {w : World} {g : Nat} {A : Option Addr} {n c : Nat} {x : Int} (h : Rdr w g A n c x) :
    Calls Tryz.prog 44 #[.pointer (some ⟨g, 0, none⟩)] w fun e w' => e = .returned (.int .i64 x) ∧ w = w' := by
  have h1 := h.c1
  clear h
  go_enter Tryz.func44, Tryz.ntmps44
  go_wp2
  go_ret
  exact ⟨rfl, rfl⟩
theorem left_nil (w : World) : Calls Tryz.prog 18 #[.pointer none] w fun e w' => e = .returned (.int .i64 0) ∧ w = w' := by
  go_enter Tryz.func18, Tryz.ntmps18
  go_wp2
  go_ret
  exact ⟨rfl, rfl⟩
theorem left_any {w : World} {g : Nat} {A : Option Addr} {n c : Nat} {x : Int} (h : Rdr w g A n c x) :
    Calls Tryz.prog 18 #[.pointer (some ⟨g, 0, none⟩)] w fun e w' => e = .returned (.int .i64 n) ∧ w = w' := by
  have h0 := h.c0
  clear h
  go_enter Tryz.func18, Tryz.ntmps18
  go_wp2
  go_ret
  exact ⟨rfl, rfl⟩
end Go.Proofs.YtlidnialggpcpaaGreatDoor.cu

/- The contract of the Reader's take: what is cut off, what is left, the first error, each as the plain function 'tk' of the bytes says; of nil: nothing. -/
namespace Go.Proofs.YtlidnialggpcpaaGreatDoor.cu
open Go.RowKit

/-- What is left, the error, what is cut off: of the bytes xs with the error e, where m bytes are asked for, which may be asked for or not. -/
def tk (xs : List UInt8) (e m : Int) (may : Bool) : List UInt8 × Int × List UInt8 :=
  if e ≠ 0 then (xs, e, []) else if may = false then (xs, 1, []) else if (xs.length : Int) < m then (xs, 10, []) else (xs.drop m.toNat, 0, xs.take m.toNat)

/-- Block g is a reader with the bytes xs, which lie from block lo on and below g, and the error e. -/
def RD (own : Bool) (w : World) (lo g : Nat) (xs : List UInt8) (e : Int) : Prop :=
  ∃ A c, Rdr w g A xs.length c e ∧ xs.length ≤ c ∧ Dat own w lo g A xs

/-- A slice value that holds the bytes xs. -/
def Sl (own : Bool) (w : World) (lo hi : Nat) (v : Value) (xs : List UInt8) : Prop := ∃ A c, v = .slice A xs.length c ∧ xs.length ≤ c ∧ Dat own w lo hi A xs

/-- Only block g has turned, and none has come. -/
def Stp (w w' : World) (g : Nat) : Prop := w.grownBy w' (some g) ∧ w'.heap.size = w.heap.size

section
variable {own : Bool} {w w' w'' : World} {lo g : Nat} {xs : List UInt8} {e : Int}
theorem Stp.refl (w : World) (g : Nat) : Stp w w g := ⟨World.grownBy.refl w _, rfl⟩
theorem Stp.set (w : World) (g i : Nat) (u : Value) : Stp w (w.setCell ⟨g, i, none⟩ u) g :=
  ⟨⟨rfl, rfl, rfl, by simp [World.setCell], fun k _ hk => Below.heap_setCell w _ u k (fun h => hk (by rw [h]))⟩, by simp [World.setCell]⟩
theorem RD.lt (h : RD own w lo g xs e) : g < w.heap.size := by
  obtain ⟨A, c, h1, _⟩ := h
  exact Box.lt h1
theorem RD.below {B : Nat} (h : RD own w lo g xs e) (hb : Below B w w') (hg : g < B) : RD own w' lo g xs e := by
  obtain ⟨A, c, h1, h2, h3⟩ := h
  exact ⟨A, c, Box.below h1 hb hg, h2, h3.below hb (by omega)⟩
theorem RD.grown {row : Option Nat} (h : RD own w lo g xs e) (hb : w.grownBy w' row) (hr : ∀ k, row = some k → k < lo ∨ g < k) (hl : lo ≤ g) : RD own w' lo g xs e := by
  have hg := h.lt
  obtain ⟨A, c, h1, h2, h3⟩ := h
  exact ⟨A, c, Box.grown h1 hb (fun e => by have := hr g e.symm; omega), h2, h3.grown hb (by omega) (fun k hk => by have := hr k hk; omega)⟩
theorem RD.alloc (h : RD own w lo g xs e) (o : Obj) : RD own (w.alloc o) lo g xs e := by
  have hg := h.lt
  obtain ⟨A, c, h1, h2, h3⟩ := h
  exact ⟨A, c, Box.alloc h1 o, h2, h3.alloc (by omega) o⟩
theorem RD.far (h : RD own w lo g xs e) {p : Addr} (hp : p.block < lo ∨ g < p.block) (hl : lo ≤ g) (u : Value) : RD own (w.setCell p u) lo g xs e := by
  obtain ⟨A, c, h1, h2, h3⟩ := h
  exact ⟨A, c, Box.far h1 (by omega) u, h2, h3.far (by omega) u⟩
end

theorem rd_err {own : Bool} {w : World} {lo g : Nat} {xs : List UInt8} {x : Int} (h : RD own w lo g xs x) :
    Calls Tryz.prog 44 #[.pointer (some ⟨g, 0, none⟩)] w fun e w' => e = .returned (.int .i64 x) ∧ w = w' := by
  obtain ⟨A, c, h1, _⟩ := h
  exact err_any h1
theorem rd_left {own : Bool} {w : World} {lo g : Nat} {xs : List UInt8} {x : Int} (h : RD own w lo g xs x) :
    Calls Tryz.prog 18 #[.pointer (some ⟨g, 0, none⟩)] w fun e w' => e = .returned (.int .i64 xs.length) ∧ w = w' := by
  obtain ⟨A, c, h1, _⟩ := h
  exact left_any h1
theorem add_zero_map (A : Option Addr) : A.map (·.add 0) = A := by cases A <;> rfl

theorem take_err {w : World} {g : Nat} {A : Option Addr} {n c : Nat} {x m : Int} {may : Bool} (h : Rdr w g A n c x) (hx : x ≠ 0) :
    Calls Tryz.prog 77 #[.pointer (some ⟨g, 0, none⟩), .int .i64 m, .bool may] w fun e w' => e = .returned (.slice none 0 0) ∧ w = w' := by
  have hb' : (x != 0) = true := by simpa using hx
  have hE := Lib.hid (err_any h)
  clear h hx
  go_enter Tryz.func77, Tryz.ntmps77
  go_wp2_with (go_at_call 44; refine hE.out.mono ?_; rintro e w' ⟨rfl, rfl⟩)
  go_ret
  exact ⟨rfl, rfl⟩

theorem take_arg {w : World} {g : Nat} {A : Option Addr} {n c : Nat} {m : Int} (h : Rdr w g A n c 0) :
    Calls Tryz.prog 77 #[.pointer (some ⟨g, 0, none⟩), .int .i64 m, .bool false] w fun e w' => e = .returned (.slice none 0 0) ∧ w.setCell ⟨g, 1, none⟩ (.int .i64 1) = w' := by
  have h1 := h.c1
  have f1 := h.f1
  have hE := Lib.hid (err_any h)
  clear h
  go_enter Tryz.func77, Tryz.ntmps77
  go_wp2_with (go_at_call 44; refine hE.out.mono ?_; rintro e w' ⟨rfl, rfl⟩)
  go_ret
  exact ⟨rfl, rfl⟩

theorem take_short {w : World} {g : Nat} {A : Option Addr} {n c : Nat} {m : Int} (h : Rdr w g A n c 0) (hm : (n : Int) < m) :
    Calls Tryz.prog 77 #[.pointer (some ⟨g, 0, none⟩), .int .i64 m, .bool true] w fun e w' => e = .returned (.slice none 0 0) ∧ w.setCell ⟨g, 1, none⟩ (.int .i64 10) = w' := by
  have h0 := h.c0
  have h1 := h.c1
  have f1 := h.f1
  have hE := Lib.hid (err_any h)
  clear h
  go_enter Tryz.func77, Tryz.ntmps77
  go_wp2_with (go_at_call 44; refine hE.out.mono ?_; rintro e w' ⟨rfl, rfl⟩)
  go_ret
  exact ⟨rfl, rfl⟩

theorem take_ok {w : World} {g : Nat} {A : Option Addr} {n c m : Nat} (h : Rdr w g A n c 0) (hm : m ≤ n) (hc : n ≤ c) :
    Calls Tryz.prog 77 #[.pointer (some ⟨g, 0, none⟩), .int .i64 (m : Int), .bool true] w fun e w' =>
      e = .returned (.slice (if m = 0 then A else A.map (·.add 0)) m m) ∧ w.setCell ⟨g, 0, none⟩ (.slice (if c = m then A else A.map (·.add m)) (n - m) (c - m)) = w' := by
  have h0 := h.c0
  have h1 := h.c1
  have f0 := h.f0
  have hE := Lib.hid (err_any h)
  clear h
  go_enter Tryz.func77, Tryz.ntmps77
  go_wp2_with (go_at_call 44; refine hE.out.mono ?_; rintro e w' ⟨rfl, rfl⟩)
  all_goals go_ret
  all_goals exact ⟨rfl, rfl⟩

/-- take, of any reader. -/
theorem take_any {own : Bool} {w : World} {lo g : Nat} {xs : List UInt8} {x m : Int} {may : Bool} (h : RD own w lo g xs x) (hm : may = true → 0 ≤ m) :
    Calls Tryz.prog 77 #[.pointer (some ⟨g, 0, none⟩), .int .i64 m, .bool may] w fun e w' =>
      ∃ v, e = .returned v ∧ Sl own w' lo g v (tk xs x m may).2.2 ∧ RD own w' lo g (tk xs x m may).1 (tk xs x m may).2.1 ∧ Stp w w' g := by
  obtain ⟨A, c, h1, h2, h3⟩ := h
  by_cases he : x = 0
  · subst he
    cases may with
    | false =>
      refine (take_arg h1).mono fun e w' ⟨he, hw⟩ => ?_
      subst hw
      have ht : tk xs 0 m false = (xs, 1, []) := by simp [tk]
      rw [ht]
      exact ⟨_, he, ⟨none, 0, rfl, by simp, Dat.nil _ _ _ _ _⟩, ⟨A, c, Box.put h1 1 _, h2, h3.far (by simp) _⟩, Stp.set ..⟩
    | true =>
      by_cases hs : (xs.length : Int) < m
      · refine (take_short h1 hs).mono fun e w' ⟨he, hw⟩ => ?_
        subst hw
        have ht : tk xs 0 m true = (xs, 10, []) := by simp [tk, hs]
        rw [ht]
        exact ⟨_, he, ⟨none, 0, rfl, by simp, Dat.nil _ _ _ _ _⟩, ⟨A, c, Box.put h1 1 _, h2, h3.far (by simp) _⟩, Stp.set ..⟩
      · obtain ⟨k, rfl⟩ := Int.eq_ofNat_of_zero_le (hm rfl)
        have hk : k ≤ xs.length := by omega
        refine (take_ok h1 hk h2).mono fun e w' ⟨he, hw⟩ => ?_
        subst hw
        have ht : tk xs 0 (k : Int) true = (xs.drop k, 0, xs.take k) := by simp [tk, hs]
        rw [ht]
        dsimp only
        have hl1 : (xs.take k).length = k := by simp; omega
        have hl2 : (xs.drop k).length = xs.length - k := by simp
        refine ⟨_, he, ⟨A, k, by rw [hl1]; by_cases h0 : k = 0 <;> simp [h0, add_zero_map], by omega, (h3.take k).far (by simp) _⟩, ⟨_, c - k, ?_, by omega, (h3.cut h2 (k := k)).far (by simp) _⟩, Stp.set ..⟩
        have := Box.put h1 0 (.slice (if c = k then A else A.map (·.add k)) (xs.length - k) (c - k))
        rw [hl2]
        exact this
  · refine (take_err h1 he).mono fun e w' ⟨he', hw⟩ => ?_
    subst hw
    have ht : tk xs x m may = (xs, x, []) := by simp [tk, he]
    rw [ht]
    exact ⟨_, he', ⟨none, 0, rfl, by simp, Dat.nil _ _ _ _ _⟩, ⟨A, c, h1, h2, h3⟩, Stp.refl ..⟩
end Go.Proofs.YtlidnialggpcpaaGreatDoor.cu

/- The contracts of the Reader's Bytes and Number, of any reader and of nil. -/
namespace Go.Proofs.YtlidnialggpcpaaGreatDoor.cu
open Go.RowKit

theorem bytes_any {own : Bool} {w : World} {lo g : Nat} {xs : List UInt8} {x m : Int} (h : RD own w lo g xs x) :
    Calls Tryz.prog 46 #[.pointer (some ⟨g, 0, none⟩), .int .i64 m] w fun e w' =>
      ∃ v, e = .returned v ∧ Sl own w' lo g v (tk xs x m (decide (0 ≤ m))).2.2 ∧ RD own w' lo g (tk xs x m (decide (0 ≤ m))).1 (tk xs x m (decide (0 ≤ m))).2.1 ∧ Stp w w' g := by
  have hT := Lib.hid (take_any h (m := m) (may := decide (0 ≤ m)) (by simp))
  clear h
  generalize tk xs x m (decide (0 ≤ m)) = t at *
  go_enter Tryz.func46, Tryz.ntmps46
  go_wp2_with (go_at_call 77; refine hT.out.mono ?_; rintro e w' ⟨v, rfl, hq⟩)
  go_ret
  exact ⟨_, rfl, hq⟩

theorem tk_len (xs : List UInt8) (x m : Int) (may : Bool) (h : may = true → m ≤ 8) : (tk xs x m may).2.2.length ≤ 8 := by
  unfold tk
  repeat' split
  all_goals simp_all

set_option maxHeartbeats 400000 in
theorem number_yes {own : Bool} {w : World} {lo g : Nat} {xs : List UInt8} {x m : Int} (h : RD own w lo g xs x) (h1 : 1 ≤ m) (h8 : m ≤ 8) :
    Calls Tryz.prog 43 #[.pointer (some ⟨g, 0, none⟩), .int .i64 m] w fun e w' =>
      e = .returned (.int .u64 (le (tk xs x m true).2.2 : Nat)) ∧ RD own w' lo g (tk xs x m true).1 (tk xs x m true).2.1 ∧ Stp w w' g := by
  have hT := Lib.hid (take_any h (m := m) (may := true) (by omega))
  have hl := tk_len xs x m true (by omega)
  clear h
  generalize tk xs x m true = t at *
  obtain ⟨ys, e', out⟩ := t
  dsimp only at *
  go_enter Tryz.func43, Tryz.ntmps43
  go_wp2_with (first | (go_at_call 78; refine (isWidth_yes _ _ h1 h8).mono ?_; rintro e w' ⟨rfl, rfl⟩) | (go_at_call 77; refine hT.out.mono ?_; rintro e w1 ⟨v, rfl, ⟨A, c, rfl, _, hd⟩, hq⟩))
  have Hd := Lib.hid hd
  have Hq := Lib.hid hq
  clear hd hq hT
  go_loop [5, 14] (fun x i => ∃ k : Nat, k ≤ out.length ∧ i = .int .i64 k ∧ x = .int .u64 (le (out.take k) : Nat)) (fun _ i => out.length - (intOf i).toNat)
  case atStart => exact ⟨0, Nat.zero_le _, rfl, rfl⟩
  case round =>
    obtain ⟨k, hk, rfl, rfl⟩ := hrel
    by_cases hlt : k < out.length
    · obtain ⟨d, o, rfl, _, _, hc, _⟩ := Hd.out (by omega)
      have hck := hc k hlt
      have hb := (out.getD k 0).toNat_lt
      have hX := le_lt (out.take k)
      unfold cel at hck
      clear hc Hd
      go_wp2
      go_round
      case rel =>
        have hlen : (out.take k).length = k := by simp; omega
        refine ⟨k + 1, by omega, by go_num, ?_⟩
        rw [hlen] at hX
        rw [List.take_succ_eq_append_getElem hlt, le_snoc, hlen, or_step _ _ k hX (out[k].toNat_lt) (by omega)]
      case measure => simp [intOf]; omega
    · go_wp2
      go_ret
      exact ⟨by rw [List.take_of_length_le (by omega)]; rfl, Hq.out⟩

theorem number_no {own : Bool} {w : World} {lo g : Nat} {xs : List UInt8} {x m : Int} (h : RD own w lo g xs x) (hm : m < 1 ∨ 8 < m) :
    Calls Tryz.prog 43 #[.pointer (some ⟨g, 0, none⟩), .int .i64 m] w fun e w' =>
      e = .returned (.int .u64 (le (tk xs x m false).2.2 : Nat)) ∧ RD own w' lo g (tk xs x m false).1 (tk xs x m false).2.1 ∧ Stp w w' g := by
  have hT := Lib.hid (take_any h (m := m) (may := false) (by simp))
  have hl : (tk xs x m false).2.2 = [] := by unfold tk; split <;> simp
  clear h
  generalize tk xs x m false = t at *
  obtain ⟨ys, e', out⟩ := t
  dsimp only at *
  subst hl
  go_enter Tryz.func43, Tryz.ntmps43
  go_wp2_with (first | (go_at_call 78; refine (isWidth_no _ _ hm).mono ?_; rintro e w' ⟨rfl, rfl⟩) | (go_at_call 77; refine hT.out.mono ?_; rintro e w1 ⟨v, rfl, ⟨A, c, rfl, _, _⟩, hq⟩))
  have Hq := Lib.hid hq
  clear hq hT
  go_loop [5, 14] (fun x i => i = .int .i64 0 ∧ x = .int .u64 0) (fun _ i => 0)
  case atStart => exact ⟨rfl, rfl⟩
  case round =>
    obtain ⟨rfl, rfl⟩ := hrel
    go_wp2
    go_ret
    exact ⟨rfl, Hq.out⟩

/-- Whether a number may have m bytes. -/
def wid (m : Int) : Bool := decide (1 ≤ m ∧ m ≤ 8)

theorem number_any {own : Bool} {w : World} {lo g : Nat} {xs : List UInt8} {x m : Int} (h : RD own w lo g xs x) :
    Calls Tryz.prog 43 #[.pointer (some ⟨g, 0, none⟩), .int .i64 m] w fun e w' =>
      e = .returned (.int .u64 (le (tk xs x m (wid m)).2.2 : Nat)) ∧ RD own w' lo g (tk xs x m (wid m)).1 (tk xs x m (wid m)).2.1 ∧ Stp w w' g := by
  by_cases hm : 1 ≤ m ∧ m ≤ 8
  · have hw : wid m = true := by simp [wid, hm]
    rw [hw]
    exact number_yes h hm.1 hm.2
  · have hw : wid m = false := by simp only [wid, decide_eq_false_iff_not]; exact hm
    rw [hw]
    exact number_no h (by omega)
end Go.Proofs.YtlidnialggpcpaaGreatDoor.cu

/- Appending records to a slice of the call's own, as a step of a region that draws its order. Nothing of the program is named here. -/
namespace Go.Proofs.YtlidnialggpcpaaGreatDoor
open Go.RowKit

theorem step_appR {α : Type} {z : Nat} {f : α → List Value} {P : Program} {u base lo hi : Nat} {v : Value} {xs ys : List α} {A : Option Addr} {m c : Nat} {ops : Array Oper} {o : Oper} {a : Act} {K : Act → World → Prop} {Q : Exit → Act → World → Prop} {E : Prop} (hz : ∀ x, (f x).length = z) (hz0 : 0 < z) (hf : ∀ x, ∀ v ∈ f x, v.oneCell' = true) (w : World) (hgd : o.guard = none) (s x : Operand) (t : TypeId)
    (ho : o.op = .call { callee := .builtin .append, args := #[s, x], argTypes := #[t, t] })
    (i : TypeInfo) (zv : Value) (bytes : Nat) (ht : P.underlying t = some (.slice u)) (hn : P.info? u = some i) (hzv : i.zero = some zv) (hsize : i.size = z) (hby : i.bytes = bytes) (hzs : zv.cells.size = z) (hb64 : bytes ≤ 64)
    (hs : a.eval s = v) (h : OwR z f w u base v xs) (hx : a.eval x = .slice A m c) (hd : DatR z f w lo hi A ys) (hm : ys.length = m) (hb : xs.length + m ≤ 1099511627776) (hbase : base ≤ w.heap.size)
    (hK : ∀ v' w', OwR z f w' u base v' (xs ++ ys) → w.grownBy w' v.ownBlock → (v'.ownBlock = v.ownBlock ∨ v'.ownBlock = some w.heap.size) → K (a.put o.dst v') w') :
    if Region.wanted o (yielded ops a.tmps) = true then Oper.wp P o a w K Q else E := by
  have hw : Region.wanted o (yielded ops a.tmps) = true := by simp [Region.wanted, hgd]
  rw [if_pos hw]
  obtain ⟨v', w', hrun, h2, h3, h4⟩ := run_appR (P := P) (c := c) hz hz0 hf w t o.type i zv bytes ht hn hzv hsize hby hzs hb64 h hd hm hb hbase
  unfold Oper.wp execOp
  simp only [ho, resolve, invoke, builtin, Sem.run_bind, Sem.run_pure, Result.andThen_ok, List.map_toArray, List.map_cons, List.map_nil, hs, hx, hrun]
  exact hK v' w' h2 h3 h4
end Go.Proofs.YtlidnialggpcpaaGreatDoor

/- The contracts of bytes.Clone and NewReader: the bytes in new memory; nil too. -/
namespace Go.Proofs.YtlidnialggpcpaaGreatDoor.cu
open Go.RowKit

theorem u8_info : (Tryz.prog.info? 5).map (fun i => (i.zero, i.size, i.bytes)) = some (some (.int .u8 0), 1, 1) := by kernel_rfl

/-- The new row that 'buildSlice' of no elements makes is the call's own. -/
theorem own_empty (w : World) (u base : Nat) (h : base ≤ w.heap.size) : OwB (w.alloc (.cells #[] u)) u base (.slice (some ⟨w.heap.size, 0, none⟩) 0 0) [] :=
  World.ownsRow_made (base := base) (e := u) (size := 1) w #[] 0 h (by simp [maxLen]) (by simp)

theorem clone_some {own : Bool} {w : World} {lo hi : Nat} {a : Addr} {n c : Nat} {xs : List UInt8} (hd : Dat own w lo hi (some a) xs) (hn : xs.length = n) (hb : xs.length ≤ 1099511627776) (hhi : hi ≤ w.heap.size) :
    Calls Tryz.prog 42 #[.slice (some a) n c] w fun e w' => ∃ v, e = .returned v ∧ OwB w' 5 w.heap.size v xs ∧ Below w.heap.size w w' := by
  obtain ⟨i0, hi0, hz0, hz1, hz2⟩ := info_parts u8_info
  have hq := Lib.run_eql_slice_nil (P := Tryz.prog) w 22 5 (some a) n c 0 0 Tryz.underlying22
  have hO := Lib.hid (own_empty w 5 w.heap.size (Nat.le_refl _))
  have hD := Lib.hid (hd.alloc hhi (.cells #[] 5))
  clear hd
  have HN := Lib.hid hn
  clear hn
  go_enter Tryz.func42, Tryz.ntmps42
  go_wp2_with (at_builtin; refine list_app _ rfl _ _ 22 rfl i0 Tryz.underlying22 hi0 hz0 hz1 hz2 rfl hO.out rfl hD.out HN.out ?_ ?_ ?_)
  · simp only [List.length_nil]; have := HN.out; omega
  · simp
  intro v' w1 ho hg _
  have HO := Lib.hid ho
  have HG := Lib.hid hg
  clear ho hg hO hD
  go_wp2
  go_ret
  exact ⟨_, rfl, HO.out, ((Below.refl _ _).alloc (Nat.le_refl _) _).grown HG.out (by simp) (by intro k hk; simp [Value.ownBlock] at hk; omega)⟩

theorem clone_nil (w : World) (n c : Nat) :
    Calls Tryz.prog 42 #[.slice none n c] w fun e w' => e = .returned (.slice none 0 0) ∧ w = w' := by
  have hq := Lib.run_eql_slice_nil (P := Tryz.prog) w 22 5 none n c 0 0 Tryz.underlying22
  go_enter Tryz.func42, Tryz.ntmps42
  go_wp2
  go_ret
  exact ⟨rfl, rfl⟩

theorem clone_any {own : Bool} {w : World} {lo hi : Nat} {A : Option Addr} {n c : Nat} {xs : List UInt8} (hd : Dat own w lo hi A xs) (hn : xs.length = n) (hb : xs.length ≤ 1099511627776) (hhi : hi ≤ w.heap.size) :
    Calls Tryz.prog 42 #[.slice A n c] w fun e w' => ∃ v, e = .returned v ∧ OwB w' 5 w.heap.size v xs ∧ Below w.heap.size w w' := by
  rcases A with _ | a
  · refine (clone_nil w n c).mono fun e w' ⟨he, hw⟩ => ?_
    subst hw
    have hx : xs = [] := by
      rcases xs with _ | ⟨y, r⟩
      · rfl
      · obtain ⟨_, _, h', _⟩ := hd (by simp)
        cases h'
    subst hx
    exact ⟨_, he, OwB.nil _ _ _, Below.refl _ _⟩
  · exact clone_some hd hn hb hhi

/-- NewReader: the bytes in new memory, no error. -/
theorem reader_any {own : Bool} {w : World} {lo hi : Nat} {A : Option Addr} {n c : Nat} {xs : List UInt8} (hd : Dat own w lo hi A xs) (hn : xs.length = n) (hb : xs.length ≤ 1099511627776) (hhi : hi ≤ w.heap.size) :
    Calls Tryz.prog 16 #[.slice A n c] w fun e w' =>
      ∃ g, e = .returned (.pointer (some ⟨g, 0, none⟩)) ∧ w.heap.size ≤ g ∧ RD true w' w.heap.size g xs 0 ∧ Below w.heap.size w w' := by
  have hC := Lib.hid (clone_any (c := c) hd hn hb hhi)
  clear hd hn hb hhi
  go_enter Tryz.func16, Tryz.ntmps16
  go_wp2_with (go_at_call 42; refine hC.out.mono ?_; rintro e w1 ⟨v, rfl, ho, hB⟩; obtain ⟨A', c', rfl, hc', hD⟩ := ho.form; clear ho; have HB := Lib.hid hB; have HD := Lib.hid hD; clear hB hD)
  go_ret
  refine ⟨w1.heap.size, rfl, HB.out.size, ⟨A', c', Box.new _ _ _, hc', HD.out.alloc (Nat.le_refl _) _⟩, HB.out.alloc HB.out.size _⟩
end Go.Proofs.YtlidnialggpcpaaGreatDoor.cu

/- The contracts of cursor's Writer: what is written, one behind the other; of nil: nothing. -/
namespace Go.Proofs.YtlidnialggpcpaaGreatDoor.cu
open Go.RowKit

/-- Block g is a writer that has the bytes xs; all its memory lies from block base on. -/
def Wtr (w : World) (base g : Nat) (xs : List UInt8) : Prop := base ≤ g ∧ ∃ v, Box w g 148 #[v] ∧ OwB w 5 base v xs

section
variable {w w' : World} {base g : Nat} {xs : List UInt8}
theorem Wtr.lt (h : Wtr w base g xs) : g < w.heap.size := by
  obtain ⟨_, v, h1, _⟩ := h
  exact h1.lt
/-- A writer stays where only blocks below its own turn. -/
theorem Wtr.keep (h : Wtr w base g xs) (he : ∀ k, base ≤ k → k < w.heap.size → w'.heap[k]? = w.heap[k]?) : Wtr w' base g xs := by
  obtain ⟨hb, v, h1, h2⟩ := h
  refine ⟨hb, v, h1.keep (he g hb h1.lt), h2.1, ?_⟩
  rcases h2.2 with hn | ⟨g', cap, cur, hv, hbg, hh, r⟩
  · exact .inl hn
  · exact .inr ⟨g', cap, cur, hv, hbg, (he g' hbg (Array.getElem?_eq_some_iff.1 hh).1).trans hh, r⟩
theorem Wtr.far (h : Wtr w base g xs) {p : Addr} (hp : p.block < base) (u : Value) : Wtr (w.setCell p u) base g xs := h.keep fun k h1 _ => Below.heap_setCell w p u k (by omega)
theorem Wtr.alloc (h : Wtr w base g xs) (o : Obj) : Wtr (w.alloc o) base g xs := h.keep fun k _ h2 => Below.heap_alloc w o k h2
theorem Wtr.below {B : Nat} (h : Wtr w base g xs) (hb : Below B w w') (hB : w.heap.size ≤ B) : Wtr w' base g xs := h.keep fun k _ h2 => hb.block k (by omega)
end

theorem newWriter_any (w : World) :
    Calls Tryz.prog 33 #[] w fun e w' => e = .returned (.pointer (some ⟨w.heap.size, 0, none⟩)) ∧ Wtr w' w.heap.size w.heap.size [] ∧ Below w.heap.size w w' := by
  go_enter Tryz.func33, Tryz.ntmps33
  go_wp2
  go_ret
  exact ⟨rfl, ⟨Nat.le_refl _, _, Box.new _ _ _, OwB.nil _ _ _⟩, (Below.refl _ _).alloc (Nat.le_refl _) _⟩

theorem out_nil (w : World) :
    Calls Tryz.prog 38 #[.pointer none] w fun e w' => e = .returned (.slice none 0 0) ∧ w = w' := by
  go_enter Tryz.func38, Tryz.ntmps38
  go_wp2
  go_ret
  exact ⟨rfl, rfl⟩

/-- A writer with its one cell laid open. -/
theorem Wtr.open_ {w : World} {base g : Nat} {xs : List UInt8} (h : Wtr w base g xs) : ∃ A n c, w.cell? ⟨g, 0, none⟩ = some (.slice A n c) ∧ w.frozen? ⟨g, 0, none⟩ = false ∧ g < w.heap.size ∧
    Hid (Box w g 148 #[.slice A n c] ∧ OwB w 5 base (.slice A n c) xs) := by
  obtain ⟨hg, v, h1, h2⟩ := h
  obtain ⟨A, c, rfl, _, _⟩ := h2.form
  exact ⟨A, _, c, h1.cell 0, h1.free 0, h1.lt, h1, h2⟩

/-- Behind an append to what a writer has: its cell is as it was; the new slice lies elsewhere; nothing below base has turned. -/
theorem wtr_mid {wr w0 w1 : World} {base g : Nat} {v v' : Value} {xs : List UInt8} (hB : Below wr.heap.size wr w0) (hx : Box wr g 148 #[v]) (ho : OwB wr 5 base v xs)
    (hgr : w0.grownBy w1 v.ownBlock) (hat : v'.ownBlock = v.ownBlock ∨ v'.ownBlock = some w0.heap.size) (hg : base ≤ g) :
    w1.cell? ⟨g, 0, none⟩ = some v ∧ w1.frozen? ⟨g, 0, none⟩ = false ∧ Hid (Box w1 g 148 #[v] ∧ v'.ownBlock ≠ some g ∧ Below base wr w1) := by
  have hne := ho.ne_box hx (by decide)
  have hlt := hx.lt
  have hx0 : Box w0 g 148 #[v] := hx.below hB hlt
  have hx1 : Box w1 g 148 #[v] := hx0.grown hgr (fun e => hne e.symm)
  refine ⟨hx1.cell 0, hx1.free 0, hx1, ?_, (hB.mono (by omega)).grown hgr (by have := hB.size; omega) (fun k hk => (ho.block k hk).1)⟩
  rcases hat with e | e
  · rw [e]; exact hne
  · rw [e]; intro h; injection h with h; have := hB.size; omega

/-- What is stored into the writer's cell then makes it a writer of the longer bytes. -/
theorem wtr_end {w w1 : World} {base g : Nat} {v v' : Value} {xs : List UInt8} (hm : Box w1 g 148 #[v] ∧ v'.ownBlock ≠ some g ∧ Below base w w1) (ho : OwB w1 5 base v' xs) (hg : base ≤ g) :
    Wtr (w1.setCell ⟨g, 0, none⟩ v') base g xs ∧ Below base w (w1.setCell ⟨g, 0, none⟩ v') :=
  ⟨⟨hg, _, hm.1.put 0 _, ho.grown (Stp.set w1 g 0 v').1 (.inr hm.2.1)⟩, hm.2.2.setCell hg _⟩

theorem wbytes_any {own : Bool} {w : World} {base g lo hi : Nat} {A : Option Addr} {n c : Nat} {xs ys : List UInt8} (h : Wtr w base g xs) (hd : Dat own w lo hi A ys) (hn : ys.length = n) (hb : xs.length + n ≤ 1099511627776) :
    Calls Tryz.prog 36 #[.pointer (some ⟨g, 0, none⟩), .slice A n c] w fun e w' => e = .returned (.tuple #[]) ∧ Wtr w' base g (xs ++ ys) ∧ Below base w w' := by
  obtain ⟨i0, hi0, hz0, hz1, hz2⟩ := info_parts u8_info
  have hg := h.1
  obtain ⟨A0, n0, c0, hc, hf, hlt, HO⟩ := h.open_
  have HD := Lib.hid hd
  have HN := Lib.hid hn
  clear h hd hn
  go_enter Tryz.func36, Tryz.ntmps36
  go_wp2_with (at_builtin; refine list_app _ rfl _ _ 22 rfl i0 Tryz.underlying22 hi0 hz0 hz1 hz2 rfl HO.out.2 rfl HD.out HN.out hb ?_ ?_)
  · omega
  intro v' w1 ho hgr hat
  obtain ⟨hc1, hf1, HM⟩ := wtr_mid (Below.refl _ _) HO.out.1 HO.out.2 hgr hat hg
  obtain ⟨A', n', c', hv'⟩ : ∃ A' n' c', v' = .slice A' n' c' := (by obtain ⟨A', c', hv, _⟩ := ho.form; exact ⟨A', _, c', hv⟩)
  subst hv'
  have HO' := Lib.hid ho
  clear ho hgr hat
  go_wp2
  go_end0
  exact ⟨rfl, wtr_end HM.out HO'.out hg⟩

theorem out_any {w : World} {base g : Nat} {xs : List UInt8} (h : Wtr w base g xs) (hb : xs.length ≤ 1099511627776) :
    Calls Tryz.prog 38 #[.pointer (some ⟨g, 0, none⟩)] w fun e w' => ∃ v, e = .returned v ∧ OwB w' 5 w.heap.size v xs ∧ Below w.heap.size w w' := by
  obtain ⟨hg, v, h1, h2⟩ := h
  obtain ⟨A, c, rfl, hc, hd⟩ := h2.form
  have hc0 : w.cell? ⟨g, 0, none⟩ = some (.slice A xs.length c) := h1.cell 0
  have hC := Lib.hid (clone_any (c := c) hd rfl hb (Nat.le_refl _))
  clear h1 h2 hd hb
  go_enter Tryz.func38, Tryz.ntmps38
  go_wp2_with (go_at_call 42; refine hC.out.mono ?_; rintro e w1 ⟨v, rfl, hq⟩)
  go_ret
  exact ⟨_, rfl, hq⟩

/-- The new row of one byte. -/
theorem dat_one (w : World) (x : UInt8) (u : TypeId) : Dat true (w.alloc (.cells #[cel x] u)) w.heap.size (w.heap.size + 1) (some ⟨w.heap.size, 0, none⟩) [x] := fun _ =>
  ⟨w.heap.size, 0, rfl, Nat.le_refl _, by omega, fun j hj => by
    have h := (Box.new w u #[cel x]).cell (0 + j)
    have hj0 : j = 0 := by simp at hj; omega
    subst hj0
    exact h, fun _ j => (Box.new w u #[cel x]).free j⟩

set_option maxHeartbeats 400000 in
theorem wnumber_yes {w : World} {base g : Nat} {xs : List UInt8} (x m : Nat) (h : Wtr w base g xs) (h1 : 1 ≤ m) (h8 : m ≤ 8) (hb : xs.length + m ≤ 1099511627776) :
    Calls Tryz.prog 65 #[.pointer (some ⟨g, 0, none⟩), .int .u64 (x : Int), .int .i64 (m : Int)] w fun e w' => e = .returned (.tuple #[]) ∧ Wtr w' base g (xs ++ put x m) ∧ Below base w w' := by
  obtain ⟨i0, hi0, hz0, hz1, hz2⟩ := info_parts u8_info
  have hg0 := h.1
  have hbg : base ≤ w.heap.size := by have := h.lt; omega
  have H0 := Lib.hid h
  clear h
  go_enter Tryz.func65, Tryz.ntmps65
  go_wp2_with (go_at_call 78; refine (isWidth_yes _ _ (by omega) (by omega)).mono ?_; rintro e w' ⟨rfl, rfl⟩)
  go_loopw [15] (fun i wr => ∃ k : Nat, k ≤ m ∧ i = .int .i64 k ∧ Wtr wr base g (xs ++ put x k) ∧ Below base w wr) (fun i _ => m - (intOf i).toNat)
  case atStart => exact ⟨0, Nat.zero_le _, rfl, by simpa [put] using H0.out, Below.refl _ _⟩
  case round =>
    obtain ⟨k, hk, rfl, hw, hB⟩ := hrel
    have HB := Lib.hid hB
    obtain ⟨A, n, c, hc, hf, hlt, HO⟩ := hw.open_
    have HW := Lib.hid hw
    clear hB hw
    by_cases hkm : k < m
    · go_wp2
      have hs : IntKind.i64.wrap (8 * (k : Int)) = 8 * (k : Int) := IntWalk.i64_in _ (by omega)
      have hs0 : (0 : Int) ≤ 8 * (k : Int) := by omega
      have hs1 : (8 * (k : Int)).toNat = 8 * k := by omega
      have HD : Hid (Dat true (wr.alloc (.cells #[.int .u8 (IntKind.u8.wrap ((x : Int) / 2 ^ (8 * k)))] 5)) wr.heap.size (wr.heap.size + 1) (some ⟨wr.heap.size, 0, none⟩) [UInt8.ofNat (x / 256 ^ k % 256)]) := by
        rw [byte_step]
        exact dat_one wr _ _
      go_region_law ((refine step_app _ rfl _ _ 22 rfl i0 Tryz.underlying22 hi0 hz0 hz1 hz2 rfl (OwB.drew (OwB.alloc HO.out.2 _)) rfl (Dat.drew HD.out) rfl (by rw [List.length_append, put_length]; omega) (by simp; omega) ?_; intro v' w1 ho hgr hat; obtain ⟨hc1, hf1, HM⟩ := wtr_mid ((Below.refl _ _).alloc (Nat.le_refl _) _).drew HO.out.1 HO.out.2 hgr hat hg0; obtain ⟨A', n', c', hv'⟩ : ∃ A' n' c', v' = .slice A' n' c' := (by obtain ⟨A', c', hv, _⟩ := ho.form; exact ⟨A', _, c', hv⟩); subst hv'; have HO' := Lib.hid ho; clear ho hgr hat))
      all_goals
        go_wp2
        go_roundw
        case rel =>
          have he := wtr_end HM.out HO'.out hg0
          rw [List.append_assoc, ← put_snoc] at he
          exact ⟨k + 1, by omega, by go_num, he.1, HB.out.trans he.2⟩
        case measure => simp [intOf]; omega
    · go_wp2
      go_end0
      obtain rfl : k = m := by omega
      exact ⟨rfl, HW.out, HB.out⟩

end Go.Proofs.YtlidnialggpcpaaGreatDoor.cu

/- The contracts of the document's answers for the cursor: Take, Number, End, Put. -/
namespace Go.Proofs.YtlidnialggpcpaaGreatDoor.cu
open Go.RowKit

theorem str_size (xs : List UInt8) : (str xs).size = xs.length := by simp [str, ByteArray.size]
theorem str_take (xs : List UInt8) (k : Nat) : (str xs).extract 0 k = str (xs.take k) := by
  apply ByteArray.ext
  simp [str, ByteArray.data_extract]
theorem str_from (xs : List UInt8) (k n : Nat) (hn : n = xs.length) : (str xs).extract k n = str (xs.drop k) := by
  subst hn
  apply ByteArray.ext
  simp only [str, ByteArray.data_extract]
  apply Array.ext'
  simp only [List.extract_toArray, List.extract_eq_take_drop]
  exact List.take_of_length_le (by simp)
theorem refTake_err (s : ByteArray) (x m : Int) (w : World) (hx : x ≠ 0) :
    Calls Tryz.prog 54 #[.agg #[.string s, .int .i64 x], .int .i64 m] w fun e w' => e = .returned (.tuple #[.agg #[.string s, .int .i64 x], .string ⟨#[]⟩]) ∧ Below w.heap.size w w' := by
  have hb' : (x != 0) = true := by simpa using hx
  clear hx
  go_enter Tryz.func54, Tryz.ntmps54
  go_wp2
  exact bodyPost_ret (v := .tuple #[.agg #[.string s, .int .i64 x], .string ⟨#[]⟩]) (by simp [results, Tryz.results54, go_sem]) rfl ⟨rfl, (((Below.refl _ _).alloc (Nat.le_refl _) _).alloc (by simp) _)⟩

theorem refTake_arg (s : ByteArray) (m : Int) (hm : m < 0) (w : World) :
    Calls Tryz.prog 54 #[.agg #[.string s, .int .i64 0], .int .i64 m] w fun e w' => e = .returned (.tuple #[.agg #[.string s, .int .i64 1], .string ⟨#[]⟩]) ∧ Below w.heap.size w w' := by
  go_enter Tryz.func54, Tryz.ntmps54
  go_wp2
  exact bodyPost_ret (v := .tuple #[.agg #[.string s, .int .i64 1], .string ⟨#[]⟩]) (by simp [results, Tryz.results54, go_sem]) rfl ⟨rfl, by repeat (first | exact Below.refl _ _ | refine Below.alloc ?_ (by simp) _ | refine Below.setCell ?_ (by simp) _)⟩

theorem refTake_short (s : ByteArray) (m : Int) (hm : (s.size : Int) < m) (w : World) :
    Calls Tryz.prog 54 #[.agg #[.string s, .int .i64 0], .int .i64 m] w fun e w' => e = .returned (.tuple #[.agg #[.string s, .int .i64 10], .string ⟨#[]⟩]) ∧ Below w.heap.size w w' := by
  have h0 : 0 ≤ m := by omega
  go_enter Tryz.func54, Tryz.ntmps54
  go_wp2
  exact bodyPost_ret (v := .tuple #[.agg #[.string s, .int .i64 10], .string ⟨#[]⟩]) (by simp [results, Tryz.results54, go_sem]) rfl ⟨rfl, by repeat (first | exact Below.refl _ _ | refine Below.alloc ?_ (by simp) _ | refine Below.setCell ?_ (by simp) _)⟩

theorem refTake_ok (s : ByteArray) (k : Nat) (hk : k ≤ s.size) (w : World) :
    Calls Tryz.prog 54 #[.agg #[.string s, .int .i64 0], .int .i64 (k : Int)] w fun e w' => e = .returned (.tuple #[.agg #[.string (s.extract k s.size), .int .i64 0], .string (s.extract 0 k)]) ∧ Below w.heap.size w w' := by
  go_enter Tryz.func54, Tryz.ntmps54
  go_wp2
  exact bodyPost_ret (v := .tuple #[.agg #[.string (s.extract k s.size), .int .i64 0], .string (s.extract 0 k)]) (by simp [results, Tryz.results54, go_sem]) rfl ⟨rfl, by repeat (first | exact Below.refl _ _ | refine Below.alloc ?_ (by simp) _ | refine Below.setCell ?_ (by simp) _)⟩

theorem refTake_any (xs : List UInt8) (x m : Int) (w : World) :
    Calls Tryz.prog 54 #[.agg #[.string (str xs), .int .i64 x], .int .i64 m] w fun e w' =>
      e = .returned (.tuple #[.agg #[.string (str (tk xs x m (decide (0 ≤ m))).1), .int .i64 (tk xs x m (decide (0 ≤ m))).2.1], .string (str (tk xs x m (decide (0 ≤ m))).2.2)]) ∧ Below w.heap.size w w' := by
  by_cases hx : x = 0
  · subst hx
    by_cases hm : m < 0
    · have ht : tk xs 0 m (decide (0 ≤ m)) = (xs, 1, []) := by
        have : ¬ 0 ≤ m := by omega
        simp [tk, this]
      rw [ht]
      exact refTake_arg _ m hm w
    · obtain ⟨k, rfl⟩ := Int.eq_ofNat_of_zero_le (show 0 ≤ m by omega)
      by_cases hs : xs.length < k
      · have ht : tk xs 0 (k : Int) (decide ((0 : Int) ≤ (k : Int))) = (xs, 10, []) := by simp [tk, hs]
        rw [ht]
        exact refTake_short _ _ (by rw [str_size]; omega) w
      · have ht : tk xs 0 (k : Int) (decide ((0 : Int) ≤ (k : Int))) = (xs.drop k, 0, xs.take k) := by simp [tk, hs]
        rw [ht]
        have h := refTake_ok (str xs) k (by rw [str_size]; omega) w
        rw [str_take, str_from _ _ _ (str_size xs)] at h
        exact h
  · have ht : tk xs x m (decide (0 ≤ m)) = (xs, x, []) := by simp [tk, hx]
    rw [ht]
    exact refTake_err _ x m w hx

/-- Two new blocks, read behind a call that leaves what was there. -/
theorem two_boxes {w w1 : World} {c1 c2 : Array Value} {t1 t2 : TypeId} (hB : Below ((w.alloc (.cells c1 t1)).alloc (.cells c2 t2)).heap.size ((w.alloc (.cells c1 t1)).alloc (.cells c2 t2)) w1) :
    Box w1 w.heap.size t1 c1 ∧ Box w1 (w.heap.size + 1) t2 c2 ∧ w.heap.size + 2 ≤ w1.heap.size ∧ Below w.heap.size w w1 := by
  have hs := hB.size
  simp only [World.size_alloc] at hs
  have h1 := ((Box.new w t1 c1).alloc (.cells c2 t2)).below hB (by simp only [World.size_alloc]; omega)
  have h2 := Box.new (w.alloc (.cells c1 t1)) t2 c2
  have h2' := h2.below hB (by simp only [World.size_alloc]; omega)
  simp only [World.size_alloc] at h2'
  exact ⟨h1, h2', by omega, (((Below.refl _ _).alloc (Nat.le_refl _) _).alloc (by simp) _).trans (hB.mono (by simp only [World.size_alloc]; omega))⟩

end Go.Proofs.YtlidnialggpcpaaGreatDoor.cu

/- The contracts of the document's Number (all cases) and Put. -/
namespace Go.Proofs.YtlidnialggpcpaaGreatDoor.cu
open Go.RowKit

/-- One round of the document's reading of a number. -/
theorem sum_step (xs : List UInt8) (k : Nat) (hk : k < xs.length) (h8 : xs.length ≤ 8) :
    IntKind.u64.wrap ((le (xs.take k) : Int) + IntKind.u64.wrap (IntKind.u64.wrap (xs[k].toNat : Int) * IntKind.u64.wrap ((256 ^ k : Nat) : Int))) = (le (xs.take (k + 1)) : Nat) := by
  have hl : (xs.take k).length = k := by simp; omega
  have hx := le_lt (xs.take k)
  rw [hl] at hx
  have hP : 256 ^ k ≤ 256 ^ 7 := Nat.pow_le_pow_right (by omega) (by omega)
  have hc := xs[k].toNat_lt
  have hcp : xs[k].toNat * 256 ^ k ≤ 255 * 256 ^ 7 := Nat.mul_le_mul (by omega) hP
  rw [List.take_succ_eq_append_getElem hk, le_snoc, hl]
  have h1 : IntKind.u64.wrap (xs[k].toNat : Int) = (xs[k].toNat : Int) := by rw [IntKind.wrap_u64]; omega
  have h2 : IntKind.u64.wrap ((256 ^ k : Nat) : Int) = ((256 ^ k : Nat) : Int) := by rw [IntKind.wrap_u64]; omega
  rw [h1, h2, ← Int.natCast_mul]
  have h3 : IntKind.u64.wrap ((xs[k].toNat * 256 ^ k : Nat) : Int) = ((xs[k].toNat * 256 ^ k : Nat) : Int) := by rw [IntKind.wrap_u64]; omega
  rw [h3, IntKind.wrap_u64]
  omega
theorem pow_step (k : Nat) : IntKind.u64.wrap (IntKind.u64.wrap ((256 ^ k : Nat) : Int) * 256) = IntKind.u64.wrap ((256 ^ (k + 1) : Nat) : Int) := by
  rw [IntKind.wrap_u64, IntKind.wrap_u64, IntKind.wrap_u64, Nat.pow_succ]
  omega

theorem sum_round (S : ByteArray) (k : Nat) (hk : k < S.size) (h8 : S.size ≤ 8) :
    Value.int .u64 (IntKind.u64.wrap ((le (S.data.toList.take k) : Int) + IntKind.u64.wrap (IntKind.u64.wrap (S[k].toNat : Int) * IntKind.u64.wrap (256 ^ k)))) = .int .u64 (le (S.data.toList.take (k + 1)) : Nat) := by
  have h := sum_step S.data.toList k (by simpa using hk) (by simpa using h8)
  have e : ((256 ^ k : Nat) : Int) = (256 : Int) ^ k := by simp
  rw [e] at h
  exact congrArg _ h
theorem pow_round (k : Nat) : Value.int .u64 (IntKind.u64.wrap (IntKind.u64.wrap (256 ^ k) * 256)) = .int .u64 (IntKind.u64.wrap ((256 ^ (k + 1) : Nat) : Int)) := by
  have h := pow_step k
  have e : ((256 ^ k : Nat) : Int) = (256 : Int) ^ k := by simp
  rw [e] at h
  exact congrArg _ h

set_option maxHeartbeats 400000 in
theorem refNumber_yes (xs : List UInt8) (m : Int) (h1 : 1 ≤ m) (h8 : m ≤ 8) (w : World) :
    Calls Tryz.prog 23 #[.agg #[.string (str xs), .int .i64 0], .int .i64 m] w fun e w' =>
      e = .returned (.tuple #[.agg #[.string (str (tk xs 0 m true).1), .int .i64 (tk xs 0 m true).2.1], .int .u64 (le (tk xs 0 m true).2.2 : Nat)]) ∧ Below w.heap.size w w' := by
  have hT := fun W => refTake_any xs 0 m W
  have hdm : decide (0 ≤ m) = true := decide_eq_true (by omega)
  rw [hdm] at hT
  have hl := tk_len xs 0 m true (fun _ => h8)
  have HT := Lib.hid hT
  clear hT hdm
  generalize tk xs 0 m true = t at *
  obtain ⟨ys, x', out⟩ := t
  dsimp only at *
  have hd : decide (8 < m) = false := decide_eq_false (by omega)
  have hout : out = (str out).data.toList := rfl
  have hsz := str_size out
  generalize str out = S at *
  subst hout
  have HL := Lib.hid hl
  have hS8 : S.size ≤ 8 := by omega
  clear hl hsz
  generalize str xs = S0 at *
  generalize str ys = S1 at *
  go_enter Tryz.func23, Tryz.ntmps23
  go_wp2_with (go_at_call 54; refine (HT.out _).mono ?_; rintro e w1 ⟨rfl, hB⟩; obtain ⟨hb1, hb2, hs1, hb3⟩ := two_boxes hB; have hc0 : w1.cell? ⟨w.heap.size, 0, none⟩ = some (.string S0) := hb1.cell 0; have hc1 : w1.cell? ⟨w.heap.size, 1, none⟩ = some (.int .i64 0) := hb1.cell 1; have hd0 : w1.cell? ⟨w.heap.size + 1, 0, none⟩ = some (.string ⟨#[]⟩) := hb2.cell 0; have hd1 : w1.cell? ⟨w.heap.size + 1, 1, none⟩ = some (.int .i64 0) := hb2.cell 1; have hf0 := hb1.free 0; have hf1 := hb1.free 1; have hg0 := hb2.free 0; have hg1 := hb2.free 1; have HB := Lib.hid hb3; clear hB hb1 hb2 hb3)
  go_loop [7, 8, 9] (fun x m i => ∃ k : Nat, k ≤ S.size ∧ i = .int .i64 k ∧ x = .int .u64 (le (S.data.toList.take k) : Nat) ∧ m = .int .u64 (IntKind.u64.wrap ((256 ^ k : Nat) : Int))) (fun _ _ i => S.size - (intOf i).toNat)
  case atStart => exact ⟨0, Nat.zero_le _, rfl, rfl, rfl⟩
  case round =>
    obtain ⟨k, hk, rfl, rfl, rfl⟩ := hrel
    by_cases hlt : k < S.size
    · go_wp2
      go_round
      case rel =>
        exact ⟨k + 1, by omega, by go_num, sum_round S k hlt hS8, pow_round k⟩
      case measure => simp [intOf]; omega
    · have hkk : Hid (S.data.toList.take k = S.data.toList) := List.take_of_length_le (by simp; omega)
      go_wp2
      exact bodyPost_ret (v := .tuple #[.agg #[.string S1, .int .i64 x'], .int .u64 (le (S.data.toList.take k) : Nat)]) (by simp [results, Tryz.results23, go_sem, *]) rfl ⟨by rw [hkk.out], by repeat (first | exact HB.out | refine Below.setCell ?_ (by simp) _)⟩

end Go.Proofs.YtlidnialggpcpaaGreatDoor.cu
