
/- Plain lemmas for the cursor layer: little-endian numbers as lists of bytes, blocks of memory that are known whole, slices that read as a list of bytes. Nothing of the program is named here. -/
import Derived.WalkKit
import Derived.WalkSpells
import Derived.Deep.Draws
namespace Go.Proofs.YtieepdhajjibpaaDoor
open Go.RowKit

/-- The number that bytes make, the lowest first. -/
def le : List UInt8 → Nat
  | [] => 0
  | x :: r => x.toNat + 256 * le r

/-- A number in n bytes, the lowest first. -/
def put (x : Nat) : Nat → List UInt8
  | 0 => []
  | n + 1 => UInt8.ofNat (x % 256) :: put (x / 256) n

theorem le_lt (xs : List UInt8) : le xs < 256 ^ xs.length := by
  induction xs with
  | nil => simp [le]
  | cons x r ih =>
    have := x.toNat_lt
    simp only [le, List.length_cons, Nat.pow_succ]
    omega
theorem le_snoc (xs : List UInt8) (x : UInt8) : le (xs ++ [x]) = le xs + x.toNat * 256 ^ xs.length := by
  induction xs with
  | nil => simp [le]
  | cons y r ih =>
    simp only [List.cons_append, le, ih, List.length_cons, Nat.pow_succ, Nat.mul_add]
    have : 256 * (x.toNat * 256 ^ r.length) = x.toNat * (256 ^ r.length * 256) := by
      rw [Nat.mul_comm 256, Nat.mul_assoc]
    omega
theorem put_length (x n : Nat) : (put x n).length = n := by
  induction n generalizing x with
  | zero => rfl
  | succ n ih => simp [put, ih]
theorem put_snoc (x n : Nat) : put x (n + 1) = put x n ++ [UInt8.ofNat (x / 256 ^ n % 256)] := by
  induction n generalizing x with
  | zero => simp [put]
  | succ n ih =>
    rw [put, ih (x / 256), put]
    simp only [List.cons_append, Nat.pow_succ]
    rw [Nat.div_div_eq_div_mul, Nat.mul_comm 256]
theorem le_put (x n : Nat) : le (put x n) = x % 256 ^ n := by
  induction n generalizing x with
  | zero => simp [put, le, Nat.mod_one]
  | succ n ih =>
    rw [put, le, ih]
    have h : (UInt8.ofNat (x % 256)).toNat = x % 256 := by simp
    rw [h, Nat.pow_succ, Nat.mul_comm (256 ^ n), Nat.mod_mul]

/-- One round of reading a number: the next byte is laid above those that are there. -/
theorem or_step (x c k : Nat) (hx : x < 256 ^ k) (hc : c < 256) (hk : k < 8) :
    bits .or .u64 (x : Int) (IntKind.u64.wrap (IntKind.u64.wrap (c : Int) * 2 ^ (8 * k))) = ((x + c * 256 ^ k : Nat) : Int) := by
  have hp : (256 : Nat) ^ k = 2 ^ (8 * k) := by rw [Nat.pow_mul]
  rw [hp] at hx ⊢
  have hP : 2 ^ (8 * k) ≤ 2 ^ 56 := Nat.pow_le_pow_right (by omega) (by omega)
  have hcp : c * 2 ^ (8 * k) ≤ 255 * 2 ^ 56 := Nat.mul_le_mul (by omega) hP
  have h1 : IntKind.u64.wrap (c : Int) = (c : Int) := by rw [IntKind.wrap_u64]; omega
  have h2 : (c : Int) * 2 ^ (8 * k) = ((c * 2 ^ (8 * k) : Nat) : Int) := by simp
  rw [h1, h2]
  have h3 : IntKind.u64.wrap ((c * 2 ^ (8 * k) : Nat) : Int) = ((c * 2 ^ (8 * k) : Nat) : Int) := by rw [IntKind.wrap_u64]; omega
  rw [h3, u64_or_nat _ _ (by omega) (by omega), Nat.or_comm, nat_join (8 * k) _ _ (Nat.mul_mod_left _ _) hx, Nat.add_comm]

/-- The byte k of a number, as it is shifted down and cut. -/
theorem byte_step (x k : Nat) : IntKind.u8.wrap ((x : Int) / 2 ^ (8 * k)) = (((UInt8.ofNat (x / 256 ^ k % 256)).toNat : Nat) : Int) := by
  have hp : (256 : Nat) ^ k = 2 ^ (8 * k) := by rw [Nat.pow_mul]
  rw [hp, IntKind.wrap_u8']
  have h : (x : Int) / 2 ^ (8 * k) = ((x / 2 ^ (8 * k) : Nat) : Int) := by simp
  rw [h]
  simp

/-- A byte as a cell. -/
def cel (x : UInt8) : Value := .int .u8 (x.toNat : Int)

/-- Block g is just these cells of type t, none frozen. -/
def Box (w : World) (g : Nat) (t : TypeId) (cs : Array Value) : Prop := w.heap[g]? = some (.cells cs t (0, 0))

/-- A slice at A holds the bytes xs; they lie in a block from lo on and below hi; 'own': that block is nowhere frozen. -/
def Dat (own : Bool) (w : World) (lo hi : Nat) (A : Option Addr) (xs : List UInt8) : Prop :=
  0 < xs.length → ∃ d o, A = some ⟨d, o, none⟩ ∧ lo ≤ d ∧ d < hi ∧ (∀ j, j < xs.length → w.cell? ⟨d, o + j, none⟩ = some (cel (xs.getD j 0))) ∧
    (own = true → ∀ j, w.frozen? ⟨d, j, none⟩ = false)

section
variable {w w' : World} {g : Nat} {t : TypeId} {cs : Array Value}
theorem Box.lt (h : Box w g t cs) : g < w.heap.size := (Array.getElem?_eq_some_iff.1 h).1
theorem Box.cell (h : Box w g t cs) (i : Nat) : w.cell? ⟨g, i, none⟩ = cs[i]? := cell_of_row w g i cs t (0, 0) h
theorem Box.free (h : Box w g t cs) (i : Nat) : w.frozen? ⟨g, i, none⟩ = false := by
  unfold Box at h
  simp [World.frozen?, h]
theorem Box.new (w : World) (t : TypeId) (cs : Array Value) : Box (w.alloc (.cells cs t)) w.heap.size t cs := heap_alloc_new w _
theorem Box.keep (h : Box w g t cs) (he : w'.heap[g]? = w.heap[g]?) : Box w' g t cs := he.trans h
theorem Box.alloc (h : Box w g t cs) (o : Obj) : Box (w.alloc o) g t cs := h.keep (Below.heap_alloc w o g h.lt)
theorem Box.put (h : Box w g t cs) (i : Nat) (u : Value) : Box (w.setCell ⟨g, i, none⟩ u) g t (cs.setIfInBounds i u) := by
  unfold Box at h ⊢
  simp [World.setCell, Array.getElem?_modify, h]
theorem Box.far (h : Box w g t cs) {p : Addr} (hp : g ≠ p.block) (u : Value) : Box (w.setCell p u) g t cs := h.keep (Below.heap_setCell w p u g hp)
theorem Box.below {B : Nat} (h : Box w g t cs) (hb : Below B w w') (hg : g < B) : Box w' g t cs := h.keep (hb.block g hg)
theorem Box.grown {row : Option Nat} (h : Box w g t cs) (hb : w.grownBy w' row) (hg : some g ≠ row) : Box w' g t cs := h.keep (hb.block g h.lt hg)
end

section
variable {own : Bool} {w w' : World} {lo hi : Nat} {A : Option Addr} {xs : List UInt8}
theorem Dat.nil (own : Bool) (w : World) (lo hi : Nat) (A : Option Addr) : Dat own w lo hi A [] := fun h => absurd h (by simp)
theorem Dat.keep (h : Dat own w lo hi A xs) (he : ∀ k, lo ≤ k → k < hi → w'.heap[k]? = w.heap[k]?) : Dat own w' lo hi A xs := fun hx => by
  obtain ⟨d, o, hA, h1, h2, hc, hf⟩ := h hx
  exact ⟨d, o, hA, h1, h2, fun j hj => (World.cell?_of_block (he d h1 h2)).trans (hc j hj), fun ho j => (World.frozen?_of_block (he d h1 h2)).trans (hf ho j)⟩
theorem Dat.below {B : Nat} (h : Dat own w lo hi A xs) (hb : Below B w w') (hB : hi ≤ B) : Dat own w' lo hi A xs := h.keep fun k _ hk => hb.block k (by omega)
theorem Dat.grown {row : Option Nat} (h : Dat own w lo hi A xs) (hb : w.grownBy w' row) (hs : hi ≤ w.heap.size) (hr : ∀ k, row = some k → k < lo ∨ hi ≤ k) : Dat own w' lo hi A xs :=
  h.keep fun k h1 h2 => hb.block k (by omega) (fun e => by have := hr k e.symm; omega)
theorem Dat.alloc (h : Dat own w lo hi A xs) (hs : hi ≤ w.heap.size) (o : Obj) : Dat own (w.alloc o) lo hi A xs := h.keep fun k _ h2 => Below.heap_alloc w o k (by omega)
theorem Dat.drew (h : Dat own w lo hi A xs) : Dat own w.drew lo hi A xs := h
theorem Dat.far (h : Dat own w lo hi A xs) {p : Addr} (hp : p.block < lo ∨ hi ≤ p.block) (u : Value) : Dat own (w.setCell p u) lo hi A xs := h.keep fun k h1 h2 => Below.heap_setCell w p u k (by omega)
theorem Dat.mono {lo' hi' : Nat} (h : Dat own w lo hi A xs) (hl : lo' ≤ lo) (hh : hi ≤ hi') : Dat own w lo' hi' A xs := fun hx => by
  obtain ⟨d, o, hA, h1, h2, hc⟩ := h hx
  exact ⟨d, o, hA, by omega, by omega, hc⟩
theorem Dat.take (h : Dat own w lo hi A xs) (k : Nat) : Dat own w lo hi A (xs.take k) := fun hx => by
  have hlen : (xs.take k).length ≤ xs.length := by simp; omega
  obtain ⟨d, o, hA, h1, h2, hc, hf⟩ := h (by omega)
  refine ⟨d, o, hA, h1, h2, fun j hj => ?_, hf⟩
  rw [hc j (by omega)]
  have hk : j < k := by simp at hj; omega
  simp [List.getD, hk]
theorem Dat.drop (h : Dat own w lo hi A xs) (k : Nat) : Dat own w lo hi (A.map (·.add k)) (xs.drop k) := fun hx => by
  have hlen : (xs.drop k).length = xs.length - k := by simp
  obtain ⟨d, o, hA, h1, h2, hc, hf⟩ := h (by omega)
  refine ⟨d, o + k, ?_, h1, h2, fun j hj => ?_, hf⟩
  · subst hA
    simp only [Option.map_some, Addr.add]
    split <;> simp_all
  · have := hc (k + j) (by omega)
    rw [show o + k + j = o + (k + j) by omega, this]
    simp [List.getD]
theorem Dat.cut (h : Dat own w lo hi A xs) {k c : Nat} (hc : xs.length ≤ c) : Dat own w lo hi (if c = k then A else A.map (·.add k)) (xs.drop k) := by
  by_cases hk : c = k
  · rw [if_pos hk, List.drop_of_length_le (by omega)]
    exact Dat.nil own w lo hi A
  · rw [if_neg hk]
    exact h.drop k
end
end Go.Proofs.YtieepdhajjibpaaDoor
