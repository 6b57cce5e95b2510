
/- Sequences as they lie in slices: cells, stores. -/
import Derived.Test.YtlidnialggpcpaaGreatDoorSeqNext
namespace Go.Proofs.YtlidnialggpcpaaGreatDoor
open Go.RowKit

def scell (q : Sq) : List Value := [.int .u32 (q.l : Int), .int .u32 (q.m : Int), .int .u32 (q.o : Int)]
theorem scell_len : ∀ x, (scell x).length = 3 := fun _ => rfl
theorem scell_one : ∀ x, ∀ v ∈ scell x, v.oneCell' = true := by
  intro x v hv
  simp [scell] at hv
  rcases hv with rfl | rfl | rfl <;> rfl
theorem seq_info : (Tryz.prog.info? 47).map (fun i => (i.zero, i.size, i.bytes)) = some (some (.agg #[.int .u32 0, .int .u32 0, .int .u32 0]), 3, 12) := by kernel_rfl
/-- A sequence is stored. -/
theorem OwR.putS {w : World} {u base d n c : Nat} {qs : List Sq} (h : OwR 3 scell w u base (.slice (some ⟨d, 0, none⟩) n c) qs) (j : Nat) (hj : j < qs.length) (x : Sq) :
    OwR 3 scell (((w.setCell ⟨d, j * 3, none⟩ (.int .u32 (x.l : Int))).setCell ⟨d, j * 3 + 1, none⟩ (.int .u32 (x.m : Int))).setCell ⟨d, j * 3 + 2, none⟩ (.int .u32 (x.o : Int))) u base (.slice (some ⟨d, 0, none⟩) n c) (qs.set j x) := by
  have h1 := h.put scell_len j 0 hj (by decide) (.int .u32 (x.l : Int)) ⟨x.l, qs[j].m, qs[j].o⟩ rfl
  have h2 := h1.put scell_len j 1 (by simpa using hj) (by decide) (.int .u32 (x.m : Int)) ⟨x.l, x.m, qs[j].o⟩ (by simp [scell])
  have h3 := h2.put scell_len j 2 (by simpa using hj) (by decide) (.int .u32 (x.o : Int)) ⟨x.l, x.m, x.o⟩ (by simp [scell])
  rw [List.set_set, List.set_set] at h3
  exact h3
theorem OwR.cellsS {w : World} {u base d n c : Nat} {qs : List Sq} (h : OwR 3 scell w u base (.slice (some ⟨d, 0, none⟩) n c) qs) (j : Nat) (hj : j < qs.length) :
    (w.cell? ⟨d, j * 3, none⟩ = some (.int .u32 (qs[j].l : Int)) ∧ w.cell? ⟨d, j * 3 + 1, none⟩ = some (.int .u32 (qs[j].m : Int)) ∧ w.cell? ⟨d, j * 3 + 2, none⟩ = some (.int .u32 (qs[j].o : Int))) ∧
    w.frozen? ⟨d, j * 3, none⟩ = false ∧ w.frozen? ⟨d, j * 3 + 1, none⟩ = false ∧ w.frozen? ⟨d, j * 3 + 2, none⟩ = false := by
  have h0 := h.cellAt scell_len j 0 hj (by decide) _ rfl
  have h1 := h.cellAt scell_len j 1 hj (by decide) _ rfl
  have h2 := h.cellAt scell_len j 2 hj (by decide) _ rfl
  exact ⟨⟨h0.1, h1.1, h2.1⟩, h0.2, h1.2, h2.2⟩
theorem DatR.seq {w : World} {lo hi : Nat} {A : Option Addr} {qs : List Sq} (h : DatR 3 scell w lo hi A qs) (hx : 0 < qs.length) :
    ∃ d o, A = some ⟨d, o, none⟩ ∧ lo ≤ d ∧ d < hi ∧ ∀ j (hj : j < qs.length), w.cell? ⟨d, o + j * 3, none⟩ = some (.int .u32 (qs[j].l : Int)) ∧ w.cell? ⟨d, o + j * 3 + 1, none⟩ = some (.int .u32 (qs[j].m : Int)) ∧ w.cell? ⟨d, o + j * 3 + 2, none⟩ = some (.int .u32 (qs[j].o : Int)) := by
  obtain ⟨d, o, hA, h1, h2, hc⟩ := h hx
  exact ⟨d, o, hA, h1, h2, fun j hj => ⟨hc j hj 0 _ rfl, hc j hj 1 _ rfl, hc j hj 2 _ rfl⟩⟩

/-- A list of n sequences, the first ones read, the others noughts. -/
def upto (q : List Sq) (n : Nat) : List Sq := q ++ List.replicate (n - q.length) ⟨0, 0, 0⟩
theorem upto_len (q : List Sq) (n : Nat) (h : q.length ≤ n) : (upto q n).length = n := by simp [upto]; omega
theorem upto_nil (n : Nat) : upto [] n = List.replicate n ⟨0, 0, 0⟩ := by simp [upto]
theorem upto_set (q : List Sq) (x : Sq) (n : Nat) (h : q.length < n) : (upto q n).set q.length x = upto (q ++ [x]) n := by
  unfold upto
  rw [List.set_append_right _ _ (Nat.le_refl _), Nat.sub_self]
  obtain ⟨m, hm⟩ : ∃ m, n - q.length = m + 1 := ⟨n - q.length - 1, by omega⟩
  rw [hm, List.replicate_succ, List.set_cons_zero, List.append_assoc]
  simp
  congr 2
  omega
theorem upto_all (q : List Sq) (n : Nat) (h : q.length = n) : upto q n = q := by simp [upto, h]
/-- Sequences whose values 32 bits tell. -/
def Sq.Small (q : Sq) : Prop := q.l < 4294967296 ∧ q.m < 4294967296 ∧ q.o < 4294967296
end Go.Proofs.YtlidnialggpcpaaGreatDoor
