
/- Sequences as they are coded: plain lemmas, cells. -/
import Derived.Test.YtlidnialggpcpaaGreatDoorSeqLast
namespace Go.Proofs.YtlidnialggpcpaaGreatDoor
open Go.RowKit

def cvOf (n v : Nat) : Cv := ⟨(cd.ofN (n : Int) v).1, (cd.ofN (n : Int) v).2.1, cd.addN n (cd.ofN (n : Int) v).1⟩
def cqOf (q : Sq) : Cq := ⟨cvOf 0 q.l, cvOf 1 q.o, cvOf 2 q.m⟩
def Sq.at (q : Sq) (k : Nat) : Nat := match k with
  | 0 => q.l
  | 1 => q.o
  | _ => q.m
theorem cqOf_at (q : Sq) {k : Nat} (h : k < 3) : (cqOf q).at k = cvOf k (q.at k) := by
  rcases (show k = 0 ∨ k = 1 ∨ k = 2 by omega) with rfl | rfl | rfl <;> rfl
/-- Has each value a code? -/
def okQ (q : Sq) : Bool := decide ((cd.ofN 0 q.l).2.2 = 0 ∧ (cd.ofN 1 q.o).2.2 = 0 ∧ (cd.ofN 2 q.m).2.2 = 0)
theorem okQ_at {q : Sq} (h : okQ q = true) {k : Nat} (hk : k < 3) : (cd.ofN (k : Int) (q.at k)).2.2 = 0 := by
  obtain ⟨h0, h1, h2⟩ := of_decide_eq_true h
  rcases (show k = 0 ∨ k = 1 ∨ k = 2 by omega) with rfl | rfl | rfl
  · exact h0
  · exact h1
  · exact h2
/-- What a scan finds is a code that the value has. -/
theorem scan_ok {k v : Nat} : ∀ n c, (cd.scan k v n c).2.2 = 0 → c ≤ (cd.scan k v n c).1 ∧ (cd.scan k v n c).1 < c + n ∧ cd.beginN k (cd.scan k v n c).1 + (cd.scan k v n c).2.1 = v ∧ (cd.scan k v n c).2.1 < 2 ^ cd.addN k (cd.scan k v n c).1
  | 0, c, h => by simp [cd.scan] at h
  | n + 1, c, h => by
    rw [cd.scan] at h ⊢
    split at h
    · next hc =>
      rw [if_pos hc]
      exact ⟨Nat.le_refl _, by show c < c + (n + 1); omega, by show cd.beginN k c + (v - cd.beginN k c) = v; omega, hc.2⟩
    · next hc =>
      rw [if_neg hc]
      have := scan_ok n (c + 1) h
      exact ⟨by omega, by omega, this.2.2⟩
theorem cvOf_ok {n v : Nat} (hn : n < 3) (h : (cd.ofN (n : Int) v).2.2 = 0) : CvOk n (cvOf n v) ∧ valOf n (cvOf n v) = v := by
  unfold cd.ofN at h
  rw [if_neg (by omega), show ((n : Nat) : Int).toNat = n by omega] at h
  have hs := scan_ok _ _ h
  have e : cd.ofN (n : Int) v = cd.scan n v (cd.lastN n + 1) 0 := by
    unfold cd.ofN
    rw [if_neg (by omega), show ((n : Nat) : Int).toNat = n by omega]
  unfold cvOf valOf
  rw [e]
  exact ⟨⟨by show (cd.scan n v (cd.lastN n + 1) 0).1 ≤ lastN n; have : cd.lastN n = lastN n := rfl; omega, rfl, hs.2.2.2⟩, hs.2.2.1⟩
theorem cqOf_ok {q : Sq} (h : okQ q = true) : CqOk (cqOf q) ∧ sqOf (cqOf q) = q := by
  have h0 := cvOf_ok (n := 0) (by decide) (okQ_at h (k := 0) (by decide))
  have h1 := cvOf_ok (n := 1) (by decide) (okQ_at h (k := 1) (by decide))
  have h2 := cvOf_ok (n := 2) (by decide) (okQ_at h (k := 2) (by decide))
  refine ⟨⟨h0.1, h1.1, h2.1⟩, ?_⟩
  show Sq.mk (valOf 0 (cvOf 0 q.l)) (valOf 2 (cvOf 2 q.m)) (valOf 1 (cvOf 1 q.o)) = q
  have e0 : valOf 0 (cvOf 0 q.l) = q.l := h0.2
  have e1 : valOf 1 (cvOf 1 q.o) = q.o := h1.2
  have e2 : valOf 2 (cvOf 2 q.m) = q.m := h2.2
  rw [e0, e1, e2]

/-! Cells. -/
theorem Cq.list_len : ∀ q : Cq, q.list.length = 9 := fun _ => rfl
theorem coded_info : (Tryz.prog.info? 146).map (fun i => (i.zero, i.size, i.bytes)) = some (some (.agg #[.int .i64 0, .int .u32 0, .int .i64 0, .int .i64 0, .int .u32 0, .int .i64 0, .int .i64 0, .int .u32 0, .int .i64 0]), 9, 72) := by kernel_rfl
/-- The first k values of a coded sequence, the others noughts. -/
def Cq.part (q : Cq) (k : Nat) : Cq := ⟨if 0 < k then q.l else ⟨0, 0, 0⟩, if 1 < k then q.o else ⟨0, 0, 0⟩, if 2 < k then q.m else ⟨0, 0, 0⟩⟩
theorem Cq.part_all (q : Cq) : q.part 3 = q := rfl
theorem Cq.part_zero (q : Cq) : q.part 0 = ⟨⟨0, 0, 0⟩, ⟨0, 0, 0⟩, ⟨0, 0, 0⟩⟩ := rfl
theorem Cq.part_step (q : Cq) {k : Nat} (h : k < 3) : (q.part (k + 1)).list = (((q.part k).list.set (k * 3) (.int .i64 ((q.at k).c : Int))).set (k * 3 + 1) (.int .u32 ((q.at k).x : Int))).set (k * 3 + 2) (.int .i64 ((q.at k).b : Int)) := by
  rcases (show k = 0 ∨ k = 1 ∨ k = 2 by omega) with rfl | rfl | rfl <;> rfl
end Go.Proofs.YtlidnialggpcpaaGreatDoor
