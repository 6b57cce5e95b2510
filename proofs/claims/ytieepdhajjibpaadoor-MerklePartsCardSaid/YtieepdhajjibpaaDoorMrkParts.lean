
/- MerkleParts, plain: the leaves of bytes of which one is another. No claim of ours. -/
import Derived.Test.YtieepdhajjibpaaDoorMrkOf
namespace Go.Proofs.YtieepdhajjibpaaDoor
open Go.RowKit

/-- Part i of bytes in parts of p. -/
def partL (xs : List UInt8) (p i : Nat) : List UInt8 := (xs.drop (p * i)).take (longN xs.length p i)
theorem lvs_at (xs : List UInt8) (p n i : Nat) (h : i < (lvs xs p n).length) : (lvs xs p n)[i] = leafD (partL xs p i) := by
  simp [lvs, partL]
theorem part_other {xs : List UInt8} {p i q : Nat} (v : UInt8) (hp : 0 < p) (hne : i ≠ q / p) : partL (xs.set q v) p i = partL xs p i := by
  unfold partL
  rw [List.length_set, List.drop_set]
  split
  · rfl
  · rename_i h
    rw [List.take_set]
    refine List.set_eq_of_length_le ?_
    rw [List.length_take]
    refine Nat.le_trans (Nat.min_le_left _ _) (Nat.le_trans (Nat.min_le_right _ _) ?_)
    have h1 : p * i ≤ q := Nat.not_lt.1 h
    have h2 : i ≤ q / p := (Nat.le_div_iff_mul_le hp).2 (by rw [Nat.mul_comm]; exact h1)
    have h3 : p * (i + 1) ≤ q := by
      have h4 : i + 1 ≤ q / p := by omega
      exact Nat.le_trans (Nat.mul_le_mul_left p h4) (Nat.mul_div_le q p)
    rw [Nat.mul_succ] at h3
    omega
theorem cnt_small {s p : Nat} (hp : 0 < p) (hp2 : p ≤ 60) (hs : s ≤ 1000) : cntE s (p : Int) = (((cntN s p : Nat) : Int), 0) ∧ cntN s p ≤ 1000 := by
  have h : cntN s p ≤ 1000 := (cntN_le hp).1 (by have := Nat.mul_le_mul_left 1000 hp; omega)
  refine ⟨?_, h⟩
  unfold cntE
  rw [if_neg (by omega), Int.toNat_natCast, if_neg (by omega)]
theorem cnt_in {s p q : Nat} (hp : 0 < p) (hq : q < s) : q / p < cntN s p := by
  rcases Nat.lt_or_ge (q / p) (cntN s p) with h | h
  · exact h
  · have h1 := (cntN_le (n := cntN s p) hp).2 (Nat.le_refl _)
    have h2 : cntN s p * p ≤ q := Nat.le_trans (Nat.mul_le_mul_right p h) (Nat.div_mul_le_self q p)
    omega
theorem of_told {w w' : World} {xs : List UInt8} {p n : Nat} {e : Ending} (h : OfPost (w := w) xs (p : Int) e w') (hc : cntE xs.length (p : Int) = ((n : Int), 0)) :
    ∃ A c, e = .returned (.tuple #[.agg #[.int .u64 (xs.length : Int), .int .u32 (p : Int), .slice A n c], .int .i64 0]) ∧ n ≤ c ∧ DatR 32 dcs w' w.heap.size w'.heap.size A (lvs xs p n) ∧ Below w.heap.size w w' := by
  rcases h.2 with ⟨p2, n2, A, c, hp, hc2, he, hn, hd⟩ | ⟨hne, _⟩
  · obtain rfl : p2 = p := by omega
    rw [hc] at hc2
    have := congrArg Prod.fst hc2
    simp only at this
    obtain rfl : n2 = n := by omega
    exact ⟨A, c, he, hn, hd, h.1⟩
  · exact absurd (by rw [hc]) hne

/-! A slice of bytes of the call's own, cell for cell. -/
theorem OwB.cellAt {w : World} {u base d n c : Nat} {xs : List UInt8} (h : OwB w u base (.slice (some ⟨d, 0, none⟩) n c) xs) (i : Nat) (hi : i < xs.length) :
    w.cell? ⟨d, i, none⟩ = some (cel xs[i]) ∧ w.frozen? ⟨d, i, none⟩ = false := by
  have hc := World.ownsRow.cells h (g := d) rfl i (cel xs[i]) (by simp [hi])
  have ha : (⟨d, 0, none⟩ : Addr).add i = ⟨d, i, none⟩ := by unfold Addr.add; split <;> simp_all
  rw [ha] at hc
  refine ⟨hc, ?_⟩
  rcases h.2 with ⟨e, _⟩ | ⟨g', cap, cur, e, _, hh, _⟩
  · cases e
  · injection e with e
    injection e with e
    injection e with e
    subst e
    simp [World.frozen?, hh]
theorem OwB.put8 {w : World} {u base d n c : Nat} {xs : List UInt8} (h : OwB w u base (.slice (some ⟨d, 0, none⟩) n c) xs) (i : Nat) (y : UInt8) :
    OwB (w.setCell ⟨d, i, none⟩ (cel y)) u base (.slice (some ⟨d, 0, none⟩) n c) (xs.set i y) := by
  rcases h.2 with ⟨e, _⟩ | ⟨g', cap, cur, e, hb, hh, hnc, hcm, hcs, ht⟩
  · cases e
  · injection e with e1 e2 e3
    injection e1 with e1
    injection e1 with e1
    subst e1
    subst e3
    refine ⟨by simp, .inr ⟨d, c, cur.setIfInBounds i (cel y), by rw [List.length_set, ← e2], hb, Box.put hh i _, by simpa using hnc, hcm, by simpa using hcs, ?_⟩⟩
    rw [Array.toList_setIfInBounds, List.take_set, List.length_set, ht, List.map_set]
theorem OwB.place {w : World} {u base : Nat} {v : Value} {xs : List UInt8} (h : OwB w u base v xs) (hx : 0 < xs.length) : ∃ d c, v = .slice (some ⟨d, 0, none⟩) xs.length c ∧ base ≤ d ∧ d < w.heap.size ∧ xs.length ≤ c := by
  rcases h.2 with ⟨_, h0⟩ | ⟨g, cap, cur, rfl, hb, hh, hnc, _⟩
  · omega
  · exact ⟨g, cap, rfl, hb, (Array.getElem?_eq_some_iff.1 hh).1, hnc⟩
theorem OwB.dat {w : World} {u base d n c : Nat} {xs : List UInt8} (h : OwB w u base (.slice (some ⟨d, 0, none⟩) n c) xs) : Dat true w base w.heap.size (some ⟨d, 0, none⟩) xs := by
  obtain ⟨A, c', hv, _, hd⟩ := h.form
  injection hv with h1 _ _
  rw [h1]
  exact hd
theorem cel_int (z : Int) (h0 : 0 ≤ z) (h1 : z ≤ 255) : cel (UInt8.ofNat z.toNat) = .int .u8 z := by
  unfold cel
  rw [UInt8.toNat_ofNat', Nat.mod_eq_of_lt (by omega)]
  congr 1
  omega
/-- A digest of a row that is read, in its cells. -/
theorem DatR.row {w : World} {lo hi : Nat} {A : Option Addr} {xs : List Dg} (h : DatR 32 dcs w lo hi A xs) (hx : 0 < xs.length) :
    ∃ d o, A = some ⟨d, o, none⟩ ∧ d < hi ∧ ∀ j (hj : j < xs.length), w.rangeAt d (o + j * 32) (dcs xs[j]) := by
  obtain ⟨d, o, hA, _, hd, hc⟩ := h hx
  exact ⟨d, o, hA, hd, fun j hj i v hv => hc j hj i v hv⟩
end Go.Proofs.YtieepdhajjibpaaDoor
