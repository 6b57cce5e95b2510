
/- What the laws of layer 6 share: a field that is appended to, and the calls that stand in an answer's region. -/
import Derived.Test.YtpdnmhnnngcbjaaDoorNormSame
import Derived.Deep.RegionWith
import Derived.Deep.RegionHeld3
namespace Go.Proofs.YtpdnmhnnngcbjaaDoor
open Go.RowKit

/-- A slice in a box of two cells, appended to and stored back. -/
theorem push_facts {wx w2 : World} {b : Nat} {t : TypeId} {x v v1 : Value} {xs ys : List Int} {o : Obj} (hb : Box wx b t #[x, v]) (ho : OwE icel wx 3 (b + 1) v xs) (ho1 : OwE icel w2 3 (b + 1) v1 ys) (hg : (wx.alloc o).grownBy w2 v.ownBlock) :
    w2.cell? ⟨b, 0, none⟩ = some x ∧ w2.cell? ⟨b, 1, none⟩ = some v ∧ w2.frozen? ⟨b, 1, none⟩ = false ∧
    Hid (Box (w2.setCell ⟨b, 1, none⟩ v1) b t #[x, v1] ∧ OwE icel (w2.setCell ⟨b, 1, none⟩ v1) 3 (b + 1) v1 ys ∧ Below b wx (w2.setCell ⟨b, 1, none⟩ v1)) := by
  have hne : some b ≠ v.ownBlock := fun e => by have := (ho.block b e.symm).1; omega
  have hb2 : Box w2 b t #[x, v] := (hb.alloc o).grown hg hne
  have hlt := hb.lt
  refine ⟨hb2.cell 0, hb2.cell 1, hb2.free 1, hb2.put 1 v1, ?_, ?_⟩
  · exact ho1.keep fun k hk => Below.heap_setCell _ _ _ k (by have := (ho1.block k hk).1; simp; omega)
  · have hB : Below b wx (wx.alloc o) := (Below.refl _ _).alloc (by omega) _
    exact (hB.grown hg (by simp; omega) (fun k hk => by have := (ho.block k hk).1; omega)).setCell (Nat.le_refl _) _

theorem OwE.below {α : Type} {f : α → Value} {w w' : World} {u base B : Nat} {v : Value} {xs : List α} (h : OwE f w u base v xs) (hb : Below B w w') (hB : w.heap.size ≤ B) : OwE f w' u base v xs :=
  h.keep fun k hk => hb.block k (by have := (h.block k hk).2; omega)
theorem OwE.cap {α : Type} {f : α → Value} {w : World} {u base n c : Nat} {A : Option Addr} {xs : List α} (h : OwE f w u base (.slice A n c) xs) : n ≤ c := by
  obtain ⟨A', c', hv, hc, _⟩ := h.form
  injection hv with _ h2 h3
  omega
theorem cells4 {W wn : World} {b b2 B : Nat} {x v y u : Value} (hB : Below B W wn) (h1 : b < B) (h2 : b2 < B) (h : W.cell? ⟨b, 0, none⟩ = some x ∧ W.cell? ⟨b, 1, none⟩ = some v ∧ W.cell? ⟨b2, 0, none⟩ = some y ∧ W.cell? ⟨b2, 1, none⟩ = some u) :
    wn.cell? ⟨b, 0, none⟩ = some x ∧ wn.cell? ⟨b, 1, none⟩ = some v ∧ wn.cell? ⟨b2, 0, none⟩ = some y ∧ wn.cell? ⟨b2, 1, none⟩ = some u :=
  ⟨(hB.cell (p := ⟨b, 0, none⟩) h1).trans h.1, (hB.cell (p := ⟨b, 1, none⟩) h1).trans h.2.1, (hB.cell (p := ⟨b2, 0, none⟩) h2).trans h.2.2.1, (hB.cell (p := ⟨b2, 1, none⟩) h2).trans h.2.2.2⟩
theorem may_bounds {l : Int} {ps : List Int} (h : mayB l ps = true) : ∀ p ∈ ps, -9223372036854775808 ≤ p ∧ p ≤ 9223372036854775807 := by
  obtain ⟨h1, h2, _, _, _, h6, h7⟩ := mayB_iff.1 h
  have key : ∀ qs : List Int, (∀ p ∈ qs, -1 ≤ p) → ∀ p ∈ qs, p ≤ tot qs := by
    intro qs
    induction qs with
    | nil => intro _ p hp; simp at hp
    | cons q r ih =>
      intro hq p hp
      rw [tot_cons]
      have h0 := wi_pos (hq q (by simp))
      have hr := tot_pos (ps := r) fun z hz => hq z (by simp [hz])
      rw [List.mem_cons] at hp
      rcases hp with rfl | hp
      · omega
      · have := ih (fun z hz => hq z (by simp [hz])) p hp
        omega
  intro p hp
  have h8 := key ps h6 p hp
  have h9 := h6 p hp
  obtain ⟨n, hn⟩ : ∃ n, n = l.toNat := ⟨_, rfl⟩
  have hpw : 2 ^ n ≤ 2 ^ 15 := Nat.pow_le_pow_right (by omega) (by omega)
  rw [h7, ← hn] at h8
  have e : (2 : Int) ^ n = ((2 ^ n : Nat) : Int) := by simp
  rw [e] at h8
  omega
theorem wrC_len (l : Nat) (ps : List Int) : (bytesOf (wrC l ps)).length = ((wrC l ps).length + 7) / 8 := bytesOf_length _
theorem chk_ok {l most : Int} {ps : List Int} (h : mayB l ps = true) (hm : l ≤ most) : chk l ps most = 0 := by
  unfold chk
  rw [if_neg (by simp [h]), if_neg (by omega)]
theorem chk_big {l most : Int} {ps : List Int} (h : mayB l ps = true) (hm : most < l) : chk l ps most = 12 := by
  unfold chk
  rw [if_neg (by simp [h]), if_pos hm]
theorem partBits_pos (p : Int) (left : Nat) (h : 0 < left) : 1 ≤ (partBits p left).length := by
  have := ln_pos h
  unfold partBits
  split
  · rw [low_length]; omega
  · split <;> rw [low_length] <;> omega
/-- How long what is told of counts is at most. -/
theorem wrP_len : ∀ (f : Nat) (ps : List Int) (left : Nat), ps.length ≤ 256 → left ≤ 32768 → (wrP f ps left).length ≤ 300 * f
  | 0, _, _, _, _ => by simp [wrP]
  | f + 1, [], _, _, _ => by simp [wrP]
  | f + 1, p :: r, left, h, hl => by
    rw [wrP, List.length_append]
    have h1 := partBits_len p left hl
    simp only [List.length_cons] at h
    split
    · rw [List.length_append]
      have h2 := rowBits_len (nz r)
      have h3 := nz_le r
      have h4 := wrP_len f (r.drop (nz r)) left (by simp; omega) hl
      omega
    · have h4 := wrP_len f r (left - (wi p).toNat) (by omega) (by omega)
      omega
theorem wrC_bound {l : Nat} {ps : List Int} (h : mayB (l : Int) ps = true) : (wrC l ps).length ≤ 100000 := by
  obtain ⟨h1, h2, _, h4, _⟩ := mayB_iff.1 h
  have hp : 2 ^ l ≤ 2 ^ 15 := Nat.pow_le_pow_right (by omega) (by omega)
  have := wrP_len ps.length ps (2 ^ l) h4 (by omega)
  unfold wrC
  rw [List.length_append, low_length]
  omega
theorem OwB.below {w w' : World} {u base B : Nat} {v : Value} {xs : List UInt8} (h : OwB w u base v xs) (hb : Below B w w') (hB : w.heap.size ≤ B) : OwB w' u base v xs :=
  (show OwE cel w u base v xs from h).below hb hB
end Go.Proofs.YtpdnmhnnngcbjaaDoor
