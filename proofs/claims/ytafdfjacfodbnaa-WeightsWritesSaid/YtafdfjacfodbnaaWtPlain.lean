
/- Weights on lists: what they are worth, their depth, the last one, and codes. Nothing of the program's code is named here. -/
import Derived.Test.YtafdfjacfodbnaaPileB
namespace Go.Proofs.Ytafdfjacfodbnaa

/-- What a weight is worth. -/
def wor (w : Nat) : Nat := if w = 0 then 0 else 2 ^ (w - 1)
/-- What weights are worth together. -/
def totW : List Nat → Nat
  | [] => 0
  | w :: r => wor w + totW r
/-- What those below a weight are worth together. -/
def bel (w : Nat) : List Nat → Nat
  | [] => 0
  | v :: r => (if v < w then wor v else 0) + bel w r
/-- How many are a weight. -/
def cnw (w : Nat) : List Nat → Nat
  | [] => 0
  | v :: r => (if v = w then 1 else 0) + cnw w r
/-- Whole weights that may be, of a depth. -/
def MayW (d : Nat) (l : List Nat) : Prop := 2 ≤ l.length ∧ l.length ≤ 256 ∧ (∃ p x, l = p ++ [x] ∧ 0 < x) ∧ totW l = 2 ^ d ∧ 1 ≤ d ∧ d ≤ 11 ∧ ∀ w ∈ l, w ≤ d

theorem wor_zero : wor 0 = 0 := rfl
theorem wor_pos {w : Nat} (h : 0 < w) : wor w = 2 ^ (w - 1) := if_neg (by omega)
theorem wor_succ (w : Nat) : wor (w + 1) = 2 ^ w := wor_pos (by omega)
theorem wor_gt {w : Nat} (h : 0 < w) : 1 ≤ wor w := by rw [wor_pos h]; exact Nat.two_pow_pos _
theorem wor_le (w : Nat) (h : w ≤ 11) : wor w ≤ 1024 := by
  unfold wor
  split
  · omega
  · exact Nat.pow_le_pow_right (by omega) (show w - 1 ≤ 10 by omega)
theorem wor_inj {x y : Nat} (hx : 0 < x) (hy : 0 < y) (h : wor x = wor y) : x = y := by
  rw [wor_pos hx, wor_pos hy] at h
  have := (Nat.pow_right_inj (by omega : 1 < 2)).1 h
  omega
theorem totW_append (a b : List Nat) : totW (a ++ b) = totW a + totW b := by
  induction a with
  | nil => simp [totW]
  | cons x r ih => rw [List.cons_append, totW, totW, ih]; omega
theorem totW_one (x : Nat) : totW [x] = wor x := by simp [totW]
theorem totW_mem {w : Nat} {l : List Nat} (h : w ∈ l) : wor w ≤ totW l := by
  induction l with
  | nil => cases h
  | cons x r ih =>
    rw [totW]
    rcases List.mem_cons.1 h with rfl | h
    · omega
    · have := ih h
      omega
theorem totW_le (l : List Nat) (h : ∀ w ∈ l, w ≤ 11) : totW l ≤ 1024 * l.length := by
  induction l with
  | nil => simp [totW]
  | cons x r ih =>
    have h1 := wor_le x (h x (by simp))
    have h2 := ih fun w hw => h w (by simp [hw])
    rw [totW, List.length_cons]
    omega
theorem totW_take (l : List Nat) (k : Nat) (h : k < l.length) : totW (l.take (k + 1)) = totW (l.take k) + wor l[k] := by
  rw [List.take_succ_eq_append_getElem h, totW_append, totW_one]
theorem le_of_wor {w d : Nat} (h : wor w < 2 ^ d) : w ≤ d := by
  rcases Nat.eq_zero_or_pos w with h0 | h0
  · omega
  · rw [wor_pos h0] at h
    have := (Nat.pow_lt_pow_iff_right (by omega : 1 < 2)).1 h
    omega

/-- Weights behind which just one makes them whole. -/
theorem may_last {l : List Nat} {d k : Nat} (h0 : l ≠ []) (hl : l.length ≤ 255) (ht : 1 ≤ totW l) (hd : totW l + 2 ^ k = 2 ^ d) (h1 : 1 ≤ d) (h11 : d ≤ 11) : MayW d (l ++ [k + 1]) := by
  have hlt : totW l < 2 ^ d := by have := Nat.two_pow_pos k; omega
  have hk : k < d := (Nat.pow_lt_pow_iff_right (by omega : 1 < 2)).1 (by omega)
  have hn := List.length_pos_iff.2 h0
  refine ⟨by simp; omega, by simp; omega, ⟨l, k + 1, rfl, by omega⟩, by rw [totW_append, totW_one, wor_succ]; omega, h1, h11, fun w hw => ?_⟩
  rcases List.mem_append.1 hw with h | h
  · have := totW_mem h
    exact le_of_wor (by omega)
  · simp at h
    omega
/-- The depth is told by what they are worth. -/
theorem may_depth {l : List Nat} {d d' : Nat} (h : MayW d l) (h' : totW l = 2 ^ d') : d = d' := by
  have := h.2.2.2.1
  exact (Nat.pow_right_inj (by omega : 1 < 2)).1 (by rw [← this, h'])
/-- Of whole weights all but the last one are worth half of it at least, and less than all. -/
theorem may_init {p : List Nat} {x d : Nat} (h : MayW d (p ++ [x])) : 0 < x ∧ totW p + 2 ^ (x - 1) = 2 ^ d ∧ 2 ^ (d - 1) ≤ totW p ∧ p ≠ [] ∧ p.length ≤ 255 ∧ x ≤ d := by
  obtain ⟨h2, h256, ⟨q, y, he, hy⟩, ht, h1, h11, hm⟩ := h
  obtain ⟨rfl, e⟩ := List.append_inj' he rfl
  obtain rfl : x = y := by injection e
  have hx := hm x (by simp)
  rw [totW_append, totW_one, wor_pos hy] at ht
  have h3 : 2 ^ (x - 1) ≤ 2 ^ (d - 1) := Nat.pow_le_pow_right (by omega) (by omega)
  have h4 : 2 ^ d = 2 * 2 ^ (d - 1) := by obtain ⟨e, rfl⟩ : ∃ e, d = e + 1 := ⟨d - 1, by omega⟩; rw [Nat.pow_succ, Nat.add_sub_cancel]; omega
  simp at h2 h256
  refine ⟨hy, ht, by omega, ?_, by omega, hx⟩
  rintro rfl
  simp at h2

section
theorem bel_append (w : Nat) (a b : List Nat) : bel w (a ++ b) = bel w a + bel w b := by
  induction a with
  | nil => simp [bel]
  | cons x r ih => rw [List.cons_append, bel, bel, ih]; omega
theorem cnw_append (w : Nat) (a b : List Nat) : cnw w (a ++ b) = cnw w a + cnw w b := by
  induction a with
  | nil => simp [cnw]
  | cons x r ih => rw [List.cons_append, cnw, cnw, ih]; omega
theorem bel_one (l : List Nat) : bel 1 l = 0 := by
  induction l with
  | nil => rfl
  | cons x r ih =>
    rw [bel, ih]
    split
    · obtain rfl : x = 0 := by omega
      rfl
    · rfl
theorem bel_succ (w : Nat) (hw : 0 < w) (l : List Nat) : bel (w + 1) l = bel w l + cnw w l * 2 ^ (w - 1) := by
  induction l with
  | nil => simp [bel, cnw]
  | cons x r ih =>
    rw [bel, bel, cnw, ih, Nat.add_mul]
    by_cases h1 : x < w
    · rw [if_pos (by omega), if_pos h1, if_neg (by omega)]; omega
    · by_cases h2 : x = w
      · subst h2
        rw [if_pos (by omega), if_neg h1, if_pos rfl, wor_pos hw]; omega
      · rw [if_neg (by omega), if_neg h1, if_neg h2]; omega
theorem bel_all {d : Nat} (l : List Nat) (h : ∀ w ∈ l, w ≤ d) : bel (d + 1) l = totW l := by
  induction l with
  | nil => rfl
  | cons x r ih =>
    rw [bel, totW, ih fun w hw => h w (by simp [hw]), if_pos (by have := h x (by simp); omega)]
theorem bel_mono {v w : Nat} (h : v ≤ w) (l : List Nat) : bel v l ≤ bel w l := by
  induction l with
  | nil => exact Nat.le_refl _
  | cons x r ih =>
    rw [bel, bel]
    by_cases h1 : x < v
    · rw [if_pos h1, if_pos (by omega)]; omega
    · rw [if_neg h1]; omega
theorem cnw_le (w : Nat) (l : List Nat) : cnw w l ≤ l.length := by
  induction l with
  | nil => exact Nat.le_refl _
  | cons x r ih => rw [cnw, List.length_cons]; split <;> omega
theorem cnw_take_lt {l : List Nat} {s : Nat} (h : s < l.length) : cnw l[s] (l.take s) < cnw l[s] l := by
  have e : l = l.take s ++ l[s] :: l.drop (s + 1) := by rw [← List.drop_eq_getElem_cons h, List.take_append_drop]
  have e2 : cnw l[s] l = cnw l[s] (l.take s ++ l[s] :: l.drop (s + 1)) := congrArg (cnw l[s]) e
  rw [e2, cnw_append, cnw, if_pos rfl]
  omega
theorem cnw_take_mono (w : Nat) (l : List Nat) {s t : Nat} (h : s ≤ t) : cnw w (l.take s) ≤ cnw w (l.take t) := by
  have e : l.take t = l.take s ++ (l.take t).drop s := by
    have := (List.take_append_drop s (l.take t)).symm
    rw [List.take_take, Nat.min_eq_left h] at this
    exact this
  rw [e, cnw_append]
  omega
theorem cnw_take_succ (w : Nat) (l : List Nat) (k : Nat) (h : k < l.length) : cnw w (l.take (k + 1)) = cnw w (l.take k) + (if l[k] = w then 1 else 0) := by
  rw [List.take_succ_eq_append_getElem h, cnw_append, cnw, cnw]
  omega
end

/-- Where the symbol s stands among all of them, by rising weights, and by rising symbols. -/
def posW (l : List Nat) (w s : Nat) : Nat := bel w l + cnw w (l.take s) * 2 ^ (w - 1)
/-- The code of symbol s. -/
def codeW (l : List Nat) (s : Nat) : Nat := if l.getD s 0 = 0 then 0 else posW l (l.getD s 0) s / 2 ^ (l.getD s 0 - 1)
/-- How many bits it has. -/
def bitsW (d : Nat) (l : List Nat) (s : Nat) : Nat := if l.getD s 0 = 0 then 0 else d + 1 - l.getD s 0

theorem codeW_eq {l : List Nat} {s : Nat} (h : 0 < l.getD s 0) : codeW l s = bel (l.getD s 0) l / 2 ^ (l.getD s 0 - 1) + cnw (l.getD s 0) (l.take s) := by
  unfold codeW posW
  rw [if_neg (by omega), Nat.add_mul_div_right _ _ (Nat.two_pow_pos _)]
theorem above_dvd (w : Nat) (l : List Nat) (hw : 0 < w) : ∃ k, totW l = bel w l + k * 2 ^ (w - 1) := by
  induction l with
  | nil => exact ⟨0, by simp [totW, bel]⟩
  | cons x r ih =>
    obtain ⟨k, hk⟩ := ih
    by_cases h : x < w
    · exact ⟨k, by rw [totW, bel, if_pos h, hk]; omega⟩
    · refine ⟨k + 2 ^ (x - w), ?_⟩
      rw [totW, bel, if_neg h, hk, wor_pos (by omega), Nat.add_mul, ← Nat.pow_add, show x - w + (w - 1) = x - 1 by omega]
      omega
/-- Nothing is left when it is shifted. -/
theorem bel_dvd {d w : Nat} {l : List Nat} (ht : totW l = 2 ^ d) (hw : 0 < w) (hwd : w ≤ d + 1) : bel w l = bel w l / 2 ^ (w - 1) * 2 ^ (w - 1) := by
  obtain ⟨k, hk⟩ := above_dvd w l hw
  have h1 : 2 ^ (w - 1) ∣ totW l := by rw [ht]; exact Nat.pow_dvd_pow 2 (by omega)
  have h2 : 2 ^ (w - 1) ∣ bel w l := (Nat.dvd_add_left (Nat.dvd_mul_left _ k)).1 (hk ▸ h1)
  exact (Nat.div_mul_cancel h2).symm

section
variable {d : Nat} {l : List Nat} {s t : Nat}
theorem posW_end (h : MayW d l) (hs : s < l.length) (hp : 0 < l.getD s 0) : posW l (l.getD s 0) s + 2 ^ (l.getD s 0 - 1) ≤ 2 ^ d := by
  have hg : l.getD s 0 = l[s] := by simp [List.getD, hs]
  rw [hg] at hp ⊢
  have h1 := cnw_take_lt hs
  have h2 := bel_succ l[s] hp l
  have h3 := bel_mono (show l[s] + 1 ≤ d + 1 by have := h.2.2.2.2.2.2 _ (List.getElem_mem hs); omega) l
  rw [bel_all l h.2.2.2.2.2.2, h.2.2.2.1] at h3
  have h4 : (cnw l[s] (l.take s) + 1) * 2 ^ (l[s] - 1) ≤ cnw l[s] l * 2 ^ (l[s] - 1) := Nat.mul_le_mul_right _ h1
  rw [Nat.add_mul, Nat.one_mul] at h4
  unfold posW
  omega
/-- A code has no more than its bits. -/
theorem codeW_lt (h : MayW d l) (hs : s < l.length) : codeW l s < 2 ^ bitsW d l s := by
  unfold codeW bitsW
  split
  · exact Nat.two_pow_pos _
  · next hp =>
    have h1 := posW_end h hs (by omega)
    have hw : l.getD s 0 ≤ d := by
      have hg : l.getD s 0 = l[s] := by simp [List.getD, hs]
      rw [hg]
      exact h.2.2.2.2.2.2 _ (List.getElem_mem hs)
    have hpp := Nat.two_pow_pos (l.getD s 0 - 1)
    rw [Nat.div_lt_iff_lt_mul hpp, ← Nat.pow_add, show d + 1 - l.getD s 0 + (l.getD s 0 - 1) = d by omega]
    omega
/-- No code is the beginning of another one. -/
theorem codeW_free (h : MayW d l) (hs : s < l.length) (ht : t < l.length) (hst : s ≠ t) (h1 : 0 < l.getD s 0) (h2 : 0 < l.getD t 0) (h3 : l.getD t 0 ≤ l.getD s 0) :
    codeW l t / 2 ^ (l.getD s 0 - l.getD t 0) ≠ codeW l s := by
  have e : codeW l t / 2 ^ (l.getD s 0 - l.getD t 0) = posW l (l.getD t 0) t / 2 ^ (l.getD s 0 - 1) := by
    unfold codeW
    rw [if_neg (by omega), Nat.div_div_eq_div_mul, ← Nat.pow_add, show l.getD t 0 - 1 + (l.getD s 0 - l.getD t 0) = l.getD s 0 - 1 by omega]
  rw [e, codeW_eq h1]
  have hsd : l.getD s 0 ≤ d := by
    have hg : l.getD s 0 = l[s] := by simp [List.getD, hs]
    rw [hg]
    exact h.2.2.2.2.2.2 _ (List.getElem_mem hs)
  have hpp := Nat.two_pow_pos (l.getD s 0 - 1)
  have hdv := bel_dvd h.2.2.2.1 h1 (show l.getD s 0 ≤ d + 1 by omega)
  have hgt : l.getD t 0 = l[t] := by simp [List.getD, ht]
  have hgs : l.getD s 0 = l[s] := by simp [List.getD, hs]
  by_cases heq : l.getD t 0 = l.getD s 0
  · have e2 : posW l (l.getD t 0) t = bel (l.getD s 0) l + cnw (l.getD s 0) (l.take t) * 2 ^ (l.getD s 0 - 1) := by unfold posW; rw [heq]
    rw [e2, Nat.add_mul_div_right _ _ hpp]
    have hc : cnw (l.getD s 0) (l.take t) ≠ cnw (l.getD s 0) (l.take s) := by
      rcases Nat.lt_or_gt_of_ne hst with q | q
      · have a1 := cnw_take_mono l[s] l (show s + 1 ≤ t by omega)
        have a2 := cnw_take_succ l[s] l s hs
        rw [if_pos rfl] at a2
        rw [hgs]
        omega
      · have a1 := cnw_take_mono l[t] l (show t + 1 ≤ s by omega)
        have a2 := cnw_take_succ l[t] l t ht
        rw [if_pos rfl] at a2
        rw [← heq, hgt]
        omega
    omega
  · have hlt : posW l (l.getD t 0) t < bel (l.getD s 0) l := by
      have a1 := cnw_take_lt ht
      have a2 := bel_succ l[t] (by omega) l
      have a3 := bel_mono (show l[t] + 1 ≤ l.getD s 0 by omega) l
      have a4 : (cnw l[t] (l.take t) + 1) * 2 ^ (l[t] - 1) ≤ cnw l[t] l * 2 ^ (l[t] - 1) := Nat.mul_le_mul_right _ a1
      have a5 := Nat.two_pow_pos (l[t] - 1)
      rw [Nat.add_mul, Nat.one_mul] at a4
      unfold posW
      rw [hgt]
      omega
    have : posW l (l.getD t 0) t / 2 ^ (l.getD s 0 - 1) < bel (l.getD s 0) l / 2 ^ (l.getD s 0 - 1) := by
      rw [Nat.div_lt_iff_lt_mul hpp, ← hdv]
      exact hlt
    omega
end
end Go.Proofs.Ytafdfjacfodbnaa
