/- The contracts of WtPlain, WtRow, WtCmp, WtCat, WtCatB, WtSortP, WtPack, WtPairs, WtIns, WtRot, WtRot2, WtSymL, WtSymR, WtSym, WtStable, WtTally, WtSing, WtSingles, WtLens, WtMax, WtNum, WtWhole, WtDepth, WtCodes, WtOfP, WtOf, WtWrite, WtHalves, WtRef, WtRefC, in one text. -/
import Derived.Test.YtjpjbbbpmhcgnaaPileB
import Derived.Test.YtjpjbbbpmhcgnaaPileA
import Derived.Shelf.SlSortCmp.QuietGrown
import Derived.Test.YtjpjbbbpmhcgnaaRows
import Derived.WalkKit
import Derived.WalkSpells
import Derived.WalkLawsBesides
import Derived.Lib.Hide
import Derived.Deep.LoopGhost
import Derived.Deep.CutRange
import Derived.Deep.DeepCutAuto
import Derived.Outline
import Derived.Deep.RegionHeld3
import Derived.Deep.RegionWith
import Derived.BigRegion
import Derived.Test.YtjpjbbbpmhcgnaaPileC
/- Weights on lists: what they are worth, their depth, the last one, and codes. Nothing of the program's code is named here. -/
namespace Go.Proofs.Ytjpjbbbpmhcgnaa

/-- What a weight is worth. -/
def wor (w : Nat) : Nat := if w = 0 then 0 else 2 ^ (w - 1)
/-- What weights are worth together. -/
def totW : List Nat → Nat
  | [] => 0
  | w :: r => wor w + totW r
/-- What those below a weight are worth together. -/
def bel (w : Nat) : List Nat → Nat
  | [] => 0
  | v :: r => (if v < w then wor v else 0) + bel w r
/-- How many are a weight. -/
def cnw (w : Nat) : List Nat → Nat
  | [] => 0
  | v :: r => (if v = w then 1 else 0) + cnw w r
/-- Whole weights that may be, of a depth. -/
def MayW (d : Nat) (l : List Nat) : Prop := 2 ≤ l.length ∧ l.length ≤ 256 ∧ (∃ p x, l = p ++ [x] ∧ 0 < x) ∧ totW l = 2 ^ d ∧ 1 ≤ d ∧ d ≤ 11 ∧ ∀ w ∈ l, w ≤ d

theorem wor_zero : wor 0 = 0 := rfl
theorem wor_pos {w : Nat} (h : 0 < w) : wor w = 2 ^ (w - 1) := if_neg (by omega)
theorem wor_succ (w : Nat) : wor (w + 1) = 2 ^ w := wor_pos (by omega)
theorem wor_gt {w : Nat} (h : 0 < w) : 1 ≤ wor w := by rw [wor_pos h]; exact Nat.two_pow_pos _
theorem wor_le (w : Nat) (h : w ≤ 11) : wor w ≤ 1024 := by
  unfold wor
  split
  · omega
  · exact Nat.pow_le_pow_right (by omega) (show w - 1 ≤ 10 by omega)
theorem wor_inj {x y : Nat} (hx : 0 < x) (hy : 0 < y) (h : wor x = wor y) : x = y := by
  rw [wor_pos hx, wor_pos hy] at h
  have := (Nat.pow_right_inj (by omega : 1 < 2)).1 h
  omega
theorem totW_append (a b : List Nat) : totW (a ++ b) = totW a + totW b := by
  induction a with
  | nil => simp [totW]
  | cons x r ih => rw [List.cons_append, totW, totW, ih]; omega
theorem totW_one (x : Nat) : totW [x] = wor x := by simp [totW]
theorem totW_mem {w : Nat} {l : List Nat} (h : w ∈ l) : wor w ≤ totW l := by
  induction l with
  | nil => cases h
  | cons x r ih =>
    rw [totW]
    rcases List.mem_cons.1 h with rfl | h
    · omega
    · have := ih h
      omega
theorem totW_le (l : List Nat) (h : ∀ w ∈ l, w ≤ 11) : totW l ≤ 1024 * l.length := by
  induction l with
  | nil => simp [totW]
  | cons x r ih =>
    have h1 := wor_le x (h x (by simp))
    have h2 := ih fun w hw => h w (by simp [hw])
    rw [totW, List.length_cons]
    omega
theorem totW_take (l : List Nat) (k : Nat) (h : k < l.length) : totW (l.take (k + 1)) = totW (l.take k) + wor l[k] := by
  rw [List.take_succ_eq_append_getElem h, totW_append, totW_one]
theorem le_of_wor {w d : Nat} (h : wor w < 2 ^ d) : w ≤ d := by
  rcases Nat.eq_zero_or_pos w with h0 | h0
  · omega
  · rw [wor_pos h0] at h
    have := (Nat.pow_lt_pow_iff_right (by omega : 1 < 2)).1 h
    omega

/-- Weights behind which just one makes them whole. -/
theorem may_last {l : List Nat} {d k : Nat} (h0 : l ≠ []) (hl : l.length ≤ 255) (ht : 1 ≤ totW l) (hd : totW l + 2 ^ k = 2 ^ d) (h1 : 1 ≤ d) (h11 : d ≤ 11) : MayW d (l ++ [k + 1]) := by
  have hlt : totW l < 2 ^ d := by have := Nat.two_pow_pos k; omega
  have hk : k < d := (Nat.pow_lt_pow_iff_right (by omega : 1 < 2)).1 (by omega)
  have hn := List.length_pos_iff.2 h0
  refine ⟨by simp; omega, by simp; omega, ⟨l, k + 1, rfl, by omega⟩, by rw [totW_append, totW_one, wor_succ]; omega, h1, h11, fun w hw => ?_⟩
  rcases List.mem_append.1 hw with h | h
  · have := totW_mem h
    exact le_of_wor (by omega)
  · simp at h
    omega
/-- The depth is told by what they are worth. -/
theorem may_depth {l : List Nat} {d d' : Nat} (h : MayW d l) (h' : totW l = 2 ^ d') : d = d' := by
  have := h.2.2.2.1
  exact (Nat.pow_right_inj (by omega : 1 < 2)).1 (by rw [← this, h'])
/-- Of whole weights all but the last one are worth half of it at least, and less than all. -/
theorem may_init {p : List Nat} {x d : Nat} (h : MayW d (p ++ [x])) : 0 < x ∧ totW p + 2 ^ (x - 1) = 2 ^ d ∧ 2 ^ (d - 1) ≤ totW p ∧ p ≠ [] ∧ p.length ≤ 255 ∧ x ≤ d := by
  obtain ⟨h2, h256, ⟨q, y, he, hy⟩, ht, h1, h11, hm⟩ := h
  obtain ⟨rfl, e⟩ := List.append_inj' he rfl
  obtain rfl : x = y := by injection e
  have hx := hm x (by simp)
  rw [totW_append, totW_one, wor_pos hy] at ht
  have h3 : 2 ^ (x - 1) ≤ 2 ^ (d - 1) := Nat.pow_le_pow_right (by omega) (by omega)
  have h4 : 2 ^ d = 2 * 2 ^ (d - 1) := by obtain ⟨e, rfl⟩ : ∃ e, d = e + 1 := ⟨d - 1, by omega⟩; rw [Nat.pow_succ, Nat.add_sub_cancel]; omega
  simp at h2 h256
  refine ⟨hy, ht, by omega, ?_, by omega, hx⟩
  rintro rfl
  simp at h2

section
theorem bel_append (w : Nat) (a b : List Nat) : bel w (a ++ b) = bel w a + bel w b := by
  induction a with
  | nil => simp [bel]
  | cons x r ih => rw [List.cons_append, bel, bel, ih]; omega
theorem cnw_append (w : Nat) (a b : List Nat) : cnw w (a ++ b) = cnw w a + cnw w b := by
  induction a with
  | nil => simp [cnw]
  | cons x r ih => rw [List.cons_append, cnw, cnw, ih]; omega
theorem bel_one (l : List Nat) : bel 1 l = 0 := by
  induction l with
  | nil => rfl
  | cons x r ih =>
    rw [bel, ih]
    split
    · obtain rfl : x = 0 := by omega
      rfl
    · rfl
theorem bel_succ (w : Nat) (hw : 0 < w) (l : List Nat) : bel (w + 1) l = bel w l + cnw w l * 2 ^ (w - 1) := by
  induction l with
  | nil => simp [bel, cnw]
  | cons x r ih =>
    rw [bel, bel, cnw, ih, Nat.add_mul]
    by_cases h1 : x < w
    · rw [if_pos (by omega), if_pos h1, if_neg (by omega)]; omega
    · by_cases h2 : x = w
      · subst h2
        rw [if_pos (by omega), if_neg h1, if_pos rfl, wor_pos hw]; omega
      · rw [if_neg (by omega), if_neg h1, if_neg h2]; omega
theorem bel_all {d : Nat} (l : List Nat) (h : ∀ w ∈ l, w ≤ d) : bel (d + 1) l = totW l := by
  induction l with
  | nil => rfl
  | cons x r ih =>
    rw [bel, totW, ih fun w hw => h w (by simp [hw]), if_pos (by have := h x (by simp); omega)]
theorem bel_mono {v w : Nat} (h : v ≤ w) (l : List Nat) : bel v l ≤ bel w l := by
  induction l with
  | nil => exact Nat.le_refl _
  | cons x r ih =>
    rw [bel, bel]
    by_cases h1 : x < v
    · rw [if_pos h1, if_pos (by omega)]; omega
    · rw [if_neg h1]; omega
theorem cnw_le (w : Nat) (l : List Nat) : cnw w l ≤ l.length := by
  induction l with
  | nil => exact Nat.le_refl _
  | cons x r ih => rw [cnw, List.length_cons]; split <;> omega
theorem cnw_take_lt {l : List Nat} {s : Nat} (h : s < l.length) : cnw l[s] (l.take s) < cnw l[s] l := by
  have e : l = l.take s ++ l[s] :: l.drop (s + 1) := by rw [← List.drop_eq_getElem_cons h, List.take_append_drop]
  have e2 : cnw l[s] l = cnw l[s] (l.take s ++ l[s] :: l.drop (s + 1)) := congrArg (cnw l[s]) e
  rw [e2, cnw_append, cnw, if_pos rfl]
  omega
theorem cnw_take_mono (w : Nat) (l : List Nat) {s t : Nat} (h : s ≤ t) : cnw w (l.take s) ≤ cnw w (l.take t) := by
  have e : l.take t = l.take s ++ (l.take t).drop s := by
    have := (List.take_append_drop s (l.take t)).symm
    rw [List.take_take, Nat.min_eq_left h] at this
    exact this
  rw [e, cnw_append]
  omega
theorem cnw_take_succ (w : Nat) (l : List Nat) (k : Nat) (h : k < l.length) : cnw w (l.take (k + 1)) = cnw w (l.take k) + (if l[k] = w then 1 else 0) := by
  rw [List.take_succ_eq_append_getElem h, cnw_append, cnw, cnw]
  omega
end

/-- Where the symbol s stands among all of them, by rising weights, and by rising symbols. -/
def posW (l : List Nat) (w s : Nat) : Nat := bel w l + cnw w (l.take s) * 2 ^ (w - 1)
/-- The code of symbol s. -/
def codeW (l : List Nat) (s : Nat) : Nat := if l.getD s 0 = 0 then 0 else posW l (l.getD s 0) s / 2 ^ (l.getD s 0 - 1)
/-- How many bits it has. -/
def bitsW (d : Nat) (l : List Nat) (s : Nat) : Nat := if l.getD s 0 = 0 then 0 else d + 1 - l.getD s 0

theorem codeW_eq {l : List Nat} {s : Nat} (h : 0 < l.getD s 0) : codeW l s = bel (l.getD s 0) l / 2 ^ (l.getD s 0 - 1) + cnw (l.getD s 0) (l.take s) := by
  unfold codeW posW
  rw [if_neg (by omega), Nat.add_mul_div_right _ _ (Nat.two_pow_pos _)]
theorem above_dvd (w : Nat) (l : List Nat) (hw : 0 < w) : ∃ k, totW l = bel w l + k * 2 ^ (w - 1) := by
  induction l with
  | nil => exact ⟨0, by simp [totW, bel]⟩
  | cons x r ih =>
    obtain ⟨k, hk⟩ := ih
    by_cases h : x < w
    · exact ⟨k, by rw [totW, bel, if_pos h, hk]; omega⟩
    · refine ⟨k + 2 ^ (x - w), ?_⟩
      rw [totW, bel, if_neg h, hk, wor_pos (by omega), Nat.add_mul, ← Nat.pow_add, show x - w + (w - 1) = x - 1 by omega]
      omega
/-- Nothing is left when it is shifted. -/
theorem bel_dvd {d w : Nat} {l : List Nat} (ht : totW l = 2 ^ d) (hw : 0 < w) (hwd : w ≤ d + 1) : bel w l = bel w l / 2 ^ (w - 1) * 2 ^ (w - 1) := by
  obtain ⟨k, hk⟩ := above_dvd w l hw
  have h1 : 2 ^ (w - 1) ∣ totW l := by rw [ht]; exact Nat.pow_dvd_pow 2 (by omega)
  have h2 : 2 ^ (w - 1) ∣ bel w l := (Nat.dvd_add_left (Nat.dvd_mul_left _ k)).1 (hk ▸ h1)
  exact (Nat.div_mul_cancel h2).symm

section
variable {d : Nat} {l : List Nat} {s t : Nat}
theorem posW_end (h : MayW d l) (hs : s < l.length) (hp : 0 < l.getD s 0) : posW l (l.getD s 0) s + 2 ^ (l.getD s 0 - 1) ≤ 2 ^ d := by
  have hg : l.getD s 0 = l[s] := by simp [List.getD, hs]
  rw [hg] at hp ⊢
  have h1 := cnw_take_lt hs
  have h2 := bel_succ l[s] hp l
  have h3 := bel_mono (show l[s] + 1 ≤ d + 1 by have := h.2.2.2.2.2.2 _ (List.getElem_mem hs); omega) l
  rw [bel_all l h.2.2.2.2.2.2, h.2.2.2.1] at h3
  have h4 : (cnw l[s] (l.take s) + 1) * 2 ^ (l[s] - 1) ≤ cnw l[s] l * 2 ^ (l[s] - 1) := Nat.mul_le_mul_right _ h1
  rw [Nat.add_mul, Nat.one_mul] at h4
  unfold posW
  omega
/-- A code has no more than its bits. -/
theorem codeW_lt (h : MayW d l) (hs : s < l.length) : codeW l s < 2 ^ bitsW d l s := by
  unfold codeW bitsW
  split
  · exact Nat.two_pow_pos _
  · next hp =>
    have h1 := posW_end h hs (by omega)
    have hw : l.getD s 0 ≤ d := by
      have hg : l.getD s 0 = l[s] := by simp [List.getD, hs]
      rw [hg]
      exact h.2.2.2.2.2.2 _ (List.getElem_mem hs)
    have hpp := Nat.two_pow_pos (l.getD s 0 - 1)
    rw [Nat.div_lt_iff_lt_mul hpp, ← Nat.pow_add, show d + 1 - l.getD s 0 + (l.getD s 0 - 1) = d by omega]
    omega
/-- No code is the beginning of another one. -/
theorem codeW_free (h : MayW d l) (hs : s < l.length) (ht : t < l.length) (hst : s ≠ t) (h1 : 0 < l.getD s 0) (h2 : 0 < l.getD t 0) (h3 : l.getD t 0 ≤ l.getD s 0) :
    codeW l t / 2 ^ (l.getD s 0 - l.getD t 0) ≠ codeW l s := by
  have e : codeW l t / 2 ^ (l.getD s 0 - l.getD t 0) = posW l (l.getD t 0) t / 2 ^ (l.getD s 0 - 1) := by
    unfold codeW
    rw [if_neg (by omega), Nat.div_div_eq_div_mul, ← Nat.pow_add, show l.getD t 0 - 1 + (l.getD s 0 - l.getD t 0) = l.getD s 0 - 1 by omega]
  rw [e, codeW_eq h1]
  have hsd : l.getD s 0 ≤ d := by
    have hg : l.getD s 0 = l[s] := by simp [List.getD, hs]
    rw [hg]
    exact h.2.2.2.2.2.2 _ (List.getElem_mem hs)
  have hpp := Nat.two_pow_pos (l.getD s 0 - 1)
  have hdv := bel_dvd h.2.2.2.1 h1 (show l.getD s 0 ≤ d + 1 by omega)
  have hgt : l.getD t 0 = l[t] := by simp [List.getD, ht]
  have hgs : l.getD s 0 = l[s] := by simp [List.getD, hs]
  by_cases heq : l.getD t 0 = l.getD s 0
  · have e2 : posW l (l.getD t 0) t = bel (l.getD s 0) l + cnw (l.getD s 0) (l.take t) * 2 ^ (l.getD s 0 - 1) := by unfold posW; rw [heq]
    rw [e2, Nat.add_mul_div_right _ _ hpp]
    have hc : cnw (l.getD s 0) (l.take t) ≠ cnw (l.getD s 0) (l.take s) := by
      rcases Nat.lt_or_gt_of_ne hst with q | q
      · have a1 := cnw_take_mono l[s] l (show s + 1 ≤ t by omega)
        have a2 := cnw_take_succ l[s] l s hs
        rw [if_pos rfl] at a2
        rw [hgs]
        omega
      · have a1 := cnw_take_mono l[t] l (show t + 1 ≤ s by omega)
        have a2 := cnw_take_succ l[t] l t ht
        rw [if_pos rfl] at a2
        rw [← heq, hgt]
        omega
    omega
  · have hlt : posW l (l.getD t 0) t < bel (l.getD s 0) l := by
      have a1 := cnw_take_lt ht
      have a2 := bel_succ l[t] (by omega) l
      have a3 := bel_mono (show l[t] + 1 ≤ l.getD s 0 by omega) l
      have a4 : (cnw l[t] (l.take t) + 1) * 2 ^ (l[t] - 1) ≤ cnw l[t] l * 2 ^ (l[t] - 1) := Nat.mul_le_mul_right _ a1
      have a5 := Nat.two_pow_pos (l[t] - 1)
      rw [Nat.add_mul, Nat.one_mul] at a4
      unfold posW
      rw [hgt]
      omega
    have : posW l (l.getD t 0) t / 2 ^ (l.getD s 0 - 1) < bel (l.getD s 0) l / 2 ^ (l.getD s 0 - 1) := by
      rw [Nat.div_lt_iff_lt_mul hpp, ← hdv]
      exact hlt
    omega
end
end Go.Proofs.Ytjpjbbbpmhcgnaa

/- A row of bundles, each of two cells, that is turned in place: what a sort's steps read of it and write. -/
namespace Go.Proofs.Ytjpjbbbpmhcgnaa
open Go.RowKit Go.Sort

/-- A bundle: how often, the slice of its symbols, these symbols, and whether it is of one symbol. -/
structure Pk where
  n : Nat
  a : Option Addr
  l : Nat
  c : Nat
  y : List UInt8
  s : Bool
instance : Inhabited Pk := ⟨⟨0, none, 0, 0, [], false⟩⟩
def pcell (x : Pk) : List Value := [.int .u64 (x.n : Int), .slice x.a x.l x.c]
theorem pcell_len (x : Pk) : (pcell x).length = 2 := rfl
theorem pcell_one (x : Pk) : ∀ v ∈ pcell x, v.oneCell' = true := by
  intro v hv
  simp [pcell] at hv
  rcases hv with rfl | rfl <;> rfl

/-- The exchange of two elements. -/
def exch (xs : List Pk) (i j : Nat) : List Pk := (xs.set i xs[j]!).set j xs[i]!
theorem exch_len (xs : List Pk) (i j : Nat) : (exch xs i j).length = xs.length := by simp [exch]
theorem exch_get (xs : List Pk) (i j k : Nat) (hk : k < xs.length) : (exch xs i j)[k]! = if k = j then xs[i]! else if k = i then xs[j]! else xs[k]! := by
  unfold exch
  rw [getElem!_pos _ k (by simpa using hk), List.getElem_set, List.getElem_set]
  by_cases h1 : k = j
  · rw [if_pos h1.symm, if_pos h1]
  · rw [if_neg (fun e => h1 e.symm), if_neg h1]
    by_cases h2 : k = i
    · rw [if_pos h2.symm, if_pos h2]
    · rw [if_neg (fun e => h2 e.symm), if_neg h2, getElem!_pos xs k hk]
theorem getI_mid (p s : List Pk) (x : Pk) (i : Nat) (hi : i = p.length) : (p ++ x :: s)[i]! = x := by
  subst hi
  rw [getElem!_pos _ _ (by simp)]
  simp
theorem exch_at (p m s : List Pk) (x y : Pk) (i j : Nat) (hi : i = p.length) (hj : j = p.length + 1 + m.length) : exch (p ++ x :: (m ++ y :: s)) i j = p ++ y :: (m ++ x :: s) := by
  have e1 : (p ++ x :: (m ++ y :: s))[i]! = x := getI_mid _ _ _ _ hi
  have e2 : (p ++ x :: (m ++ y :: s))[j]! = y := by
    have := getI_mid (p ++ x :: m) s y j (by simp; omega)
    simpa using this
  unfold exch
  rw [e1, e2]
  subst hi
  rw [List.set_append_right _ _ (Nat.le_refl _), Nat.sub_self, List.set_cons_zero, List.set_append_right _ _ (by omega), hj, show p.length + 1 + m.length - p.length = m.length + 1 by omega, List.set_cons_succ, List.set_append_right _ _ (Nat.le_refl _), Nat.sub_self, List.set_cons_zero]
theorem exch_comm (xs : List Pk) (i j : Nat) : exch xs i j = exch xs j i := by
  apply List.ext_getElem
  · simp [exch_len]
  · intro k h1 h2
    have hk : k < xs.length := by simpa [exch_len] using h1
    have a := exch_get xs i j k hk
    have b := exch_get xs j i k hk
    rw [getElem!_pos _ k (by simpa [exch_len] using hk)] at a b
    rw [a, b]
    by_cases h : k = j
    · by_cases h' : k = i
      · rw [if_pos h, if_pos h', ← h, ← h']
      · rw [if_pos h, if_neg h', if_pos h]
    · rw [if_neg h]
      by_cases h' : k = i
      · rw [if_pos h', if_pos h']
      · rw [if_neg h', if_neg h', if_neg h]

section
variable {w0 W : World} {g n c : Nat} {xs : List Pk}
theorem grown_grow (W : World) (q : Nat) (os : Array Obj) (r : Option Nat) : W.grownBy (grow (W.drewN q) os) r :=
  ⟨rfl, rfl, rfl, by rw [size_grow]; exact Nat.le_add_right _ _, fun k hk _ => heap_grow_old (W.drewN q) os hk⟩
theorem grownBy_trans {a b d : World} {r : Option Nat} (h : a.grownBy b r) (h' : b.grownBy d r) : a.grownBy d r :=
  ⟨h'.os.trans h.os, h'.tape.trans h.tape, h'.output.trans h.output, Nat.le_trans h.size h'.size, fun k hk hr => (h'.block k (by have := h.size; omega) hr).trans (h.block k hk hr)⟩
theorem grown_set (W : World) (i : Nat) (v : Value) : W.grownBy (W.setCell ⟨g, i, none⟩ v) (some g) :=
  ⟨rfl, rfl, rfl, by simp, fun k _ hk => Below.heap_setCell W _ v k (fun e => hk (by rw [e]))⟩
end
end Go.Proofs.Ytjpjbbbpmhcgnaa

/- How two bundles are compared. -/
namespace Go.Proofs.Ytjpjbbbpmhcgnaa
open Go.RowKit Go.Sort

/-- What a comparison of two numbers answers. -/
def cmpN (x y : Nat) : Int := if x < y then -1 else if y < x then 1 else 0
theorem cmpN_lt (x y : Nat) : decide (cmpN x y < 0) = decide (x < y) := by
  unfold cmpN
  by_cases h : x < y
  · simp [h]
  · rw [if_neg h]
    by_cases h' : y < x
    · simp [h, h']
    · simp [h, h']

end Go.Proofs.Ytjpjbbbpmhcgnaa

/- slices.Grow of nothing and slices.Concat of two slices, of bundles. -/
namespace Go.Proofs.Ytjpjbbbpmhcgnaa
open Go.RowKit

theorem below_grown {B : Nat} {a b d : World} {r : Option Nat} (h : Below B a b) (hg : b.grownBy d r) (hr : ∀ k, r = some k → B ≤ k) (hs : B ≤ b.heap.size) : Below B a d :=
  ⟨hg.os.trans h.os, hg.tape.trans h.tape, hg.output.trans h.output, Nat.le_trans h.size hg.size, fun k hk => (hg.block k (by omega) (fun e => by have := hr k e.symm; omega)).trans (h.block k hk)⟩

section
variable {w : World}
end
end Go.Proofs.Ytjpjbbbpmhcgnaa

/- slices.Grow of nothing and slices.Concat of two slices, of bytes. -/
namespace Go.Proofs.Ytjpjbbbpmhcgnaa
open Go.RowKit

/-- A byte's cells. -/
def bcel (x : UInt8) : List Value := [cel x]
theorem bcel_len (x : UInt8) : (bcel x).length = 1 := rfl
theorem bcel_one (x : UInt8) : ∀ v ∈ bcel x, v.oneCell' = true := by
  intro v hv
  rw [List.mem_singleton.1 hv]
  rfl
theorem info_byte : (Try.prog.info? 5).map (fun i => (i.zero, i.size, i.bytes)) = some (some (.int .u8 0), 1, 1) := by kernel_rfl

section
variable {w : World}
end
end Go.Proofs.Ytjpjbbbpmhcgnaa

/- Lists of bundles: in order; alike but for the order of those that are not as often; turning two parts round. No program here. -/
namespace Go.Proofs.Ytjpjbbbpmhcgnaa

/-- By rising number. -/
def Srt (xs : List Pk) : Prop := xs.Pairwise fun x y => x.n ≤ y.n
/-- Those of each number are the same, in the same order. -/
def Alike (xs ys : List Pk) : Prop := ∀ k : Nat, xs.filter (fun x => x.n == k) = ys.filter (fun x => x.n == k)

theorem Alike.refl (xs : List Pk) : Alike xs xs := fun _ => rfl
theorem Alike.symm {xs ys : List Pk} (h : Alike xs ys) : Alike ys xs := fun k => (h k).symm
theorem Alike.trans {xs ys zs : List Pk} (h : Alike xs ys) (h' : Alike ys zs) : Alike xs zs := fun k => (h k).trans (h' k)
theorem Alike.append {a b c d : List Pk} (h : Alike a b) (h' : Alike c d) : Alike (a ++ c) (b ++ d) := fun k => by
  rw [List.filter_append, List.filter_append, h k, h' k]
theorem Alike.mem {xs ys : List Pk} (h : Alike xs ys) {x : Pk} (hx : x ∈ xs) : x ∈ ys := by
  have h1 : x ∈ xs.filter (fun z => z.n == x.n) := List.mem_filter.2 ⟨hx, by simp⟩
  rw [h x.n] at h1
  exact (List.mem_filter.1 h1).1
theorem Alike.turn {u v : List Pk} (h : ∀ x ∈ u, ∀ y ∈ v, y.n < x.n) : Alike (u ++ v) (v ++ u) := fun k => by
  rw [List.filter_append, List.filter_append]
  by_cases hu : ∃ x ∈ u, x.n = k
  · obtain ⟨x, hx, hk⟩ := hu
    have hv : v.filter (fun z => z.n == k) = [] := by
      rw [List.filter_eq_nil_iff]
      intro y hy he
      have := h x hx y hy
      have he' : y.n = k := by simpa using he
      omega
    rw [hv, List.append_nil, List.nil_append]
  · have hu' : u.filter (fun z => z.n == k) = [] := by
      rw [List.filter_eq_nil_iff]
      intro y hy he
      exact hu ⟨y, hy, by simpa using he⟩
    rw [hu', List.append_nil, List.nil_append]

theorem Srt.append {a b : List Pk} (ha : Srt a) (hb : Srt b) (h : ∀ x ∈ a, ∀ y ∈ b, x.n ≤ y.n) : Srt (a ++ b) := List.pairwise_append.2 ⟨ha, hb, h⟩
theorem Srt.left {a b : List Pk} (h : Srt (a ++ b)) : Srt a := (List.pairwise_append.1 h).1
theorem Srt.right {a b : List Pk} (h : Srt (a ++ b)) : Srt b := (List.pairwise_append.1 h).2.1
theorem Srt.cross {a b : List Pk} (h : Srt (a ++ b)) : ∀ x ∈ a, ∀ y ∈ b, x.n ≤ y.n := (List.pairwise_append.1 h).2.2
theorem srt_nil : Srt [] := List.Pairwise.nil
theorem srt_one (x : Pk) : Srt [x] := List.pairwise_singleton _ _
theorem Srt.get {a : List Pk} (h : Srt a) {i j : Nat} (hij : i ≤ j) (hj : j < a.length) : a[i]!.n ≤ a[j]!.n := by
  rw [getElem!_pos a i (by omega), getElem!_pos a j hj]
  rcases Nat.lt_or_ge i j with q | q
  · exact List.pairwise_iff_getElem.1 h i j (by omega) hj q
  · obtain rfl : i = j := by omega
    exact Nat.le_refl _
/-- Two lists that are in order, and alike, are the same. -/
theorem Srt.same : ∀ {xs ys : List Pk}, Srt xs → Srt ys → Alike xs ys → xs = ys
  | [], ys, _, _, h => by
    rcases ys with _ | ⟨y, r⟩
    · rfl
    · have := h.symm.mem (x := y) (by simp)
      simp at this
  | x :: r, [], _, _, h => by
    have := h.mem (x := x) (by simp)
    simp at this
  | x :: r, y :: t, hx, hy, h => by
    have hxy : x.n = y.n := by
      have h1 := h.mem (x := x) (by simp)
      have h2 := h.symm.mem (x := y) (by simp)
      have a1 : y.n ≤ x.n := by
        rcases List.mem_cons.1 h1 with rfl | q
        · exact Nat.le_refl _
        · exact (List.pairwise_cons.1 hy).1 _ q
      have a2 : x.n ≤ y.n := by
        rcases List.mem_cons.1 h2 with rfl | q
        · exact Nat.le_refl _
        · exact (List.pairwise_cons.1 hx).1 _ q
      omega
    have hk := h x.n
    rw [List.filter_cons, List.filter_cons, if_pos (by simp), if_pos (by simp [hxy])] at hk
    injection hk with e1 e2
    subst e1
    have hr : Alike r t := fun k => by
      have hk := h k
      rw [List.filter_cons, List.filter_cons] at hk
      by_cases hq : (x.n == k) = true
      · rw [if_pos hq, if_pos hq] at hk
        injection hk
      · rw [if_neg hq, if_neg hq] at hk
        exact hk
    rw [Srt.same (List.pairwise_cons.1 hx).2 (List.pairwise_cons.1 hy).2 hr]

theorem getI_left (p s : List Pk) (i : Nat) (h : i < p.length) : (p ++ s)[i]! = p[i]! := by
  rw [getElem!_pos _ i (by simp; omega), getElem!_pos p i h, List.getElem_append_left h]
theorem getI_right (p s : List Pk) (i : Nat) (h : p.length ≤ i) (h2 : i < p.length + s.length) : (p ++ s)[i]! = s[i - p.length]! := by
  rw [getElem!_pos _ i (by simp; omega), getElem!_pos s _ (by omega), List.getElem_append_right h]
theorem getI_take (s : List Pk) (k i : Nat) (h : i < k) (h2 : i < s.length) : (s.take k)[i]! = s[i]! := by
  rw [getElem!_pos _ i (by simp; omega), getElem!_pos s _ h2, List.getElem_take]
theorem mem_get {s : List Pk} {x : Pk} (h : x ∈ s) : ∃ i, i < s.length ∧ s[i]! = x := by
  obtain ⟨i, hi, e⟩ := List.getElem_of_mem h
  exact ⟨i, hi, by rw [getElem!_pos s i hi, e]⟩
theorem get_mem (s : List Pk) (i : Nat) (h : i < s.length) : s[i]! ∈ s := by
  rw [getElem!_pos s i h]
  exact List.getElem_mem h

section
variable {w0 W : World} {g n c : Nat}
end
end Go.Proofs.Ytjpjbbbpmhcgnaa

/- Package-merge on lists: how often a symbol is in the rarest bundles is the length of its code, and the lengths make a whole tree. No program here. -/
namespace Go.Proofs.Ytjpjbbbpmhcgnaa

theorem Alike.perm {xs ys : List Pk} (h : Alike xs ys) : xs.Perm ys := by
  haveI : DecidableEq Pk := fun a b => Classical.propDecidable (a = b)
  rw [List.perm_iff_count]
  intro z
  have := congrArg (List.count z) (h z.n)
  rwa [List.count_filter (by simp), List.count_filter (by simp)] at this
theorem Alike.filter {xs ys : List Pk} (h : Alike xs ys) (p : Pk → Bool) : Alike (xs.filter p) (ys.filter p) := fun k => by
  have := congrArg (List.filter p) (h k)
  rw [List.filter_filter, List.filter_filter] at this
  rw [List.filter_filter, List.filter_filter]
  have e : (fun a => (a.n == k) && p a) = fun a : Pk => p a && (a.n == k) := by
    funext a
    rw [Bool.and_comm]
  rw [e]
  exact this
theorem Srt.filter {xs : List Pk} (h : Srt xs) (p : Pk → Bool) : Srt (xs.filter p) := List.Pairwise.filter p h

/-- How often a symbol is in bundles. -/
def cn (v : UInt8) : List Pk → Nat
  | [] => 0
  | x :: r => x.y.count v + cn v r
theorem cn_append (v : UInt8) (a b : List Pk) : cn v (a ++ b) = cn v a + cn v b := by
  induction a with
  | nil => simp [cn]
  | cons x r ih => rw [List.cons_append, cn, cn, ih]; omega
theorem cn_split (v : UInt8) (p : Pk → Bool) (a : List Pk) : cn v a = cn v (a.filter p) + cn v (a.filter fun x => !p x) := by
  induction a with
  | nil => rfl
  | cons x r ih =>
    rw [cn, List.filter_cons, List.filter_cons]
    cases h : p x
    · simp [cn, ih]; omega
    · simp [cn, ih]; omega

/-- P are the bundles of B put together two by two. -/
def PairsOf (B P : List Pk) : Prop := P.length = B.length / 2 ∧ ∀ i, i < P.length → P[i]!.n = B[2 * i]!.n + B[2 * i + 1]!.n ∧ P[i]!.y = B[2 * i]!.y ++ B[2 * i + 1]!.y ∧ P[i]!.s = false
theorem take_succI (a : List Pk) (k : Nat) (h : k < a.length) : a.take (k + 1) = a.take k ++ [a[k]!] := by
  rw [List.take_succ_eq_append_getElem h, getElem!_pos a k h]
theorem pairs_cn {B P : List Pk} (h : PairsOf B P) (v : UInt8) : ∀ j, j ≤ P.length → cn v (P.take j) = cn v (B.take (2 * j))
  | 0, _ => by simp [cn]
  | j + 1, hj => by
    have hl := h.1
    rw [take_succI P j (by omega), cn_append, pairs_cn h v j (by omega), show 2 * (j + 1) = 2 * j + 1 + 1 by omega, take_succI B (2 * j + 1) (by omega), take_succI B (2 * j) (by omega), cn_append, cn_append]
    have := (h.2 j (by omega)).2.1
    simp only [cn, this, List.count_append]
    omega
theorem pairs_srt {B P : List Pk} (h : PairsOf B P) (hB : Srt B) : Srt P := by
  have hl := h.1
  refine List.pairwise_iff_getElem.2 fun i j hi hj hij => ?_
  have a := (h.2 i hi).1
  have b := (h.2 j hj).1
  rw [getElem!_pos P i hi] at a
  rw [getElem!_pos P j hj] at b
  have c1 := hB.get (i := 2 * i) (j := 2 * j) (by omega) (by omega)
  have c2 := hB.get (i := 2 * i + 1) (j := 2 * j + 1) (by omega) (by omega)
  omega

/-- The first symbol. -/
def sy (x : Pk) : UInt8 := x.y.headD 0
/-- Bundles of one symbol each, in order. -/
structure Sing (S : List Pk) : Prop where
  srt : Srt S
  pos : ∀ x ∈ S, 0 < x.n
  tag : ∀ x ∈ S, x.s = true
  one : ∀ x ∈ S, x.y = [sy x]
  dist : (S.map sy).Nodup
/-- The bundles of a level. -/
def Lev (S : List Pk) : Nat → List Pk → Prop
  | 0, B => B = S
  | k + 1, B => ∃ B' P, Lev S k B' ∧ PairsOf B' P ∧ Srt B ∧ Alike (S ++ P) B

theorem sing_cn {S : List Pk} (hS : ∀ x ∈ S, x.y = [sy x]) (v : UInt8) : cn v S = (S.map sy).count v := by
  induction S with
  | nil => rfl
  | cons x r ih =>
    rw [cn, ih fun z hz => hS z (by simp [hz]), List.map_cons, List.count_cons, hS x (by simp), List.count_singleton]
    omega

section
variable {S : List Pk}
theorem lev_pos (hS : Sing S) : ∀ (k : Nat) (B : List Pk), Lev S k B → Srt B ∧ ∀ x ∈ B, 0 < x.n
  | 0, B, h => by
    have h : B = S := h
    subst h
    exact ⟨hS.srt, hS.pos⟩
  | k + 1, B, ⟨B', P, h, hP, hB, hA⟩ => by
    refine ⟨hB, fun x hx => ?_⟩
    rcases List.mem_append.1 (hA.symm.mem hx) with q | q
    · exact hS.pos x q
    · obtain ⟨i, hi, rfl⟩ := mem_get q
      have a := (hP.2 i hi).1
      have hl := hP.1
      have := (lev_pos hS k B' h).2 _ (get_mem B' (2 * i) (by omega))
      omega
theorem lev_len : ∀ (k : Nat) (B : List Pk), Lev S (k + 1) B → ∃ B', Lev S k B' ∧ B.length = S.length + B'.length / 2
  | k, B, ⟨B', P, h, hP, hB, hA⟩ => ⟨B', h, by
    have := hA.perm.length_eq
    rw [List.length_append, hP.1] at this
    exact this.symm⟩
theorem lev_step {k c c' : Nat} (hc : c ≤ 2 * c') (h : ∀ B, Lev S k B → 2 * S.length ≤ B.length + c) : ∀ B, Lev S (k + 1) B → 2 * S.length ≤ B.length + c' := fun B hB => by
  obtain ⟨B', h', l⟩ := lev_len k B hB
  have := h B' h'
  omega
/-- There are enough bundles in the last level. -/
theorem lev_enough (h256 : S.length ≤ 256) {B : List Pk} (h : Lev S 10 B) : 2 * S.length ≤ B.length + 1 := by
  have b0 : ∀ B, Lev S 0 B → 2 * S.length ≤ B.length + 256 := fun B h => by
    have h : B = S := h
    subst h
    omega
  have b1 := lev_step (c := 256) (c' := 128) (by decide) b0
  have b2 := lev_step (c := 128) (c' := 64) (by decide) b1
  have b3 := lev_step (c := 64) (c' := 32) (by decide) b2
  have b4 := lev_step (c := 32) (c' := 16) (by decide) b3
  have b5 := lev_step (c := 16) (c' := 8) (by decide) b4
  have b6 := lev_step (c := 8) (c' := 4) (by decide) b5
  have b7 := lev_step (c := 4) (c' := 2) (by decide) b6
  have b8 := lev_step (c := 2) (c' := 1) (by decide) b7
  have b9 := lev_step (c := 1) (c' := 1) (by decide) b8
  exact lev_step (c := 1) (c' := 1) (by decide) b9 B h
theorem lev_le : ∀ (k : Nat) (B : List Pk), Lev S k B → B.length ≤ 2 * S.length
  | 0, B, h => by
    have h : B = S := h
    subst h
    omega
  | k + 1, B, h => by
    obtain ⟨B', h', l⟩ := lev_len k B h
    have := lev_le k B' h'
    omega

/-- What is true of the m rarest bundles of a level: i of them are of one symbol. -/
structure Cut (S : List Pk) (k m : Nat) (T : List Pk) (i : Nat) : Prop where
  le : i ≤ S.length
  pos : ∀ p, p < S.length → (0 < cn (sy S[p]!) T ↔ p < i)
  top : ∀ v, cn v T ≤ k + 1
  sum : (S.map fun x => 2 ^ (k + 1) - 2 ^ (k + 1 - cn (sy x) T)).sum = m * 2 ^ k
  all : 2 * S.length ≤ m + 2 → 2 ≤ S.length → i = S.length
  mem : ∀ p, p < i → S[p]! ∈ T
  non : ∀ v, v ∉ S.map sy → cn v T = 0

theorem cn_take (hS : Sing S) (i p : Nat) (hi : i ≤ S.length) (hp : p < S.length) : cn (sy S[p]!) (S.take i) = if p < i then 1 else 0 := by
  rw [sing_cn (fun x hx => hS.one x (List.mem_of_mem_take hx))]
  have hd : ((S.take i).map sy).Nodup := by
    rw [List.map_take]
    exact hS.dist.sublist (List.take_sublist _ _)
  by_cases h : p < i
  · rw [if_pos h, List.Nodup.count hd, if_pos]
    rw [List.mem_map]
    exact ⟨S[p]!, by rw [← getI_take S i p h hp]; exact get_mem _ _ (by simp; omega), rfl⟩
  · rw [if_neg h, List.count_eq_zero]
    intro hm
    obtain ⟨x, hx, e⟩ := List.mem_map.1 hm
    obtain ⟨q, hq, rfl⟩ := mem_get hx
    simp at hq
    rw [getI_take S i q (by omega) (by omega)] at e
    have h1 := List.pairwise_iff_getElem.1 hS.dist q p (by simp; omega) (by simpa using hp) (by omega)
    apply h1
    rw [List.getElem_map, List.getElem_map, ← getElem!_pos S q (by omega), ← getElem!_pos S p hp]
    exact e
theorem cn_take_le (hS : Sing S) (i : Nat) (v : UInt8) : cn v (S.take i) ≤ 1 := by
  rw [sing_cn (fun x hx => hS.one x (List.mem_of_mem_take hx))]
  have hd : ((S.take i).map sy).Nodup := by
    rw [List.map_take]
    exact hS.dist.sublist (List.take_sublist _ _)
  rw [List.Nodup.count hd]
  split <;> omega
theorem cn_take_non (hS : Sing S) (i : Nat) (v : UInt8) (hv : v ∉ S.map sy) : cn v (S.take i) = 0 := by
  rw [sing_cn (fun x hx => hS.one x (List.mem_of_mem_take hx)), List.count_eq_zero]
  intro h
  rw [List.map_take] at h
  exact hv (List.mem_of_mem_take h)
theorem sum_zero (xs : List Pk) : (xs.map fun _ => 0).sum = 0 := by
  induction xs with
  | nil => rfl
  | cons x r ih => rw [List.map_cons, List.sum_cons, ih]
theorem flt_len (p : Pk → Bool) (xs : List Pk) : xs.length = (xs.filter p).length + (xs.filter fun x => !p x).length := by
  induction xs with
  | nil => rfl
  | cons x r ih =>
    rw [List.length_cons, List.filter_cons, List.filter_cons]
    cases h : p x
    · simp; omega
    · simp; omega
theorem sum_const_add (xs : List Pk) (f g : Pk → Nat) (c : Nat) (h : ∀ x ∈ xs, f x = c + g x) : (xs.map f).sum = xs.length * c + (xs.map g).sum := by
  induction xs with
  | nil => simp
  | cons x r ih =>
    rw [List.map_cons, List.map_cons, List.sum_cons, List.sum_cons, ih fun z hz => h z (by simp [hz]), h x (by simp), List.length_cons, Nat.add_mul]
    omega
theorem sum_split (xs : List Pk) (i : Nat) (hi : i ≤ xs.length) (f g : Pk → Nat) (c : Nat) (h1 : ∀ p, p < i → f xs[p]! = c + g xs[p]!) (h2 : ∀ p, i ≤ p → p < xs.length → f xs[p]! = g xs[p]!) : (xs.map f).sum = i * c + (xs.map g).sum := by
  have e := List.take_append_drop i xs
  have a1 : ((xs.take i).map f).sum = i * c + ((xs.take i).map g).sum := by
    rw [sum_const_add (xs.take i) f g c fun x hx => ?_, List.length_take, Nat.min_eq_left hi]
    obtain ⟨q, hq, rfl⟩ := mem_get hx
    simp at hq
    rw [getI_take xs i q (by omega) (by omega)]
    exact h1 q (by omega)
  have a2 : ((xs.drop i).map f).sum = ((xs.drop i).map g).sum := by
    congr 1
    refine List.map_congr_left fun x hx => ?_
    obtain ⟨q, hq, rfl⟩ := mem_get hx
    simp at hq
    have : (xs.drop i)[q]! = xs[i + q]! := by
      rw [getElem!_pos _ q (by simp; omega), getElem!_pos xs (i + q) (by omega), List.getElem_drop]
    rw [this]
    exact h2 _ (by omega) (by omega)
  have b1 : (xs.map f).sum = ((xs.take i).map f).sum + ((xs.drop i).map f).sum := by
    rw [← List.sum_append, ← List.map_append, e]
  have b2 : (xs.map g).sum = ((xs.take i).map g).sum + ((xs.drop i).map g).sum := by
    rw [← List.sum_append, ← List.map_append, e]
  omega

theorem lev_cut (hS : Sing S) : ∀ (k : Nat) (B : List Pk) (m : Nat), Lev S k B → m ≤ B.length → ∃ i, Cut S k m (B.take m) i
  | 0, B, m, h, hm => by
    have h : B = S := h
    subst h
    have hc := fun p hp => cn_take hS m p hm hp
    refine ⟨m, hm, fun p hp => ?_, fun v => cn_take_le hS m v, ?_, fun q1 q2 => by omega, fun p hp => ?_, fun v hv => cn_take_non hS m v hv⟩
    · rw [hc p hp]
      split <;> omega
    · rw [sum_split B m hm _ (fun _ => 0) 1 (fun p hp => by rw [hc p (by omega), if_pos hp]) (fun p h1 h2 => by rw [hc p h2, if_neg (by omega)]), sum_zero]
      simp
    · rw [← getI_take B m p hp (by omega)]
      exact get_mem _ _ (by simp; omega)
  | k + 1, B, m, ⟨B', P, h, hP, hB, hA⟩, hm => by
    have hpl := hP.1
    have hB' := lev_pos hS k B' h
    have f1 : B.filter (fun x => x.s) = S := by
      refine (Srt.same hS.srt (hB.filter _) ?_).symm
      have := hA.filter fun x => x.s
      rw [List.filter_append] at this
      rw [List.filter_eq_self.2 fun x hx => hS.tag x hx, List.filter_eq_nil_iff.2 (fun x hx => by
        obtain ⟨i, hi, rfl⟩ := mem_get hx
        rw [(hP.2 i hi).2.2]
        simp), List.append_nil] at this
      exact this
    have f2 : B.filter (fun x => !x.s) = P := by
      refine (Srt.same (pairs_srt hP hB'.1) (hB.filter _) ?_).symm
      have := hA.filter fun x => !x.s
      rw [List.filter_append] at this
      rw [List.filter_eq_nil_iff.2 (fun x hx => by rw [hS.tag x hx]; simp), List.filter_eq_self.2 (fun x hx => by
        obtain ⟨i, hi, rfl⟩ := mem_get hx
        rw [(hP.2 i hi).2.2]
        rfl), List.nil_append] at this
      exact this
    have eB := List.take_append_drop m B
    have g1 : (B.take m).filter (fun x => x.s) ++ (B.drop m).filter (fun x => x.s) = S := by rw [← List.filter_append, eB, f1]
    have g2 : (B.take m).filter (fun x => !x.s) ++ (B.drop m).filter (fun x => !x.s) = P := by rw [← List.filter_append, eB, f2]
    obtain ⟨i, hi⟩ : ∃ i, i = ((B.take m).filter fun x => x.s).length := ⟨_, rfl⟩
    obtain ⟨j, hj⟩ : ∃ j, j = ((B.take m).filter fun x => !x.s).length := ⟨_, rfl⟩
    have t1 : (B.take m).filter (fun x => x.s) = S.take i := by rw [← g1, hi, List.take_left]
    have t2 : (B.take m).filter (fun x => !x.s) = P.take j := by rw [← g2, hj, List.take_left]
    have t3 : (B.drop m).filter (fun x => x.s) = S.drop i := by rw [← g1, hi, List.drop_left]
    have hiS : i ≤ S.length := by rw [← g1, List.length_append]; omega
    have hjP : j ≤ P.length := by rw [← g2, List.length_append]; omega
    have hij : i + j = m := by
      have := flt_len (fun x => x.s) (B.take m)
      rw [List.length_take, Nat.min_eq_left hm] at this
      omega
    obtain ⟨i', hc⟩ := lev_cut hS k B' (2 * j) h (by omega)
    have hcn : ∀ v, cn v (B.take m) = cn v (S.take i) + cn v (B'.take (2 * j)) := fun v => by
      rw [cn_split v (fun x => x.s), t1, t2, pairs_cn hP v j hjP]
    have hii : i' ≤ i := by
      rcases Nat.lt_or_ge i i' with q | q
      · exfalso
        have hm1 := hc.mem (i' - 1) (by omega)
        obtain ⟨a, ha, ea⟩ := mem_get hm1
        simp at ha
        have hle := hc.le
        rw [getI_take _ _ _ (by omega) (by omega)] at ea
        have o1 := hB'.1.get (i := a) (j := 2 * j - 1) (by omega) (by omega)
        have o2 := hB'.2 _ (get_mem B' (2 * j - 2) (by omega))
        have o3 := (hP.2 (j - 1) (by omega)).1
        rw [show 2 * (j - 1) = 2 * j - 2 by omega, show 2 * j - 2 + 1 = 2 * j - 1 by omega] at o3
        rw [ea] at o1
        have m1 : S[i' - 1]! ∈ B.drop m := by
          have : S[i' - 1]! ∈ S.drop i := by
            have e : (S.drop i)[i' - 1 - i]! = S[i' - 1]! := by
              rw [getElem!_pos _ _ (by simp; omega), getElem!_pos S (i' - 1) (by omega), List.getElem_drop]
              congr 1
              omega
            rw [← e]
            exact get_mem _ _ (by simp; omega)
          rw [← t3] at this
          exact (List.mem_filter.1 this).1
        have m2 : P[j - 1]! ∈ B.take m := by
          have : P[j - 1]! ∈ P.take j := by
            rw [← getI_take P j (j - 1) (by omega) (by omega)]
            exact get_mem _ _ (by simp; omega)
          rw [← t2] at this
          exact (List.mem_filter.1 this).1
        have hsp : Srt (B.take m ++ B.drop m) := by rw [eB]; exact hB
        have := hsp.cross _ m2 _ m1
        omega
      · exact q
    refine ⟨i, hiS, fun p hp => ?_, fun v => ?_, ?_, fun q1 q2 => ?_, fun p hp => ?_, fun v hv => ?_⟩
    · rw [hcn, cn_take hS i p hiS hp]
      have := hc.pos p hp
      by_cases q : p < i
      · rw [if_pos q]; omega
      · rw [if_neg q]; omega
    · rw [hcn]
      have a := cn_take_le hS i v
      have b := hc.top v
      omega
    · rw [sum_split S i hiS _ (fun x => 2 ^ (k + 1) - 2 ^ (k + 1 - cn (sy x) (B'.take (2 * j)))) (2 ^ (k + 1)) (fun p hp => ?_) (fun p h1 h2 => ?_), hc.sum, ← hij, Nat.add_mul]
      · congr 1
        rw [Nat.pow_succ, Nat.mul_comm 2 j, Nat.mul_assoc, Nat.mul_comm 2]
      · rw [hcn, cn_take hS i p hiS (by omega), if_pos hp, show k + 1 + 1 - (1 + cn (sy S[p]!) (B'.take (2 * j))) = k + 1 - cn (sy S[p]!) (B'.take (2 * j)) by omega, Nat.pow_succ 2 (k + 1)]
        have : 2 ^ (k + 1 - cn (sy S[p]!) (B'.take (2 * j))) ≤ 2 ^ (k + 1) := Nat.pow_le_pow_right (by omega) (by omega)
        omega
      · have z : cn (sy S[p]!) (B'.take (2 * j)) = 0 := by
          have := hc.pos p h2
          omega
        rw [hcn, cn_take hS i p hiS h2, if_neg (by omega), z]
        simp
    · rcases Nat.lt_or_ge i S.length with q | q
      · exfalso
        have := hc.all (by omega) q2
        omega
      · omega
    · have : S[p]! ∈ S.take i := by
        rw [← getI_take S i p hp (by omega)]
        exact get_mem _ _ (by simp; omega)
      rw [← t1] at this
      exact (List.mem_filter.1 this).1
    · rw [hcn, cn_take_non hS i v hv, hc.non v hv]

theorem sum_both (f : Pk → Nat) (c : Nat) (xs : List Pk) (h : ∀ x ∈ xs, f x ≤ c) : (xs.map fun x => c - f x).sum + (xs.map f).sum = xs.length * c := by
  induction xs with
  | nil => simp
  | cons x r ih =>
    have a := ih fun z hz => h z (by simp [hz])
    have b := h x (by simp)
    simp only [List.map_cons, List.sum_cons, List.length_cons, Nat.add_mul]
    omega
/-- What the rarest bundles of the last level tell: each symbol has a code of 1 to 11 bits, and the codes make a whole tree. -/
theorem pack_all (hS : Sing S) (h2 : 2 ≤ S.length) (h256 : S.length ≤ 256) {B T : List Pk} (h : Lev S 10 B) (hT : T = B.take (2 * S.length - 2)) :
    (∀ x ∈ S, 1 ≤ cn (sy x) T ∧ cn (sy x) T ≤ 11) ∧ (∀ v, v ∉ S.map sy → cn v T = 0) ∧ (S.map fun x => 2 ^ (11 - cn (sy x) T)).sum = 2 ^ 11 := by
  obtain ⟨i, hc⟩ := lev_cut hS 10 B (2 * S.length - 2) h (by have := lev_enough h256 h; omega)
  rw [← hT] at hc
  have hi := hc.all (by omega) h2
  have hp : ∀ x ∈ S, 1 ≤ cn (sy x) T := fun x hx => by
    obtain ⟨p, hp, rfl⟩ := mem_get hx
    exact (hc.pos p hp).2 (by omega)
  refine ⟨fun x hx => ⟨hp x hx, hc.top _⟩, hc.non, ?_⟩
  have hs := hc.sum
  have e := sum_both (fun x => 2 ^ (10 + 1 - cn (sy x) T)) (2 ^ (10 + 1)) S fun x _ => Nat.pow_le_pow_right (by omega) (by omega)
  rw [hs] at e
  have e10 : (2 : Nat) ^ 10 = 1024 := by decide
  have e11 : (2 : Nat) ^ (10 + 1) = 2048 := by decide
  have e11' : (2 : Nat) ^ 11 = 2048 := by decide
  rw [e10, e11] at e
  rw [e11']
  have e2 : (S.map fun x => 2 ^ (10 + 1 - cn (sy x) T)).sum = 2048 := by omega
  exact e2
end
end Go.Proofs.Ytjpjbbbpmhcgnaa

/- Bundles put together two by two. -/
namespace Go.Proofs.Ytjpjbbbpmhcgnaa
open Go.RowKit

/-- The symbols of bundles lie in memory of the call's own. -/
def Has (w : World) (base : Nat) (xs : List Pk) : Prop := ∀ x ∈ xs, OwR 1 bcel w 5 base (.slice x.a x.l x.c) x.y
theorem Has.below {w w' : World} {base B : Nat} {xs : List Pk} (h : Has w base xs) (hb : Below B w w') (hB : w.heap.size ≤ B) : Has w' base xs := fun x hx => (h x hx).below hb hB
theorem Has.mono {w : World} {base b : Nat} {xs : List Pk} (h : Has w base xs) (hb : b ≤ base) : Has w b xs := fun x hx => (h x hx).mono hb
theorem Has.append {w : World} {base : Nat} {xs ys : List Pk} (h : Has w base xs) (h' : Has w base ys) : Has w base (xs ++ ys) := fun x hx => (List.mem_append.1 hx).elim (h x) (h' x)
theorem DatR.two {w : World} {lo hi : Nat} {A : Option Addr} {xs : List Pk} (h : DatR 2 pcell w lo hi A xs) (hx : 0 < xs.length) :
    ∃ d o, A = some ⟨d, o, none⟩ ∧ lo ≤ d ∧ d < hi ∧ ∀ j, j < xs.length → w.cell? ⟨d, o + j * 2, none⟩ = some (.int .u64 (xs[j]!.n : Int)) ∧ w.cell? ⟨d, o + j * 2 + 1, none⟩ = some (.slice xs[j]!.a xs[j]!.l xs[j]!.c) := by
  obtain ⟨d, o, hA, h1, h2, hc⟩ := h hx
  refine ⟨d, o, hA, h1, h2, fun j hj => ?_⟩
  rw [getElem!_pos xs j hj]
  exact ⟨hc j hj 0 _ rfl, hc j hj 1 _ rfl⟩

/-- Two blocks that have just been made. -/
theorem boxes2 (wr : World) (T : TypeId) (p q r t : Value) :
    (((wr.alloc (.cells #[p, q] T)).alloc (.cells #[r, t] T)).drew.cell? ⟨wr.heap.size, 0, none⟩ = some p ∧ ((wr.alloc (.cells #[p, q] T)).alloc (.cells #[r, t] T)).drew.cell? ⟨wr.heap.size, 1, none⟩ = some q) ∧
    (((wr.alloc (.cells #[p, q] T)).alloc (.cells #[r, t] T)).drew.cell? ⟨wr.heap.size + 1, 0, none⟩ = some r ∧ ((wr.alloc (.cells #[p, q] T)).alloc (.cells #[r, t] T)).drew.cell? ⟨wr.heap.size + 1, 1, none⟩ = some t) ∧
    Below wr.heap.size wr ((wr.alloc (.cells #[p, q] T)).alloc (.cells #[r, t] T)).drew ∧ ((wr.alloc (.cells #[p, q] T)).alloc (.cells #[r, t] T)).drew.heap.size = wr.heap.size + 2 := by
  have h1 := Box.new (wr.alloc (.cells #[p, q] T)) T #[r, t]
  rw [World.size_alloc] at h1
  have h2 := (Box.new wr T #[p, q]).alloc (.cells #[r, t] T)
  exact ⟨⟨h2.cell 0, h2.cell 1⟩, ⟨h1.cell 0, h1.cell 1⟩, (((Below.refl _ _).alloc (Nat.le_refl _) _).alloc (by simp) _).drew, by simp⟩

theorem keep4g {wr w3 w5 w7 : World} {o : Obj} {a b : Nat} {r : Option Nat} {p q t u : Value} (hc : (w5.cell? ⟨a, 0, none⟩ = some p ∧ w5.cell? ⟨a, 1, none⟩ = some q) ∧ (w5.cell? ⟨b, 0, none⟩ = some t ∧ w5.cell? ⟨b, 1, none⟩ = some u)) (hg : (w5.alloc o).grownBy w7 r)
    (h3 : w3.heap.size = wr.heap.size + 3) (h5 : Below w3.heap.size w3 w5) (hr : ∀ k, r = some k → k < wr.heap.size) (ha : wr.heap.size ≤ a) (hb : wr.heap.size ≤ b) (ha2 : a < wr.heap.size + 3) (hb2 : b < wr.heap.size + 3) :
    (w7.cell? ⟨a, 0, none⟩ = some p ∧ w7.cell? ⟨a, 1, none⟩ = some q) ∧ (w7.cell? ⟨b, 0, none⟩ = some t ∧ w7.cell? ⟨b, 1, none⟩ = some u) := by
  have hs := h5.size
  have ka : w7.heap[a]? = w5.heap[a]? := (hg.block a (by rw [World.size_alloc]; omega) (fun e => by have := hr a e.symm; omega)).trans (Below.heap_alloc w5 o a (by omega))
  have kb : w7.heap[b]? = w5.heap[b]? := (hg.block b (by rw [World.size_alloc]; omega) (fun e => by have := hr b e.symm; omega)).trans (Below.heap_alloc w5 o b (by omega))
  exact ⟨⟨(World.cell?_of_block ka).trans hc.1.1, (World.cell?_of_block ka).trans hc.1.2⟩, (World.cell?_of_block kb).trans hc.2.1, (World.cell?_of_block kb).trans hc.2.2⟩
theorem le_of_len {P : List Pk} {k n : Nat} (h : P.length = k) (h1 : 2 * k ≤ n) (h2 : n ≤ 10000) : P.length + 1 ≤ 1099511627776 := by omega
theorem le_of_sz {w wr w3 w5 : World} (h : w.heap.size ≤ wr.heap.size) (h3 : w3.heap.size = wr.heap.size + 3) (h5 : Below w3.heap.size w3 w5) (o : Obj) : w.heap.size ≤ (w5.alloc o).heap.size := by
  have := h5.size
  rw [World.size_alloc]
  omega
theorem keep4 {w w' : World} {B a b : Nat} {p q r t : Value} (h : Below B w w') (ha : a < B) (hb : b < B) (hc : (w.cell? ⟨a, 0, none⟩ = some p ∧ w.cell? ⟨a, 1, none⟩ = some q) ∧ (w.cell? ⟨b, 0, none⟩ = some r ∧ w.cell? ⟨b, 1, none⟩ = some t)) :
    (w'.cell? ⟨a, 0, none⟩ = some p ∧ w'.cell? ⟨a, 1, none⟩ = some q) ∧ (w'.cell? ⟨b, 0, none⟩ = some r ∧ w'.cell? ⟨b, 1, none⟩ = some t) :=
  ⟨⟨(World.cell?_of_block (h.block a ha)).trans hc.1.1, (World.cell?_of_block (h.block a ha)).trans hc.1.2⟩, (World.cell?_of_block (h.block b hb)).trans hc.2.1, (World.cell?_of_block (h.block b hb)).trans hc.2.2⟩

/-- What two bundles put together are. -/
def PairAt (xs P : List Pk) (i : Nat) : Prop := P[i]!.n = xs[2 * i]!.n + xs[2 * i + 1]!.n ∧ P[i]!.y = xs[2 * i]!.y ++ xs[2 * i + 1]!.y ∧ P[i]!.s = false
section
variable {w : World}
end
end Go.Proofs.Ytjpjbbbpmhcgnaa

/- The insertion sort of a part of a row. -/
namespace Go.Proofs.Ytjpjbbbpmhcgnaa
open Go.RowKit Go.Sort

theorem snoc_cases {α : Type} (l : List α) : l = [] ∨ ∃ p x, l = p ++ [x] := by
  rcases List.eq_nil_or_concat l with h | ⟨p, x, h⟩
  · exact .inl h
  · exact .inr ⟨p, x, by rw [h]; simp⟩

section
variable {w0 W : World} {g n c : Nat}
end
end Go.Proofs.Ytjpjbbbpmhcgnaa

/- Two parts of a row change places: of the same length, and of any. -/
namespace Go.Proofs.Ytjpjbbbpmhcgnaa
open Go.RowKit Go.Sort

section
variable {w0 W : World} {g n c : Nat}
end
end Go.Proofs.Ytjpjbbbpmhcgnaa

/- Two parts of a row change places, of any lengths. -/
namespace Go.Proofs.Ytjpjbbbpmhcgnaa
open Go.RowKit Go.Sort

section
variable {w0 W : World} {g n c : Nat}
end
end Go.Proofs.Ytjpjbbbpmhcgnaa

/- Merging where the left part is of one element. -/
namespace Go.Proofs.Ytjpjbbbpmhcgnaa
open Go.RowKit Go.Sort

theorem getI_ab {p A B s : List Pk} {a m b t : Nat} (ha : a = p.length) (hm : m = a + A.length) (hb : b = m + B.length) :
    (a ≤ t → t < m → (p ++ A ++ B ++ s)[t]! = A[t - a]!) ∧ (m ≤ t → t < b → (p ++ A ++ B ++ s)[t]! = B[t - m]!) := by
  subst ha hm hb
  refine ⟨fun h1 h2 => ?_, fun h1 h2 => ?_⟩
  · rw [getI_left _ s t (by simp; omega), getI_left _ B t (by simp; omega), getI_right p A t h1 (by omega)]
  · rw [getI_left _ s t (by simp; omega), getI_right _ B t (by simp; omega) (by simp; omega)]
    simp

section
variable {w0 W : World} {g n c : Nat}
end
end Go.Proofs.Ytjpjbbbpmhcgnaa

/- Merging where the right part is of one element. -/
namespace Go.Proofs.Ytjpjbbbpmhcgnaa
open Go.RowKit Go.Sort

section
variable {w0 W : World} {g n c : Nat}
end
end Go.Proofs.Ytjpjbbbpmhcgnaa

/- Merging of two parts that are in order. -/
namespace Go.Proofs.Ytjpjbbbpmhcgnaa
open Go.RowKit Go.Sort

theorem int_ne_one {x : Int} (h : x ≠ 1) : (x == 1) = false := by rw [beq_eq_false_iff_ne]; exact h

/-- Where the parts are cut: what was found. -/
theorem sym_cut {p A B s : List Pk} {a m b mid st : Nat} (ha : a = p.length) (hm : m = a + A.length) (hb : b = m + B.length) (hA : Srt A) (hB : Srt B)
    (h1 : a ≤ st) (h2 : st ≤ m) (h3 : st ≤ mid) (h4 : mid + m ≤ st + b)
    (hlo : a < st → mid + m < st + b → (p ++ A ++ B ++ s)[st - 1]!.n ≤ (p ++ A ++ B ++ s)[mid + m - st]!.n)
    (hhi : st < m → st < mid → (p ++ A ++ B ++ s)[mid + m - 1 - st]!.n < (p ++ A ++ B ++ s)[st]!.n) :
    ∃ A1 u v B2, A = A1 ++ u ∧ B = v ++ B2 ∧ A1.length = st - a ∧ u.length = m - st ∧ v.length = mid - st ∧ B2.length = b + st - mid - m ∧ (∀ x ∈ u, ∀ y ∈ v, y.n < x.n) ∧ (∀ x ∈ A1, ∀ y ∈ B2, x.n ≤ y.n) := by
  have k1 : (A.take (st - a)).length = st - a := by simp; omega
  have k2 : (A.drop (st - a)).length = m - st := by simp; omega
  have k3 : (B.take (mid - st)).length = mid - st := by simp; omega
  have k4 : (B.drop (mid - st)).length = b + st - mid - m := by simp; omega
  have eA : A = A.take (st - a) ++ A.drop (st - a) := (List.take_append_drop _ A).symm
  have eB : B = B.take (mid - st) ++ B.drop (mid - st) := (List.take_append_drop _ B).symm
  refine ⟨A.take (st - a), A.drop (st - a), B.take (mid - st), B.drop (mid - st), eA, eB, k1, k2, k3, k4, fun x hx y hy => ?_, fun x hx y hy => ?_⟩
  · obtain ⟨i, hi, ei⟩ := mem_get hx
    obtain ⟨j, hj, ej⟩ := mem_get hy
    have q := hhi (by omega) (by omega)
    rw [(getI_ab ha hm hb).1 h1 (by omega), (getI_ab ha hm hb).2 (by omega) (by omega)] at q
    have r1 := hA.get (i := st - a) (j := st - a + i) (by omega) (by omega)
    have r2 := hB.get (i := j) (j := mid + m - 1 - st - m) (by omega) (by omega)
    have e1 : (A.drop (st - a))[i]! = A[st - a + i]! := by
      have := getI_right (A.take (st - a)) (A.drop (st - a)) (st - a + i) (by omega) (by omega)
      rw [← eA, k1, show st - a + i - (st - a) = i by omega] at this
      exact this.symm
    rw [← ei, ← ej, e1, getI_take _ _ _ (by omega) (by omega)]
    omega
  · obtain ⟨i, hi, ei⟩ := mem_get hx
    obtain ⟨j, hj, ej⟩ := mem_get hy
    have q := hlo (by omega) (by omega)
    rw [(getI_ab ha hm hb).1 (by omega) (by omega), (getI_ab ha hm hb).2 (by omega) (by omega)] at q
    have r1 := hA.get (i := i) (j := st - 1 - a) (by omega) (by omega)
    have r2 := hB.get (i := mid + m - st - m) (j := mid - st + j) (by omega) (by omega)
    have e1 : (B.drop (mid - st))[j]! = B[mid - st + j]! := by
      have := getI_right (B.take (mid - st)) (B.drop (mid - st)) (mid - st + j) (by omega) (by omega)
      rw [← eB, k3, show mid - st + j - (mid - st) = j by omega] at this
      exact this.symm
    rw [← ei, ← ej, e1, getI_take _ _ _ (by omega) (by omega)]
    omega

/-- The two halves, each in order, are in order. -/
theorem sym_join {A1 u v B2 C1 C2 : List Pk} (hA : Srt (A1 ++ u)) (hB : Srt (v ++ B2)) (h1 : ∀ x ∈ u, ∀ y ∈ v, y.n < x.n) (h2 : ∀ x ∈ A1, ∀ y ∈ B2, x.n ≤ y.n) (s1 : Srt C1) (s2 : Srt C2) (l1 : Alike (A1 ++ v) C1) (l2 : Alike (u ++ B2) C2) :
    Srt (C1 ++ C2) ∧ Alike (A1 ++ u ++ (v ++ B2)) (C1 ++ C2) := by
  refine ⟨Srt.append s1 s2 fun x hx y hy => ?_, ?_⟩
  · rcases List.mem_append.1 (l1.symm.mem hx) with q | q
    · rcases List.mem_append.1 (l2.symm.mem hy) with r | r
      · exact hA.cross x q y r
      · exact h2 x q y r
    · rcases List.mem_append.1 (l2.symm.mem hy) with r | r
      · exact Nat.le_of_lt (h1 y r x q)
      · exact hB.cross x q y r
  · have e : A1 ++ u ++ (v ++ B2) = A1 ++ (u ++ v) ++ B2 := by simp
    have t : Alike (A1 ++ (u ++ v) ++ B2) (A1 ++ (v ++ u) ++ B2) := ((Alike.refl A1).append (Alike.turn h1)).append (Alike.refl B2)
    rw [e]
    refine t.trans ?_
    have e2 : A1 ++ (v ++ u) ++ B2 = (A1 ++ v) ++ (u ++ B2) := by simp
    rw [e2]
    exact l1.append l2

section
variable {w0 : World} {g n c : Nat}
end
end Go.Proofs.Ytjpjbbbpmhcgnaa

/- The stable sort of a row of bundles. -/
namespace Go.Proofs.Ytjpjbbbpmhcgnaa
open Go.RowKit Go.Sort

/-- A part of a list. -/
def seg (xs : List Pk) (i k : Nat) : List Pk := (xs.drop i).take k
/-- Each run of k is in order. -/
def Runs (k : Nat) (xs : List Pk) : Prop := ∀ t, Srt (seg xs (t * k) k)

theorem seg_left (p r : List Pk) (i k : Nat) (h : i + k ≤ p.length) : seg (p ++ r) i k = seg p i k := by
  unfold seg
  rw [List.drop_append_of_le_length (by omega), List.take_append_of_le_length (by simp; omega)]
theorem seg_right (p r : List Pk) (i k : Nat) (h : p.length ≤ i) : seg (p ++ r) i k = seg r (i - p.length) k := by
  unfold seg
  rw [List.drop_append, List.drop_of_length_le h, List.nil_append]
theorem seg_len (xs : List Pk) (i k : Nat) : (seg xs i k).length = min k (xs.length - i) := by simp [seg]
theorem seg_mid (p A s : List Pk) (k : Nat) (h : A.length = k ∨ A.length ≤ k ∧ s = []) : seg (p ++ A ++ s) p.length k = A := by
  rw [List.append_assoc, seg_right _ _ _ _ (Nat.le_refl _), Nat.sub_self]
  unfold seg
  rw [List.drop_zero]
  rcases h with h | ⟨h, rfl⟩
  · rw [List.take_append_of_le_length (by omega), List.take_of_length_le (by omega)]
  · rw [List.append_nil, List.take_of_length_le h]
theorem split2 (xs : List Pk) (i k : Nat) : xs = xs.take i ++ seg xs i k ++ xs.drop (i + k) := by
  unfold seg
  rw [List.append_assoc, ← List.drop_drop, List.take_append_drop, List.take_append_drop]
theorem split3 (xs : List Pk) (i k j : Nat) : xs = xs.take i ++ seg xs i k ++ seg xs (i + k) j ++ xs.drop (i + k + j) := by
  have e := split2 (xs.drop (i + k)) 0 j
  conv => lhs; rw [split2 xs i k]
  rw [List.append_assoc _ (seg xs (i + k) j)]
  congr 1
  simpa [seg] using e
theorem srt_tail {xs : List Pk} {i k j : Nat} (h : Srt (seg xs i k)) (hj : j ≤ k) (hl : xs.length ≤ i + j) : Srt (seg xs i j) := by
  have e : seg xs i j = seg xs i k := by
    unfold seg
    rw [List.take_of_length_le (by simp; omega), List.take_of_length_le (by simp; omega)]
  rw [e]
  exact h
theorem seg_nil {xs : List Pk} {i k : Nat} (h : xs.length ≤ i) : seg xs i k = [] := by
  unfold seg
  rw [List.drop_of_length_le h, List.take_nil]
/-- One more part is in order. -/
theorem blk_next {p A A' s : List Pk} {q k : Nat} (hp : p.length = q * k) (hl : A'.length = k ∨ A'.length ≤ k ∧ s = []) (hs : Srt A') (h : ∀ t, t < q → Srt (seg (p ++ A ++ s) (t * k) k)) : ∀ t, t < q + 1 → Srt (seg (p ++ A' ++ s) (t * k) k) := by
  intro t ht
  by_cases hq : t = q
  · subst hq
    rw [← hp, seg_mid p A' s k hl]
    exact hs
  · have h1 : (t + 1) * k ≤ q * k := Nat.mul_le_mul_right _ (by omega)
    rw [Nat.add_mul, Nat.one_mul] at h1
    have := h t (by omega)
    rw [List.append_assoc, seg_left _ _ _ _ (by omega)] at this ⊢
    exact this
theorem runs_of {xs : List Pk} {q k : Nat} (h : ∀ t, t < q → Srt (seg xs (t * k) k)) (hl : xs.length ≤ q * k) : Runs k xs := by
  intro t
  by_cases ht : t < q
  · exact h t ht
  · have h1 : q * k ≤ t * k := Nat.mul_le_mul_right _ (by omega)
    rw [seg_nil (by omega)]
    exact srt_nil
theorem runs_whole {xs : List Pk} {k : Nat} (h : Runs k xs) (hl : xs.length ≤ k) : Srt xs := by
  have := h 0
  unfold seg at this
  rw [Nat.zero_mul, List.drop_zero, List.take_of_length_le hl] at this
  exact this

theorem alike_mid {L A : List Pk} {i k : Nat} (h : Alike (seg L i k) A) : Alike L (L.take i ++ A ++ L.drop (i + k)) := by
  conv => lhs; rw [split2 L i k]
  exact ((Alike.refl _).append h).append (Alike.refl _)
theorem alike_two {L C : List Pk} {i k j : Nat} (h : Alike (seg L i k ++ seg L (i + k) j) C) : Alike L (L.take i ++ C ++ L.drop (i + k + j)) := by
  conv => lhs; rw [split3 L i k j, List.append_assoc (L.take i)]
  exact ((Alike.refl _).append h).append (Alike.refl _)
theorem blk_rest {p A A' s : List Pk} (h : A'.length = A.length) (i k : Nat) (hi : p.length + A.length ≤ i) : seg (p ++ A' ++ s) i k = seg (p ++ A ++ s) i k := by
  rw [seg_right _ _ _ _ (by simp; omega), seg_right _ _ _ _ (by simp; omega)]
  simp [h]

section
variable {w0 W : World} {g n c : Nat}
end
end Go.Proofs.Ytjpjbbbpmhcgnaa

/- The contract of the program's tally. -/
namespace Go.Proofs.Ytjpjbbbpmhcgnaa
open Go.RowKit

end Go.Proofs.Ytjpjbbbpmhcgnaa

/- Bundles of one symbol each, made of how often symbols are. -/
namespace Go.Proofs.Ytjpjbbbpmhcgnaa
open Go.RowKit

/-- How often symbols are that are, with their symbols. -/
def sgs : Nat → List Nat → List (Nat × UInt8)
  | _, [] => []
  | i, o :: r => (if 0 < o then [(o, UInt8.ofNat i)] else []) ++ sgs (i + 1) r
theorem sgs_snoc (a : List Nat) (o : Nat) : ∀ i, sgs i (a ++ [o]) = sgs i a ++ (if 0 < o then [(o, UInt8.ofNat (i + a.length))] else []) := by
  induction a with
  | nil => intro i; simp [sgs]
  | cons x r ih =>
    intro i
    rw [List.cons_append, sgs, ih (i + 1), sgs, List.append_assoc, List.length_cons, show i + 1 + r.length = i + (r.length + 1) by omega]
theorem sgs_len (os : List Nat) : ∀ i, (sgs i os).length = cnt os := by
  induction os with
  | nil => intro i; rfl
  | cons x r ih =>
    intro i
    rw [sgs, cnt, List.length_append, ih (i + 1)]
    split <;> rfl
theorem sgs_mem {os : List Nat} : ∀ {i : Nat} {p : Nat × UInt8}, p ∈ sgs i os → 0 < p.1 ∧ ∃ j, j < os.length ∧ os.getD j 0 = p.1 ∧ p.2 = UInt8.ofNat (i + j) := by
  induction os with
  | nil => intro i p h; simp [sgs] at h
  | cons x r ih =>
    intro i p h
    rw [sgs] at h
    rcases List.mem_append.1 h with q | q
    · split at q
      · next hx =>
        rw [List.mem_singleton.1 q]
        exact ⟨hx, 0, by simp, rfl, rfl⟩
      · cases q
    · obtain ⟨h1, j, hj, e, e2⟩ := ih q
      exact ⟨h1, j + 1, by simpa using hj, by simpa using e, by rw [e2]; congr 1; omega⟩
theorem sgs_has {os : List Nat} : ∀ {i j : Nat}, j < os.length → 0 < os.getD j 0 → UInt8.ofNat (i + j) ∈ (sgs i os).map (·.2) := by
  induction os with
  | nil => intro i j h; simp at h
  | cons x r ih =>
    intro i j h h0
    rw [sgs, List.map_append, List.mem_append]
    rcases j with _ | j
    · left
      have h0 : 0 < x := by simpa using h0
      rw [if_pos h0]
      simp
    · right
      have := @ih (i + 1) j (by simpa using h) (by simpa using h0)
      rw [show i + (j + 1) = i + 1 + j by omega]
      exact this
theorem ofNat_inj {a b : Nat} (ha : a < 256) (hb : b < 256) (h : UInt8.ofNat a = UInt8.ofNat b) : a = b := by
  have := congrArg UInt8.toNat h
  simp at this
  omega
theorem sgs_nodup {os : List Nat} : ∀ {i : Nat}, i + os.length ≤ 256 → ((sgs i os).map (·.2)).Nodup := by
  induction os with
  | nil => intro i _; exact List.nodup_nil
  | cons x r ih =>
    intro i h
    simp at h
    rw [sgs, List.map_append]
    split
    · rw [List.map_singleton, List.singleton_append, List.nodup_cons]
      refine ⟨fun hm => ?_, ih (by omega)⟩
      obtain ⟨p, hp, e⟩ := List.mem_map.1 hm
      obtain ⟨_, j, hj, _, e2⟩ := sgs_mem hp
      rw [e2] at e
      have := ofNat_inj (by omega) (by omega) e
      omega
    · exact ih (by omega)

/-- Numbers of symbols that are, 0 of the others. -/
def lst (F : UInt8 → Nat) : Nat → List Nat → List Nat
  | _, [] => []
  | i, o :: r => (if 0 < o then F (UInt8.ofNat i) else 0) :: lst F (i + 1) r
theorem lst_len (F : UInt8 → Nat) (os : List Nat) : ∀ i, (lst F i os).length = os.length := by
  induction os with
  | nil => intro i; rfl
  | cons x r ih => intro i; rw [lst, List.length_cons, ih, List.length_cons]
theorem lst_get (F : UInt8 → Nat) (os : List Nat) : ∀ (i j : Nat), (lst F i os).getD j 0 = if 0 < os.getD j 0 then F (UInt8.ofNat (i + j)) else 0 := by
  induction os with
  | nil => intro i j; simp [lst]
  | cons x r ih =>
    intro i j
    rw [lst]
    rcases j with _ | j
    · simp
    · rw [List.getD_cons_succ, List.getD_cons_succ, ih, show i + 1 + j = i + (j + 1) by omega]
theorem lst_sum (F : UInt8 → Nat) (G : Nat → Nat) (hG : G 0 = 0) (os : List Nat) : ∀ i, ((lst F i os).map G).sum = ((sgs i os).map fun p => G (F p.2)).sum := by
  induction os with
  | nil => intro i; rfl
  | cons x r ih =>
    intro i
    rw [lst, sgs, List.map_cons, List.sum_cons, ih (i + 1), List.map_append, List.sum_append]
    congr 1
    split
    · simp
    · simpa using hG

/-- Bundles of the symbols that are. -/
def SingOf (os : List Nat) (S : List Pk) : Prop := (S.map fun x => (x.n, sy x)) = sgs 0 os ∧ ∀ x ∈ S, x.y = [sy x] ∧ x.s = true
theorem sing_of {os : List Nat} {S0 S : List Pk} (h : SingOf os S0) (hl : os.length ≤ 256) (hs : Srt S) (ha : Alike S0 S) : Sing S := by
  have hp := ha.perm
  refine ⟨hs, fun x hx => ?_, fun x hx => (h.2 x (ha.symm.mem hx)).2, fun x hx => (h.2 x (ha.symm.mem hx)).1, ?_⟩
  · have : (x.n, sy x) ∈ sgs 0 os := by rw [← h.1]; exact List.mem_map.2 ⟨x, ha.symm.mem hx, rfl⟩
    exact (sgs_mem this).1
  · have e : S0.map sy = (sgs 0 os).map (·.2) := by rw [← h.1, List.map_map]; rfl
    have hd : (S0.map sy).Nodup := by rw [e]; exact sgs_nodup (by omega)
    exact (hp.map sy).nodup_iff.1 hd
theorem sing_len {os : List Nat} {S0 S : List Pk} (h : SingOf os S0) (ha : Alike S0 S) : S.length = cnt os := by
  rw [← ha.perm.length_eq, ← sgs_len os 0, ← h.1, List.length_map]
theorem sing_sum {os : List Nat} {S0 S : List Pk} (h : SingOf os S0) (ha : Alike S0 S) (G : UInt8 → Nat) : (S.map fun x => G (sy x)).sum = ((sgs 0 os).map fun p => G p.2).sum := by
  rw [← h.1, List.map_map]
  exact ((ha.perm.map (fun x => G (sy x))).sum_nat).symm
theorem sing_mem {os : List Nat} {S0 S : List Pk} (h : SingOf os S0) (ha : Alike S0 S) (hl : os.length ≤ 256) {j : Nat} (hj : j < 256) : UInt8.ofNat j ∈ S.map sy ↔ 0 < os.getD j 0 := by
  have e : S0.map sy = (sgs 0 os).map (·.2) := by rw [← h.1, List.map_map]; rfl
  have e2 : UInt8.ofNat j ∈ S.map sy ↔ UInt8.ofNat j ∈ S0.map sy := (ha.perm.map sy).mem_iff.symm
  rw [e2, e]
  constructor
  · intro hm
    obtain ⟨p, hp, e⟩ := List.mem_map.1 hm
    obtain ⟨h0, k, hk, e1, e3⟩ := sgs_mem hp
    rw [e3] at e
    have := ofNat_inj (by omega) hj e
    rw [show j = k by omega, e1]
    exact h0
  · intro h0
    have hjl : j < os.length := by
      rcases Nat.lt_or_ge j os.length with q | q
      · exact q
      · rw [List.getD_eq_getElem?_getD, List.getElem?_eq_none q] at h0
        simp at h0
    have := @sgs_has os 0 j hjl h0
    rwa [Nat.zero_add] at this
end Go.Proofs.Ytjpjbbbpmhcgnaa

/- The contract of the program's singlesOf. -/
namespace Go.Proofs.Ytjpjbbbpmhcgnaa
open Go.RowKit

theorem one_own (w : World) (b : UInt8) (base : Nat) (h : base ≤ w.heap.size) (v : Int) (hv : v = (b.toNat : Int)) : OwR 1 bcel (w.alloc (.cells #[.int .u8 v] 5)) 5 base (.slice (some ⟨w.heap.size, 0, none⟩) 1 1) [b] := by
  subst hv
  exact ⟨rfl, .inr ⟨w.heap.size, 1, #[.int .u8 (b.toNat : Int)], rfl, h, heap_alloc_new w _, Nat.le_refl _, by decide, rfl, rfl⟩⟩

/-- A row of the call's own, told of its own block. -/
theorem own_at {w : World} {u base g n c : Nat} {L : List Pk} (h : OwR 2 pcell w u base (.slice (some ⟨g, 0, none⟩) n c) L) : OwR 2 pcell w u g (.slice (some ⟨g, 0, none⟩) n c) L := by
  refine ⟨h.1, ?_⟩
  rcases h.2 with ⟨e, _⟩ | ⟨g', cap, cur, hv, _, q⟩
  · cases e
  · refine .inr ⟨g', cap, cur, hv, ?_, q⟩
    injection hv with e
    injection e with e
    injection e with e
    omega

section
variable {w : World}
end
end Go.Proofs.Ytjpjbbbpmhcgnaa

/- The contract of the program's lengthsOf. -/
namespace Go.Proofs.Ytjpjbbbpmhcgnaa
open Go.RowKit

section
variable {S : List Pk}
theorem lev_bound {M : Nat} (hM : ∀ x ∈ S, x.n ≤ M ∧ x.y.length ≤ 1) : ∀ (k : Nat) (B : List Pk), Lev S k B → ∀ x ∈ B, x.n ≤ 2 ^ k * M ∧ x.y.length ≤ 2 ^ k
  | 0, B, h => by
    have h : B = S := h
    subst h
    simpa using hM
  | k + 1, B, ⟨B', P, h, hP, hB, hA⟩ => by
    intro x hx
    have hp : 1 ≤ 2 ^ k := Nat.one_le_two_pow
    rw [Nat.pow_succ]
    rcases List.mem_append.1 (hA.symm.mem hx) with q | q
    · have := hM x q
      have h1 : M ≤ 2 ^ k * 2 * M := by
        have := Nat.mul_le_mul_right M (show 1 ≤ 2 ^ k * 2 by omega)
        omega
      omega
    · obtain ⟨i, hi, rfl⟩ := mem_get q
      obtain ⟨a, b, _⟩ := hP.2 i hi
      have hl := hP.1
      have c := lev_bound hM k B' h _ (get_mem B' (2 * i) (by omega))
      have d := lev_bound hM k B' h _ (get_mem B' (2 * i + 1) (by omega))
      rw [a, b, List.length_append]
      have e : 2 ^ k * 2 * M = 2 ^ k * M + 2 ^ k * M := by rw [Nat.mul_assoc, Nat.mul_comm 2 M, ← Nat.mul_assoc]; omega
      omega
theorem lev_syms : ∀ (k : Nat) (B : List Pk), (∀ x ∈ S, x.y = [sy x]) → Lev S k B → ∀ x ∈ B, ∀ v ∈ x.y, v ∈ S.map sy
  | 0, B, h1, h => by
    have h : B = S := h
    subst h
    intro x hx v hv
    rw [h1 x hx] at hv
    rw [List.mem_singleton.1 hv]
    exact List.mem_map.2 ⟨x, hx, rfl⟩
  | k + 1, B, h1, ⟨B', P, h, hP, hB, hA⟩ => by
    intro x hx v hv
    rcases List.mem_append.1 (hA.symm.mem hx) with q | q
    · rw [h1 x q] at hv
      rw [List.mem_singleton.1 hv]
      exact List.mem_map.2 ⟨x, q, rfl⟩
    · obtain ⟨i, hi, rfl⟩ := mem_get q
      have b := (hP.2 i hi).2.1
      have hl := hP.1
      rw [b] at hv
      rcases List.mem_append.1 hv with r | r
      · exact lev_syms k B' h1 h _ (get_mem B' (2 * i) (by omega)) v r
      · exact lev_syms k B' h1 h _ (get_mem B' (2 * i + 1) (by omega)) v r
theorem cn_le (v : UInt8) (c : Nat) (T : List Pk) (h : ∀ x ∈ T, x.y.length ≤ c) : cn v T ≤ T.length * c := by
  induction T with
  | nil => simp [cn]
  | cons x r ih =>
    have a := ih fun z hz => h z (by simp [hz])
    have b := h x (by simp)
    have d : x.y.count v ≤ x.y.length := List.count_le_length
    rw [cn, List.length_cons, Nat.add_mul]
    omega
end

section
variable {w : World}
/-- How often each symbol is in bundles, and in these symbols. -/
def lensP (n : Nat) (T : List Pk) (ys : List UInt8) : List Int := (List.range n).map fun j => ((cn (UInt8.ofNat j) T + ys.count (UInt8.ofNat j) : Nat) : Int)
/-- How often each symbol is in bundles. -/
def lens (n : Nat) (T : List Pk) : List Int := lensP n T []
theorem lensP_len (n : Nat) (T : List Pk) (ys : List UInt8) : (lensP n T ys).length = n := by simp [lensP]
theorem lensP_get {n : Nat} {T : List Pk} {ys : List UInt8} {j : Nat} (h : j < (lensP n T ys).length) : (lensP n T ys)[j] = ((cn (UInt8.ofNat j) T + ys.count (UInt8.ofNat j) : Nat) : Int) := by simp [lensP]
theorem lens_zero (n : Nat) : lens n [] = List.replicate n 0 := by
  apply List.ext_getElem
  · simp [lens, lensP]
  · intro i h1 h2
    simp [lens, lensP, cn]
theorem lens_next (n : Nat) (T : List Pk) (x : Pk) : lensP n T x.y = lens n (T ++ [x]) := by
  unfold lens lensP
  refine List.map_congr_left fun j _ => ?_
  rw [cn_append]
  simp [cn]
theorem lensP_set {n : Nat} {T : List Pk} {ys : List UInt8} {v : UInt8} (hn : n ≤ 256) : (lensP n T ys).set v.toNat (((cn v T + ys.count v : Nat) : Int) + 1) = lensP n T (ys ++ [v]) := by
  apply List.ext_getElem
  · simp [lensP]
  · intro j h1 h2
    rw [List.getElem_set]
    by_cases h : v.toNat = j
    · rw [if_pos h]
      have e : UInt8.ofNat j = v := by rw [← h]; simp
      rw [lensP_get, e, List.count_append, List.count_singleton]
      simp
      omega
    · rw [if_neg h, lensP_get, lensP_get, List.count_append, List.count_singleton]
      have hj : j < n := by simpa [lensP] using h1
      have : (v == UInt8.ofNat j) = false := by
        rw [beq_eq_false_iff_ne]
        intro e
        apply h
        rw [e]
        simp
        omega
      simp [this]
/-- The bundles tell lengths of codes. -/
def Told (os : List Nat) (T : List Pk) : Prop := (∀ j, j < 256 → 0 < os.getD j 0 → 1 ≤ cn (UInt8.ofNat j) T ∧ cn (UInt8.ofNat j) T ≤ 11) ∧ (∀ j, j < 256 → ¬ 0 < os.getD j 0 → cn (UInt8.ofNat j) T = 0) ∧ ((sgs 0 os).map fun p => 2 ^ (11 - cn p.2 T)).sum = 2 ^ 11
theorem told_of {os : List Nat} {S0 S B T : List Pk} (h : SingOf os S0) (ha : Alike S0 S) (hs : Srt S) (hl : os.length ≤ 256) (h2 : 2 ≤ cnt os) (hL : Lev S 10 B) (hT : T = B.take (2 * S.length - 2)) : Told os T := by
  have hS := sing_of h hl hs ha
  have hsl := sing_len h ha
  have hcl := cnt_le os
  obtain ⟨a, b, c⟩ := pack_all hS (by omega) (by omega) hL hT
  refine ⟨fun j hj h0 => ?_, fun j hj h0 => b _ fun hm => h0 ((sing_mem h ha hl hj).1 hm), ?_⟩
  · obtain ⟨x, hx, e⟩ := List.mem_map.1 ((sing_mem h ha hl hj).2 h0)
    rw [← e]
    exact a x hx
  · rw [← sing_sum h ha fun v => 2 ^ (11 - cn v T)]
    exact c

theorem OwR.cells2 {u b d m c : Nat} {xs : List Pk} (h : OwR 2 pcell w u b (.slice (some ⟨d, 0, none⟩) m c) xs) (i : Nat) (hi : i < xs.length) : w.cell? ⟨d, i * 2, none⟩ = some (.int .u64 (xs[i]!.n : Int)) ∧ w.cell? ⟨d, i * 2 + 1, none⟩ = some (.slice xs[i]!.a xs[i]!.l xs[i]!.c) := by
  rw [getElem!_pos xs i hi]
  exact ⟨(h.cellAt pcell_len i 0 hi (by decide) _ rfl).1, (h.cellAt pcell_len i 1 hi (by decide) _ rfl).1⟩
theorem OwR.byteAt {u b c l : Nat} {A : Option Addr} {ys : List UInt8} (h : OwR 1 bcel w u b (.slice A l c) ys) (j : Nat) (hj : j < l) : ∃ d, A = some ⟨d, 0, none⟩ ∧ ∃ h2 : j < ys.length, w.cell? ⟨d, j, none⟩ = some (.int .u8 (ys[j].toNat : Int)) := by
  have hl := h.len
  obtain ⟨d, c', hv, _, _, _⟩ := h.place (by omega)
  injection hv with e1 e2 e3
  subst e1
  refine ⟨d, rfl, by omega, ?_⟩
  have := (h.cellAt bcel_len j 0 (by omega) (by decide) _ rfl).1
  rw [show j * 1 + 0 = j by omega] at this
  exact this

end
end Go.Proofs.Ytjpjbbbpmhcgnaa

/- slices.Max of ints and of bytes. -/
namespace Go.Proofs.Ytjpjbbbpmhcgnaa
open Go.RowKit

/-- A byte, as a number. -/
def u8cel (n : Nat) : Value := .int .u8 (n : Int)
theorem Dat.nats {own : Bool} {w : World} {lo hi : Nat} {A : Option Addr} {xs : List UInt8} (h : Dat own w lo hi A xs) : DatE u8cel w lo hi A (xs.map (·.toNat)) := fun hx => by
  obtain ⟨d, o, hA, h1, h2, hc, _⟩ := h (by simpa using hx)
  refine ⟨d, o, hA, h1, h2, fun j hj => ?_⟩
  have hj' : j < xs.length := by simpa using hj
  rw [hc j hj']
  simp [cel, u8cel, List.getD, hj']

section
variable {w : World}
set_option maxRecDepth 100000 in
theorem maxB_any {lo hi n c : Nat} {A : Option Addr} {xs : List Nat} (hd : DatE u8cel w lo hi A xs) (hn : xs.length = n) (h0 : 0 < n) (hm : n ≤ 100000) (hb : ∀ x ∈ xs, x ≤ 255) :
    Calls Try.prog 64 #[.slice A n c] w fun e w' => ∃ m, e = .returned (.int .u8 ((m : Nat) : Int)) ∧ m ∈ xs ∧ (∀ x ∈ xs, x ≤ m) ∧ w' = w := by
  have HD := Lib.hid (And.intro hd (And.intro hn hb))
  have hl0 : 0 < xs.length := by omega
  obtain ⟨d, o, rfl, _, _, hc⟩ := hd (by omega)
  have HC := Lib.hid hc
  have hc0 := hc 0 (by omega)
  simp only [Nat.add_zero] at hc0
  unfold u8cel at hc0
  have hx0 := hb xs[0] (List.getElem_mem hl0)
  obtain ⟨x0, e0⟩ : ∃ x, x = xs[0]'hl0 := ⟨_, rfl⟩
  rw [← e0] at hc0 hx0
  have HE := Lib.hid e0
  clear hd hb hc e0 hn
  have h1 : ¬ (n : Int) < 1 := by omega
  have hnz : (0 : Int) < (n : Int) := by omega
  go_enter Try.func64, Try.ntmps64
  go_wp2_with fail
  go_loopg [3, 4] n (fun g1 vm vi wx => ∃ i m : Nat, vi = .int .i64 (i : Int) ∧ vm = .int .u8 (m : Int) ∧ 1 ≤ i ∧ i ≤ n ∧ n - i ≤ g1 ∧ m ∈ xs ∧ (∀ x ∈ xs.take i, x ≤ m) ∧ m ≤ 255 ∧ wx = w)
  case atStart => exact ⟨1, x0, by go_num, rfl, by omega, by omega, by omega, by rw [HE.out]; exact List.getElem_mem _, fun x hx => by rw [List.take_succ_eq_append_getElem (by rw [HD.out.2.1]; omega)] at hx; simp at hx; rw [hx, HE.out]; exact Nat.le_refl _, hx0, rfl⟩
  case round =>
    obtain ⟨i, m, rfl, rfl, h1i, hin, hg, hm1, hm2, hm3, rfl⟩ := hrel
    by_cases hlt : i < n
    · have hltz : (i : Int) < (n : Int) := by omega
      have hil : i < xs.length := by rw [HD.out.2.1]; exact hlt
      have hci := HC.out i hil
      unfold u8cel at hci
      have hxi := HD.out.2.2 xs[i] (List.getElem_mem hil)
      have hts : xs.take (i + 1) = xs.take i ++ [xs[i]] := List.take_succ_eq_append_getElem hil
      have hmi := List.getElem_mem hil
      have HM := Lib.hid (And.intro hm1 (And.intro hm2 (And.intro hts hmi)))
      clear hm1 hm2 hts hmi
      generalize xs[i] = x at *
      go_wp2_with fail
      all_goals
        go_roundg (n - (i + 1))
        case measure => omega
        case rel =>
          obtain ⟨hm1, hm2, hts, hmi⟩ := HM.out
          first
          | exact ⟨i + 1, m, by go_num, rfl, by omega, by omega, by omega, hm1, fun y hy => (by
              rw [hts] at hy
              rcases List.mem_append.1 hy with q | q
              · exact hm2 y q
              · rw [List.mem_singleton.1 q]; omega), hm3, rfl⟩
          | exact ⟨i + 1, x, by go_num, rfl, by omega, by omega, by omega, hmi, fun y hy => (by
              rw [hts] at hy
              rcases List.mem_append.1 hy with q | q
              · have := hm2 y q; omega
              · rw [List.mem_singleton.1 q]; omega), hxi, rfl⟩
    · obtain rfl : i = n := by omega
      have hltz : ¬ (i : Int) < (i : Int) := by omega
      go_wp2_with fail
      go_ret
      exact ⟨m, rfl, hm1, by rw [List.take_of_length_le (by rw [HD.out.2.1]; exact Nat.le_refl _)] at hm2; exact hm2, rfl⟩
end
end Go.Proofs.Ytjpjbbbpmhcgnaa

/- The contracts of the program's small functions: how many bits a number has, what weights are worth, is it a power of 2. -/
namespace Go.Proofs.Ytjpjbbbpmhcgnaa
open Go.RowKit

theorem len8_of {x : Nat} (h : 0 < x) : len8 x = x.log2 + 1 := by unfold len8; rw [if_neg (by omega)]
set_option maxRecDepth 100000 in
theorem lenW64_any (x : Nat) (w : World) (h2 : x < 16777216) : Calls Try.prog 71 #[.int .u64 (x : Int)] w fun e w' => e = .returned (.int .i64 (len8 x : Nat)) ∧ w = w' := by
  by_cases h0 : x < 65536
  · by_cases h1 : 0 < x
    · rw [len8_of h1]
      exact len64_any x w h1 h0
    · obtain rfl : x = 0 := by omega
      have H := Lib.hid (len_tab ⟨0, by omega⟩)
      go_enter Try.func71, Try.ntmps71
      go_wp2
      go_ret
      refine ⟨?_, rfl⟩
      show Ending.returned (.int .i64 (wrap64 (wrap64 (Lib.len8 ((0 : Nat) : Int))))) = _
      rw [H.out]
      have hb := len8_le (x := 0) (by omega)
      congr 2
      unfold wrap64
      omega
  · have h32 : decide (4294967296 ≤ (x : Int)) = false := by simp; omega
    have h16 : (65536 : Int) ≤ (x : Int) := by omega
    have h8' : decide (256 ≤ (x : Int) / 65536) = false := by simp; omega
    have hx5 : (x : Int) / 65536 ≤ 255 := by omega
    have hx0 : 0 ≤ (x : Int) / 65536 := by omega
    have hd : x / 65536 < 256 := by omega
    have H := Lib.hid (len_tab ⟨x / 65536, hd⟩)
    have hl : len8 (x / 65536) + 16 = len8 x := by
      have e1 := log2_div x (by omega)
      have e2 := log2_div (x / 256) (by omega)
      rw [Nat.div_div_eq_div_mul, show 256 * 256 = 65536 by decide] at e2
      rw [len8_of (by omega), len8_of (by omega)]
      omega
    have hb := len8_le hd
    have HL := Lib.hid hl
    clear hl
    go_enter Try.func71, Try.ntmps71
    go_wp2
    go_ret
    refine ⟨?_, rfl⟩
    show Ending.returned (.int .i64 (wrap64 (16 + wrap64 (Lib.len8 ((x / 65536 : Nat) : Int))))) = _
    rw [H.out]
    show Ending.returned (.int .i64 (wrap64 (16 + wrap64 (len8 (x / 65536) : Nat)))) = _
    congr 2
    have := HL.out
    unfold wrap64
    omega
theorem lenW_any (x : Nat) (w : World) (h2 : x < 16777216) : Calls Try.prog 66 #[.int .u64 (x : Int)] w fun e w' => e = .returned (.int .i64 (len8 x : Nat)) ∧ w = w' := by
  go_enter Try.func66, Try.ntmps66
  go_wp2_with (go_at_call 71; refine (lenW64_any _ _ h2).mono ?_; rintro e w' ⟨rfl, rfl⟩)
  go_ret
  exact ⟨rfl, rfl⟩

/-- Is it a power of 2? -/
theorem and_pred (x : Nat) (h : 0 < x) : (x &&& (x - 1) = 0) ↔ ∃ d, x = 2 ^ d := by
  constructor
  · intro ha
    refine ⟨x.log2, ?_⟩
    have h1 := Nat.log2_self_le (n := x) (by omega)
    have h2 : x < 2 ^ (x.log2 + 1) := Nat.lt_log2_self
    rcases Nat.lt_or_ge (2 ^ x.log2) x with q | q
    · exfalso
      have b1 : x / 2 ^ x.log2 = 1 := by
        apply Nat.div_eq_of_lt_le
        · omega
        · rw [Nat.pow_succ] at h2; omega
      have b2 : (x - 1) / 2 ^ x.log2 = 1 := by
        apply Nat.div_eq_of_lt_le
        · omega
        · rw [Nat.pow_succ] at h2; omega
      have t : (x &&& (x - 1)).testBit x.log2 = true := by
        rw [Nat.testBit_and, Nat.testBit_eq_decide_div_mod_eq, Nat.testBit_eq_decide_div_mod_eq, b1, b2]
        rfl
      rw [ha] at t
      simp at t
    · omega
  · rintro ⟨d, rfl⟩
    apply Nat.eq_of_testBit_eq
    intro i
    rw [Nat.testBit_and, Nat.testBit_two_pow, Nat.zero_testBit, Nat.testBit_two_pow_sub_one]
    by_cases hi : d = i
    · subst hi; simp
    · simp [hi]
theorem isPower_any (x : Nat) (w : World) (h : 0 < x) (h2 : x < 16777216) : Calls Try.prog 67 #[.int .u64 (x : Int)] w fun e w' => ∃ b : Bool, e = .returned (.bool b) ∧ (b = true ↔ ∃ d, x = 2 ^ d) ∧ w' = w := by
  have e1 : (x : Int) - 1 = ((x - 1 : Nat) : Int) := by omega
  have e2 := u64_and_nat x (x - 1) (by omega) (by omega)
  have HP := Lib.hid (and_pred x h)
  go_enter Try.func67, Try.ntmps67
  go_wp2_with fail
  go_ret
  refine ⟨_, rfl, ?_, rfl⟩
  rw [← HP.out]
  simp only [beq_iff_eq]
  omega
/-- What a weight is worth, as it is reckoned. -/
theorem wor_shift (x : Nat) (h : x ≤ 11) : IntKind.u64.wrap ((2 : Int) ^ x) / 2 = (wor x : Nat) := by
  have e : (2 : Int) ^ x = ((2 ^ x : Nat) : Int) := by simp
  have hp : 2 ^ x ≤ 2 ^ 11 := Nat.pow_le_pow_right (by omega) h
  rw [e]
  by_cases h0 : x = 0
  · subst h0
    rw [IntKind.wrap_u64, wor_zero]
    decide
  · obtain ⟨y, rfl⟩ : ∃ y, x = y + 1 := ⟨x - 1, by omega⟩
    rw [wor_succ]
    rw [Nat.pow_succ] at hp ⊢
    generalize 2 ^ y = P at *
    rw [IntKind.wrap_u64]
    omega

section
variable {w : World}
set_option maxRecDepth 100000 in
theorem worth_any {lo hi n c : Nat} {A : Option Addr} {l : List Nat} (hd : DatE u8cel w lo hi A l) (hn : l.length = n) (hm : n ≤ 1000) (hb : ∀ x ∈ l, x ≤ 11) :
    Calls Try.prog 65 #[.slice A n c] w fun e w' => e = .returned (.int .u64 (totW l : Nat)) ∧ w' = w := by
  have HD := Lib.hid (And.intro hd (And.intro hn hb))
  clear hd hn hb
  go_enter Try.func65, Try.ntmps65
  go_wp2_with fail
  go_loopg [3, 8] n (fun g1 vs vi wx => ∃ k : Nat, vi = .int .i64 (k : Int) ∧ k + g1 = n ∧ vs = .int .u64 (totW (l.take k) : Nat) ∧ wx = w)
  case atStart => exact ⟨0, rfl, by omega, rfl, rfl⟩
  case round =>
    obtain ⟨k, rfl, hk, rfl, rfl⟩ := hrel
    by_cases hlt : k < n
    · have hltz : (k : Int) < (n : Int) := by omega
      have hkl : k < l.length := by rw [HD.out.2.1]; exact hlt
      obtain ⟨d, o, rfl, -, -, hc⟩ := HD.out.1 (by omega)
      have hck := hc k hkl
      unfold u8cel at hck
      have hx := HD.out.2.2 l[k] (List.getElem_mem hkl)
      have HT := Lib.hid (totW_take l k hkl)
      have ht := totW_le (l.take k) fun x hx => HD.out.2.2 x (List.mem_of_mem_take hx)
      have htl : (l.take k).length ≤ 1000 := by simp; omega
      have ht2 : totW (l.take k) ≤ 1024000 := by omega
      clear hc ht htl
      generalize totW (l.take k) = S at *
      generalize l[k] = x at *
      have hw := wor_le x hx
      have HW := Lib.hid (wor_shift x hx)
      go_wp2_with fail
      go_roundg (n - (k + 1))
      case measure => omega
      case rel => exact ⟨k + 1, by go_num, by omega, by rw [HW.out, HT.out, IntKind.wrap_u64]; congr 1; omega, rfl⟩
    · obtain rfl : k = n := by omega
      have hltz : ¬ (k : Int) < (k : Int) := by omega
      have ht : l.take k = l := List.take_of_length_le (by rw [HD.out.2.1]; omega)
      rw [ht]
      go_wp2_with fail
      go_ret
      exact ⟨rfl, rfl⟩
end
end Go.Proofs.Ytjpjbbbpmhcgnaa

/- The contract of the program's Whole. -/
namespace Go.Proofs.Ytjpjbbbpmhcgnaa
open Go.RowKit

/-- Weights as numbers. -/
def nat (bs : List UInt8) : List Nat := bs.map (·.toNat)
theorem nat_len (bs : List UInt8) : (nat bs).length = bs.length := by simp [nat]
/-- All weights but the last one, which is k + 1. -/
def WholeOk (l : List Nat) (k : Nat) : Prop := l ≠ [] ∧ l.length ≤ 255 ∧ (∀ x ∈ l, x ≤ 11) ∧ 1 ≤ totW l ∧ ∃ d, 1 ≤ d ∧ d ≤ 11 ∧ 2 ^ (d - 1) ≤ totW l ∧ totW l + 2 ^ k = 2 ^ d
theorem whole_log {S d k : Nat} (h1 : 1 ≤ d) (h2 : 2 ^ (d - 1) ≤ S) (h3 : S + 2 ^ k = 2 ^ d) : d = S.log2 + 1 := by
  have hp := Nat.two_pow_pos k
  have hp2 := Nat.two_pow_pos (d - 1)
  have h0 : S ≠ 0 := by omega
  have : S.log2 = d - 1 := by
    rw [Nat.log2_eq_iff h0, show d - 1 + 1 = d by omega]
    omega
  omega
theorem whole_uni {l : List Nat} {k k' : Nat} (h : WholeOk l k) (h' : WholeOk l k') : k = k' := by
  obtain ⟨_, _, _, _, d, a1, a2, a3, a4⟩ := h
  obtain ⟨_, _, _, _, d', b1, b2, b3, b4⟩ := h'
  have e1 := whole_log a1 a3 a4
  have e2 := whole_log b1 b3 b4
  have e : d = d' := by omega
  subst e
  exact (Nat.pow_right_inj (by omega : 1 < 2)).1 (by omega)
theorem whole_may {l : List Nat} {k : Nat} (h : WholeOk l k) : ∃ d, MayW d (l ++ [k + 1]) ∧ k ≤ 10 := by
  obtain ⟨h0, h1, h2, h3, d, a1, a2, a3, a4⟩ := h
  refine ⟨d, may_last h0 h1 h3 a4 a1 a2, ?_⟩
  have hlt : 2 ^ k < 2 ^ d := by omega
  have := (Nat.pow_lt_pow_iff_right (by omega : 1 < 2)).1 hlt
  omega
/-- What Whole answers. -/
def WholePost (bs : List UInt8) (w : World) (e : Ending) (w' : World) : Prop :=
  Below w.heap.size w w' ∧ ((∃ k v, WholeOk (nat bs) k ∧ e = .returned (.tuple #[v, .int .i64 0]) ∧ OwB w' 5 w.heap.size v (bs ++ [UInt8.ofNat (k + 1)])) ∨ ((∀ k, ¬ WholeOk (nat bs) k) ∧ e = .returned (.tuple #[.slice none 0 0, .int .i64 11])))

section
variable {w : World}
end
end Go.Proofs.Ytjpjbbbpmhcgnaa

/- The contract of the program's depthOf. -/
namespace Go.Proofs.Ytjpjbbbpmhcgnaa
open Go.RowKit

theorem last_of {l : List Nat} (h : 0 < l.length) : (∃ p x, l = p ++ [x] ∧ 0 < x) ↔ 0 < l.getD (l.length - 1) 0 := by
  have hq : l.length - 1 < l.length := by omega
  have e := List.take_succ_eq_append_getElem hq
  rw [show l.length - 1 + 1 = l.length by omega, List.take_length] at e
  rw [List.getD_eq_getElem?_getD, List.getElem?_eq_getElem hq]
  constructor
  · rintro ⟨p, x, hl, hx⟩
    have e2 : p ++ [x] = l.take (l.length - 1) ++ [l[l.length - 1]] := by rw [← hl]; exact e
    obtain ⟨_, e3⟩ := List.append_inj' e2 rfl
    injection e3 with e3
    rw [Option.getD_some, ← e3]
    exact hx
  · intro hx
    exact ⟨_, _, e, hx⟩
/-- What depthOf answers. -/
def DepthPost (l : List Nat) (w : World) (e : Ending) (w' : World) : Prop :=
  w' = w ∧ ((∃ d, MayW d l ∧ e = .returned (.tuple #[.int .i64 (d : Nat), .bool true])) ∨ ((∀ d, ¬ MayW d l) ∧ e = .returned (.tuple #[.int .i64 0, .bool false])))

section
variable {w : World}
set_option maxRecDepth 100000 in
set_option maxHeartbeats 1000000 in
theorem depth_any {lo hi n c : Nat} {A : Option Addr} {l : List Nat} (hd : DatE u8cel w lo hi A l) (hn : l.length = n) (hm : n ≤ 100000) (h8 : ∀ x ∈ l, x ≤ 255) :
    Calls Try.prog 53 #[.slice A n c] w (DepthPost l w) := by
  by_cases h0 : n < 2
  · have h0z : (n : Int) < 2 := by omega
    have HN : Hid (∀ d, ¬ MayW d l) := fun d h => by have := h.1; omega
    clear hd hn h8
    go_enter Try.func53, Try.ntmps53
    go_wp2_with fail
    go_ret2
    exact ⟨rfl, .inr ⟨HN.out, rfl⟩⟩
  · have h0z : ¬ (n : Int) < 2 := by omega
    by_cases h1 : 256 < n
    · have h1z : (256 : Int) < (n : Int) := by omega
      have HN : Hid (∀ d, ¬ MayW d l) := fun d h => by have := h.2.1; omega
      clear hd hn h8
      go_enter Try.func53, Try.ntmps53
      go_wp2_with fail
      go_ret2
      exact ⟨rfl, .inr ⟨HN.out, rfl⟩⟩
    · have h1z : ¬ (256 : Int) < (n : Int) := by omega
      have hl0 : 0 < l.length := by omega
      have hlast := last_of hl0
      have hq : l.length - 1 < l.length := by omega
      rw [List.getD_eq_getElem?_getD, List.getElem?_eq_getElem hq, Option.getD_some] at hlast
      obtain ⟨dd, oo, rfl, -, -, hc⟩ := hd hl0
      have hcl := hc (l.length - 1) hq
      unfold u8cel at hcl
      have hy8 := h8 _ (List.getElem_mem hq)
      obtain ⟨y, hy⟩ : ∃ y, y = l[l.length - 1] := ⟨_, rfl⟩
      rw [← hy] at hcl hlast hy8
      rw [hn] at hcl
      have HMx := Lib.hid (maxB_any (c := c) hd hn (by omega) hm h8)
      have HD := Lib.hid (And.intro hd (And.intro hn h8))
      have HLa := Lib.hid hlast
      have hn256 : n ≤ 256 := by omega
      have hn2 : 2 ≤ n := by omega
      have z1 : ((n : Int) - 1).toNat = n - 1 := by omega
      have z2 : (0 : Int) ≤ (n : Int) - 1 := by omega
      have z2' : (1 : Int) ≤ (n : Int) := by omega
      have z3 : (n : Int) - 1 < (n : Int) := by omega
      clear hd hn h8 hc hlast hy hq
      by_cases hy0 : y = 0
      · subst hy0
        have HN : Hid (∀ d, ¬ MayW d l) := fun d h => by
          have := HLa.out.1 h.2.2.1
          omega
        go_enter Try.func53, Try.ntmps53
        go_wp2_with fail
        go_ret2
        exact ⟨rfl, .inr ⟨HN.out, rfl⟩⟩
      · have hy0z : ((y : Int) == 0) = false := by rw [beq_eq_false_iff_ne]; omega
        go_enter Try.func53, Try.ntmps53
        go_wp2_with fail
        refine HMx.out.mono ?_
        rintro _ w1 ⟨m, rfl, hm1, hm2, hw1⟩
        subst hw1
        by_cases h11 : 11 < m
        · have h11z : (11 : Int) < (m : Int) := by omega
          have HN : Hid (∀ d, ¬ MayW d l) := fun d h => by
            have := h.2.2.2.2.2.2 m hm1
            have := h.2.2.2.2.2.1
            omega
          clear HMx hm1 hm2
          go_wp2_with fail
          go_ret2
          exact ⟨rfl, .inr ⟨HN.out, rfl⟩⟩
        · have h11z : ¬ (11 : Int) < (m : Int) := by omega
          have hall : ∀ x ∈ l, x ≤ 11 := fun x hx => by have := hm2 x hx; omega
          have hW := worth_any (c := c) HD.out.1 HD.out.2.1 (by omega) hall
          have ht := totW_le l hall
          rw [HD.out.2.1] at ht
          have ht2 : totW l ≤ 262144 := by omega
          have hpos : 0 < totW l := by
            obtain ⟨p, x, hl, hx⟩ := HLa.out.2 (by omega)
            rw [hl, totW_append, totW_one]
            have := wor_gt hx
            omega
          obtain ⟨S, hS⟩ : ∃ S, S = totW l := ⟨_, rfl⟩
          rw [← hS] at ht2 hW hpos
          have HW := Lib.hid hW
          have HS := Lib.hid (And.intro hS (And.intro hm1 hm2))
          clear hall ht hS hW hm1 hm2
          go_wp2_with fail
          refine HW.out.mono ?_
          rintro _ w2 ⟨rfl, hw2⟩
          subst hw2
          have HLn := fun W => Lib.hid (lenW_any S W (by omega))
          have HPw := fun W => Lib.hid (isPower_any S W hpos (by omega))
          rw [len8_of hpos] at HLn
          obtain ⟨D, hDl⟩ : ∃ D, D = S.log2 := ⟨_, rfl⟩
          have hD18 : D ≤ 18 := by
            have := (Nat.log2_lt (n := S) (k := 19) (by omega)).2 (by omega)
            omega
          rw [← hDl] at HLn
          have HDl := Lib.hid hDl
          clear hDl
          go_wp2_with fail
          refine (HLn _).out.mono ?_
          rintro _ w3 ⟨rfl, hw3⟩
          subst hw3
          go_wp2_with fail
          refine (HPw _).out.mono ?_
          rintro _ w4 ⟨b, rfl, hb, hw4⟩
          subst hw4
          cases b with
          | false =>
            have HN : Hid (∀ d, ¬ MayW d l) := fun d h => by
              have : (false : Bool) = true := hb.2 ⟨d, by rw [HS.out.1]; exact h.2.2.2.1⟩
              cases this
            clear hb HPw HLn HW HMx
            go_wp2_with fail
            go_ret2
            exact ⟨rfl, .inr ⟨HN.out, rfl⟩⟩
          | true =>
            have hb' : ∃ d, S = 2 ^ d := hb.1 rfl
            clear hb
            obtain ⟨D', hD'⟩ := hb'
            have hlog : S.log2 = D' := by rw [hD']; exact Nat.log2_two_pow
            have hD : S = 2 ^ D := by rw [HDl.out, hlog]; exact hD'
            have hU : ∀ d, MayW d l → d = D := fun d h => may_depth h (by rw [← HS.out.1, hD])
            have HU := Lib.hid (And.intro hU hD)
            clear hlog hU hD hD' HPw HLn HW HDl
            have HMx2 := HMx
            clear HMx
            by_cases hD1 : D < 1
            · have hDz : (D : Int) < 1 := by omega
              have HN : Hid (∀ d, ¬ MayW d l) := fun d h => by
                have := HU.out.1 d h
                have := h.2.2.2.2.1
                omega
              go_wp2_with fail
              go_ret2
              exact ⟨rfl, .inr ⟨HN.out, rfl⟩⟩
            · have hDz : ¬ (D : Int) < 1 := by omega
              by_cases hD11 : 11 < D
              · have hDz1 : (11 : Int) < (D : Int) := by omega
                have HN : Hid (∀ d, ¬ MayW d l) := fun d h => by
                  have := HU.out.1 d h
                  have := h.2.2.2.2.2.1
                  omega
                go_wp2_with fail
                go_ret2
                exact ⟨rfl, .inr ⟨HN.out, rfl⟩⟩
              · have hDz1 : ¬ (11 : Int) < (D : Int) := by omega
                go_wp2_with fail
                refine HMx2.out.mono ?_
                rintro _ w5 ⟨m', rfl, hm1', hm2', hw5⟩
                subst hw5
                obtain rfl : m = m' := by
                  have a := HS.out.2.2 m' hm1'
                  have b := hm2' m HS.out.2.1
                  omega
                clear hm1' hm2' HMx2
                by_cases hmD : D < m
                · have hmz : (D : Int) < (m : Int) := by omega
                  have HN : Hid (∀ d, ¬ MayW d l) := fun d h => by
                    have := HU.out.1 d h
                    have := h.2.2.2.2.2.2 m HS.out.2.1
                    omega
                  go_wp2_with fail
                  go_ret2
                  exact ⟨rfl, .inr ⟨HN.out, rfl⟩⟩
                · have hmz : ¬ (D : Int) < (m : Int) := by omega
                  go_wp2_with fail
                  go_ret2
                  exact ⟨rfl, .inl ⟨D, ⟨by rw [HD.out.2.1]; omega, by rw [HD.out.2.1]; omega, HLa.out.2 (by omega), by rw [← HS.out.1]; exact HU.out.2, by omega, by omega, fun x hx => by have := HS.out.2.2 x hx; omega⟩, rfl⟩⟩
end
end Go.Proofs.Ytjpjbbbpmhcgnaa

/- The contract of the program's Codes. -/
namespace Go.Proofs.Ytjpjbbbpmhcgnaa
open Go.RowKit

/-- A code's cells. -/
def ccell (x : Nat × Nat) : List Value := [.int .i64 (x.1 : Int), .int .i64 (x.2 : Int)]
theorem ccell_len (x : Nat × Nat) : (ccell x).length = 2 := rfl
theorem ccell_one (x : Nat × Nat) : ∀ v ∈ ccell x, v.oneCell' = true := by
  intro v hv
  simp [ccell] at hv
  rcases hv with rfl | rfl <;> rfl
/-- The codes that are given so far: of weights up to s, and of the next weight's symbols ahead of j. -/
def cdAt (d : Nat) (l : List Nat) (s j i : Nat) : Nat × Nat := if 0 < l.getD i 0 ∧ (l.getD i 0 ≤ s ∨ l.getD i 0 = s + 1 ∧ i < j) then (bitsW d l i, codeW l i) else (0, 0)
def cds (d : Nat) (l : List Nat) (s j : Nat) : List (Nat × Nat) := (List.range l.length).map (cdAt d l s j)
/-- All codes. -/
def codesOf (d : Nat) (l : List Nat) : List (Nat × Nat) := (List.range l.length).map fun i => (bitsW d l i, codeW l i)
theorem cds_len (d : Nat) (l : List Nat) (s j : Nat) : (cds d l s j).length = l.length := by simp [cds]
theorem cds_zero (d : Nat) (l : List Nat) : cds d l 0 0 = List.replicate l.length (0, 0) := by
  apply List.ext_getElem
  · simp [cds]
  · intro i h1 h2
    simp only [cds, List.getElem_map, List.getElem_range, List.getElem_replicate, cdAt]
    rw [if_neg (by omega)]
theorem cds_skip {d : Nat} {l : List Nat} {s j : Nat} (h : l.getD j 0 ≠ s + 1) : cds d l s (j + 1) = cds d l s j := by
  unfold cds
  refine List.map_congr_left fun i _ => ?_
  unfold cdAt
  by_cases hij : i = j
  · subst hij
    by_cases q : 0 < l.getD i 0 ∧ l.getD i 0 ≤ s
    · rw [if_pos (by omega), if_pos (by omega)]
    · rw [if_neg (by omega), if_neg (by omega)]
  · by_cases q : 0 < l.getD i 0 ∧ (l.getD i 0 ≤ s ∨ l.getD i 0 = s + 1 ∧ i < j)
    · rw [if_pos (by omega), if_pos q]
    · rw [if_neg (by omega), if_neg q]
theorem cds_set {d : Nat} {l : List Nat} {s j : Nat} (h : l.getD j 0 = s + 1) : (cds d l s j).set j (bitsW d l j, codeW l j) = cds d l s (j + 1) := by
  apply List.ext_getElem
  · simp [cds]
  · intro i h1 h2
    rw [List.getElem_set]
    simp only [cds, List.getElem_map, List.getElem_range, cdAt]
    by_cases hij : j = i
    · subst hij
      rw [if_pos rfl, if_pos (by omega)]
    · rw [if_neg hij]
      by_cases q : 0 < l.getD i 0 ∧ (l.getD i 0 ≤ s ∨ l.getD i 0 = s + 1 ∧ i < j)
      · rw [if_pos q, if_pos (by omega)]
      · rw [if_neg q, if_neg (by omega)]
theorem cds_next (d : Nat) (l : List Nat) (s : Nat) : cds d l s l.length = cds d l (s + 1) 0 := by
  unfold cds
  refine List.map_congr_left fun i hi => ?_
  have hi := List.mem_range.1 hi
  unfold cdAt
  by_cases q : 0 < l.getD i 0 ∧ l.getD i 0 ≤ s + 1
  · rw [if_pos (by omega), if_pos (by omega)]
  · rw [if_neg (by omega), if_neg (by omega)]
theorem cds_end {d : Nat} {l : List Nat} (h : MayW d l) : cds d l d 0 = codesOf d l := by
  unfold cds codesOf
  refine List.map_congr_left fun i hi => ?_
  have hi := List.mem_range.1 hi
  have hg : l.getD i 0 = l[i] := by simp [List.getD, hi]
  have hm := h.2.2.2.2.2.2 l[i] (List.getElem_mem hi)
  unfold cdAt
  by_cases q : 0 < l.getD i 0
  · rw [if_pos (by omega)]
  · rw [if_neg (by omega)]
    have h0 : l.getD i 0 = 0 := by omega
    unfold bitsW codeW
    rw [if_pos h0, if_pos h0]
theorem nxt_step (A c s : Nat) : (A / 2 ^ s + c) / 2 = (A + c * 2 ^ s) / 2 ^ (s + 1) := by
  rw [← Nat.add_mul_div_right A c (Nat.two_pow_pos s), Nat.div_div_eq_div_mul, Nat.pow_succ]

theorem info_code : (Try.prog.info? 74).map (fun i => (i.zero, i.size, i.bytes)) = some (some (.agg #[.int .i64 0, .int .i64 0]), 2, 16) := by kernel_rfl
/-- What Codes answers. -/
def CodesPost (l : List Nat) (w : World) (e : Ending) (w' : World) : Prop :=
  Below w.heap.size w w' ∧ ((∃ d v, MayW d l ∧ e = .returned (.tuple #[v, .int .i64 0]) ∧ OwR 2 ccell w' 74 w.heap.size v (codesOf d l)) ∨ ((∀ d, ¬ MayW d l) ∧ e = .returned (.tuple #[.slice none 0 0, .int .i64 1])))

section
variable {w : World}
set_option maxRecDepth 100000 in
set_option maxHeartbeats 1000000 in
theorem codes_any {lo hi n c : Nat} {A : Option Addr} {l : List Nat} (hd : DatE u8cel w lo hi A l) (hn : l.length = n) (hm : n ≤ 100000) (h8 : ∀ x ∈ l, x ≤ 255) (hhi : hi ≤ w.heap.size) :
    Calls Try.prog 32 #[.slice A n c] w (CodesPost l w) := by
  have HDp := Lib.hid (depth_any (c := c) hd hn hm h8)
  have HD := Lib.hid (And.intro hd (And.intro hn h8))
  clear hd hn h8
  go_enter Try.func32, Try.ntmps32
  go_wp2_with fail
  refine HDp.out.mono ?_
  rintro _ w1 ⟨hw1, h | ⟨h, rfl⟩⟩
  · obtain ⟨d, hM, rfl⟩ := h
    subst hw1
    have HM := Lib.hid hM
    have hd11 := hM.2.2.2.2.2.1
    have hn256 := hM.2.1
    have hn2 := hM.1
    rw [HD.out.2.1] at hn256 hn2
    obtain ⟨dd, oo, rfl, qd1, qd2, hc⟩ := HD.out.1 (by rw [HD.out.2.1]; omega)
    have HC := Lib.hid hc
    obtain ⟨i0, hi0, hi1⟩ := Option.map_eq_some_iff.1 info_code
    simp only [Prod.mk.injEq] at hi1
    obtain ⟨hz0, hz1, hz2⟩ := hi1
    have HI := Lib.hid (And.intro hi0 (And.intro hz0 (And.intro hz1 hz2)))
    clear hi0 hz0 hz1 hz2 hc hM HDp
    go_wp2_with (at_make; refine wpList_make_full _ rfl _ _ 35 rfl w1.heap.size 74 i0 (.agg #[.int .i64 0, .int .i64 0]) 2 Try.underlying35 HI.out.1 HI.out.2.1 HI.out.2.2.1 .i64 .i64 _ _ n rfl rfl rfl rfl ?_ ?_ ?_ ?_)
    · rw [HI.out.2.2.2]; omega
    · unfold maxLen; omega
    · exact Nat.le_refl _
    intro w2 ho hg
    have ho1 := OwR.made (f := ccell) (x := ((0, 0) : Nat × Nat)) ccell_len (by decide) rfl ho
    rw [← HD.out.2.1, ← cds_zero d l, HD.out.2.1] at ho1
    have HO := Lib.hid (And.intro ho1 ((Below.refl w1.heap.size w1).grown hg (Nat.le_refl _) (by simp)))
    clear ho ho1 hg
    go_wp2_with fail
    go_loopg [7, 22] d (fun g1 vn vi wx => ∃ s : Nat, vi = .int .i64 (s : Int) ∧ s + g1 = d ∧ vn = .int .i64 ((bel (s + 1) l / 2 ^ s : Nat) : Int) ∧ OwR 2 ccell wx 74 w1.heap.size (.slice (some ⟨w1.heap.size, 0, none⟩) n n) (cds d l s 0) ∧ Below w1.heap.size w1 wx)
    case atStart => exact ⟨0, rfl, by omega, by rw [bel_one]; rfl, HO.out.1, HO.out.2⟩
    case round =>
      clear HO
      obtain ⟨s, rfl, hs, rfl, hO, hB⟩ := hrel
      have hbn : bel (s + 1) l / 2 ^ s ≤ 262144 := by
        have h1 := bel_mono (show s + 1 ≤ d + 1 by omega) l
        rw [bel_all l HM.out.2.2.2.2.2.2, HM.out.2.2.2.1] at h1
        have h2 : 2 ^ d ≤ 2 ^ 11 := Nat.pow_le_pow_right (by omega) hd11
        have h3 := Nat.div_le_self (bel (s + 1) l) (2 ^ s)
        omega
      have HNx := Lib.hid (fun c => nxt_step (bel (s + 1) l) c s)
      have HBs := Lib.hid (bel_succ (s + 1) (by omega) l)
      have HCw := Lib.hid (fun j (hj : l.getD j 0 = s + 1) => codeW_eq (l := l) (s := j) (by omega))
      obtain ⟨N, hN⟩ : ∃ N, N = bel (s + 1) l / 2 ^ s := ⟨_, rfl⟩
      rw [← hN] at hbn HNx
      rw [← hN]
      have HN := Lib.hid hN
      have HO2 := Lib.hid (And.intro hO hB)
      clear hO hB hN
      by_cases hlt : s < d
      · have hltz : (s : Int) < (d : Int) := by omega
        go_wp2_with fail
        go_loopg [7, 27] n (fun g2 vn vj wy => ∃ j : Nat, vj = .int .i64 (j : Int) ∧ j + g2 = n ∧ vn = .int .i64 ((N + cnw (s + 1) (l.take j) : Nat) : Int) ∧ OwR 2 ccell wy 74 w1.heap.size (.slice (some ⟨w1.heap.size, 0, none⟩) n n) (cds d l s j) ∧ Below w1.heap.size w1 wy)
        case atStart => exact ⟨0, rfl, by omega, rfl, HO2.out.1, HO2.out.2⟩
        case round =>
          clear HO2
          obtain ⟨j, rfl, hj, rfl, hO, hB⟩ := hrel
          by_cases hlt2 : j < n
          · have hltz2 : (j : Int) < (n : Int) := by omega
            have hjl : j < l.length := by rw [HD.out.2.1]; exact hlt2
            have hcj := (World.cell?_of_block (hB.block dd (by omega))).trans (HC.out j hjl)
            unfold u8cel at hcj
            have hgj : l.getD j 0 = l[j] := by simp [List.getD, hjl]
            have hx8 := HD.out.2.2 l[j] (List.getElem_mem hjl)
            have htk := cnw_take_succ (s + 1) l j hjl
            have hcl : cnw (s + 1) (l.take j) ≤ 256 := by
              have := cnw_le (s + 1) (l.take j)
              rw [List.length_take] at this
              omega
            have hq := hO.cellAt ccell_len j 0 (by rw [cds_len]; exact hjl) (by decide) _ rfl
            have hq2 := hO.cellAt ccell_len j 1 (by rw [cds_len]; exact hjl) (by decide) _ rfl
            obtain ⟨v0, hv0⟩ : ∃ v, v = Value.int .i64 (((cds d l s j)[j]'(by rw [cds_len]; exact hjl)).1 : Int) := ⟨_, rfl⟩
            obtain ⟨v1, hv1⟩ : ∃ v, v = Value.int .i64 (((cds d l s j)[j]'(by rw [cds_len]; exact hjl)).2 : Int) := ⟨_, rfl⟩
            rw [← hv0, Nat.add_zero] at hq
            rw [← hv1] at hq2
            clear hv0 hv1
            have HQ := Lib.hid (And.intro hO (And.intro hB (And.intro hgj (And.intro htk hjl))))
            obtain ⟨cq, fq⟩ := hq
            obtain ⟨cq2, fq2⟩ := hq2
            clear hO hB hgj htk
            generalize hC : cnw (s + 1) (l.take j) = C at *
            have HCn := Lib.hid hC
            clear hC
            generalize hx : l[j] = x at *
            have HX := Lib.hid hx
            clear hx
            by_cases hxs : x = s + 1
            · subst hxs
              have hxz : (((s + 1 : Nat) : Int) == (s : Int) + 1) = true := by rw [beq_iff_eq]; omega
              go_wp2_with fail
              go_roundg (n - (j + 1))
              case measure => omega
              case rel =>
                obtain ⟨hO, hB, hgj, htk, hjl⟩ := HQ.out
                have hgs : l.getD j 0 = s + 1 := by rw [hgj]
                have hbw : bitsW d l j = d - s := by unfold bitsW; rw [if_neg (by omega), hgs]; omega
                have hcw : codeW l j = N + C := by
                  rw [HCw.out j hgs, hgs, HCn.out, show s + 1 - 1 = s by omega, ← HN.out]
                have hjc : j < (cds d l s j).length := by rw [cds_len]; exact hjl
                have p1 := hO.put ccell_len j 0 hjc (by decide) (.int .i64 ((d : Int) - (s : Int))) (d - s, ((cds d l s j)[j]'hjc).2) (by simp [ccell]; omega)
                have p2 := p1.put ccell_len j 1 (by rw [List.length_set]; exact hjc) (by decide) (.int .i64 ((N : Int) + (C : Int))) (d - s, N + C) (by simp [ccell])
                rw [List.set_set, ← hbw, ← hcw, cds_set hgs] at p2
                exact ⟨j + 1, by go_num, by omega, by rw [htk, if_pos trivial]; go_num, p2, (hB.setCell (Nat.le_refl _) _).setCell (Nat.le_refl _) _⟩
            · have hxz : ((x : Int) == (s : Int) + 1) = false := by rw [beq_eq_false_iff_ne]; omega
              go_wp2_with fail
              go_roundg (n - (j + 1))
              case measure => omega
              case rel =>
                obtain ⟨hO, hB, hgj, htk, hjl⟩ := HQ.out
                refine ⟨j + 1, by go_num, by omega, ?_, ?_, hB⟩
                · rw [htk, if_neg hxs, Nat.add_zero]
                · rw [cds_skip (by rw [hgj]; exact hxs)]
                  exact hO
          · obtain rfl : j = n := by omega
            have hltz2 : ¬ (j : Int) < (j : Int) := by omega
            have hcl : cnw (s + 1) (l.take j) ≤ 256 := by
              have := cnw_le (s + 1) (l.take j)
              rw [List.length_take] at this
              omega
            have HQ := Lib.hid (And.intro hO hB)
            clear hO hB
            have ht : l.take j = l := List.take_of_length_le (by rw [HD.out.2.1]; omega)
            rw [ht] at hcl ⊢
            generalize hC : cnw (s + 1) l = C at *
            have HCn := Lib.hid hC
            clear hC
            go_wp2_with fail
            go_roundg (d - (s + 1))
            case measure => omega
            case rel =>
              refine ⟨s + 1, by go_num, by omega, ?_, ?_, HQ.out.2⟩
              · have h1 := HNx.out C
                have h2 := HBs.out
                rw [h2, show s + 1 - 1 = s by omega, ← h1]
                congr 1
              · have := HQ.out.1
                rw [← HD.out.2.1, cds_next, HD.out.2.1] at this
                exact this
      · obtain rfl : s = d := by omega
        have hltz : ¬ (s : Int) < (s : Int) := by omega
        go_wp2_with fail
        go_ret2
        exact ⟨HO2.out.2, .inl ⟨s, _, HM.out, rfl, by rw [← cds_end HM.out]; exact HO2.out.1⟩⟩
  · subst hw1
    have HN := Lib.hid h
    clear h HDp
    go_wp2_with fail
    go_ret2
    exact ⟨Below.refl _ _, .inr ⟨HN.out, rfl⟩⟩
end
end Go.Proofs.Ytjpjbbbpmhcgnaa

/- Weights that are made of lengths of codes may be. No program here. -/
namespace Go.Proofs.Ytjpjbbbpmhcgnaa

/-- The weight of a length. -/
def wOf (D : Nat) (x : Nat) : Nat := if 0 < x then D + 1 - x else 0
/-- The weights of symbols. -/
def wts (D n : Nat) (T : List Pk) : List Nat := (List.range n).map fun j => wOf D (cn (UInt8.ofNat j) T)
theorem totW_sum (l : List Nat) : totW l = (l.map wor).sum := by
  induction l with
  | nil => rfl
  | cons x r ih => rw [totW, ih, List.map_cons, List.sum_cons]
theorem sum_scale (l : List (Nat × UInt8)) (f g : UInt8 → Nat) (c : Nat) (h : ∀ p ∈ l, f p.2 = c * g p.2) : (l.map fun p => f p.2).sum = c * (l.map fun p => g p.2).sum := by
  induction l with
  | nil => simp
  | cons x r ih =>
    rw [List.map_cons, List.sum_cons, List.map_cons, List.sum_cons, ih fun p hp => h p (by simp [hp]), h x (by simp), Nat.mul_add]
theorem sgs_get {os : List Nat} {p : Nat × UInt8} (h : p ∈ sgs 0 os) : ∃ j, j < os.length ∧ 0 < os.getD j 0 ∧ p.2 = UInt8.ofNat j := by
  obtain ⟨h0, j, hj, e, e2⟩ := sgs_mem h
  exact ⟨j, hj, by rw [e]; exact h0, by rw [e2, Nat.zero_add]⟩
theorem cntW_pos {os : List Nat} (h : 0 < cnt os) : ∃ j, j < os.length ∧ 0 < os.getD j 0 := by
  induction os with
  | nil => simp [cnt] at h
  | cons x r ih =>
    by_cases hx : 0 < x
    · exact ⟨0, by simp, by simpa using hx⟩
    · rw [cnt, if_neg hx, Nat.zero_add] at h
      obtain ⟨j, hj, h0⟩ := ih h
      exact ⟨j + 1, by simpa using hj, by simpa using h0⟩

theorem wts_may {os : List Nat} {T : List Pk} {D n : Nat} (hT : Told os T) (hn : os.length = n) (h256 : n ≤ 256) (h2 : 2 ≤ cnt os) (hlast : 0 < os.getD (n - 1) 0) (hD1 : ∃ j, j < n ∧ D = cn (UInt8.ofNat j) T) (hD2 : ∀ j, j < n → cn (UInt8.ofNat j) T ≤ D) : MayW D (wts D n T) := by
  obtain ⟨t1, t2, t3⟩ := hT
  have hcl := cnt_le os
  have hn0 : 0 < n := by omega
  have hD11 : D ≤ 11 := by
    obtain ⟨j, hj, e⟩ := hD1
    by_cases h0 : 0 < os.getD j 0
    · rw [e]; exact (t1 j (by omega) h0).2
    · rw [e, t2 j (by omega) h0]; omega
  have hDpos : 1 ≤ D := by
    obtain ⟨j, hj, h0⟩ := cntW_pos (show 0 < cnt os by omega)
    have a := (t1 j (by omega) h0).1
    have b := hD2 j (by omega)
    omega
  have hlen : (wts D n T).length = n := by simp [wts]
  refine ⟨by omega, by omega, ?_, ?_, hDpos, hD11, fun w hw => ?_⟩
  · refine ⟨(wts D n T).take (n - 1), wOf D (cn (UInt8.ofNat (n - 1)) T), ?_, ?_⟩
    · have hq : n - 1 < (wts D n T).length := by omega
      have := List.take_succ_eq_append_getElem hq
      rw [show n - 1 + 1 = n by omega, List.take_of_length_le (by omega)] at this
      conv => lhs; rw [this]
      simp [wts]
    · have a := t1 (n - 1) (by omega) hlast
      have b := hD2 (n - 1) (by omega)
      unfold wOf
      rw [if_pos (by omega)]
      omega
  · have e : wts D n T = lst (fun v => wOf D (cn v T)) 0 os := by
      apply List.ext_getElem
      · rw [lst_len, hlen, hn]
      · intro j h1 h2'
        have hg := lst_get (fun v => wOf D (cn v T)) os 0 j
        rw [List.getD_eq_getElem?_getD, List.getElem?_eq_getElem h2'] at hg
        have hj : j < n := by omega
        simp only [Option.getD_some, Nat.zero_add] at hg
        rw [hg]
        have : (wts D n T)[j] = wOf D (cn (UInt8.ofNat j) T) := by simp [wts]
        rw [this]
        split
        · rfl
        · next h0 =>
          rw [t2 j (by omega) h0]
          rfl
    rw [totW_sum, e, lst_sum _ wor rfl]
    have hsc := sum_scale (sgs 0 os) (fun v => 2 ^ (11 - cn v T)) (fun v => wor (wOf D (cn v T))) (2 ^ (11 - D)) fun p hp => by
      obtain ⟨j, hj, h0, e⟩ := sgs_get hp
      have a := t1 j (by omega) h0
      have b := hD2 j (by omega)
      rw [e]
      unfold wOf
      rw [if_pos (by omega), wor_pos (by omega), ← Nat.pow_add]
      congr 1
      omega
    rw [t3] at hsc
    have e11 : (2 : Nat) ^ 11 = 2 ^ (11 - D) * 2 ^ D := by rw [← Nat.pow_add]; congr 1; omega
    rw [e11] at hsc
    exact (Nat.eq_of_mul_eq_mul_left (Nat.two_pow_pos _) hsc).symm
  · obtain ⟨j, hj, e⟩ := List.getElem_of_mem hw
    have : (wts D n T)[j] = wOf D (cn (UInt8.ofNat j) T) := by simp [wts]
    rw [this] at e
    rw [← e]
    unfold wOf
    split <;> omega
end Go.Proofs.Ytjpjbbbpmhcgnaa

/- The contract of the program's Of. -/
namespace Go.Proofs.Ytjpjbbbpmhcgnaa
open Go.RowKit

/-- What Of answers. -/
def OfPostW (os : List Nat) (w : World) (e : Ending) (w' : World) : Prop :=
  ((256 < os.length ∨ cnt os < 2 ∨ 2147483647 < os.sum) ∧ e = .returned (.tuple #[.slice none 0 0, .int .i64 1]) ∧ Below w.heap.size w w') ∨
  (¬ (256 < os.length ∨ cnt os < 2 ∨ 2147483647 < os.sum) ∧ ∃ v D L, e = .returned (.tuple #[v, .int .i64 0]) ∧ OwE u8cel w' 5 w.heap.size v L ∧ MayW D L ∧ L.length = ends os ∧ (∀ i, i < L.length → (0 < L.getD i 0 ↔ 0 < os.getD i 0)) ∧ Below w.heap.size w w')

theorem made_nats (L : Nat) : (madeCells #[Value.int .u8 0] L).toList = (List.replicate L 0).map u8cel := by
  apply List.ext_getElem
  · simp [madeCells]
  · intro i h1 h2
    simp [madeCells, u8cel, Nat.mod_one]
theorem DatE.takeS {α : Type} {f : α → Value} {w : World} {lo hi : Nat} {A : Option Addr} {xs : List α} (h : DatE f w lo hi A xs) (k : Nat) : DatE f w lo hi A (xs.take k) := h.take k
theorem cnt_ends (os : List Nat) : cnt (os.take (ends os)) = cnt os := by
  have e : os = os.take (ends os) ++ os.drop (ends os) := (List.take_append_drop _ _).symm
  have h0 : cnt (os.drop (ends os)) = 0 := by
    rcases Nat.eq_zero_or_pos (cnt (os.drop (ends os))) with h | h
    · exact h
    · obtain ⟨j, hj, hp⟩ := cntW_pos h
      have := (ends_spec os).1 (ends os + j) (by omega)
      rw [List.getD_eq_getElem?_getD, List.getElem?_drop, ← List.getD_eq_getElem?_getD] at hp
      omega
  conv => rhs; rw [e, cnt_append, h0]
  rfl

/-- How often each symbol is in bundles, as numbers. -/
def lensN (n : Nat) (T : List Pk) : List Nat := (List.range n).map fun j => cn (UInt8.ofNat j) T
theorem lens_nat (n : Nat) (T : List Pk) : lens n T = (lensN n T).map fun x : Nat => (x : Int) := by
  unfold lens lensP lensN
  rw [List.map_map]
  refine List.map_congr_left fun j _ => ?_
  simp
theorem lensN_len (n : Nat) (T : List Pk) : (lensN n T).length = n := by simp [lensN]
theorem told_small {os : List Nat} {T : List Pk} (h : Told os T) {n : Nat} (hn : n ≤ 256) : ∀ x ∈ lensN n T, x ≤ 11 := by
  intro x hx
  obtain ⟨j, hj, rfl⟩ := List.mem_map.1 hx
  have hj := List.mem_range.1 hj
  by_cases h0 : 0 < os.getD j 0
  · exact (h.1 j (by omega) h0).2
  · rw [h.2.1 j (by omega) h0]; omega

section
variable {w : World}
end
end Go.Proofs.Ytjpjbbbpmhcgnaa

/- The contract of the program's Write. -/
namespace Go.Proofs.Ytjpjbbbpmhcgnaa
open Go.RowKit

/-- The half bytes of weights ahead of t, two by two. -/
def hb (l : List Nat) (t k : Nat) : Nat := (if 2 * k < t then 16 * l.getD (2 * k) 0 else 0) + (if 2 * k + 1 < t then l.getD (2 * k + 1) 0 else 0)
def hbs (l : List Nat) (t m : Nat) : List Nat := (List.range m).map (hb l t)
/-- A description of weights, as numbers. -/
def descr (l : List Nat) : List Nat := (126 + l.length) :: hbs l (l.length - 1) (l.length / 2)
theorem hbs_len (l : List Nat) (t m : Nat) : (hbs l t m).length = m := by simp [hbs]
theorem hbs_zero (l : List Nat) (m : Nat) : hbs l 0 m = List.replicate m 0 := by
  apply List.ext_getElem
  · simp [hbs]
  · intro i h1 h2
    simp [hbs, hb]
theorem hbs_set {l : List Nat} {i m : Nat} : (hbs l i m).set (i / 2) (hb l (i + 1) (i / 2)) = hbs l (i + 1) m := by
  apply List.ext_getElem
  · simp [hbs]
  · intro j h1 h2
    rw [List.getElem_set]
    by_cases h : i / 2 = j
    · subst h
      rw [if_pos rfl]
      simp [hbs]
    · rw [if_neg h]
      simp only [hbs, List.getElem_map, List.getElem_range, hb]
      congr 1
      · by_cases q : 2 * j < i
        · rw [if_pos q, if_pos (by omega)]
        · rw [if_neg q, if_neg (by omega)]
      · by_cases q : 2 * j + 1 < i
        · rw [if_pos q, if_pos (by omega)]
        · rw [if_neg q, if_neg (by omega)]
theorem hb_get {l : List Nat} {i m k : Nat} (h : k < (hbs l i m).length) : (hbs l i m)[k] = hb l i k := by simp [hbs]
theorem hb_le {l : List Nat} (h : ∀ x ∈ l, x ≤ 11) (t k : Nat) : hb l t k ≤ 187 := by
  have g : ∀ j, l.getD j 0 ≤ 11 := fun j => by
    rw [List.getD_eq_getElem?_getD]
    by_cases q : j < l.length
    · rw [List.getElem?_eq_getElem q]; exact h _ (List.getElem_mem q)
    · rw [List.getElem?_eq_none (by omega)]; simp
  have a := g (2 * k)
  have b := g (2 * k + 1)
  unfold hb
  split <;> split <;> omega
/-- One weight is laid. -/
theorem hb_step {l : List Nat} (h : ∀ x ∈ l, x ≤ 11) (i : Nat) : hb l i (i / 2) ||| (l.getD i 0 * 2 ^ (4 * (1 - i % 2))) = hb l (i + 1) (i / 2) := by
  have g : ∀ j, l.getD j 0 ≤ 11 := fun j => by
    rw [List.getD_eq_getElem?_getD]
    by_cases q : j < l.length
    · rw [List.getElem?_eq_getElem q]; exact h _ (List.getElem_mem q)
    · rw [List.getElem?_eq_none (by omega)]; simp
  rcases Nat.mod_two_eq_zero_or_one i with e | e
  · have e2 : 2 * (i / 2) = i := by omega
    unfold hb
    rw [e, e2, if_neg (by omega), if_neg (by omega), if_pos (by omega), if_neg (by omega)]
    simp
    omega
  · have e2 : 2 * (i / 2) + 1 = i := by omega
    have e3 : 2 * (i / 2) = i - 1 := by omega
    unfold hb
    rw [e, e2, e3, if_pos (by omega), if_neg (by omega), if_pos (by omega), if_pos (by omega)]
    have a := g i
    have := Nat.two_pow_add_eq_or_of_lt (i := 4) (b := l.getD i 0) (by omega) (l.getD (i - 1) 0)
    simp only [Nat.sub_self, Nat.mul_zero, Nat.pow_zero, Nat.mul_one, Nat.add_zero]
    rw [show (2 : Nat) ^ 4 = 16 by decide] at this
    rw [← this]

section
variable {w : World}
/-- What Write answers. -/
def WtWritePost (l : List Nat) (w : World) (e : Ending) (w' : World) : Prop :=
  Below w.heap.size w w' ∧ (((∀ d, ¬ MayW d l) ∧ e = .returned (.tuple #[.slice none 0 0, .int .i64 1])) ∨ (∃ d, MayW d l ∧ ((129 < l.length ∧ e = .returned (.tuple #[.slice none 0 0, .int .i64 12])) ∨ (l.length ≤ 129 ∧ ∃ v, e = .returned (.tuple #[v, .int .i64 0]) ∧ OwE u8cel w' 5 w.heap.size v (descr l)))))

end
end Go.Proofs.Ytjpjbbbpmhcgnaa

/- The contract of the program's readHalves, and of Read where weights stand in half bytes. -/
namespace Go.Proofs.Ytjpjbbbpmhcgnaa
open Go.RowKit

/-- The half byte i. -/
def hfW (xs : List Nat) (i : Nat) : Nat := xs.getD (i / 2) 0 / 2 ^ (4 * (1 - i % 2)) % 16
/-- So many half bytes. -/
def halvesL (xs : List Nat) (n : Nat) : List Nat := (List.range n).map (hfW xs)
theorem halves_len (xs : List Nat) (n : Nat) : (halvesL xs n).length = n := by simp [halvesL]
theorem halves_lt {xs : List Nat} {n : Nat} : ∀ x ∈ halvesL xs n, x < 16 := by
  intro x hx
  obtain ⟨i, _, rfl⟩ := List.mem_map.1 hx
  exact Nat.mod_lt _ (by omega)
/-- Numbers as bytes. -/
def byt (l : List Nat) : List UInt8 := l.map UInt8.ofNat
theorem nat_byt {l : List Nat} (h : ∀ x ∈ l, x < 256) : nat (byt l) = l := by
  unfold nat byt
  rw [List.map_map]
  conv => rhs; rw [← List.map_id l]
  refine List.map_congr_left fun x hx => ?_
  have := h x hx
  simp only [Function.comp, UInt8.toNat_ofNat', id]
  omega
theorem DatE.bytes {w : World} {lo hi : Nat} {A : Option Addr} {l : List Nat} (h : DatE u8cel w lo hi A l) (hb : ∀ x ∈ l, x < 256) : Dat false w lo hi A (byt l) := fun hx => by
  obtain ⟨d, o, hA, h1, h2, hc⟩ := h (by simpa [byt] using hx)
  refine ⟨d, o, hA, h1, h2, fun j hj => ?_, fun q => by cases q⟩
  have hj' : j < l.length := by simpa [byt] using hj
  have h8 := hb l[j] (List.getElem_mem hj')
  rw [hc j hj']
  unfold cel u8cel
  congr 2
  simp only [byt, List.getD_eq_getElem?_getD, List.getElem?_map, List.getElem?_eq_getElem hj', Option.map_some, Option.getD_some, UInt8.toNat_ofNat']
  omega

section
variable {w : World}
end
end Go.Proofs.Ytjpjbbbpmhcgnaa

/- The contracts of the document's Worth, log and Depth. -/
namespace Go.Proofs.Ytjpjbbbpmhcgnaa
open Go.RowKit

section
variable {w : World}
theorem str_nat {S : ByteArray} {bs : List UInt8} (hb : bs = S.data.toList) {k : Nat} (h : k < S.size) (h2 : k < (nat bs).length) : (S[k]).toNat = (nat bs)[k] := by
  subst hb
  simp [nat]
  rfl
set_option maxRecDepth 100000 in
theorem refWorth_any (S : ByteArray) (hs : S.size ≤ 100000) :
    Calls Try.prog 30 #[.string S] w fun e w' => w = w' ∧ (((∃ x ∈ nat S.data.toList, 11 < x) ∧ e = .returned (.int .i64 (-1))) ∨ ((∀ x ∈ nat S.data.toList, x ≤ 11) ∧ e = .returned (.int .i64 (totW (nat S.data.toList) : Nat)))) := by
  obtain ⟨L, hL⟩ : ∃ L, L = S.size := ⟨_, rfl⟩
  obtain ⟨bs, hbs⟩ : ∃ bs, bs = S.data.toList := ⟨_, rfl⟩
  have hbl : (nat bs).length = L := by rw [nat_len, hbs, hL]; simp
  have HBS := Lib.hid hbs
  have HBL := Lib.hid hbl
  have hsz := hL.symm
  rw [← hbs]
  rw [← hL] at hs
  clear hL hbs hbl
  go_enter Try.func30, Try.ntmps30
  go_wp2_with fail
  go_loopg [3, 4] L (fun g1 vs vi wx => ∃ k : Nat, vi = .int .i64 (k : Int) ∧ k + g1 = L ∧ vs = .int .i64 (totW ((nat bs).take k) : Nat) ∧ (∀ x ∈ (nat bs).take k, x ≤ 11) ∧ wx = w)
  case atStart => exact ⟨0, rfl, by omega, rfl, fun x hx => (by simp at hx), rfl⟩
  case round =>
    obtain ⟨k, rfl, hk, rfl, hall, rfl⟩ := hrel
    by_cases hlt : k < L
    · have hltz : (k : Int) < (L : Int) := by omega
      have hlS : k < S.size := by rw [hsz]; exact hlt
      have hkl : k < (nat bs).length := by rw [HBL.out]; exact hlt
      have e5 := str_nat HBS.out hlS hkl
      have htt := totW_take (nat bs) k hkl
      have htl := totW_le _ hall
      rw [List.length_take] at htl
      have hts := List.take_succ_eq_append_getElem hkl
      have hmm := List.getElem_mem hkl
      have HT := Lib.hid (And.intro hall (And.intro htt (And.intro hts hmm)))
      have hb2 : totW ((nat bs).take k) ≤ 102400000 := by omega
      have e5z : ((S[k].toNat : Nat) : Int) = (((nat bs)[k] : Nat) : Int) := by rw [e5]
      clear hall htt htl hts hmm e5
      generalize totW ((nat bs).take k) = T at *
      generalize (nat bs)[k] = x at *
      by_cases h11 : 11 < x
      · have h11z : (11 : Int) < (x : Int) := by omega
        go_wp2_with fail
        go_ret
        exact ⟨rfl, .inl ⟨⟨x, HT.out.2.2.2, h11⟩, rfl⟩⟩
      · have h11z : ¬ (11 : Int) < (x : Int) := by omega
        by_cases h0 : 0 < x
        · have h0z : (0 : Int) < (x : Int) := by omega
          have hP := fun W => refPower_any (x - 1) W (by omega)
          have ex : ((x - 1 : Nat) : Int) = (x : Int) - 1 := by omega
          have ew : wor x = 2 ^ (x - 1) := wor_pos h0
          have hp : 2 ^ (x - 1) ≤ 2 ^ 10 := Nat.pow_le_pow_right (by omega) (by omega)
          obtain ⟨P, hPP⟩ : ∃ P, P = 2 ^ (x - 1) := ⟨_, rfl⟩
          rw [ex, ← hPP] at hP
          rw [← hPP] at ew hp
          have HW := Lib.hid ew
          clear ew hPP ex
          go_wp2_with (go_at_call 48; refine (hP _).mono ?_; rintro e w' ⟨rfl, rfl⟩)
          go_roundg (L - (k + 1))
          case measure => omega
          case rel =>
            obtain ⟨hall, htt, hts, hmm⟩ := HT.out
            refine ⟨k + 1, by go_num, by omega, by rw [htt, HW.out]; go_num, fun y hy => ?_, rfl⟩
            rw [hts] at hy
            rcases List.mem_append.1 hy with q | q
            · exact hall y q
            · rw [List.mem_singleton.1 q]; omega
        · obtain rfl : x = 0 := by omega
          go_wp2_with fail
          go_roundg (L - (k + 1))
          case measure => omega
          case rel =>
            obtain ⟨hall, htt, hts, hmm⟩ := HT.out
            refine ⟨k + 1, by go_num, by omega, by rw [htt, wor_zero]; rfl, fun y hy => ?_, rfl⟩
            rw [hts] at hy
            rcases List.mem_append.1 hy with q | q
            · exact hall y q
            · rw [List.mem_singleton.1 q]; omega
    · obtain rfl : k = L := by omega
      have hltz : ¬ (k : Int) < (k : Int) := by omega
      have ht : (nat bs).take k = nat bs := List.take_of_length_le (by rw [HBL.out]; omega)
      rw [ht] at hall ⊢
      have HAll := Lib.hid hall
      clear hall ht
      go_wp2_with fail
      go_ret
      exact ⟨rfl, .inr ⟨HAll.out, rfl⟩⟩

set_option maxRecDepth 100000 in
theorem refLog_any (x : Int) :
    Calls Try.prog 29 #[.int .i64 x] w fun e w' => w = w' ∧ ((∃ d : Nat, d < 20 ∧ x = ((2 ^ d : Nat) : Int) ∧ e = .returned (.int .i64 (d : Int))) ∨ ((∀ d : Nat, d < 20 → x ≠ ((2 ^ d : Nat) : Int)) ∧ e = .returned (.int .i64 (-1)))) := by
  go_enter Try.func29, Try.ntmps29
  go_wp2_with fail
  go_loopg [3] 20 (fun g1 vi wx => ∃ k : Nat, vi = .int .i64 (k : Int) ∧ k + g1 = 20 ∧ (∀ d : Nat, d < k → x ≠ ((2 ^ d : Nat) : Int)) ∧ wx = w)
  case atStart => exact ⟨0, rfl, rfl, fun d hd => absurd hd (by omega), rfl⟩
  case round =>
    obtain ⟨k, rfl, hk, hall, rfl⟩ := hrel
    have HAll := Lib.hid hall
    clear hall
    by_cases hlt : k < 20
    · have hltz : (k : Int) < 20 := by omega
      have hP := fun W => refPower_any k W (by omega)
      obtain ⟨P, hPP⟩ : ∃ P, P = 2 ^ k := ⟨_, rfl⟩
      rw [← hPP] at hP
      have HPP := Lib.hid hPP
      clear hPP
      by_cases hq : ((P : Nat) : Int) = x
      · have hqz : (((P : Nat) : Int) == x) = true := by rw [beq_iff_eq]; exact hq
        go_wp2_with (go_at_call 48; refine (hP _).mono ?_; rintro e w' ⟨rfl, rfl⟩)
        go_ret
        exact ⟨rfl, .inl ⟨k, hlt, by rw [← hq, HPP.out], rfl⟩⟩
      · have hqz : (((P : Nat) : Int) == x) = false := by rw [beq_eq_false_iff_ne]; exact hq
        go_wp2_with (go_at_call 48; refine (hP _).mono ?_; rintro e w' ⟨rfl, rfl⟩)
        go_roundg (20 - (k + 1))
        case measure => omega
        case rel =>
          refine ⟨k + 1, by go_num, by omega, fun d hd => ?_, rfl⟩
          by_cases hdk : d = k
          · subst hdk
            rw [← HPP.out]
            exact fun e => hq e.symm
          · exact HAll.out d (by omega)
    · obtain rfl : k = 20 := by omega
      go_wp2_with fail
      go_ret
      exact ⟨rfl, .inr ⟨HAll.out, rfl⟩⟩

/-- What the document's Depth answers. -/
def RDepthPost (l : List Nat) (w : World) (e : Ending) (w' : World) : Prop :=
  w = w' ∧ ((∃ d : Nat, MayW d l ∧ e = .returned (.int .i64 (d : Int))) ∨ ((∀ d, ¬ MayW d l) ∧ e = .returned (.int .i64 0)))
set_option maxRecDepth 100000 in
set_option maxHeartbeats 1000000 in
theorem refDepth_any (S : ByteArray) (hs : S.size ≤ 100000) :
    Calls Try.prog 15 #[.string S] w (RDepthPost (nat S.data.toList) w) := by
  have HWo := fun W => Lib.hid (refWorth_any (w := W) S hs)
  obtain ⟨L, hL⟩ : ∃ L, L = S.size := ⟨_, rfl⟩
  obtain ⟨bs, hbs⟩ : ∃ bs, bs = S.data.toList := ⟨_, rfl⟩
  have hbl : (nat bs).length = L := by rw [nat_len, hbs, hL]; simp
  have HBS := Lib.hid hbs
  have HBL := Lib.hid hbl
  have hsz := hL.symm
  rw [← hbs] at HWo ⊢
  rw [← hL] at hs
  clear hL hbs
  by_cases h0 : L < 2
  · have h0z : (L : Int) < 2 := by omega
    have HN : Hid (∀ d, ¬ MayW d (nat bs)) := fun d h => by have := h.1; omega
    clear HWo hbl
    go_enter Try.func15, Try.ntmps15
    go_wp2_with fail
    go_ret
    exact ⟨rfl, .inr ⟨HN.out, rfl⟩⟩
  · have h0z : ¬ (L : Int) < 2 := by omega
    by_cases h1 : 256 < L
    · have h1z : (256 : Int) < (L : Int) := by omega
      have HN : Hid (∀ d, ¬ MayW d (nat bs)) := fun d h => by have := h.2.1; omega
      clear HWo hbl
      go_enter Try.func15, Try.ntmps15
      go_wp2_with fail
      go_ret
      exact ⟨rfl, .inr ⟨HN.out, rfl⟩⟩
    · have h1z : ¬ (256 : Int) < (L : Int) := by omega
      have hlS : L - 1 < S.size := by omega
      have hq : L - 1 < (nat bs).length := by omega
      have e5 := str_nat HBS.out hlS hq
      have hlast := last_of (l := nat bs) (by omega)
      rw [hbl, List.getD_eq_getElem?_getD, List.getElem?_eq_getElem hq, Option.getD_some] at hlast
      have e5z : ((S[L - 1].toNat : Nat) : Int) = (((nat bs)[L - 1] : Nat) : Int) := by rw [e5]
      clear e5
      generalize (nat bs)[L - 1] = y at *
      have HLa := Lib.hid hlast
      clear hlast hbl
      have z1 : ((L : Int) - 1).toNat = L - 1 := by omega
      have z2 : (0 : Int) ≤ (L : Int) - 1 := by omega
      have z2' : (1 : Int) ≤ (L : Int) := by omega
      have z3 : (L : Int) - 1 < (L : Int) := by omega
      by_cases hy0 : y = 0
      · subst hy0
        have HN : Hid (∀ d, ¬ MayW d (nat bs)) := fun d h => by
          have := HLa.out.1 h.2.2.1
          omega
        clear HWo
        go_enter Try.func15, Try.ntmps15
        go_wp2_with fail
        go_ret
        exact ⟨rfl, .inr ⟨HN.out, rfl⟩⟩
      · have hy0z : ((y : Int) == 0) = false := by rw [beq_eq_false_iff_ne]; omega
        go_enter Try.func15, Try.ntmps15
        go_wp2_with fail
        refine (HWo _).out.mono ?_
        rintro _ w1 ⟨hw1, ⟨hbig, rfl⟩ | ⟨hall, rfl⟩⟩
        · subst hw1
          obtain ⟨x, hx, hx11⟩ := hbig
          have HN : Hid (∀ d, ¬ MayW d (nat bs)) := fun d h => by
            have := h.2.2.2.2.2.2 x hx
            have := h.2.2.2.2.2.1
            omega
          have HLg := fun W => Lib.hid (refLog_any (w := W) (-1))
          clear HWo hx
          go_wp2_with fail
          refine (HLg _).out.mono ?_
          rintro _ w2 ⟨hw2, ⟨d, _, hd, rfl⟩ | ⟨_, rfl⟩⟩
          · exfalso
            have h9 : (0 : Int) ≤ ((2 ^ d : Nat) : Int) := Int.natCast_nonneg _
            rw [← hd] at h9
            omega
          · subst hw2
            go_wp2_with fail
            go_ret
            exact ⟨rfl, .inr ⟨HN.out, rfl⟩⟩
        · subst hw1
          have ht := totW_le _ hall
          rw [HBL.out] at ht
          have HLg := fun W => Lib.hid (refLog_any (w := W) ((totW (nat bs) : Nat) : Int))
          have HAll := Lib.hid hall
          clear HWo hall ht
          obtain ⟨T, hT⟩ : ∃ T, T = totW (nat bs) := ⟨_, rfl⟩
          have HT := Lib.hid hT
          rw [← hT] at HLg
          rw [← hT]
          clear hT
          go_wp2_with fail
          refine (HLg _).out.mono ?_
          rintro _ w2 ⟨hw2, ⟨D, hD20, hD, rfl⟩ | ⟨hno, rfl⟩⟩
          · subst hw2
            have hDn : T = 2 ^ D := by omega
            have HU : Hid ((∀ d, MayW d (nat bs) → d = D) ∧ T = 2 ^ D) := ⟨fun d h => may_depth h (by rw [← HT.out, hDn]), hDn⟩
            clear HLg hD hDn
            by_cases hD1 : D < 1
            · have hDz : (D : Int) < 1 := by omega
              have HN : Hid (∀ d, ¬ MayW d (nat bs)) := fun d h => by
                have := HU.out.1 d h
                have := h.2.2.2.2.1
                omega
              go_wp2_with fail
              go_ret
              exact ⟨rfl, .inr ⟨HN.out, rfl⟩⟩
            · have hDz : ¬ (D : Int) < 1 := by omega
              by_cases hD11 : 11 < D
              · have hDz1 : (11 : Int) < (D : Int) := by omega
                have HN : Hid (∀ d, ¬ MayW d (nat bs)) := fun d h => by
                  have := HU.out.1 d h
                  have := h.2.2.2.2.2.1
                  omega
                go_wp2_with fail
                go_ret
                exact ⟨rfl, .inr ⟨HN.out, rfl⟩⟩
              · have hDz1 : ¬ (11 : Int) < (D : Int) := by omega
                go_wp2_with fail
                go_loopg [4] L (fun g1 vi wx => ∃ k : Nat, vi = .int .i64 (k : Int) ∧ k + g1 = L ∧ (∀ x ∈ (nat bs).take k, x ≤ D) ∧ wx = w)
                case atStart => exact ⟨0, rfl, by omega, fun x hx => (by simp at hx), rfl⟩
                case round =>
                  obtain ⟨k, rfl, hk, hle, rfl⟩ := hrel
                  by_cases hlt : k < L
                  · have hltz : (k : Int) < (L : Int) := by omega
                    have hlS2 : k < S.size := by rw [hsz]; exact hlt
                    have hkl : k < (nat bs).length := by rw [HBL.out]; exact hlt
                    have e6 := str_nat HBS.out hlS2 hkl
                    have hts := List.take_succ_eq_append_getElem hkl
                    have hmm := List.getElem_mem hkl
                    have HTk := Lib.hid (And.intro hle (And.intro hts hmm))
                    have hx8 : (nat bs)[k] ≤ 11 := HAll.out _ hmm
                    have e6z : ((S[k].toNat : Nat) : Int) = (((nat bs)[k] : Nat) : Int) := by rw [e6]
                    clear hle hts hmm e6
                    generalize (nat bs)[k] = x at *
                    by_cases hxD : D < x
                    · have hxz : (D : Int) < (x : Int) := by omega
                      have HN : Hid (∀ d, ¬ MayW d (nat bs)) := fun d h => by
                        have := HU.out.1 d h
                        have := h.2.2.2.2.2.2 x HTk.out.2.2
                        omega
                      go_wp2_with fail
                      go_ret
                      exact ⟨rfl, .inr ⟨HN.out, rfl⟩⟩
                    · have hxz : ¬ (D : Int) < (x : Int) := by omega
                      go_wp2_with fail
                      go_roundg (L - (k + 1))
                      case measure => omega
                      case rel =>
                        obtain ⟨hle, hts, hmm⟩ := HTk.out
                        refine ⟨k + 1, by go_num, by omega, fun z hz => ?_, rfl⟩
                        rw [hts] at hz
                        rcases List.mem_append.1 hz with q | q
                        · exact hle z q
                        · rw [List.mem_singleton.1 q]; omega
                  · obtain rfl : k = L := by omega
                    have hltz : ¬ (k : Int) < (k : Int) := by omega
                    have ht : (nat bs).take k = nat bs := List.take_of_length_le (by rw [HBL.out]; omega)
                    rw [ht] at hle
                    have HLe := Lib.hid hle
                    clear hle ht
                    go_wp2_with fail
                    go_ret
                    exact ⟨rfl, .inl ⟨D, ⟨by rw [HBL.out]; omega, by rw [HBL.out]; omega, HLa.out.2 (by omega), by rw [← HT.out]; exact HU.out.2, by omega, by omega, HLe.out⟩, rfl⟩⟩
          · subst hw2
            have HN : Hid (∀ d, ¬ MayW d (nat bs)) := fun d h => by
              have h1 := hno d (by have := h.2.2.2.2.2.1; omega)
              rw [HT.out, h.2.2.2.1] at h1
              exact h1 rfl
            clear hno
            go_wp2_with fail
            go_ret
            exact ⟨rfl, .inr ⟨HN.out, rfl⟩⟩
end
end Go.Proofs.Ytjpjbbbpmhcgnaa

/- The contract of the document's Codes. -/
namespace Go.Proofs.Ytjpjbbbpmhcgnaa
open Go.RowKit

/-- The running code: that of the last symbol that has one, and its bits; none yet: noughts. -/
def RI (d : Nat) (l : List Nat) (w s B C : Nat) : Prop :=
  (posW l w s = 0 ∧ B = 0 ∧ C = 0) ∨ ∃ v, 1 ≤ v ∧ v ≤ w ∧ v ≤ d ∧ B + v = d + 1 ∧ (C + 1) * 2 ^ (v - 1) = posW l w s
theorem ri_start (d : Nat) (l : List Nat) : RI d l 1 0 0 0 := .inl ⟨by unfold posW; rw [bel_one]; simp [cnw], rfl, rfl⟩
theorem posW_skip {l : List Nat} {w s : Nat} (h : s < l.length) (hw : l.getD s 0 ≠ w) : posW l w (s + 1) = posW l w s := by
  unfold posW
  rw [cnw_take_succ w l s h, if_neg]
  · rfl
  · rw [List.getD_eq_getElem?_getD, List.getElem?_eq_getElem h, Option.getD_some] at hw
    exact hw
theorem posW_put {l : List Nat} {w s : Nat} (h : s < l.length) (hw : l.getD s 0 = w) : posW l w (s + 1) = posW l w s + 2 ^ (w - 1) := by
  unfold posW
  rw [cnw_take_succ w l s h, if_pos]
  · rw [Nat.add_mul, Nat.one_mul, Nat.add_assoc]
  · rw [List.getD_eq_getElem?_getD, List.getElem?_eq_getElem h, Option.getD_some] at hw
    exact hw
theorem ri_skip {d : Nat} {l : List Nat} {w s B C : Nat} (h : RI d l w s B C) (hs : s < l.length) (hw : l.getD s 0 ≠ w) : RI d l w (s + 1) B C := by
  unfold RI
  rw [posW_skip hs hw]
  exact h
theorem ri_next {d : Nat} {l : List Nat} {w B C : Nat} (h : RI d l w l.length B C) (hw : 0 < w) : RI d l (w + 1) 0 B C := by
  have e : posW l (w + 1) 0 = posW l w l.length := by
    unfold posW
    rw [bel_succ w hw l, List.take_length]
    simp [cnw]
  unfold RI
  rw [e]
  rcases h with h | ⟨v, h1, h2, h3⟩
  · exact .inl h
  · exact .inr ⟨v, h1, by omega, h3⟩
theorem posW_dvd {d : Nat} {l : List Nat} {w s : Nat} (hM : MayW d l) (hw : 0 < w) (hwd : w ≤ d) : posW l w s / 2 ^ (w - 1) * 2 ^ (w - 1) = posW l w s := by
  have e := bel_dvd hM.2.2.2.1 hw (show w ≤ d + 1 by omega)
  unfold posW
  rw [Nat.add_mul_div_right _ _ (Nat.two_pow_pos _), Nat.add_mul, ← e]
theorem ri_put {d : Nat} {l : List Nat} {w s : Nat} (hM : MayW d l) (hs : s < l.length) (hw : l.getD s 0 = w) (hw0 : 0 < w) (hwd : w ≤ d) : RI d l w (s + 1) (d + 1 - w) (codeW l s) := by
  refine .inr ⟨w, hw0, Nat.le_refl _, hwd, by omega, ?_⟩
  have hc : codeW l s = posW l w s / 2 ^ (w - 1) := by unfold codeW; rw [if_neg (by omega), hw]
  rw [posW_put hs hw, hc, Nat.add_mul, posW_dvd hM hw0 hwd, Nat.one_mul]
theorem ri_code {d : Nat} {l : List Nat} {w s B C : Nat} (h : RI d l w s B C) (hw : l.getD s 0 = w) (hw0 : 0 < w) (hwd : w ≤ d) : (if 0 < B then C + 1 else C) / 2 ^ (B - (d + 1 - w)) = codeW l s := by
  have hc : codeW l s = posW l w s / 2 ^ (w - 1) := by unfold codeW; rw [if_neg (by omega), hw]
  rw [hc]
  rcases h with ⟨h1, h2, h3⟩ | ⟨v, h1, h2, h3, h4, h5⟩
  · subst h2 h3
    rw [h1]
    simp
  · rw [if_pos (by omega), ← h5, show B - (d + 1 - w) = w - v by omega, show w - 1 = w - v + (v - 1) by omega, Nat.pow_add, Nat.mul_div_mul_right _ _ (Nat.two_pow_pos _)]
theorem ri_bits {d : Nat} {l : List Nat} {w s B C : Nat} (h : RI d l w s B C) (hM : MayW d l) (hwd : w ≤ d) : B ≤ d ∧ C ≤ 1000000 := by
  rcases h with ⟨h1, h2, h3⟩ | ⟨v, h1, h2, h3, h4, h5⟩
  · omega
  · have hp : posW l w s ≤ 2 ^ 11 + 256 * 2 ^ 10 := by
      have h1' := bel_mono (show w ≤ d + 1 by omega) l
      rw [bel_all l hM.2.2.2.2.2.2, hM.2.2.2.1] at h1'
      have h2' : 2 ^ d ≤ 2 ^ 11 := Nat.pow_le_pow_right (by omega) hM.2.2.2.2.2.1
      have h3' := cnw_le w (l.take s)
      have h6 : (l.take s).length ≤ l.length := by simp; omega
      have h4' : 2 ^ (w - 1) ≤ 2 ^ 10 := Nat.pow_le_pow_right (by omega) (by have := hM.2.2.2.2.2.1; omega)
      have h7 := hM.2.1
      have h5' : cnw w (l.take s) * 2 ^ (w - 1) ≤ 256 * 2 ^ 10 := Nat.mul_le_mul (by omega) h4'
      unfold posW
      omega
    have h6 : C + 1 ≤ (C + 1) * 2 ^ (v - 1) := Nat.le_mul_of_pos_right _ (Nat.two_pow_pos _)
    omega

/-- What the document's Codes answers. -/
def RCodesPost (l : List Nat) (w : World) (e : Ending) (w' : World) : Prop :=
  Below w.heap.size w w' ∧ ((∃ d v, MayW d l ∧ e = .returned (.tuple #[v, .int .i64 0]) ∧ OwR 2 ccell w' 75 w.heap.size v (codesOf d l)) ∨ ((∀ d, ¬ MayW d l) ∧ e = .returned (.tuple #[.slice none 0 0, .int .i64 1])))
theorem info_c : (Try.prog.info? 75).map (fun i => (i.zero, i.size, i.bytes)) = some (some (.agg #[.int .i64 0, .int .i64 0]), 2, 16) := by kernel_rfl

section
variable {w : World}
set_option maxRecDepth 100000 in
set_option maxHeartbeats 2000000 in
theorem refCodes_any (S : ByteArray) (hs : S.size ≤ 100000) :
    Calls Try.prog 21 #[.string S] w (RCodesPost (nat S.data.toList) w) := by
  have HDp := fun W => Lib.hid (refDepth_any (w := W) S hs)
  obtain ⟨L, hL⟩ : ∃ L, L = S.size := ⟨_, rfl⟩
  obtain ⟨bs, hbs⟩ : ∃ bs, bs = S.data.toList := ⟨_, rfl⟩
  have hbl : (nat bs).length = L := by rw [nat_len, hbs, hL]; simp
  have HBS := Lib.hid hbs
  have hsz := hL.symm
  rw [← hbs] at HDp ⊢
  rw [← hL] at hs
  have HBL := Lib.hid hbl
  clear hL hbs hbl
  go_enter Try.func21, Try.ntmps21
  go_wp2_with fail
  refine (HDp _).out.mono ?_
  rintro _ w1 ⟨hw1, ⟨d, hM, rfl⟩ | ⟨hno, rfl⟩⟩
  · subst hw1
    have hd0 : ((d : Int) == 0) = false := by rw [beq_eq_false_iff_ne]; have := hM.2.2.2.2.1; omega
    have hd1 := hM.2.2.2.2.1
    have hd11 := hM.2.2.2.2.2.1
    have hl2 := hM.1
    have hl256 := hM.2.1
    rw [HBL.out] at hl2 hl256
    have HM := Lib.hid hM
    obtain ⟨i0, hi0, hi1⟩ := Option.map_eq_some_iff.1 info_c
    simp only [Prod.mk.injEq] at hi1
    obtain ⟨hz0, hz1, hz2⟩ := hi1
    have HI := Lib.hid (And.intro hi0 (And.intro hz0 (And.intro hz1 hz2)))
    clear hi0 hz0 hz1 hz2 hM HDp
    obtain ⟨wo, hwo⟩ : ∃ wo : World, wo = w := ⟨_, rfl⟩
    subst hwo
    go_wp2_with fail
    go_loopg [5, 6] L (fun gh vl vi wx => ∃ i : Nat, vi = .int .i64 (i : Int) ∧ i + gh = L ∧ OwR 2 ccell wx 75 wo.heap.size vl (List.replicate i (0, 0)) ∧ Below wo.heap.size wo wx)
    case atStart => exact ⟨0, rfl, by omega, OwR.nil _ _ _ _ _, Below.refl _ _⟩
    case round =>
      obtain ⟨i, rfl, hi, hO, hB⟩ := hrel
      have HO := Lib.hid hO
      have HB := Lib.hid hB
      have hsB := hB.size
      have HGK := Lib.hid hi
      have hiL : i ≤ L := by omega
      clear hO hB hi
      by_cases hlt : i < L
      · have hltz : (i : Int) < (L : Int) := by omega
        obtain ⟨gk', rfl⟩ : ∃ g', gk = g' + 1 := ⟨gk - 1, by have := HGK.out; omega⟩
        have HA := Lib.hid (HO.out.alloc (.cells #[.int .i64 0, .int .i64 0] 75))
        have HD1 := Lib.hid (datR_one (f := ccell) (z := 2) wr ((0, 0) : Nat × Nat) 75 #[.int .i64 0, .int .i64 0] rfl)
        go_wp2_with (at_builtin; refine list_appR ccell_len (by decide) ccell_one _ rfl _ _ 41 rfl i0 (.agg #[.int .i64 0, .int .i64 0]) 16 Try.underlying41 HI.out.1 HI.out.2.1 HI.out.2.2.1 HI.out.2.2.2 rfl (by decide) rfl HA.out rfl HD1.out rfl ?_ ?_ ?_)
        · simp; omega
        · simp; omega
        intro v1 w4 ho1 hg1 hat1
        have HB4 := Lib.hid ((HB.out.alloc (by omega) (.cells #[.int .i64 0, .int .i64 0] 75)).grown hg1 (by simp; omega) (fun k hk => (HO.out.block k hk).1))
        rw [show List.replicate i ((0, 0) : Nat × Nat) ++ [(0, 0)] = List.replicate (i + 1) (0, 0) by rw [List.replicate_succ']] at ho1
        have HO1 := Lib.hid ho1
        clear ho1 hg1 hat1 HA HD1
        go_wp2_with fail
        go_roundg gk'
        case rel => exact ⟨i + 1, by go_num, by have := HGK.out; omega, HO1.out, HB4.out⟩
        case measure => omega
      · obtain rfl : i = L := by omega
        have hltz : ¬ (i : Int) < (i : Int) := by omega
        obtain ⟨g, c, rfl, hg1, hg2, hgc⟩ := HO.out.place (by simp; omega)
        rw [List.length_replicate] at HO hgc ⊢
        have hst := HO.out
        rw [← HBL.out, ← cds_zero d (nat bs), HBL.out] at hst
        have HST := Lib.hid hst
        clear hst HO
        go_wp2_with fail
        go_loopg [7, 8, 9] d (fun g1 vc vb vw wx => ∃ W B C : Nat, vw = .int .i64 (W : Int) ∧ 1 ≤ W ∧ W + g1 = d + 1 ∧ vc = .int .i64 (C : Int) ∧ vb = .int .i64 (B : Int) ∧ RI d (nat bs) W 0 B C ∧ OwR 2 ccell wx 75 wo.heap.size (.slice (some ⟨g, 0, none⟩) i c) (cds d (nat bs) (W - 1) 0) ∧ Below wo.heap.size wo wx)
        case atStart => exact ⟨1, 0, 0, rfl, Nat.le_refl _, by omega, rfl, rfl, ri_start _ _, HST.out, HB.out⟩
        case round =>
          clear HST HB hsB hgc hg2 hlt HGK hiL hltz
          obtain ⟨W, B, C, rfl, hW1, hWg, rfl, rfl, hR, hO, hB⟩ := hrel
          have HR := Lib.hid hR
          have HO := Lib.hid hO
          have HB := Lib.hid hB
          have HWG := Lib.hid hWg
          have hWd : W ≤ d + 1 := by omega
          clear hR hO hB hWg
          by_cases hlt : W ≤ d
          · have hltz : (W : Int) ≤ (d : Int) := by omega
            obtain ⟨gk', rfl⟩ : ∃ g', gk = g' + 1 := ⟨gk - 1, by have := HWG.out; omega⟩
            go_wp2_with fail
            go_loopg [7, 8, 10] i (fun g2 vc vb vs wy => ∃ j B C : Nat, vs = .int .i64 (j : Int) ∧ j + g2 = i ∧ vc = .int .i64 (C : Int) ∧ vb = .int .i64 (B : Int) ∧ RI d (nat bs) W j B C ∧ OwR 2 ccell wy 75 wo.heap.size (.slice (some ⟨g, 0, none⟩) i c) (cds d (nat bs) (W - 1) j) ∧ Below wo.heap.size wo wy)
            case atStart => exact ⟨0, B, C, rfl, by omega, rfl, rfl, HR.out, HO.out, HB.out⟩
            case round =>
              clear HR HO HB
              obtain ⟨j, B, C, rfl, hj, rfl, rfl, hR, hO, hB⟩ := hrel
              have HJ := Lib.hid hj
              obtain ⟨hBd, hC1⟩ := ri_bits hR HM.out hlt
              have hji : j ≤ i := by omega
              have HR := Lib.hid hR
              have HO := Lib.hid hO
              have HB := Lib.hid hB
              clear hj hR hO hB
              by_cases hlt2 : j < i
              · have hltz2 : (j : Int) < (i : Int) := by omega
                obtain ⟨gq, rfl⟩ : ∃ g', gk = g' + 1 := ⟨gk - 1, by have := HJ.out; omega⟩
                have hlS2 : j < S.size := by rw [hsz]; exact hlt2
                have hkl : j < (nat bs).length := by rw [HBL.out]; exact hlt2
                have e6 := str_nat HBS.out hlS2 hkl
                have e6z : ((S[j].toNat : Nat) : Int) = (((nat bs)[j] : Nat) : Int) := by rw [e6]
                have hgj : (nat bs).getD j 0 = (nat bs)[j] := getD_eq _ _ _ _
                have hx8 : (nat bs)[j] ≤ 11 := by have := HM.out.2.2.2.2.2.2 _ (List.getElem_mem hkl); omega
                have HG := Lib.hid hgj
                clear e6 hgj
                generalize (nat bs)[j] = x at *
                by_cases hxW : x = W
                · have hxz : ((x : Int) != (W : Int)) = false := by rw [bne_eq_false_iff_eq]; omega
                  obtain ⟨n, hn⟩ : ∃ n, n = d + 1 - W := ⟨_, rfl⟩
                  have hn1 : 1 ≤ n := by omega
                  have hn11 : n ≤ 11 := by omega
                  have eN : (d : Int) + 1 - (W : Int) = (n : Int) := by omega
                  have HN := Lib.hid hn
                  clear hn
                  have HCo := Lib.hid (ri_code HR.out (by rw [HG.out, hxW]) (by omega) hlt)
                  by_cases hB0 : 0 < B
                  · have hB0z : (0 : Int) < (B : Int) := by omega
                    have hB0d : decide (0 < B) = true := decide_eq_true hB0
                    obtain ⟨X, hX⟩ : ∃ X, X = C + 1 := ⟨_, rfl⟩
                    have hXz : (C : Int) + 1 = (X : Int) := by omega
                    have hXm : X ≤ 1000001 := by omega
                    have hco := HCo.out
                    rw [if_pos hB0, ← hX, ← HN.out] at hco
                    have HCo2 := Lib.hid hco
                    clear hX hco HCo
                    go_wp2_with fail
                    go_loopg [7, 8] (B - n) (fun g3 vc vb wz => ∃ t b x : Nat, t + g3 = B - n ∧ b + t = B ∧ x = X / 2 ^ t ∧ vb = .int .i64 (b : Int) ∧ vc = .int .i64 (x : Int) ∧ wz = wr)
                    case atStart => exact ⟨0, B, X, by omega, rfl, by simp, rfl, rfl, rfl⟩
                    case round =>
                      obtain ⟨t, b, x2, ht, hbt, hx2, rfl, rfl, rfl⟩ := hrel
                      have hxm : x2 ≤ 1000001 := by rw [hx2]; have := Nat.div_le_self X (2 ^ t); omega
                      have HT := Lib.hid (And.intro ht (And.intro hbt hx2))
                      have hbB : b ≤ B := by omega
                      clear ht hbt hx2
                      by_cases hlt3 : n < b
                      · have hnbz : (n : Int) < (b : Int) := by omega
                        obtain ⟨gz, rfl⟩ : ∃ g', gk = g' + 1 := ⟨gk - 1, by have := HT.out; omega⟩
                        obtain ⟨Y, hY⟩ : ∃ Y, Y = x2 / 2 := ⟨_, rfl⟩
                        have hYz : (x2 : Int) / 2 = (Y : Int) := by omega
                        have hYm : Y ≤ x2 := by omega
                        have HY := Lib.hid hY
                        clear hY
                        go_wp2_with fail
                        go_roundg gz
                        case measure => omega
                        case rel =>
                          obtain ⟨ht, hbt, hx2⟩ := HT.out
                          exact ⟨t + 1, b - 1, Y, by omega, by omega, by rw [HY.out, hx2, Nat.div_div_eq_div_mul, Nat.pow_succ], by go_num, rfl, rfl⟩
                      · have hnbz : ¬ (n : Int) < (b : Int) := by omega
                        obtain ⟨ht, hbt, hx2⟩ := HT.out
                        have htn : t = B - n := by omega
                        rw [htn, HCo2.out] at hx2
                        have HX2 := Lib.hid hx2
                        have hjc : j < (cds d (nat bs) (W - 1) j).length := by rw [cds_len]; exact hkl
                        have hq := HO.out.cellAt ccell_len j 0 hjc (by decide) _ rfl
                        have hq2 := HO.out.cellAt ccell_len j 1 hjc (by decide) _ rfl
                        obtain ⟨v0, hv0⟩ : ∃ v, v = Value.int .i64 (((cds d (nat bs) (W - 1) j)[j]'hjc).1 : Int) := ⟨_, rfl⟩
                        obtain ⟨v1, hv1⟩ : ∃ v, v = Value.int .i64 (((cds d (nat bs) (W - 1) j)[j]'hjc).2 : Int) := ⟨_, rfl⟩
                        rw [← hv0, Nat.add_zero] at hq
                        rw [← hv1] at hq2
                        obtain ⟨cq, fq⟩ := hq
                        obtain ⟨cq2, fq2⟩ := hq2
                        clear hv0 hv1 hx2 htn ht hbt HT
                        go_wp2_with fail
                        go_roundg gq
                        case measure => omega
                        case rel =>
                          have hgs : (nat bs).getD j 0 = W - 1 + 1 := by rw [HG.out]; omega
                          have hbw : bitsW d (nat bs) j = n := by unfold bitsW; rw [if_neg (by omega), hgs, HN.out]; omega
                          have p1 := HO.out.put ccell_len j 0 hjc (by decide) (.int .i64 (n : Int)) (n, ((cds d (nat bs) (W - 1) j)[j]'hjc).2) (by simp [ccell])
                          have p2 := p1.put ccell_len j 1 (by rw [List.length_set]; exact hjc) (by decide) (.int .i64 (x2 : Int)) (n, x2) (by simp [ccell])
                          rw [List.set_set, ← hbw, HX2.out, cds_set hgs, hbw, ← HX2.out] at p2
                          have hri : RI d (nat bs) W (j + 1) n x2 := by
                            rw [HN.out, HX2.out]
                            exact ri_put HM.out hkl (by rw [HG.out]; omega) (by omega) hlt
                          exact ⟨j + 1, n, x2, by go_num, by have := HJ.out; omega, rfl, rfl, hri, p2, (HB.out.setCell hg1 _).setCell hg1 _⟩
                  · obtain rfl : B = 0 := by omega
                    obtain ⟨X, hX⟩ : ∃ X, X = C := ⟨_, rfl⟩
                    have hco := HCo.out
                    rw [if_neg (by omega), ← hX, ← HN.out] at hco
                    have HCo2 := Lib.hid hco
                    have hXm : X ≤ 1000001 := by omega
                    subst hX
                    clear hco HCo
                    go_wp2_with fail
                    go_loopg [7, 8] (0 - n) (fun g3 vc vb wz => ∃ t b x : Nat, t + g3 = 0 - n ∧ b + t = 0 ∧ x = X / 2 ^ t ∧ vb = .int .i64 (b : Int) ∧ vc = .int .i64 (x : Int) ∧ wz = wr)
                    case atStart => exact ⟨0, 0, X, by omega, rfl, by simp, rfl, rfl, rfl⟩
                    case round =>
                      obtain ⟨t, b, x2, ht, hbt, hx2, rfl, rfl, rfl⟩ := hrel
                      have hxm : x2 ≤ 1000001 := by rw [hx2]; have := Nat.div_le_self X (2 ^ t); omega
                      have HT := Lib.hid (And.intro ht (And.intro hbt hx2))
                      have hbB : b ≤ 0 := by omega
                      clear ht hbt hx2
                      by_cases hlt3 : n < b
                      · have hnbz : (n : Int) < (b : Int) := by omega
                        obtain ⟨gz, rfl⟩ : ∃ g', gk = g' + 1 := ⟨gk - 1, by have := HT.out; omega⟩
                        obtain ⟨Y, hY⟩ : ∃ Y, Y = x2 / 2 := ⟨_, rfl⟩
                        have hYz : (x2 : Int) / 2 = (Y : Int) := by omega
                        have hYm : Y ≤ x2 := by omega
                        have HY := Lib.hid hY
                        clear hY
                        go_wp2_with fail
                        go_roundg gz
                        case measure => omega
                        case rel =>
                          obtain ⟨ht, hbt, hx2⟩ := HT.out
                          exact ⟨t + 1, b - 1, Y, by omega, by omega, by rw [HY.out, hx2, Nat.div_div_eq_div_mul, Nat.pow_succ], by go_num, rfl, rfl⟩
                      · have hnbz : ¬ (n : Int) < (b : Int) := by omega
                        obtain ⟨ht, hbt, hx2⟩ := HT.out
                        have htn : t = 0 - n := by omega
                        rw [htn, HCo2.out] at hx2
                        have HX2 := Lib.hid hx2
                        have hjc : j < (cds d (nat bs) (W - 1) j).length := by rw [cds_len]; exact hkl
                        have hq := HO.out.cellAt ccell_len j 0 hjc (by decide) _ rfl
                        have hq2 := HO.out.cellAt ccell_len j 1 hjc (by decide) _ rfl
                        obtain ⟨v0, hv0⟩ : ∃ v, v = Value.int .i64 (((cds d (nat bs) (W - 1) j)[j]'hjc).1 : Int) := ⟨_, rfl⟩
                        obtain ⟨v1, hv1⟩ : ∃ v, v = Value.int .i64 (((cds d (nat bs) (W - 1) j)[j]'hjc).2 : Int) := ⟨_, rfl⟩
                        rw [← hv0, Nat.add_zero] at hq
                        rw [← hv1] at hq2
                        obtain ⟨cq, fq⟩ := hq
                        obtain ⟨cq2, fq2⟩ := hq2
                        clear hv0 hv1 hx2 htn ht hbt HT
                        go_wp2_with fail
                        go_roundg gq
                        case measure => omega
                        case rel =>
                          have hgs : (nat bs).getD j 0 = W - 1 + 1 := by rw [HG.out]; omega
                          have hbw : bitsW d (nat bs) j = n := by unfold bitsW; rw [if_neg (by omega), hgs, HN.out]; omega
                          have p1 := HO.out.put ccell_len j 0 hjc (by decide) (.int .i64 (n : Int)) (n, ((cds d (nat bs) (W - 1) j)[j]'hjc).2) (by simp [ccell])
                          have p2 := p1.put ccell_len j 1 (by rw [List.length_set]; exact hjc) (by decide) (.int .i64 (x2 : Int)) (n, x2) (by simp [ccell])
                          rw [List.set_set, ← hbw, HX2.out, cds_set hgs, hbw, ← HX2.out] at p2
                          have hri : RI d (nat bs) W (j + 1) n x2 := by
                            rw [HN.out, HX2.out]
                            exact ri_put HM.out hkl (by rw [HG.out]; omega) (by omega) hlt
                          exact ⟨j + 1, n, x2, by go_num, by have := HJ.out; omega, rfl, rfl, hri, p2, (HB.out.setCell hg1 _).setCell hg1 _⟩
                · have hxz : ((x : Int) != (W : Int)) = true := by rw [bne_iff_ne]; omega
                  go_wp2_with fail
                  go_roundg gq
                  case measure => omega
                  case rel =>
                    refine ⟨j + 1, B, C, by go_num, by have := HJ.out; omega, rfl, rfl, ri_skip HR.out hkl (by rw [HG.out]; exact hxW), ?_, HB.out⟩
                    rw [cds_skip (by rw [HG.out]; omega)]
                    exact HO.out
              · obtain rfl : j = i := by omega
                have hltz2 : ¬ (j : Int) < (j : Int) := by omega
                go_wp2_with fail
                go_roundg gk'
                case measure => omega
                case rel =>
                  have hR := HR.out
                  have hO := HO.out
                  rw [← HBL.out] at hR hO
                  rw [cds_next, HBL.out] at hO
                  exact ⟨W + 1, B, C, by go_num, by omega, by have := HWG.out; omega, rfl, rfl, ri_next hR (by omega), by rw [show W + 1 - 1 = W - 1 + 1 by omega]; exact hO, HB.out⟩
          · obtain rfl : W = d + 1 := by omega
            have hltz : ¬ ((d + 1 : Nat) : Int) ≤ (d : Int) := by omega
            have hO := HO.out
            rw [show d + 1 - 1 = d by omega, cds_end HM.out] at hO
            have HO2 := Lib.hid hO
            clear hO
            go_wp2_with fail
            go_ret2
            exact ⟨HB.out, .inl ⟨d, _, HM.out, rfl, HO2.out⟩⟩
  · subst hw1
    have HN := Lib.hid hno
    clear hno HDp
    go_wp2_with fail
    go_ret2
    exact ⟨Below.refl _ _, .inr ⟨HN.out, rfl⟩⟩
end
end Go.Proofs.Ytjpjbbbpmhcgnaa
