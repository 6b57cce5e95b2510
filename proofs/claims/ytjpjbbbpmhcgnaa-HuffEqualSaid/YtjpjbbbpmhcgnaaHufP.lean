
/- Symbols by codes on lists: what a stream tells, what is written of symbols, and that it is read as it was. Nothing of the program's code is named here but bits. -/
import Derived.Test.YtjpjbbbpmhcgnaaPileD
import Derived.Test.YtjpjbbbpmhcgnaaPileB
namespace Go.Proofs.Ytjpjbbbpmhcgnaa

/-- The bit that is read where so many are left: a nought where none is. -/
def bt (xs : List UInt8) (left : Int) : Nat := if 0 < left then (bitAt xs (left.toNat - 1)).toNat else 0
theorem bt_lt (xs : List UInt8) (left : Int) : bt xs left < 2 := by
  unfold bt
  split
  · exact toNat_lt2 _
  · omega
theorem bread_bit {xs : List UInt8} {left : Int} (h : left ≤ 8 * xs.length) : bread xs left 1 = (bt xs left, left - 1) := by
  unfold bread bt
  rw [if_pos (by decide)]
  by_cases h0 : 0 < left
  · have ht : there left 1 = 1 := by unfold there; omega
    have hl : left.toNat - 1 < (bitsOf xs).length := by rw [bitsOf_length]; omega
    rw [ht, if_pos h0, List.drop_eq_getElem_cons hl, bitsOf_get]
    simp [num]
  · have ht : there left 1 = 0 := by unfold there; omega
    rw [ht, if_neg h0]
    simp [num]

/-- The next j bits as a number, the first one the highest. -/
def cdf (xs : List UInt8) (left : Int) : Nat → Nat
  | 0 => 0
  | j + 1 => 2 * cdf xs left j + bt xs (left - j)
theorem cdf_lt (xs : List UInt8) (left : Int) (j : Nat) : cdf xs left j < 2 ^ j := by
  induction j with
  | zero => simp [cdf]
  | succ j ih =>
    have := bt_lt xs (left - j)
    rw [cdf, Nat.pow_succ]
    omega
theorem cdf_div (xs : List UInt8) (left : Int) (j k : Nat) : cdf xs left (j + k) / 2 ^ k = cdf xs left j := by
  induction k with
  | zero => simp
  | succ k ih =>
    have := bt_lt xs (left - ((j + k : Nat) : Int))
    rw [← Nat.add_assoc, cdf, Nat.pow_succ, Nat.mul_comm (2 ^ k) 2, ← Nat.div_div_eq_div_mul, show (2 * cdf xs left (j + k) + bt xs (left - ((j + k : Nat) : Int))) / 2 = cdf xs left (j + k) by omega]
    exact ih

/-- Where the k-th of a weight stands. -/
theorem cnw_find (w : Nat) (l : List Nat) (k : Nat) (h : k < cnw w l) : ∃ s, s < l.length ∧ l.getD s 0 = w ∧ cnw w (l.take s) = k := by
  induction l generalizing k with
  | nil => simp [cnw] at h
  | cons x r ih =>
    rw [cnw] at h
    by_cases hx : x = w
    · rw [if_pos hx] at h
      cases k with
      | zero => exact ⟨0, by simp, by simpa using hx, by simp [cnw]⟩
      | succ k =>
        obtain ⟨s, h1, h2, h3⟩ := ih k (by omega)
        exact ⟨s + 1, by simp; omega, by simpa using h2, by rw [List.take_succ_cons, cnw, if_pos hx, h3]; omega⟩
    · rw [if_neg hx] at h
      obtain ⟨s, h1, h2, h3⟩ := ih k (by omega)
      exact ⟨s + 1, by simp; omega, by simpa using h2, by rw [List.take_succ_cons, cnw, if_neg hx, h3]; omega⟩
theorem bel_find (l : List Nat) (X : Nat) : ∀ d, X < bel (d + 1) l → ∃ w, 1 ≤ w ∧ w ≤ d ∧ bel w l ≤ X ∧ X < bel (w + 1) l
  | 0, h => by rw [bel_one] at h; omega
  | d + 1, h => by
    by_cases h1 : X < bel (d + 1) l
    · obtain ⟨w, a, b, c⟩ := bel_find l X d h1
      exact ⟨w, a, by omega, c⟩
    · exact ⟨d + 1, by omega, by omega, by omega, h⟩

section
variable {d : Nat} {l : List Nat} {s t : Nat}
theorem wt_le (h : MayW d l) (hs : s < l.length) : l.getD s 0 ≤ d := by
  have hg : l.getD s 0 = l[s] := by simp [List.getD, hs]
  rw [hg]
  exact h.2.2.2.2.2.2 _ (List.getElem_mem hs)
theorem bitsW_pos (h : MayW d l) (hs : s < l.length) (hp : 0 < l.getD s 0) : 1 ≤ bitsW d l s ∧ bitsW d l s ≤ d ∧ bitsW d l s + l.getD s 0 = d + 1 := by
  have := wt_le h hs
  unfold bitsW
  rw [if_neg (by omega)]
  omega
theorem bitsW_le (h : MayW d l) : bitsW d l s ≤ 11 := by
  have := h.2.2.2.2.2.1
  unfold bitsW
  split <;> omega
/-- Whole weights leave no bits that are no code's. -/
theorem code_some (h : MayW d l) {X : Nat} (hX : X < 2 ^ d) : ∃ s, s < l.length ∧ 0 < l.getD s 0 ∧ codeW l s = X / 2 ^ (d - bitsW d l s) := by
  obtain ⟨w, h1, h2, h3, h4⟩ := bel_find l X d (by rw [bel_all l h.2.2.2.2.2.2, h.2.2.2.1]; exact hX)
  rw [bel_succ w h1 l] at h4
  have hpp := Nat.two_pow_pos (w - 1)
  have hk : (X - bel w l) / 2 ^ (w - 1) < cnw w l := by rw [Nat.div_lt_iff_lt_mul hpp]; omega
  obtain ⟨s, s1, s2, s3⟩ := cnw_find w l _ hk
  refine ⟨s, s1, by omega, ?_⟩
  have hb := bitsW_pos h s1 (by omega)
  have hdv := bel_dvd h.2.2.2.1 h1 (show w ≤ d + 1 by omega)
  rw [codeW_eq (by omega), s2, s3, show d - bitsW d l s = w - 1 by omega]
  have e : X = (X - bel w l) + bel w l / 2 ^ (w - 1) * 2 ^ (w - 1) := by omega
  conv => rhs; rw [e, Nat.add_mul_div_right _ _ hpp]
  omega

/-- s is the symbol whose code the next bits are. -/
def Sym (d : Nat) (l : List Nat) (xs : List UInt8) (left : Int) (s : Nat) : Prop := s < l.length ∧ 0 < l.getD s 0 ∧ cdf xs left (bitsW d l s) = codeW l s
theorem sym_ex (h : MayW d l) (xs : List UInt8) (left : Int) : ∃ s, Sym d l xs left s := by
  obtain ⟨s, h1, h2, h3⟩ := code_some h (cdf_lt xs left d)
  refine ⟨s, h1, h2, ?_⟩
  have hb := bitsW_pos h h1 h2
  rw [h3]
  have := cdf_div xs left (bitsW d l s) (d - bitsW d l s)
  rw [show bitsW d l s + (d - bitsW d l s) = d by omega] at this
  exact this.symm
theorem sym_le (h : MayW d l) {xs : List UInt8} {left : Int} (hs : Sym d l xs left s) (ht : Sym d l xs left t) (hle : l.getD t 0 ≤ l.getD s 0) : s = t := by
  refine Classical.byContradiction fun hne => ?_
  have h1 := bitsW_pos h hs.1 hs.2.1
  have h2 := bitsW_pos h ht.1 ht.2.1
  apply codeW_free h hs.1 ht.1 hne hs.2.1 ht.2.1 hle
  rw [← hs.2.2, ← ht.2.2]
  have := cdf_div xs left (bitsW d l s) (l.getD s 0 - l.getD t 0)
  rw [show bitsW d l s + (l.getD s 0 - l.getD t 0) = bitsW d l t by omega] at this
  exact this
theorem sym_uni (h : MayW d l) {xs : List UInt8} {left : Int} (hs : Sym d l xs left s) (ht : Sym d l xs left t) : s = t := by
  rcases Nat.le_total (l.getD t 0) (l.getD s 0) with q | q
  · exact sym_le h hs ht q
  · exact (sym_le h ht hs q).symm
end

/-- The symbol whose code the next bits are. -/
def symOf (d : Nat) (l : List Nat) (xs : List UInt8) (left : Int) : Nat :=
  ((List.range l.length).find? fun s => decide (0 < l.getD s 0) && decide (cdf xs left (bitsW d l s) = codeW l s)).getD 0
section
variable {d : Nat} {l : List Nat} {s t : Nat} {xs : List UInt8} {left : Int}
theorem symOf_sym (h : MayW d l) (xs : List UInt8) (left : Int) : Sym d l xs left (symOf d l xs left) := by
  obtain ⟨s, h1, h2, h3⟩ := sym_ex h xs left
  unfold symOf
  cases hf : (List.range l.length).find? fun s => decide (0 < l.getD s 0) && decide (cdf xs left (bitsW d l s) = codeW l s) with
  | none =>
    have := List.find?_eq_none.1 hf s (List.mem_range.2 h1)
    exact absurd (by simp only [Bool.and_eq_true, decide_eq_true_eq]; exact ⟨h2, h3⟩) this
  | some t =>
    have a := List.find?_some hf
    have b := List.mem_range.1 (List.mem_of_find?_eq_some hf)
    simp only [Bool.and_eq_true, decide_eq_true_eq] at a
    exact ⟨b, a.1, a.2⟩
theorem symOf_eq (h : MayW d l) (hs : Sym d l xs left s) : symOf d l xs left = s := sym_uni h (symOf_sym h xs left) hs
/-- Ahead of its end no code is there. -/
theorem sym_first (h : MayW d l) {j : Nat} (hs : s < l.length) (hp : 0 < l.getD s 0) (hj : bitsW d l s = j) (hc : codeW l s = cdf xs left j) : s = symOf d l xs left :=
  (symOf_eq h ⟨hs, hp, by rw [hj, hc]⟩).symm
theorem symOf_lt (h : MayW d l) : symOf d l xs left < 256 := by
  have := (symOf_sym h xs left).1
  have := h.2.1
  omega
end

/-- So many symbols, one by one, and how many bits are left then. -/
def rds (d : Nat) (l : List Nat) (xs : List UInt8) : Nat → Int → List Nat × Int
  | 0, left => ([], left)
  | n + 1, left => (symOf d l xs left :: (rds d l xs n (left - bitsW d l (symOf d l xs left))).1, (rds d l xs n (left - bitsW d l (symOf d l xs left))).2)
section
variable {d : Nat} {l : List Nat} {xs : List UInt8}
theorem rds_len (n : Nat) (left : Int) : (rds d l xs n left).1.length = n := by
  induction n generalizing left with
  | zero => rfl
  | succ n ih => simp [rds, ih]
theorem rds_lt (h : MayW d l) (n : Nat) (left : Int) : ∀ x ∈ (rds d l xs n left).1, x < 256 := by
  induction n generalizing left with
  | zero => intro x hx; cases hx
  | succ n ih =>
    intro x hx
    rcases List.mem_cons.1 hx with rfl | hx
    · exact symOf_lt h
    · exact ih _ x hx
theorem rds_le (h : MayW d l) (n : Nat) (left : Int) : (rds d l xs n left).2 ≤ left ∧ left - 11 * n ≤ (rds d l xs n left).2 := by
  induction n generalizing left with
  | zero => simp [rds]
  | succ n ih =>
    have h1 := ih (left - bitsW d l (symOf d l xs left))
    have h2 := bitsW_le (s := symOf d l xs left) h
    simp only [rds]
    omega
theorem rds_snoc (n : Nat) (left : Int) : rds d l xs (n + 1) left =
    ((rds d l xs n left).1 ++ [symOf d l xs (rds d l xs n left).2], (rds d l xs n left).2 - bitsW d l (symOf d l xs (rds d l xs n left).2)) := by
  induction n generalizing left with
  | zero => rfl
  | succ n ih =>
    rw [rds, ih (left - bitsW d l (symOf d l xs left))]
    rfl
end
/-- What a stream of n symbols tells, and the error. -/
def strm (d : Nat) (l : List Nat) (xs : List UInt8) (n : Nat) : List UInt8 × Int :=
  if noBack xs = true then ([], 11) else if (rds d l xs n (top xs : Nat)).2 < 0 then ([], 11) else if 0 < (rds d l xs n (top xs : Nat)).2 then ([], 15) else ((rds d l xs n (top xs : Nat)).1.map UInt8.ofNat, 0)

/-- The bits of symbols: those of the last one first. -/
def encB (d : Nat) (l : List Nat) : List Nat → List Bool
  | [] => []
  | s :: r => encB d l r ++ low (codeW l s) (bitsW d l s)
/-- The stream of symbols. -/
def encS (d : Nat) (l : List Nat) (ss : List Nat) : List UInt8 := bytesOf (encB d l ss ++ [true])
/-- Each symbol has a code. -/
def Coded (l : List Nat) (ss : List Nat) : Prop := ∀ s ∈ ss, s < l.length ∧ 0 < l.getD s 0
section
variable {d : Nat} {l : List Nat} {xs : List UInt8}
theorem encB_append (a b : List Nat) : encB d l (a ++ b) = encB d l b ++ encB d l a := by
  induction a with
  | nil => simp [encB]
  | cons x r ih => rw [List.cons_append, encB, ih, encB, List.append_assoc]
theorem encB_len (h : MayW d l) (ss : List Nat) : (encB d l ss).length ≤ 11 * ss.length := by
  induction ss with
  | nil => simp [encB]
  | cons s r ih =>
    have := bitsW_le (s := s) h
    rw [encB, List.length_append, low_length, List.length_cons]
    omega
theorem take_enc (B : List Bool) : (bitsOf (bytesOf (B ++ [true]))).take B.length = B := by
  have h := take_bits (B ++ [true])
  have h2 : ((bitsOf (bytesOf (B ++ [true]))).take (B ++ [true]).length).take B.length = (B ++ [true]).take B.length := by rw [h]
  rw [List.take_take, Nat.min_eq_left (by simp), List.take_left] at h2
  exact h2
theorem back_enc (B : List Bool) : noBack (bytesOf (B ++ [true])) = false := by
  have hlen : (bytesOf (B ++ [true])).length = B.length / 8 + 1 := by rw [bytesOf_length]; simp; omega
  have hset : bitAt (bytesOf (B ++ [true])) B.length = true := by rw [bitAt_bytesOf]; simp [List.getD]
  unfold noBack
  rw [hlen]
  have hz : (bytesOf (B ++ [true])).getD (B.length / 8 + 1 - 1) 0 ≠ 0 := by
    intro e
    unfold bitAt at hset
    rw [show B.length / 8 + 1 - 1 = B.length / 8 by omega] at e
    rw [e] at hset
    simp at hset
  simp only [Bool.or_eq_false_iff, decide_eq_false_iff_not]
  exact ⟨by omega, hz⟩
theorem bit_take {B : List Bool} (h : (bitsOf xs).take B.length = B) (i : Nat) (hi : i < B.length) : bitAt xs i = B[i] := by
  have hl : i < (bitsOf xs).length := by
    have := congrArg List.length h
    rw [List.length_take] at this
    omega
  rw [← bitsOf_get xs i hl]
  have h2 : ((bitsOf xs).take B.length)[i]? = B[i]? := by rw [h]
  rw [List.getElem?_take, if_pos hi, List.getElem?_eq_getElem hl, List.getElem?_eq_getElem hi] at h2
  injection h2
/-- What was written last is what the next bits are. -/
theorem cdf_low {B : List Bool} {c b : Nat} (h : (bitsOf xs).take (B ++ low c b).length = B ++ low c b) (hc : c < 2 ^ b) : ∀ j, j ≤ b → cdf xs ((B ++ low c b).length : Nat) j = c / 2 ^ (b - j)
  | 0, _ => by rw [cdf, Nat.sub_zero, Nat.div_eq_of_lt hc]
  | j + 1, hj => by
    have hl : (B ++ low c b).length = B.length + b := by rw [List.length_append, low_length]
    have hi : (B ++ low c b).length - j - 1 < (B ++ low c b).length := by rw [hl]; omega
    have e := bit_take h _ hi
    rw [cdf, cdf_low h hc j (by omega)]
    unfold bt
    rw [if_pos (by rw [hl]; omega), show (((B ++ low c b).length : Nat) - (j : Int)).toNat - 1 = (B ++ low c b).length - j - 1 by omega, e]
    rw [List.getElem_append_right (by rw [hl]; omega)]
    simp only [low, List.getElem_map, List.getElem_range]
    rw [testBit_toNat]
    have e2 : (B ++ List.map c.testBit (List.range b)).length - j - 1 - B.length = b - (j + 1) := by simp; omega
    rw [e2, show b - j = b - (j + 1) + 1 by omega, Nat.pow_succ, ← Nat.div_div_eq_div_mul]
    omega
theorem sym_enc (h : MayW d l) {s : Nat} {r : List Nat} (hs : s < l.length) (hp : 0 < l.getD s 0) (hx : (bitsOf xs).take (encB d l (s :: r)).length = encB d l (s :: r)) : symOf d l xs ((encB d l (s :: r)).length : Nat) = s := by
  refine symOf_eq h ⟨hs, hp, ?_⟩
  have := cdf_low (B := encB d l r) (c := codeW l s) (b := bitsW d l s) hx (codeW_lt h hs) (bitsW d l s) (Nat.le_refl _)
  rw [Nat.sub_self, Nat.pow_zero, Nat.div_one] at this
  exact this
/-- Symbols are read as they were. -/
theorem rds_enc (h : MayW d l) : ∀ (ss : List Nat), Coded l ss → (bitsOf xs).take (encB d l ss).length = encB d l ss → ∀ k, k ≤ ss.length → rds d l xs k ((encB d l ss).length : Nat) = (ss.take k, (((encB d l (ss.drop k)).length : Nat) : Int))
  | [], _, _, k, hk => by
    obtain rfl : k = 0 := by simpa using hk
    rfl
  | s :: r, hC, hx, 0, _ => rfl
  | s :: r, hC, hx, k + 1, hk => by
    obtain ⟨h1, h2⟩ := hC s (by simp)
    have e1 := sym_enc h h1 h2 hx
    have hr : (bitsOf xs).take (encB d l r).length = encB d l r := by
      have h2 := congrArg (List.take (encB d l r).length) hx
      rw [List.take_take, encB, List.take_left, Nat.min_eq_left (by simp)] at h2
      exact h2
    have e2 : (((encB d l (s :: r)).length : Nat) : Int) - (bitsW d l s : Nat) = ((encB d l r).length : Nat) := by
      rw [encB, List.length_append, low_length]; omega
    rw [rds, e1, e2, rds_enc h r (fun x hx => hC x (by simp [hx])) hr k (by simpa using hk)]
    rfl
theorem map_nat (ss : List UInt8) : (ss.map (·.toNat)).map UInt8.ofNat = ss := by
  rw [List.map_map]
  conv => rhs; rw [← List.map_id ss]
  apply List.map_congr_left
  intro b _
  simp
theorem take_encS (ss : List Nat) : (bitsOf (encS d l ss)).take (encB d l ss).length = encB d l ss := by
  unfold encS
  exact take_enc (encB d l ss)
theorem top_encS (ss : List Nat) : top (encS d l ss) = (encB d l ss).length := by
  unfold encS
  exact top_closed (encB d l ss)
theorem back_encS (ss : List Nat) : noBack (encS d l ss) = false := by
  unfold encS
  exact back_enc (encB d l ss)
theorem strm_encN (h : MayW d l) (ns : List Nat) (hC : Coded l ns) : strm d l (encS d l ns) ns.length = (ns.map UInt8.ofNat, 0) := by
  have e := rds_enc h ns hC (take_encS ns) ns.length (Nat.le_refl _)
  rw [List.take_length, List.drop_length] at e
  unfold strm
  rw [if_neg (by rw [back_encS]; simp), top_encS, e]
  rfl
/-- With one fewer bits are left. -/
theorem strm_fewerN (h : MayW d l) (ns : List Nat) (hC : Coded l ns) (h0 : ns ≠ []) : strm d l (encS d l ns) (ns.length - 1) = ([], 15) := by
  have hl := List.length_pos_iff.2 h0
  have e := rds_enc h ns hC (take_encS ns) (ns.length - 1) (by omega)
  unfold strm
  have hd : ns.length - 1 < ns.length := by omega
  rw [List.drop_eq_getElem_cons hd] at e
  have hs := hC _ (List.getElem_mem hd)
  have hb := bitsW_pos h hs.1 hs.2
  have hp : (0 : Int) < ((encB d l (ns[ns.length - 1] :: ns.drop (ns.length - 1 + 1))).length : Nat) := by
    rw [encB, List.length_append, low_length]
    omega
  rw [if_neg (by rw [back_encS]; simp), top_encS, e]
  simp only
  rw [if_neg (by omega), if_pos hp]
/-- With one more they lack. -/
theorem strm_moreN (h : MayW d l) (ns : List Nat) (hC : Coded l ns) : strm d l (encS d l ns) (ns.length + 1) = ([], 11) := by
  have e := rds_enc h ns hC (take_encS ns) ns.length (Nat.le_refl _)
  rw [List.take_length, List.drop_length] at e
  have hS := symOf_sym h (encS d l ns) (((encB d l []).length : Nat) : Int)
  have hb := bitsW_pos h hS.1 hS.2.1
  unfold strm
  rw [if_neg (by rw [back_encS]; simp), top_encS, rds_snoc, e]
  simp only
  generalize bitsW d l _ = q at *
  rw [if_pos (by simp [encB]; omega)]
theorem strm_enc (h : MayW d l) (ss : List UInt8) (hC : Coded l (ss.map (·.toNat))) : strm d l (encS d l (ss.map (·.toNat))) ss.length = (ss, 0) := by
  have := strm_encN h _ hC
  rw [List.length_map, map_nat] at this
  exact this
theorem strm_fewer (h : MayW d l) (ss : List UInt8) (hC : Coded l (ss.map (·.toNat))) (h0 : ss ≠ []) : strm d l (encS d l (ss.map (·.toNat))) (ss.length - 1) = ([], 15) := by
  have := strm_fewerN h _ hC (by simpa using h0)
  rw [List.length_map] at this
  exact this
theorem strm_more (h : MayW d l) (ss : List UInt8) (hC : Coded l (ss.map (·.toNat))) : strm d l (encS d l (ss.map (·.toNat))) (ss.length + 1) = ([], 11) := by
  have := strm_moreN h _ hC
  rw [List.length_map] at this
  exact this
theorem strm_none (xs : List UInt8) (n : Nat) : strm d l (xs ++ [0]) n = ([], 11) := by
  unfold strm
  rw [if_pos (by unfold noBack; simp)]
theorem strm_len (n : Nat) : (strm d l xs n).1.length ≤ n := by
  unfold strm
  split
  · simp
  · split
    · simp
    · split
      · simp
      · simp [rds_len]
theorem strm_ok {n : Nat} (h : (strm d l xs n).2 = 0) : (strm d l xs n).1.length = n := by
  unfold strm at h ⊢
  split at h
  · cases h
  · split at h
    · cases h
    · split at h
      · cases h
      · rename_i a b c
        rw [if_neg a, if_neg b, if_neg c]
        simp [rds_len]
theorem encS_len (ss : List Nat) : (encS d l ss).length = ((encB d l ss).length + 8) / 8 := by
  unfold encS
  rw [bytesOf_length, List.length_append]
  rfl
end
end Go.Proofs.Ytjpjbbbpmhcgnaa
