
/- Four streams that are written are parted and read as they were: on lists. -/
import Derived.Test.YtjpjbbbpmhcgnaaHufFourP
namespace Go.Proofs.Ytjpjbbbpmhcgnaa

/-- The symbols of stream i. -/
def symL (ls : List UInt8) (i : Nat) : List UInt8 := (ls.drop (i * kF ls.length)).take (cntF ls.length i)
/-- The bytes of stream i. -/
def encF (d : Nat) (L : List Nat) (ls : List UInt8) (i : Nat) : List UInt8 := encS d L ((symL ls i).map (·.toNat))
/-- How many bytes the first i streams have, as numbers of two bytes. -/
def headN (ps : Nat → List UInt8) : Nat → List UInt8
  | 0 => []
  | i + 1 => headN ps i ++ put (ps i).length 2
/-- The first i streams one behind the other. -/
def catN (ps : Nat → List UInt8) : Nat → List UInt8
  | 0 => []
  | i + 1 => catN ps i ++ ps i
/-- Four streams behind the numbers. -/
def joinF (ps : Nat → List UInt8) : List UInt8 := headN ps 3 ++ catN ps 4
/-- How many bytes the first i streams have. -/
def sumN (ps : Nat → List UInt8) : Nat → Nat
  | 0 => 0
  | i + 1 => sumN ps i + (ps i).length

section
variable {ps : Nat → List UInt8}
theorem headN_len (i : Nat) : (headN ps i).length = 2 * i := by
  induction i with
  | zero => rfl
  | succ i ih => rw [headN, List.length_append, ih, put_length]; omega
theorem catN_len (i : Nat) : (catN ps i).length = sumN ps i := by
  induction i with
  | zero => rfl
  | succ i ih => rw [catN, List.length_append, ih, sumN]
theorem sumN_le {i j : Nat} (h : i ≤ j) : sumN ps i ≤ sumN ps j := by
  induction j with
  | zero => rw [show i = 0 by omega]; exact Nat.le_refl _
  | succ j ih =>
    by_cases e : i = j + 1
    · rw [e]; exact Nat.le_refl _
    · have := ih (by omega); rw [sumN]; omega
theorem joinF_len : (joinF ps).length = 6 + sumN ps 4 := by
  unfold joinF
  rw [List.length_append, headN_len, catN_len]
/-- The first numbers are ahead. -/
theorem headN_take (i k : Nat) : ∃ r, headN ps (i + k) = headN ps i ++ r := by
  induction k with
  | zero => exact ⟨[], by simp⟩
  | succ k ih =>
    obtain ⟨r, hr⟩ := ih
    exact ⟨r ++ put (ps (i + k)).length 2, by rw [← Nat.add_assoc, headN, hr, List.append_assoc]⟩
theorem catN_take (i k : Nat) : ∃ r, catN ps (i + k) = catN ps i ++ r := by
  induction k with
  | zero => exact ⟨[], by simp⟩
  | succ k ih =>
    obtain ⟨r, hr⟩ := ih
    exact ⟨r ++ ps (i + k), by rw [← Nat.add_assoc, catN, hr, List.append_assoc]⟩
theorem num_at (i : Nat) (hi : i < 3) : ((joinF ps).drop (2 * i)).take 2 = put (ps i).length 2 := by
  obtain ⟨r, hr⟩ := headN_take (ps := ps) (i + 1) (3 - (i + 1))
  rw [show i + 1 + (3 - (i + 1)) = 3 by omega] at hr
  unfold joinF
  rw [hr, headN, List.append_assoc, List.append_assoc, List.drop_left' (headN_len i), List.take_left' (put_length _ _)]
theorem szF_join (i : Nat) (hi : i < 3) (hb : (ps i).length ≤ 65535) : szF (joinF ps) i = (ps i).length := by
  unfold szF
  rw [num_at i hi, le_put]
  exact Nat.mod_eq_of_lt (by omega)
theorem offF_join (hb : ∀ i, i < 3 → (ps i).length ≤ 65535) : ∀ i, i ≤ 3 → offF (joinF ps) i = sumN ps i
  | 0, _ => rfl
  | i + 1, hi => by rw [offF, sumN, offF_join hb i (by omega), szF_join i (by omega) (hb i (by omega))]
theorem join_drop : (joinF ps).drop 6 = catN ps 4 := by
  unfold joinF
  rw [List.drop_left' (headN_len 3)]
theorem cat_drop (i : Nat) (hi : i < 4) : ∃ r, (catN ps 4).drop (sumN ps i) = ps i ++ r ∧ (i = 3 → r = []) := by
  obtain ⟨r, hr⟩ := catN_take (ps := ps) (i + 1) (4 - (i + 1))
  rw [show i + 1 + (4 - (i + 1)) = 4 by omega] at hr
  refine ⟨r, ?_, fun e => ?_⟩
  · rw [hr, catN, List.append_assoc, List.drop_left' (catN_len i)]
  · subst e
    have h2 : (catN ps 4).length = (catN ps 4 ++ r).length := by rw [show catN ps 4 ++ r = catN ps (3 + 1) ++ r from rfl, ← hr]
    rw [List.length_append] at h2
    exact List.eq_nil_of_length_eq_zero (by omega)
theorem split_join (hb : ∀ i, i < 3 → (ps i).length ≤ 65535) : SplitOk (joinF ps) := by
  unfold SplitOk
  rw [joinF_len, offF_join hb 3 (Nat.le_refl _)]
  have := sumN_le (ps := ps) (show 3 ≤ 4 by omega)
  omega
theorem ptF_join (hb : ∀ i, i < 3 → (ps i).length ≤ 65535) (i : Nat) (hi : i < 4) : ptF (joinF ps) i = ps i := by
  obtain ⟨r, hr, h3⟩ := cat_drop (ps := ps) i hi
  unfold ptF
  by_cases h : i < 3
  · rw [if_pos h, join_drop, offF_join hb i (by omega), szF_join i h (hb i h), hr, List.take_left' rfl]
  · obtain rfl : i = 3 := by omega
    rw [if_neg h, join_drop, offF_join hb 3 (Nat.le_refl _), hr, h3 rfl, List.append_nil]
/-- What stands at a stream's place. -/
theorem join_at (i : Nat) (hi : i < 4) : ((joinF ps).drop (6 + sumN ps i)).take (ps i).length = ps i := by
  obtain ⟨r, hr, _⟩ := cat_drop (ps := ps) i hi
  rw [← List.drop_drop, join_drop, hr, List.take_left' rfl]
end

section
variable {d : Nat} {L : List Nat} {ls : List UInt8}
theorem kF_cut (h : 3 * kF ls.length ≤ ls.length) {i : Nat} (hi : i < 4) : i * kF ls.length + cntF ls.length i ≤ ls.length := by
  unfold cntF
  rcases (show i = 0 ∨ i = 1 ∨ i = 2 ∨ i = 3 by omega) with rfl | rfl | rfl | rfl <;> simp <;> omega
theorem symL_len (h : 3 * kF ls.length ≤ ls.length) {i : Nat} (hi : i < 4) : (symL ls i).length = cntF ls.length i := by
  have := kF_cut h hi
  unfold symL
  rw [List.length_take, List.length_drop]
  omega
theorem symL_coded (hC : Coded L (ls.map (·.toNat))) (i : Nat) : Coded L ((symL ls i).map (·.toNat)) := by
  intro s hs
  obtain ⟨x, hx, rfl⟩ := List.mem_map.1 hs
  exact hC _ (List.mem_map.2 ⟨x, List.mem_of_mem_drop (List.mem_of_mem_take hx), rfl⟩)
theorem encS_ne (ss : List Nat) : 1 ≤ (encS d L ss).length := by rw [encS_len]; omega
theorem encF_short (hM : MayW d L) (h : ls.length ≤ 131072) (i : Nat) (hi : i < 3) : (encF d L ls i).length ≤ 65535 := by
  have h1 := encB_len hM ((symL ls i).map (·.toNat))
  have h2 : ((symL ls i).map (·.toNat)).length ≤ 32768 := by
    unfold symL
    rw [List.length_map, List.length_take]
    have : cntF ls.length i ≤ 32768 := by unfold cntF; rw [if_pos hi]; unfold kF; omega
    omega
  unfold encF
  rw [encS_len]
  omega
theorem strm_part (hM : MayW d L) (hC : Coded L (ls.map (·.toNat))) (h : 3 * kF ls.length ≤ ls.length) (i : Nat) (hi : i < 4) : strm d L (encF d L ls i) (cntF ls.length i) = (symL ls i, 0) := by
  have := strm_enc hM (symL ls i) (symL_coded hC i)
  rw [symL_len h hi] at this
  exact this
theorem sym_cat : catN (symL ls) 4 = ls := by
  have go : ∀ i, i ≤ 3 → catN (symL ls) i = ls.take (i * kF ls.length) := by
    intro i
    induction i with
    | zero => intro _; simp [catN]
    | succ i ih =>
      intro hi
      have e : cntF ls.length i = kF ls.length := by unfold cntF; rw [if_pos (by omega)]
      rw [catN, ih (by omega), symL, e, Nat.succ_mul, List.take_add]
  have e : cntF ls.length 3 = ls.length - 3 * kF ls.length := by unfold cntF; rw [if_neg (by omega)]
  rw [catN, go 3 (Nat.le_refl _), symL, e, List.take_of_length_le (l := ls.drop (3 * kF ls.length)) (by rw [List.length_drop]; omega), List.take_append_drop]
theorem manyD_join (hM : MayW d L) (hC : Coded L (ls.map (·.toNat))) (hn : ls.length ≤ 131072) (h : 3 * kF ls.length ≤ ls.length) : ∀ i, i ≤ 4 → manyD d L (joinF (encF d L ls)) ls.length i = (catN (symL ls) i, 0)
  | 0, _ => rfl
  | i + 1, hi => by
    have ih := manyD_join hM hC hn h i (by omega)
    have hp := ptF_join (ps := encF d L ls) (fun j hj => encF_short hM hn j hj) i (by omega)
    have hs := strm_part hM hC h i (by omega)
    have := manyD_good (d := d) (L := L) (xs := joinF (encF d L ls)) (n := ls.length) (i := i) (by rw [ih]) (by rw [hp, hs])
    rw [this, ih, hp, hs, catN]
/-- Four streams of symbols are read as they were. -/
theorem four_join (hM : MayW d L) (hC : Coded L (ls.map (·.toNat))) (hn : ls.length ≤ 131072) (h : 3 * kF ls.length ≤ ls.length) : four d L (joinF (encF d L ls)) ls.length = (ls, 0) := by
  unfold four
  rw [if_neg (by omega), if_pos (split_join fun j hj => encF_short hM hn j hj), manyD_join hM hC hn h 4 (Nat.le_refl _), sym_cat]
end
end Go.Proofs.Ytjpjbbbpmhcgnaa
