
/- Plain lemmas for counts that are made of how often symbols are. Nothing of the program is named here. -/
import Derived.Test.YtpdnmhnnngcbjaaDoorNormPlain
namespace Go.Proofs.YtpdnmhnnngcbjaaDoor

/-- How many are above 0. -/
def cnt : List Nat → Nat
  | [] => 0
  | x :: r => (if 0 < x then 1 else 0) + cnt r
/-- Where the last one that is above 0 ends. -/
def ends (os : List Nat) : Nat := os.length - (os.reverse.takeWhile (· == 0)).length
theorem cnt_append (a b : List Nat) : cnt (a ++ b) = cnt a + cnt b := by
  induction a with
  | nil => simp [cnt]
  | cons x r ih => simp only [List.cons_append, cnt, ih]; omega
theorem cnt_le (a : List Nat) : cnt a ≤ a.length := by
  induction a with
  | nil => exact Nat.le_refl _
  | cons x r ih => simp only [cnt, List.length_cons]; split <;> omega
theorem cnt_snoc (a : List Nat) (x : Nat) : cnt (a ++ [x]) = cnt a + if 0 < x then 1 else 0 := by rw [cnt_append]; simp [cnt]
theorem ends_snoc (a : List Nat) (x : Nat) : ends (a ++ [x]) = if 0 < x then a.length + 1 else ends a := by
  unfold ends
  rw [List.reverse_append]
  simp only [List.reverse_cons, List.reverse_nil, List.nil_append, List.singleton_append, List.takeWhile_cons, List.length_append, List.length_singleton]
  have hl : (a.reverse.takeWhile (· == 0)).length ≤ a.length := by
    have := (List.takeWhile_sublist (l := a.reverse) (p := (· == 0))).length_le
    simpa using this
  by_cases h : 0 < x
  · have : (x == 0) = false := by simp; omega
    rw [if_pos h, this]
    simp
  · obtain rfl : x = 0 := by omega
    rw [if_neg h]
    simp
theorem ends_le (a : List Nat) : ends a ≤ a.length := by unfold ends; omega
theorem sum_snoc (a : List Nat) (x : Nat) : (a ++ [x]).sum = a.sum + x := by simp
theorem snoc_ind {α : Type} {P : List α → Prop} (h0 : P []) (hs : ∀ a x, P a → P (a ++ [x])) (l : List α) : P l := by
  rw [← List.reverse_reverse l]
  induction l.reverse with
  | nil => exact h0
  | cons x r ih => rw [List.reverse_cons]; exact hs _ _ ih
/-- Behind the last one that is above 0 all are 0; it is above 0 itself. -/
theorem ends_spec (a : List Nat) : (∀ i, ends a ≤ i → a.getD i 0 = 0) ∧ (0 < ends a → 0 < a.getD (ends a - 1) 0) := by
  refine snoc_ind (P := fun a => (∀ i, ends a ≤ i → a.getD i 0 = 0) ∧ (0 < ends a → 0 < a.getD (ends a - 1) 0)) (by simp [ends]) (fun a x ih => ?_) a
  · rw [ends_snoc]
    have hle := ends_le a
    have hg : ∀ i, (a ++ [x]).getD i 0 = if i < a.length then a.getD i 0 else if i = a.length then x else 0 := by
      intro i
      rw [List.getD_eq_getElem?_getD]
      by_cases h1 : i < a.length
      · rw [List.getElem?_append_left h1, if_pos h1, List.getD_eq_getElem?_getD]
      · rw [List.getElem?_append_right (by omega), if_neg h1]
        by_cases h2 : i = a.length
        · subst h2; simp
        · rw [if_neg h2, List.getElem?_eq_none (by simp; omega)]; rfl
    by_cases h : 0 < x
    · rw [if_pos h]
      refine ⟨fun i hi => ?_, fun _ => ?_⟩
      · rw [hg, if_neg (by omega), if_neg (by omega)]
      · rw [hg, if_neg (by omega), if_pos (by omega)]
        exact h
    · rw [if_neg h]
      refine ⟨fun i hi => ?_, fun h0 => ?_⟩
      · rw [hg]
        split
        · exact ih.1 i hi
        · split <;> omega
      · rw [hg, if_pos (by omega)]
        exact ih.2 h0
theorem cnt_take (a : List Nat) : cnt (a.take (ends a)) = cnt a ∧ (a.take (ends a)).sum = a.sum := by
  have key : ∀ l : List Nat, (∀ i, l.getD i 0 = 0) → cnt l = 0 ∧ l.sum = 0 := by
    intro l
    induction l with
    | nil => intro; simp [cnt]
    | cons x r ih =>
      intro h
      have h0 : x = 0 := by simpa using h 0
      have := ih fun i => by simpa using h (i + 1)
      subst h0
      simp [cnt, this]
  have hs := ends_spec a
  obtain ⟨k1, k2⟩ := key (a.drop (ends a)) fun i => by
    have := hs.1 (ends a + i) (by omega)
    rw [List.getD_eq_getElem?_getD, List.getElem?_drop, ← List.getD_eq_getElem?_getD]
    exact this
  have e1 : cnt a = cnt (a.take (ends a)) + cnt (a.drop (ends a)) := by rw [← cnt_append, List.take_append_drop]
  have e2 : a.sum = (a.take (ends a)).sum + (a.drop (ends a)).sum := by rw [← List.sum_append, List.take_append_drop]
  omega
theorem cnt_pos {a : List Nat} (h : 0 < cnt a) : ∃ i, i < a.length ∧ 0 < a.getD i 0 := by
  induction a with
  | nil => simp [cnt] at h
  | cons x r ih =>
    by_cases hx : 0 < x
    · exact ⟨0, by simp, by simpa using hx⟩
    · simp only [cnt, if_neg hx] at h
      obtain ⟨i, h1, h2⟩ := ih (by omega)
      exact ⟨i + 1, by simp; omega, by simpa using h2⟩
theorem ends_pos {a : List Nat} (h : 0 < cnt a) : 0 < ends a := by
  rcases Nat.eq_zero_or_pos (ends a) with e | e
  · obtain ⟨i, _, h2⟩ := cnt_pos h
    have := (ends_spec a).1 i (by omega)
    omega
  · exact e
theorem get_le_sum (a : List Nat) (i : Nat) : a.getD i 0 ≤ a.sum := by
  induction a generalizing i with
  | nil => simp
  | cons x r ih =>
    cases i with
    | zero => simp
    | succ i => have := ih i; simp at this ⊢; omega

/-- Parts just of those that are. -/
def Good : List Nat → List Int → Prop
  | [], [] => True
  | o :: os, p :: ps => (0 ≤ p ∧ (p ≠ 0 ↔ 0 < o)) ∧ Good os ps
  | _, _ => False
theorem Good.len : ∀ {os : List Nat} {ps : List Int}, Good os ps → ps.length = os.length
  | [], [], _ => rfl
  | _ :: _, _ :: _, h => by simp [Good.len h.2]
  | [], _ :: _, h => h.elim
  | _ :: _, [], h => h.elim
theorem Good.get : ∀ {os : List Nat} {ps : List Int}, Good os ps → ∀ i, 0 ≤ ps.getD i 0 ∧ (ps.getD i 0 ≠ 0 ↔ 0 < os.getD i 0)
  | [], [], _, i => by simp
  | o :: os, p :: ps, h, 0 => by simpa using h.1
  | o :: os, p :: ps, h, i + 1 => by simpa using Good.get h.2 i
  | [], _ :: _, h, _ => h.elim
  | _ :: _, [], h, _ => h.elim
theorem Good.set : ∀ {os : List Nat} {ps : List Int}, Good os ps → ∀ (i : Nat) (y : Int), 0 < y → 0 < os.getD i 0 → Good os (ps.set i y)
  | [], [], _, i, y, _, ho => by simp at ho
  | o :: os, p :: ps, h, 0, y, hy, ho => ⟨⟨by omega, by simp at ho; omega⟩, h.2⟩
  | o :: os, p :: ps, h, i + 1, y, hy, ho => ⟨h.1, Good.set h.2 i y hy (by simpa using ho)⟩
  | [], _ :: _, h, _, _, _, _ => h.elim
  | _ :: _, [], h, _, _, _, _ => h.elim
theorem sum_set : ∀ (ps : List Int) (i : Nat) (y : Int), i < ps.length → (ps.set i y).sum = ps.sum - ps.getD i 0 + y
  | [], i, y, h => by simp at h
  | p :: ps, 0, y, _ => by simp; omega
  | p :: ps, i + 1, y, h => by
    have := sum_set ps i y (by simpa using h)
    simp at this ⊢
    omega
theorem Good.le_sum : ∀ {os : List Nat} {ps : List Int}, Good os ps → 0 ≤ ps.sum ∧ ∀ i, ps.getD i 0 ≤ ps.sum
  | [], [], _ => by simp
  | o :: os, p :: ps, h => by
    obtain ⟨h1, h2⟩ := Good.le_sum h.2
    have hp := h.1.1
    refine ⟨by simp; omega, fun i => ?_⟩
    cases i with
    | zero => simp; omega
    | succ i => have := h2 i; simp at this ⊢; omega
  | [], _ :: _, h => h.elim
  | _ :: _, [], h => h.elim
theorem Good.small : ∀ {os : List Nat} {ps : List Int}, Good os ps → (∀ i, ps.getD i 0 < 2) → ps.sum ≤ cnt os
  | [], [], _, _ => by simp [cnt]
  | o :: os, p :: ps, h, hs => by
    have ih := Good.small h.2 fun i => by simpa using hs (i + 1)
    have h0 : p < 2 := by simpa using hs 0
    have hp := h.1
    simp only [List.sum_cons, cnt]
    split <;> omega
  | [], _ :: _, h, _ => h.elim
  | _ :: _, [], h, _ => h.elim
theorem Good.big {os : List Nat} {ps : List Int} (h : Good os ps) (hs : (cnt os : Int) < ps.sum) : ∃ i, i < ps.length ∧ 2 ≤ ps.getD i 0 := by
  rcases Classical.em (∃ i, i < ps.length ∧ 2 ≤ ps.getD i 0) with e | e
  · exact e
  · have := h.small fun i => by
      rcases Nat.lt_or_ge i ps.length with hi | hi
      · rcases Int.lt_or_le (ps.getD i 0) 2 with q | q
        · exact q
        · exact absurd ⟨i, hi, q⟩ e
      · rw [List.getD_eq_getElem?_getD, List.getElem?_eq_none hi]
        decide
    omega
theorem Good.tot : ∀ {os : List Nat} {ps : List Int}, Good os ps → tot ps = ps.sum
  | [], [], _ => rfl
  | o :: os, p :: ps, h => by
    rw [tot_cons, Good.tot h.2, List.sum_cons]
    have := h.1.1
    unfold wi
    split <;> omega
  | [], _ :: _, h => h.elim
  | _ :: _, [], h => h.elim
theorem Good.neg : ∀ {os : List Nat} {ps : List Int}, Good os ps → ∀ p ∈ ps, -1 ≤ p
  | [], [], _, p, hp => by simp at hp
  | o :: os, q :: ps, h, p, hp => by
    rw [List.mem_cons] at hp
    rcases hp with rfl | hp
    · have := h.1.1; omega
    · exact Good.neg h.2 p hp
  | [], _ :: _, h, _, _ => h.elim
  | _ :: _, [], h, _, _ => h.elim

/-- A symbol's first share. -/
def shr (S Z o : Nat) : Int := if 0 < o then ((max 1 (o * Z / S) : Nat) : Int) else 0
theorem shr_good (S Z : Nat) (os : List Nat) : Good os (os.map (shr S Z)) := by
  induction os with
  | nil => trivial
  | cons o r ih =>
    refine ⟨?_, ih⟩
    unfold shr
    split <;> omega
theorem shr_le {S Z o : Nat} (h : o ≤ S) (hZ : 1 ≤ Z) : shr S Z o ≤ Z := by
  unfold shr
  split
  · have : o * Z / S ≤ Z := by
      rcases Nat.eq_zero_or_pos S with e | e
      · subst e; simp
      · exact Nat.div_le_of_le_mul (Nat.mul_le_mul_right _ h)
    omega
  · omega
/-- Counts that were settled may be. -/
theorem Good.may {os : List Nat} {ps : List Int} {l : Nat} (h : Good (os.take (ends os)) ps) (h1 : 5 ≤ l) (h2 : l ≤ 15) (hn : os.length ≤ 256) (hc : 0 < cnt os) (hs : ps.sum = 2 ^ l) : mayB (l : Int) ps = true := by
  have he := ends_pos hc
  have hle := ends_le os
  have hlen := h.len
  rw [List.length_take, Nat.min_eq_left hle] at hlen
  refine mayB_iff.2 ⟨by omega, by omega, by omega, by omega, ?_, h.neg, by rw [h.tot, hs]; simp⟩
  intro e
  rw [List.getLast?_eq_getElem?, hlen] at e
  have hg := (h.get (ends os - 1)).2
  have hz : ps.getD (ends os - 1) 0 = 0 := by rw [List.getD_eq_getElem?_getD, e]; rfl
  have hp := (ends_spec os).2 he
  have ht : (os.take (ends os)).getD (ends os - 1) 0 = os.getD (ends os - 1) 0 := by
    rw [List.getD_eq_getElem?_getD, List.getElem?_take, if_pos (by omega), ← List.getD_eq_getElem?_getD]
  rw [ht, hz] at hg
  exact (hg.2 hp) rfl
end Go.Proofs.YtpdnmhnnngcbjaaDoor
