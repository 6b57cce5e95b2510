/- The contracts of NormPlain, NormNum, NormRd, NormParts, NormMay, NormWr, NormWrite, NormOfP, NormOf, NormSet, NormMake, NormAwake, NormSame, NormTail, NormArgs, NormRefM, in one text. -/
import Derived.Test.YtjpjbbbpmhcgnaaPileB
import Derived.Lib.Tables
import Derived.Deep.LoopGhost
import Derived.Deep.CutRange
import Derived.Deep.DeepCutAuto
import Derived.Outline
import Derived.Test.YtjpjbbbpmhcgnaaPileA
import Derived.Deep.QuietTactic
import Derived.BigQuiet
import Derived.Deep.RegionWith
import Derived.Deep.RegionHeld3
/- Plain lemmas for the normal layer: how bits tell counts, and how counts are told in bits. Nothing of the program is named here. -/
namespace Go.Proofs.Ytjpjbbbpmhcgnaa

/-- How many bits of a number are low, when so much is left; 2 to the power of that; how many numbers are told in the low bits alone. -/
def ln (left : Nat) : Nat := (left + 1).log2
def hf (left : Nat) : Nat := 2 ^ ln left
def fr (left : Nat) : Nat := 2 * hf left - 2 - left
theorem hf_le (left : Nat) : hf left ≤ left + 1 := Nat.log2_self_le (by omega)
theorem lt_hf (left : Nat) : left + 1 < 2 * hf left := by
  have : left + 1 < 2 ^ ((left + 1).log2 + 1) := Nat.lt_log2_self
  rw [Nat.pow_succ] at this
  unfold hf ln
  omega
theorem hf_pos (left : Nat) : 0 < hf left := Nat.two_pow_pos _
theorem ln_lt {left n : Nat} (h : left + 1 < 2 ^ n) : ln left < n := by
  unfold ln
  exact (Nat.log2_lt (by omega)).2 h
theorem ln_pos {left : Nat} (h : 0 < left) : 0 < ln left := by
  rcases Nat.eq_zero_or_pos (ln left) with e | e
  · have := lt_hf left
    unfold hf at this
    rw [e] at this
    omega
  · exact e

/-- The number of n bits from a on, if they are there. -/
def rd (L : List Bool) (a n : Nat) : Option Nat := if a + n ≤ L.length then some (num ((L.drop a).take n)) else none
theorem rd_lt {L : List Bool} {a n x : Nat} (h : rd L a n = some x) : x < 2 ^ n ∧ a + n ≤ L.length := by
  unfold rd at h
  split at h
  · injection h with h
    subst h
    refine ⟨Nat.lt_of_lt_of_le (num_lt _) (Nat.pow_le_pow_right (by omega) (by simp; omega)), by assumption⟩
  · cases h
theorem rd_ok {L : List Bool} {a n : Nat} (x : Nat) {rest : List Bool} (h : L.drop a = low x n ++ rest) (hx : x < 2 ^ n) (ha : a ≤ L.length) : rd L a n = some x ∧ L.drop (a + n) = rest := by
  have hl : (L.drop a).length = n + rest.length := by rw [h, List.length_append, low_length]
  rw [List.length_drop] at hl
  constructor
  · unfold rd
    rw [if_pos (by omega), h, List.take_append_of_le_length (by rw [low_length]; omega), List.take_of_length_le (by rw [low_length]; omega), num_low, Nat.mod_eq_of_lt hx]
  · rw [← List.drop_drop, h, List.drop_append_of_le_length (by rw [low_length]; omega), List.drop_of_length_le (by rw [low_length]; omega), List.nil_append]
theorem rd_cut {L : List Bool} {a n x m : Nat} (h : rd L a n = some x) (hm : a + n ≤ m) : rd (L.take m) a n = some x := by
  unfold rd at h ⊢
  split at h
  · rw [if_pos (by rw [List.length_take]; omega), ← h]
    congr 2
    rw [List.drop_take, List.take_take, Nat.min_eq_left (by omega)]
  · cases h
theorem rd_short {L : List Bool} {a n : Nat} (h : ¬ a + n ≤ L.length) : rd L a n = none := by unfold rd; rw [if_neg h]

/-- The next symbol's number, and where it ends. -/
def nextV (L : List Bool) (a left : Nat) : Option (Nat × Nat) :=
  match rd L a (ln left) with
  | none => none
  | some x => if x < fr left then some (x, a + ln left) else
    match rd L (a + ln left) 1 with
    | none => none
    | some y => some (if y = 1 then x + hf left - fr left else x, a + ln left + 1)
theorem nextV_le {L : List Bool} {a left v a1 : Nat} (h : nextV L a left = some (v, a1)) (hl : 0 < left) : v ≤ left + 1 ∧ a + 1 ≤ a1 ∧ a1 ≤ L.length := by
  have h1 := hf_le left
  have h2 := lt_hf left
  have h3 := ln_pos hl
  unfold nextV at h
  unfold fr at h
  split at h
  · cases h
  · next x hx =>
    have hxl := rd_lt hx
    have hh : 2 ^ ln left = hf left := rfl
    rw [hh] at hxl
    split at h
    · simp only [Option.some.injEq, Prod.mk.injEq] at h
      omega
    · split at h
      · cases h
      · next y hy =>
        have hyl := rd_lt hy
        simp only [Option.some.injEq, Prod.mk.injEq] at h
        obtain ⟨h, h'⟩ := h
        split at h <;> omega

/-- How many noughts follow one, counted on from acc, and where that ends. -/
def rowA : Nat → List Bool → Nat → Nat → Option (Nat × Nat)
  | 0, _, _, _ => none
  | f + 1, L, a, acc => match rd L a 2 with
    | none => none
    | some x => if x < 3 then some (acc + x, a + 2) else rowA f L (a + 2) (acc + 3)
theorem rowA_le : ∀ (f : Nat) {L : List Bool} {a acc r a2 : Nat}, rowA f L a acc = some (r, a2) → acc ≤ r ∧ a + 2 ≤ a2 ∧ a2 ≤ L.length ∧ 2 * (r - acc) ≤ 3 * (a2 - a)
  | 0, _, _, _, _, _, h => by cases h
  | f + 1, L, a, acc, r, a2, h => by
    unfold rowA at h
    split at h
    · cases h
    · next x hx =>
      have hxl := rd_lt hx
      split at h
      · simp only [Option.some.injEq, Prod.mk.injEq] at h
        omega
      · have := rowA_le f h
        omega

/-- How much a symbol of this number takes. -/
def wv (v : Nat) : Nat := if v = 0 then 1 else v - 1
/-- The parts that bits tell from a on, when so much is left, behind those of acc; where they end. -/
def rdP : Nat → List Bool → Int → Nat → Nat → List Int → Except Int (List Int × Nat)
  | 0, _, _, _, _, _ => .error 10
  | f + 1, L, sy, a, left, acc =>
    if left = 0 then .ok (acc, a) else
    match nextV L a left with
    | none => .error 10
    | some (v, a1) =>
      if v = 1 then
        match rowA f L a1 0 with
        | none => .error 10
        | some (r, a2) => if sy < ((acc.length + 1 + r : Nat) : Int) then .error 11 else rdP f L sy a2 left (acc ++ 0 :: List.replicate r 0)
      else if sy < ((acc.length + 1 : Nat) : Int) then .error 11 else rdP f L sy a1 (left - wv v) (acc ++ [(v : Int) - 1])
/-- The counts that bits tell: the log, the parts, how many bits. -/
def rdC (L : List Bool) (most sy : Int) : Except Int (Nat × List Int × Nat) :=
  match rd L 0 4 with
  | none => .error 10
  | some x => if most < ((x + 5 : Nat) : Int) ∨ 15 < x + 5 then .error 12 else
    match rdP (L.length + 1) L sy 4 (2 ^ (x + 5)) [] with
    | .error e => .error e
    | .ok (ps, a) => .ok (x + 5, ps, a)

/-- How much a part takes of all of them. -/
def wi (p : Int) : Int := if p = -1 then 1 else p
def tot (ps : List Int) : Int := (ps.map wi).sum
theorem tot_cons (p : Int) (r : List Int) : tot (p :: r) = wi p + tot r := by simp [tot]
theorem tot_append (p r : List Int) : tot (p ++ r) = tot p + tot r := by simp [tot]
theorem tot_zeros (n : Nat) : tot (List.replicate n 0) = 0 := by
  induction n with
  | zero => rfl
  | succ n ih => rw [List.replicate_succ, tot_cons, ih]; rfl
theorem wi_pos {p : Int} (h : -1 ≤ p) : 0 ≤ wi p ∧ p ≤ wi p ∧ (wi p = 0 ↔ p = 0) := by unfold wi; split <;> omega
theorem tot_pos {ps : List Int} (h : ∀ p ∈ ps, -1 ≤ p) : 0 ≤ tot ps := by
  induction ps with
  | nil => exact Int.le_refl _
  | cons p r ih =>
    rw [tot_cons]
    have := wi_pos (h p (by simp))
    have := ih fun q hq => h q (by simp [hq])
    omega

/-- May counts be? -/
def mayB (log : Int) (ps : List Int) : Bool :=
  decide (5 ≤ log ∧ log ≤ 15 ∧ 0 < ps.length ∧ ps.length ≤ 256 ∧ ps.getLast? ≠ some 0 ∧ (∀ p ∈ ps, -1 ≤ p) ∧ tot ps = 2 ^ log.toNat)
theorem mayB_iff {log : Int} {ps : List Int} : mayB log ps = true ↔ 5 ≤ log ∧ log ≤ 15 ∧ 0 < ps.length ∧ ps.length ≤ 256 ∧ ps.getLast? ≠ some 0 ∧ (∀ p ∈ ps, -1 ≤ p) ∧ tot ps = 2 ^ log.toNat := by
  unfold mayB; exact decide_eq_true_iff

/-- What is told of the next symbol. -/
def partBits (p : Int) (left : Nat) : List Bool :=
  if (p + 1).toNat < fr left then low (p + 1).toNat (ln left) else if (p + 1).toNat < hf left then low (p + 1).toNat (ln left + 1) else low ((p + 1).toNat + fr left) (ln left + 1)
/-- How many parts are 0 ahead of the first one that isn't. -/
def nz (ps : List Int) : Nat := (ps.takeWhile (· == 0)).length
/-- What is told of so many noughts behind one. -/
def rowBits : Nat → List Bool
  | r + 3 => true :: true :: rowBits r
  | r => low r 2
/-- What is told of parts when so much is left. -/
def wrP : Nat → List Int → Nat → List Bool
  | 0, _, _ => []
  | _ + 1, [], _ => []
  | f + 1, p :: r, left => partBits p left ++ (if p = 0 then rowBits (nz r) ++ wrP f (r.drop (nz r)) left else wrP f r (left - (wi p).toNat))
/-- What is told of counts. -/
def wrC (log : Nat) (ps : List Int) : List Bool := low (log - 5) 4 ++ wrP ps.length ps (2 ^ log)

/-! What is told is read. -/
theorem nextV_part {L rest : List Bool} {a left : Nat} {p : Int} (h : L.drop a = partBits p left ++ rest) (ha : a ≤ L.length) (_hp : -1 ≤ p) (hp2 : p ≤ left) :
    nextV L a left = some ((p + 1).toNat, a + (partBits p left).length) ∧ L.drop (a + (partBits p left).length) = rest := by
  have h1 := hf_le left
  have h2 := lt_hf left
  have hh : 2 ^ ln left = hf left := rfl
  have hs : 2 ^ (ln left + 1) = 2 * hf left := by rw [Nat.pow_succ, hh]; omega
  obtain ⟨v, hv⟩ : ∃ v, v = (p + 1).toNat := ⟨_, rfl⟩
  have hvl : v ≤ left + 1 := by omega
  unfold partBits at h ⊢
  rw [← hv] at h ⊢
  clear hv
  by_cases c1 : v < fr left
  · rw [if_pos c1] at h ⊢
    obtain ⟨e1, e2⟩ := rd_ok v h (by unfold fr at c1; omega) ha
    rw [low_length]
    refine ⟨?_, e2⟩
    unfold nextV
    rw [e1]
    simp only [if_pos c1]
  · rw [if_neg c1] at h ⊢
    have key : ∀ y, y < 2 * hf left → L.drop a = low y (ln left + 1) ++ rest → rd L a (ln left) = some (y % hf left) ∧ rd L (a + ln left) 1 = some (y / hf left) ∧ L.drop (a + ln left + 1) = rest := by
      intro y hy hd
      rw [low_succ, List.append_assoc] at hd
      have hlow : low y (ln left) = low (y % hf left) (ln left) := by
        apply List.ext_getElem
        · rw [low_length, low_length]
        · intro i i1 i2
          rw [low_length] at i1
          simp only [low, List.getElem_map, List.getElem_range]
          rw [← hh, Nat.testBit_mod_two_pow]
          simp [i1]
      rw [hlow] at hd
      obtain ⟨e1, e2⟩ := rd_ok (y % hf left) hd (by rw [hh]; exact Nat.mod_lt _ (hf_pos left)) ha
      have hd1 : y / hf left < 2 := Nat.div_lt_of_lt_mul (by omega)
      have hb : [y.testBit (ln left)] = low (y / hf left) 1 := by
        simp only [low, List.range_succ, List.range_zero, List.nil_append, List.map_cons, List.map_nil]
        rw [Nat.testBit_eq_decide_div_mod_eq, hh, Nat.testBit_eq_decide_div_mod_eq]
        simp
      have hal : a + ln left ≤ L.length := (rd_lt e1).2
      rw [hb] at e2
      obtain ⟨e3, e4⟩ := rd_ok (y / hf left) e2 (by simpa using hd1) hal
      exact ⟨e1, e3, e4⟩
    have hfr : fr left = 2 * hf left - 2 - left := rfl
    by_cases c2 : v < hf left
    · rw [if_pos c2] at h ⊢
      obtain ⟨e1, e2, e3⟩ := key v (by omega) h
      rw [Nat.mod_eq_of_lt c2] at e1
      rw [Nat.div_eq_of_lt c2] at e2
      rw [low_length]
      refine ⟨?_, e3⟩
      unfold nextV
      rw [e1]
      simp only [if_neg c1, e2]
      rfl
    · rw [if_neg c2] at h ⊢
      obtain ⟨e1, e2, e3⟩ := key (v + fr left) (by omega) h
      have hm : (v + fr left) % hf left = v + fr left - hf left := by
        rw [Nat.mod_eq_sub_mod (by omega), Nat.mod_eq_of_lt (by omega)]
      have hd : (v + fr left) / hf left = 1 := by
        apply Nat.div_eq_of_lt_le <;> omega
      rw [hm] at e1
      rw [hd] at e2
      rw [low_length]
      refine ⟨?_, e3⟩
      unfold nextV
      rw [e1]
      simp only [if_neg (show ¬ v + fr left - hf left < fr left by omega), e2]
      simp
      omega

theorem rowBits_pos (r : Nat) : 2 ≤ (rowBits r).length := by
  unfold rowBits
  split
  · simp
  · simp [low]
theorem rowA_row : ∀ (r f : Nat) {L rest : List Bool} {a acc : Nat}, L.drop a = rowBits r ++ rest → a ≤ L.length → L.length < f + a → rowA f L a acc = some (acc + r, a + (rowBits r).length) ∧ L.drop (a + (rowBits r).length) = rest := by
  intro r
  induction r using Nat.strongRecOn with
  | ind r ih =>
    intro f L rest a acc h ha hf
    obtain ⟨g, rfl⟩ : ∃ g, f = g + 1 := ⟨f - 1, by omega⟩
    by_cases h3 : 3 ≤ r
    · obtain ⟨s, rfl⟩ : ∃ s, r = s + 3 := ⟨r - 3, by omega⟩
      have hb : rowBits (s + 3) = low 3 2 ++ rowBits s := rfl
      rw [hb, List.append_assoc] at h
      obtain ⟨e1, e2⟩ := rd_ok 3 h (by decide) ha
      obtain ⟨e3, e4⟩ := ih s (by omega) g (acc := acc + 3) e2 (rd_lt e1).2 (by omega)
      have el : a + (rowBits (s + 3)).length = a + 2 + (rowBits s).length := by rw [hb, List.length_append, low_length]; omega
      rw [el]
      refine ⟨?_, e4⟩
      rw [rowA, e1]
      simp only [if_neg (show ¬ 3 < 3 by omega)]
      rw [e3]
      congr 2
      omega
    · have hb : rowBits r = low r 2 := by
        match r, h3 with
        | 0, _ => rfl
        | 1, _ => rfl
        | 2, _ => rfl
        | s + 3, h => omega
      rw [hb] at h ⊢
      obtain ⟨e1, e2⟩ := rd_ok r h (by omega) ha
      rw [low_length]
      refine ⟨?_, e2⟩
      rw [rowA, e1]
      simp only [if_pos (show r < 3 by omega)]

theorem nz_split (ps : List Int) : ps = List.replicate (nz ps) 0 ++ ps.drop (nz ps) := by
  induction ps with
  | nil => rfl
  | cons p r ih =>
    unfold nz at ih ⊢
    rw [List.takeWhile_cons]
    by_cases h : p = 0
    · subst h
      simp only [beq_self_eq_true, if_true, List.length_cons, List.replicate_succ, List.drop_succ_cons, List.cons_append]
      rw [← ih]
    · simp [h]
theorem nz_le (ps : List Int) : nz ps ≤ ps.length := by
  have := congrArg List.length (nz_split ps)
  simp at this
  omega
theorem nz_last {ps : List Int} (h0 : ps.getLast? ≠ some 0) (hn : ps ≠ []) : nz ps < ps.length := by
  rcases Nat.lt_or_ge (nz ps) ps.length with h | h
  · exact h
  · exfalso
    have hs := nz_split ps
    have hd : ps.drop (nz ps) = [] := List.drop_of_length_le h
    rw [hd, List.append_nil] at hs
    apply h0
    rw [hs]
    have : nz ps ≠ 0 := by
      intro e
      rw [e] at hs
      exact hn hs
    rw [List.getLast?_replicate, if_neg this]
theorem last_drop {ps : List Int} {k : Nat} (h0 : ps.getLast? ≠ some 0) (hk : k < ps.length) : (ps.drop k).getLast? ≠ some 0 := by
  rw [List.getLast?_drop, if_neg (by omega)]
  exact h0

theorem last_tail {p : Int} {r : List Int} (h : (p :: r).getLast? ≠ some 0) (hn : r ≠ []) : r.getLast? ≠ some 0 := by
  rcases r with _ | ⟨q, r⟩
  · exact absurd rfl hn
  · simpa [List.getLast?_cons_cons] using h
theorem tot_last {ps : List Int} (hp : ∀ p ∈ ps, -1 ≤ p) (h : ps.getLast? ≠ some 0) (hn : ps ≠ []) : 0 < tot ps := by
  induction ps with
  | nil => exact absurd rfl hn
  | cons p r ih =>
    rw [tot_cons]
    have hw := wi_pos (hp p (by simp))
    have hr := tot_pos (ps := r) fun q hq => hp q (by simp [hq])
    by_cases hr0 : r = []
    · subst hr0
      have : p ≠ 0 := by intro e; subst e; exact h rfl
      omega
    · have := ih (fun q hq => hp q (by simp [hq])) (last_tail h hr0) hr0
      omega

/-- Parts of which the last one isn't 0 are read as they were told. -/
theorem rdP_wrP : ∀ (f : Nat) (ps : List Int) (left : Nat) {g : Nat} {L rest : List Bool} {sy : Int} {a : Nat} {acc : List Int},
    ps.length ≤ f → L.drop a = wrP f ps left ++ rest → a ≤ L.length → L.length < g + a → (∀ p ∈ ps, -1 ≤ p) → tot ps = left → (ps = [] ∨ ps.getLast? ≠ some 0) → ((acc.length + ps.length : Nat) : Int) ≤ sy →
    rdP g L sy a left acc = .ok (acc ++ ps, a + (wrP f ps left).length) ∧ a + (wrP f ps left).length ≤ L.length := by
  intro f
  induction f with
  | zero =>
    intro ps left g L rest sy a acc hf h ha hg hp ht hl hs
    have : ps = [] := List.eq_nil_of_length_eq_zero (by omega)
    subst this
    obtain ⟨g', rfl⟩ : ∃ g', g = g' + 1 := ⟨g - 1, by omega⟩
    have hz : left = 0 := by simp [tot] at ht; omega
    simp [rdP, hz, wrP, ha]
  | succ f ih =>
    intro ps left g L rest sy a acc hf h ha hg hp ht hl hs
    obtain ⟨g', rfl⟩ : ∃ g', g = g' + 1 := ⟨g - 1, by omega⟩
    match ps with
    | [] =>
      have hz : left = 0 := by simp [tot] at ht; omega
      simp [rdP, hz, wrP, ha]
    | p :: r =>
      have hl' : (p :: r).getLast? ≠ some 0 := by
        rcases hl with e | e
        · cases e
        · exact e
      have htl := tot_last hp hl' (by simp)
      have hpp := hp p (by simp)
      have hpr : ∀ q ∈ r, -1 ≤ q := fun q hq => hp q (by simp [hq])
      have hw := wi_pos hpp
      have htr := tot_pos hpr
      have hleft : left ≠ 0 := by omega
      rw [tot_cons] at ht
      have hpl : p ≤ left := by omega
      rw [wrP, List.append_assoc] at h
      obtain ⟨e1, e2⟩ := nextV_part h ha hpp hpl
      obtain ⟨_, e3, e4⟩ := nextV_le e1 (by omega)
      rw [wrP, List.length_append]
      rw [rdP, if_neg hleft, e1]
      simp only [List.length_cons] at hf hs
      by_cases hp0 : p = 0
      · subst hp0
        rw [if_pos rfl] at e2
        simp only [if_true]
        rw [List.append_assoc] at e2
        obtain ⟨e5, e6⟩ := rowA_row (nz r) g' (acc := 0) e2 e4 (by omega)
        obtain ⟨_, _, e7, _⟩ := rowA_le g' e5
        have hrn : r ≠ [] := by
          intro e
          subst e
          exact hl' rfl
        have hnz := nz_last (last_tail hl' hrn) hrn
        have hsp := nz_split r
        have e8 := ih (r.drop (nz r)) left (g := g') (sy := sy) (acc := acc ++ 0 :: List.replicate (nz r) 0) (by simp; omega) e6 e7 (by omega) (fun q hq => hpr q (List.mem_of_mem_drop hq)) (by
          have : tot r = tot (List.replicate (nz r) 0) + tot (r.drop (nz r)) := by rw [← tot_append, ← hsp]
          rw [tot_zeros] at this
          have : wi 0 = 0 := rfl
          omega) (.inr (last_drop (last_tail hl' hrn) hnz)) (by simp; omega)
        simp only [show ((0 : Int) + 1).toNat = 1 by rfl, if_true]
        rw [e5]
        simp only [Nat.zero_add]
        rw [if_neg (by omega), e8.1, List.length_append]
        refine ⟨?_, by omega⟩
        congr 2
        · rw [List.append_assoc, List.cons_append, ← hsp]
        · omega
      · rw [if_neg hp0] at e2 ⊢
        have hv1 : ¬ (p + 1).toNat = 1 := by omega
        have hwv : wv (p + 1).toNat = (wi p).toNat := by
          unfold wv wi
          split <;> split <;> omega
        have hvp : (((p + 1).toNat : Nat) : Int) - 1 = p := by omega
        have e8 := ih r (left - (wi p).toNat) (g := g') (sy := sy) (acc := acc ++ [p]) (by omega) e2 e4 (by omega) hpr (by omega) (by
          by_cases hr0 : r = []
          · exact .inl hr0
          · exact .inr (last_tail hl' hr0)) (by simp; omega)
        simp only [if_neg hv1]
        rw [if_neg (by omega), hwv, hvp, e8.1]
        refine ⟨?_, by omega⟩
        congr 2
        · simp
        · omega

theorem wrP_nil (f left : Nat) : wrP f [] left = [] := by cases f <;> rfl

/-- Counts that may be, and are told, are read as they were. -/
theorem rdC_wrC {log : Int} {ps : List Int} {L rest : List Bool} (hm : mayB log ps = true) (h : L = wrC log.toNat ps ++ rest) {most sy : Int} (h1 : log ≤ most) (h2 : (ps.length : Int) ≤ sy) :
    rdC L most sy = .ok (log.toNat, ps, (wrC log.toNat ps).length) := by
  obtain ⟨q1, q2, q3, q4, q5, q6, q7⟩ := mayB_iff.1 hm
  unfold wrC at h ⊢
  rw [List.append_assoc] at h
  have hd : L.drop 0 = low (log.toNat - 5) 4 ++ (wrP ps.length ps (2 ^ log.toNat) ++ rest) := h
  obtain ⟨e1, e2⟩ := rd_ok (log.toNat - 5) hd (by omega) (by omega)
  have e3 := rd_lt e1
  obtain ⟨e4, e5⟩ := rdP_wrP ps.length ps (2 ^ log.toNat) (g := L.length + 1) (sy := sy) (acc := []) (Nat.le_refl _) e2 e3.2 (by omega) q6 (by rw [q7]; simp) (.inr q5) (by simpa using h2)
  unfold rdC
  rw [e1]
  simp only [show log.toNat - 5 + 5 = log.toNat by omega]
  rw [if_neg (by omega), e4, List.length_append, low_length]
  simp

/-! What is read where bits are cut. -/
theorem nextV_cut {L : List Bool} {a left v a1 m : Nat} (h : nextV L a left = some (v, a1)) : (a1 ≤ m → nextV (L.take m) a left = some (v, a1)) ∧ (m < a1 → nextV (L.take m) a left = none) := by
  unfold nextV at h ⊢
  split at h
  · cases h
  · next x hx =>
    have hxl := rd_lt hx
    split at h
    · next hlt =>
      simp only [Option.some.injEq, Prod.mk.injEq] at h
      obtain ⟨rfl, rfl⟩ := h
      constructor
      · intro hm
        rw [rd_cut hx hm]
        simp [hlt]
      · intro hm
        rw [rd_short (by rw [List.length_take]; omega)]
    · next hlt =>
      split at h
      · cases h
      · next y hy =>
        simp only [Option.some.injEq, Prod.mk.injEq] at h
        obtain ⟨rfl, rfl⟩ := h
        constructor
        · intro hm
          rw [rd_cut hx (by omega), rd_cut hy hm]
          simp [hlt]
        · intro hm
          by_cases hm2 : a + ln left ≤ m
          · rw [rd_cut hx hm2]
            simp only [if_neg hlt]
            rw [rd_short (by rw [List.length_take]; omega)]
          · rw [rd_short (by rw [List.length_take]; omega)]
theorem rowA_cut : ∀ (f f' : Nat) {L : List Bool} {a acc r a2 m : Nat}, rowA f L a acc = some (r, a2) → a ≤ m → m < f' + a → (a2 ≤ m → rowA f' (L.take m) a acc = some (r, a2)) ∧ (m < a2 → rowA f' (L.take m) a acc = none)
  | 0, _, _, _, _, _, _, _, h, _, _ => by cases h
  | f + 1, f', L, a, acc, r, a2, m, h, ha, hf => by
    obtain ⟨g, rfl⟩ : ∃ g, f' = g + 1 := ⟨f' - 1, by omega⟩
    rw [rowA] at h ⊢
    split at h
    · cases h
    · next x hx =>
      have hxl := rd_lt hx
      split at h
      · next hlt =>
        simp only [Option.some.injEq, Prod.mk.injEq] at h
        obtain ⟨rfl, rfl⟩ := h
        constructor
        · intro hm
          rw [rd_cut hx hm]
          simp [hlt]
        · intro hm
          rw [rd_short (by rw [List.length_take]; omega)]
      · next hlt =>
        have hle := rowA_le f h
        by_cases hm : a + 2 ≤ m
        · obtain ⟨i1, i2⟩ := rowA_cut f g h hm (by omega)
          rw [rd_cut hx hm]
          simp only [if_neg hlt]
          exact ⟨i1, i2⟩
        · constructor
          · intro; omega
          · intro
            rw [rd_short (by rw [List.length_take]; omega)]
theorem rdP_le : ∀ (f : Nat) {L : List Bool} {sy : Int} {a left a2 : Nat} {acc ps : List Int}, rdP f L sy a left acc = .ok (ps, a2) → a ≤ a2 ∧ (a ≤ L.length → a2 ≤ L.length)
  | 0, _, _, _, _, _, _, _, h => by cases h
  | f + 1, L, sy, a, left, a2, acc, ps, h => by
    rw [rdP] at h
    split at h
    · simp only [Except.ok.injEq, Prod.mk.injEq] at h
      omega
    · next hz =>
      split at h
      · cases h
      · next v a1 hv =>
        have := (nextV_le hv (by omega)).2
        split at h
        · split at h
          · cases h
          · next r a3 hr =>
            have := (rowA_le f hr).2
            split at h
            · cases h
            · have := rdP_le f h
              omega
        · split at h
          · cases h
          · have := rdP_le f h
            omega
theorem rdP_cut : ∀ (f f' : Nat) {L : List Bool} {sy : Int} {a left a2 m : Nat} {acc ps : List Int}, rdP f L sy a left acc = .ok (ps, a2) → a ≤ m → m < f' + a → m < a2 → rdP f' (L.take m) sy a left acc = .error 10
  | 0, _, _, _, _, _, _, _, _, _, h, _, _, _ => by cases h
  | f + 1, f', L, sy, a, left, a2, m, acc, ps, h, ha, hf, hm => by
    obtain ⟨g, rfl⟩ : ∃ g, f' = g + 1 := ⟨f' - 1, by omega⟩
    rw [rdP] at h ⊢
    split at h
    · simp only [Except.ok.injEq, Prod.mk.injEq] at h
      omega
    · next hz =>
      rw [if_neg hz]
      split at h
      · cases h
      · next v a1 hv =>
        have hle := (nextV_le hv (by omega)).2.1
        by_cases hm1 : a1 ≤ m
        · rw [(nextV_cut hv).1 hm1]
          simp only
          split at h
          · next hv1 =>
            rw [if_pos hv1]
            split at h
            · cases h
            · next r a3 hr =>
              have hrl := (rowA_le f hr).2.1
              split at h
              · cases h
              · next hs =>
                by_cases hm3 : a3 ≤ m
                · rw [(rowA_cut f g hr hm1 (by omega)).1 hm3]
                  simp only
                  rw [if_neg hs]
                  exact rdP_cut f g h hm3 (by omega) hm
                · rw [(rowA_cut f g hr hm1 (by omega)).2 (by omega)]
          · next hv1 =>
            rw [if_neg hv1]
            split at h
            · cases h
            · next hs =>
              rw [if_neg hs]
              exact rdP_cut f g h hm1 (by omega) hm
        · rw [(nextV_cut hv).2 (by omega)]
/-- Counts that are cut before their end lack bits. -/
theorem rdC_cut {L : List Bool} {most sy : Int} {log a m : Nat} {ps : List Int} (h : rdC L most sy = .ok (log, ps, a)) (hm : m < a) : rdC (L.take m) most sy = .error 10 := by
  unfold rdC at h ⊢
  split at h
  · cases h
  · next x hx =>
    split at h
    · cases h
    · next hc =>
      by_cases h4 : 4 ≤ m
      · rw [rd_cut hx (by omega)]
        simp only
        rw [if_neg hc]
        split at h
        · cases h
        · next q a' hq =>
          simp only [Except.ok.injEq, Prod.mk.injEq] at h
          obtain ⟨_, _, rfl⟩ := h
          rw [rdP_cut _ ((L.take m).length + 1) hq h4 (by have h1 := (rd_lt hx).2; have h2 := (rdP_le _ hq).2 (by omega); rw [List.length_take]; omega) hm]
      · rw [rd_short (by rw [List.length_take]; omega)]

/-! What is read may be. -/
theorem getLast_snoc (l : List Int) (x : Int) : (l ++ [x]).getLast? = some x := by simp
theorem rdP_may : ∀ (f : Nat) {L : List Bool} {sy : Int} {a left a2 : Nat} {acc ps : List Int}, rdP f L sy a left acc = .ok (ps, a2) →
    ∃ qs, ps = acc ++ qs ∧ (∀ q ∈ qs, -1 ≤ q) ∧ tot qs = left ∧ (0 < left → 0 < qs.length ∧ qs.getLast? ≠ some 0 ∧ (ps.length : Int) ≤ sy)
  | 0, _, _, _, _, _, _, _, h => by cases h
  | f + 1, L, sy, a, left, a2, acc, ps, h => by
    rw [rdP] at h
    split at h
    · next hz =>
      simp only [Except.ok.injEq, Prod.mk.injEq] at h
      exact ⟨[], by simp [h.1], by simp, by simp [tot, hz], by omega⟩
    · next hz =>
      split at h
      · cases h
      · next v a1 hv =>
        have hvl := (nextV_le hv (by omega)).1
        split at h
        · next hv1 =>
          split at h
          · cases h
          · next r a3 hr =>
            split at h
            · cases h
            · obtain ⟨qs, h1, h2, h3, h4⟩ := rdP_may f h
              obtain ⟨h5, h6, h7⟩ := h4 (by omega)
              refine ⟨0 :: List.replicate r 0 ++ qs, by rw [h1, List.append_assoc], ?_, ?_, fun _ => ⟨by simp, ?_, h7⟩⟩
              · intro q hq
                simp only [List.cons_append, List.mem_cons, List.mem_append, List.mem_replicate] at hq
                rcases hq with e | e | e
                · omega
                · omega
                · exact h2 q e
              · rw [tot_append, tot_cons, tot_zeros, h3]
                have : wi 0 = 0 := rfl
                omega
              · rw [List.getLast?_append]
                rcases hq : qs.getLast? with _ | z
                · rw [List.getLast?_eq_none_iff] at hq
                  subst hq
                  simp at h5
                · rw [hq] at h6
                  simpa using h6
        · next hv1 =>
          split at h
          · cases h
          · next hs =>
            obtain ⟨qs, h1, h2, h3, h4⟩ := rdP_may f h
            have hww : wi ((v : Int) - 1) = (wv v : Nat) := by
              unfold wi wv
              split <;> split <;> omega
            have hwl : wv v ≤ left := by
              unfold wv
              split <;> omega
            have hww0 : 0 < wv v := by
              unfold wv
              split <;> omega
            refine ⟨((v : Int) - 1) :: qs, by rw [h1, List.append_assoc]; rfl, ?_, ?_, fun _ => ⟨by simp, ?_, ?_⟩⟩
            · intro q hq
              simp only [List.mem_cons] at hq
              rcases hq with e | e
              · omega
              · exact h2 q e
            · rw [tot_cons, h3, hww]
              omega
            · by_cases hl0 : 0 < left - wv v
              · obtain ⟨h5, h6, _⟩ := h4 hl0
                rcases qs with _ | ⟨q, r⟩
                · simp at h5
                · rw [List.getLast?_cons_cons]
                  exact h6
              · have h30 : tot qs = 0 := by omega
                rcases f with _ | f
                · cases h
                rw [rdP, if_pos (by omega)] at h
                simp only [Except.ok.injEq, Prod.mk.injEq] at h
                have : qs = [] := by
                  have := congrArg List.length (h.1.trans h1)
                  simp only [List.length_append] at this
                  exact List.eq_nil_of_length_eq_zero (by omega)
                subst this
                simp
                omega
            · by_cases hl0 : 0 < left - wv v
              · exact (h4 hl0).2.2
              · rcases f with _ | f
                · cases h
                rw [rdP, if_pos (by omega)] at h
                simp only [Except.ok.injEq, Prod.mk.injEq] at h
                rw [← h.1]
                simp
                omega
/-- Counts that are read may be. -/
theorem rdC_may {L : List Bool} {most sy : Int} {log a : Nat} {ps : List Int} (h : rdC L most sy = .ok (log, ps, a)) (hs : sy ≤ 256) : mayB log ps = true ∧ (ps.length : Int) ≤ sy ∧ (log : Int) ≤ most := by
  unfold rdC at h
  split at h
  · cases h
  · next x hx =>
    split at h
    · cases h
    · next hc =>
      split at h
      · cases h
      · next q a' hq =>
        simp only [Except.ok.injEq, Prod.mk.injEq] at h
        obtain ⟨h1, h2, _⟩ := h
        subst h1 h2
        have hp := Nat.two_pow_pos (x + 5)
        obtain ⟨qs, e, h3, h4, h5⟩ := rdP_may _ hq
        simp only [List.nil_append] at e
        subst e
        obtain ⟨h6, h7, h8⟩ := h5 hp
        refine ⟨mayB_iff.2 ⟨by omega, by omega, h6, by omega, h7, h3, by rw [h4, show ((x + 5 : Nat) : Int).toNat = x + 5 by omega]; simp⟩, h8, by omega⟩

theorem rdP_err : ∀ (f : Nat) {L : List Bool} {sy : Int} {a left : Nat} {acc : List Int} {er : Int}, rdP f L sy a left acc = .error er → er = 10 ∨ er = 11
  | 0, _, _, _, _, _, _, h => by
    rw [rdP] at h
    injection h with h
    omega
  | f + 1, L, sy, a, left, acc, er, h => by
    rw [rdP] at h
    split at h
    · cases h
    · split at h
      · injection h with h
        omega
      · split at h
        · split at h
          · injection h with h
            omega
          · split at h
            · injection h with h
              omega
            · exact rdP_err f h
        · split at h
          · injection h with h
            omega
          · exact rdP_err f h
end Go.Proofs.Ytjpjbbbpmhcgnaa

/- The contracts of the program's small functions on numbers: isLog, weight, width. -/
namespace Go.Proofs.Ytjpjbbbpmhcgnaa
open Go.RowKit

theorem len_tab : ∀ x : Fin 256, Lib.len8 (x.val : Int) = (len8 x.val : Nat) := by decide +kernel
theorem len8_le {x : Nat} (h : x < 256) : len8 x ≤ 8 := by
  unfold len8
  split
  · omega
  · have := (Nat.log2_lt (n := x) (k := 8) (by omega)).2 h
    omega
theorem log2_div (x : Nat) (h : 256 ≤ x) : (x / 256).log2 + 8 = x.log2 := by
  have h0 : x ≠ 0 := by omega
  have h1 : x / 256 ≠ 0 := by
    have : 1 ≤ x / 256 := (Nat.le_div_iff_mul_le (by omega)).2 (by omega)
    omega
  symm
  rw [Nat.log2_eq_iff h0]
  have a1 : 2 ^ (x / 256).log2 ≤ x / 256 := Nat.log2_self_le h1
  have a2 : x / 256 < 2 ^ ((x / 256).log2 + 1) := Nat.lt_log2_self
  rw [show (x / 256).log2 + 8 + 1 = ((x / 256).log2 + 1) + 8 by omega, Nat.pow_add 2 (x / 256).log2 8, Nat.pow_add 2 ((x / 256).log2 + 1) 8]
  generalize 2 ^ (x / 256).log2 = A at *
  generalize 2 ^ ((x / 256).log2 + 1) = B at *
  omega
set_option maxRecDepth 100000 in
theorem len64_any (x : Nat) (w : World) (h1 : 0 < x) (h2 : x < 65536) : Calls Try.prog 71 #[.int .u64 (x : Int)] w fun e w' => e = .returned (.int .i64 (x.log2 + 1 : Nat)) ∧ w = w' := by
  have h32 : decide (4294967296 ≤ (x : Int)) = false := by simp; omega
  have h16 : decide (65536 ≤ (x : Int)) = false := by simp; omega
  by_cases h8 : x < 256
  · have h8' : decide (256 ≤ (x : Int)) = false := by simp; omega
    have hx5 : (x : Int) ≤ 255 := by omega
    have hx0 : 0 ≤ (x : Int) := by omega
    have H := Lib.hid (len_tab ⟨x, h8⟩)
    have hl : len8 x = x.log2 + 1 := by unfold len8; rw [if_neg (by omega)]
    have hb := len8_le h8
    rw [hl] at hb
    have HL := Lib.hid hl
    clear hl
    go_enter Try.func71, Try.ntmps71
    go_wp2
    go_ret
    refine ⟨?_, rfl⟩
    show Ending.returned (.int .i64 (wrap64 (wrap64 (Lib.len8 ((x : Nat) : Int))))) = _
    rw [H.out]
    show Ending.returned (.int .i64 (wrap64 (wrap64 (len8 x : Nat)))) = _
    congr 2
    have := HL.out
    unfold wrap64
    omega
  · have h8' : (256 : Int) ≤ (x : Int) := by omega
    have hx5 : (x : Int) / 256 ≤ 255 := by omega
    have hx0 : 0 ≤ (x : Int) / 256 := by omega
    have hd : x / 256 < 256 := by omega
    have H := Lib.hid (len_tab ⟨x / 256, hd⟩)
    have hp : 0 < x / 256 := by omega
    have hl : len8 (x / 256) + 8 = x.log2 + 1 := by unfold len8; rw [if_neg (by omega), ← log2_div x (by omega)]
    have hb := len8_le hd
    have HL := Lib.hid hl
    clear hl
    go_enter Try.func71, Try.ntmps71
    go_wp2
    go_ret
    refine ⟨?_, rfl⟩
    show Ending.returned (.int .i64 (wrap64 (8 + wrap64 (Lib.len8 ((x / 256 : Nat) : Int))))) = _
    rw [H.out]
    show Ending.returned (.int .i64 (wrap64 (8 + wrap64 (len8 (x / 256) : Nat)))) = _
    congr 2
    have := HL.out
    unfold wrap64
    omega
theorem len_any (x : Nat) (w : World) (h1 : 0 < x) (h2 : x < 65536) : Calls Try.prog 66 #[.int .u64 (x : Int)] w fun e w' => e = .returned (.int .i64 (x.log2 + 1 : Nat)) ∧ w = w' := by
  go_enter Try.func66, Try.ntmps66
  go_wp2_with (go_at_call 71; refine (len64_any _ _ h1 h2).mono ?_; rintro e w' ⟨rfl, rfl⟩)
  go_ret
  exact ⟨rfl, rfl⟩
end Go.Proofs.Ytjpjbbbpmhcgnaa

/- The contracts of the program's readers: readLog, readPart, readRow. -/
namespace Go.Proofs.Ytjpjbbbpmhcgnaa
open Go.RowKit

theorem fread_rd (xs : List UInt8) (a n : Nat) (h : n ≤ 32) : fread xs a (n : Int) = match rd (bitsOf xs) a n with | none => (0, 10, a) | some x => (x, 0, a + n) := by
  unfold fread rd
  rw [if_neg (by omega), bitsOf_length]
  by_cases c : a + n ≤ 8 * xs.length
  · rw [if_neg (by omega), if_pos c]
    rfl
  · rw [if_pos (by omega), if_neg c]
theorem fread_some {xs : List UInt8} {a n x : Nat} (h : n ≤ 32) (hr : rd (bitsOf xs) a n = some x) : fread xs a (n : Int) = (x, 0, a + n) := by rw [fread_rd xs a n h, hr]
theorem fread_none {xs : List UInt8} {a n : Nat} (h : n ≤ 32) (hr : rd (bitsOf xs) a n = none) : fread xs a (n : Int) = (0, 10, a) := by rw [fread_rd xs a n h, hr]

theorem Stp.trans {w w' w'' : World} {g : Nat} (h : Stp w w' g) (h' : Stp w' w'' g) : Stp w w'' g :=
  ⟨⟨h'.1.os.trans h.1.os, h'.1.tape.trans h.1.tape, h'.1.output.trans h.1.output, by rw [h'.2, h.2]; exact Nat.le_refl _, fun k hk hg => (h'.1.block k (by rw [h.2]; exact hk) hg).trans (h.1.block k hk hg)⟩, h'.2.trans h.2⟩
end Go.Proofs.Ytjpjbbbpmhcgnaa

/- The contracts of the program's readParts and Read. -/
namespace Go.Proofs.Ytjpjbbbpmhcgnaa
open Go.RowKit

theorem icel_one : ∀ n : Int, (icel n).oneCell' = true := fun _ => rfl
theorem int_info : (Try.prog.info? 3).map (fun i => (i.zero, i.size, i.bytes)) = some (some (.int .i64 0), 1, 8) := by kernel_rfl

theorem Foot.own {w wx w1 : World} {g : Nat} {row : Option Nat} (h : Foot w wx g none) (hg : wx.grownBy w1 row) (hr : ∀ k, row = some k → w.heap.size ≤ k) : Foot w w1 g none :=
  ⟨hg.os.trans h.os, hg.tape.trans h.tape, hg.output.trans h.output, Nat.le_trans h.size hg.size, fun k hk hkg _ =>
    (hg.block k (by have := h.size; omega) (by intro e; have := hr k e.symm; omega)).trans (h.block k hk hkg (by simp))⟩
theorem Foot.alloc {w wx : World} {g : Nat} (h : Foot w wx g none) (o : Obj) : Foot w (wx.alloc o) g none :=
  ⟨h.os, h.tape, h.output, by have := h.size; simp; omega, fun k hk hkg hr => (Below.heap_alloc wx o k (by have := h.size; omega)).trans (h.block k hk hkg hr)⟩
theorem Foot.stp' {w wx w1 : World} {g : Nat} (h : Foot w wx g none) (hs : Stp wx w1 g) : Foot w w1 g none := h.trans (Near.refl _ _) (Foot.stp hs)
theorem wi_wv {v left : Nat} (hl : 0 < left) (hv : v ≤ left + 1) : (left : Int) - wi ((v : Int) - 1) = ((left - wv v : Nat) : Int) ∧ 0 ≤ wi ((v : Int) - 1) ∧ wi ((v : Int) - 1) ≤ left := by
  unfold wi wv
  by_cases h : v = 0
  · rw [if_pos (show ((v : Int) - 1 = -1) by omega), if_pos h]
    omega
  · rw [if_neg (show ¬ ((v : Int) - 1 = -1) by omega), if_neg h]
    omega

theorem box2 {w : World} {b : Nat} {t : TypeId} {x y : Value} (h : Box w b t #[x, y]) :
    w.cell? ⟨b, 0, none⟩ = some x ∧ w.cell? ⟨b, 1, none⟩ = some y ∧ w.frozen? ⟨b, 0, none⟩ = false ∧ w.frozen? ⟨b, 1, none⟩ = false := ⟨h.cell 0, h.cell 1, h.free 0, h.free 1⟩
theorem Box.foot {w w' : World} {b g : Nat} {t : TypeId} {cs : Array Value} (h : Box w b t cs) (hF : Foot w w' g none) (hne : b ≠ g) : Box w' b t cs := h.keep (hF.block b h.lt hne (by simp))

/-- What Read answers. -/
def ReadPost (R : Except Int (Nat × List Int × Nat)) (w : World) (e : Ending) (w' : World) : Prop :=
  Below w.heap.size w w' ∧ match R with
    | .ok (log, ps, a) => ∃ v, e = .returned (.tuple #[.agg #[.int .i64 (log : Int), v], .int .i64 ((a + 7) / 8 : Nat), .int .i64 0]) ∧ OwE icel w' 3 w.heap.size v ps
    | .error er => e = .returned (.tuple #[.agg #[.int .i64 0, .slice none 0 0], .int .i64 0, .int .i64 er])

end Go.Proofs.Ytjpjbbbpmhcgnaa

/- The contracts of the program's mayBe and Check. -/
namespace Go.Proofs.Ytjpjbbbpmhcgnaa
open Go.RowKit

theorem tot_take (ps : List Int) (k : Nat) (h : k < ps.length) : tot (ps.take (k + 1)) = tot (ps.take k) + wi ps[k] := by
  rw [List.take_succ_eq_append_getElem h, tot_append, tot_cons]
  simp [tot]
theorem tot_split (ps : List Int) (k : Nat) : tot ps = tot (ps.take k) + tot (ps.drop k) := by rw [← tot_append, List.take_append_drop]
theorem tot_le (l : List Int) (B : Int) (hB : 1 ≤ B) (h : ∀ p ∈ l, -1 ≤ p ∧ p ≤ B) : 0 ≤ tot l ∧ tot l ≤ B * l.length := by
  induction l with
  | nil => simp [tot]
  | cons p r ih =>
    obtain ⟨i1, i2⟩ := ih fun q hq => h q (by simp [hq])
    have hp := h p (by simp)
    have hw : 0 ≤ wi p ∧ wi p ≤ B := by unfold wi; split <;> omega
    rw [tot_cons, List.length_cons]
    have : B * ((r.length + 1 : Nat) : Int) = B * r.length + B := by rw [Int.natCast_add, Int.mul_add]; simp
    omega
theorem mayB_false {log : Int} {ps : List Int} (h : ¬ (5 ≤ log ∧ log ≤ 15 ∧ 0 < ps.length ∧ ps.length ≤ 256 ∧ ps.getLast? ≠ some 0 ∧ (∀ p ∈ ps, -1 ≤ p) ∧ tot ps = 2 ^ log.toNat)) : mayB log ps = false := by
  rcases hb : mayB log ps with _ | _
  · rfl
  · exact absurd (mayB_iff.1 hb) h

section
variable {w : World} {lo hi : Nat} {A : Option Addr} {n c : Nat} {ps : List Int}

/-- What Check answers. -/
def chk (log : Int) (ps : List Int) (most : Int) : Int := if mayB log ps = false then 1 else if most < log then 12 else 0
end
end Go.Proofs.Ytjpjbbbpmhcgnaa

/- The contracts of the program's writers: writePart, writeRow, noughtsAhead. -/
namespace Go.Proofs.Ytjpjbbbpmhcgnaa
open Go.RowKit

theorem nz_zero (ps : List Int) (k : Nat) (h : k < nz ps) : ps[k]? = some 0 := by
  have hs := nz_split ps
  have hk : ps[k]? = (List.replicate (nz ps) 0 ++ ps.drop (nz ps))[k]? := by rw [← hs]
  rw [List.getElem?_append_left (by simpa using h), List.getElem?_replicate, if_pos h] at hk
  exact hk
theorem nz_stop : ∀ (ps : List Int), ps[nz ps]? ≠ some 0
  | [] => by simp
  | p :: r => by
    by_cases hp : p = 0
    · subst hp
      have e : nz (0 :: r) = nz r + 1 := by simp [nz]
      rw [e, List.getElem?_cons_succ]
      exact nz_stop r
    · have e : nz (p :: r) = 0 := by simp [nz, hp]
      rw [e, List.getElem?_cons_zero]
      simpa using hp

section
variable {w : World} {base g : Nat} {v : Value} {l : List Bool}
/-- What a Writer's method leaves when it has written the bits b. -/
def Wrote (w : World) (base g : Nat) (v : Value) (l b : List Bool) (e : Ending) (w' : World) : Prop :=
  e = .returned (.tuple #[]) ∧ ∃ v', WR w' base g v' (l ++ b) ∧ Foot w w' g v.ownBlock ∧ Near w v.ownBlock v'.ownBlock

theorem Foot.drawn {w w' : World} {g : Nat} {r : Option Nat} (n : Nat) (h : Foot (w.drewN n) w' g r) : Foot w w' g r := ⟨h.os, h.tape, h.output, h.size, h.block⟩
theorem Near.drawn {w : World} {r r' : Option Nat} (n : Nat) (h : Near (w.drewN n) r r') : Near w r r' := h
theorem WR.drawn (h : WR w base g v l) (n : Nat) : WR (w.drewN n) base g v l := h

theorem rowBits_three (r : Nat) : rowBits (r + 3) = low 3 2 ++ rowBits r := rfl
theorem rowBits_less {r : Nat} (h : r < 3) : rowBits r = low r 2 := by
  match r, h with
  | 0, _ => rfl
  | 1, _ => rfl
  | 2, _ => rfl
  | s + 3, h => omega
theorem rowBits_len (r : Nat) : (rowBits r).length ≤ r + 2 := by
  induction r using Nat.strongRecOn with
  | ind r ih =>
    by_cases h : r < 3
    · rw [rowBits_less h, low_length]; omega
    · obtain ⟨s, rfl⟩ : ∃ s, r = s + 3 := ⟨r - 3, by omega⟩
      have := ih s (by omega)
      rw [rowBits_three, List.length_append, low_length]
      omega
theorem partBits_len (p : Int) (left : Nat) (h : left ≤ 32768) : (partBits p left).length ≤ 16 := by
  have : ln left < 16 := ln_lt (by omega)
  unfold partBits
  split
  · rw [low_length]; omega
  · split <;> rw [low_length] <;> omega

end
end Go.Proofs.Ytjpjbbbpmhcgnaa

/- The contract of the program's Write. -/
namespace Go.Proofs.Ytjpjbbbpmhcgnaa
open Go.RowKit

/-- What Write answers. -/
def WritePost (log : Int) (ps : List Int) (w : World) (e : Ending) (w' : World) : Prop :=
  Below w.heap.size w w' ∧ ((mayB log ps = true ∧ ∃ v, e = .returned (.tuple #[v, .int .i64 0]) ∧ OwB w' 5 w.heap.size v (bytesOf (wrC log.toNat ps))) ∨
    (mayB log ps = false ∧ e = .returned (.tuple #[.slice none 0 0, .int .i64 1])))

theorem wrote_below {w0 wx w' : World} {B g : Nat} {v : Value} {l : List Bool} (hB : Below B w0 wx) (hw : WR wx g g v l) (hF : Foot wx w' g v.ownBlock) (hg : B ≤ g) : Below B w0 w' :=
  hB.trans (hF.below (by have := hw.lt; omega) hg fun k hk => by have := (hw.row k hk).1; omega)
theorem WR.off {w w' : World} {base g : Nat} {v : Value} {l : List Bool} (h : WR w base g v l) (he : w = w') : WR w' base g v l := he ▸ h

section
variable {w : World} {lo hi : Nat} {A : Option Addr} {n c : Nat} {ps : List Int}
end
end Go.Proofs.Ytjpjbbbpmhcgnaa

/- Plain lemmas for counts that are made of how often symbols are. Nothing of the program is named here. -/
namespace Go.Proofs.Ytjpjbbbpmhcgnaa

/-- How many are above 0. -/
def cnt : List Nat → Nat
  | [] => 0
  | x :: r => (if 0 < x then 1 else 0) + cnt r
/-- Where the last one that is above 0 ends. -/
def ends (os : List Nat) : Nat := os.length - (os.reverse.takeWhile (· == 0)).length
theorem cnt_append (a b : List Nat) : cnt (a ++ b) = cnt a + cnt b := by
  induction a with
  | nil => simp [cnt]
  | cons x r ih => simp only [List.cons_append, cnt, ih]; omega
theorem cnt_le (a : List Nat) : cnt a ≤ a.length := by
  induction a with
  | nil => exact Nat.le_refl _
  | cons x r ih => simp only [cnt, List.length_cons]; split <;> omega
theorem cnt_snoc (a : List Nat) (x : Nat) : cnt (a ++ [x]) = cnt a + if 0 < x then 1 else 0 := by rw [cnt_append]; simp [cnt]
theorem ends_snoc (a : List Nat) (x : Nat) : ends (a ++ [x]) = if 0 < x then a.length + 1 else ends a := by
  unfold ends
  rw [List.reverse_append]
  simp only [List.reverse_cons, List.reverse_nil, List.nil_append, List.singleton_append, List.takeWhile_cons, List.length_append, List.length_singleton]
  have hl : (a.reverse.takeWhile (· == 0)).length ≤ a.length := by
    have := (List.takeWhile_sublist (l := a.reverse) (p := (· == 0))).length_le
    simpa using this
  by_cases h : 0 < x
  · have : (x == 0) = false := by simp; omega
    rw [if_pos h, this]
    simp
  · obtain rfl : x = 0 := by omega
    rw [if_neg h]
    simp
theorem ends_le (a : List Nat) : ends a ≤ a.length := by unfold ends; omega
theorem sum_snoc (a : List Nat) (x : Nat) : (a ++ [x]).sum = a.sum + x := by simp
theorem snoc_ind {α : Type} {P : List α → Prop} (h0 : P []) (hs : ∀ a x, P a → P (a ++ [x])) (l : List α) : P l := by
  rw [← List.reverse_reverse l]
  induction l.reverse with
  | nil => exact h0
  | cons x r ih => rw [List.reverse_cons]; exact hs _ _ ih
/-- Behind the last one that is above 0 all are 0; it is above 0 itself. -/
theorem ends_spec (a : List Nat) : (∀ i, ends a ≤ i → a.getD i 0 = 0) ∧ (0 < ends a → 0 < a.getD (ends a - 1) 0) := by
  refine snoc_ind (P := fun a => (∀ i, ends a ≤ i → a.getD i 0 = 0) ∧ (0 < ends a → 0 < a.getD (ends a - 1) 0)) (by simp [ends]) (fun a x ih => ?_) a
  · rw [ends_snoc]
    have hle := ends_le a
    have hg : ∀ i, (a ++ [x]).getD i 0 = if i < a.length then a.getD i 0 else if i = a.length then x else 0 := by
      intro i
      rw [List.getD_eq_getElem?_getD]
      by_cases h1 : i < a.length
      · rw [List.getElem?_append_left h1, if_pos h1, List.getD_eq_getElem?_getD]
      · rw [List.getElem?_append_right (by omega), if_neg h1]
        by_cases h2 : i = a.length
        · subst h2; simp
        · rw [if_neg h2, List.getElem?_eq_none (by simp; omega)]; rfl
    by_cases h : 0 < x
    · rw [if_pos h]
      refine ⟨fun i hi => ?_, fun _ => ?_⟩
      · rw [hg, if_neg (by omega), if_neg (by omega)]
      · rw [hg, if_neg (by omega), if_pos (by omega)]
        exact h
    · rw [if_neg h]
      refine ⟨fun i hi => ?_, fun h0 => ?_⟩
      · rw [hg]
        split
        · exact ih.1 i hi
        · split <;> omega
      · rw [hg, if_pos (by omega)]
        exact ih.2 h0
theorem cnt_take (a : List Nat) : cnt (a.take (ends a)) = cnt a ∧ (a.take (ends a)).sum = a.sum := by
  have key : ∀ l : List Nat, (∀ i, l.getD i 0 = 0) → cnt l = 0 ∧ l.sum = 0 := by
    intro l
    induction l with
    | nil => intro; simp [cnt]
    | cons x r ih =>
      intro h
      have h0 : x = 0 := by simpa using h 0
      have := ih fun i => by simpa using h (i + 1)
      subst h0
      simp [cnt, this]
  have hs := ends_spec a
  obtain ⟨k1, k2⟩ := key (a.drop (ends a)) fun i => by
    have := hs.1 (ends a + i) (by omega)
    rw [List.getD_eq_getElem?_getD, List.getElem?_drop, ← List.getD_eq_getElem?_getD]
    exact this
  have e1 : cnt a = cnt (a.take (ends a)) + cnt (a.drop (ends a)) := by rw [← cnt_append, List.take_append_drop]
  have e2 : a.sum = (a.take (ends a)).sum + (a.drop (ends a)).sum := by rw [← List.sum_append, List.take_append_drop]
  omega
theorem cnt_pos {a : List Nat} (h : 0 < cnt a) : ∃ i, i < a.length ∧ 0 < a.getD i 0 := by
  induction a with
  | nil => simp [cnt] at h
  | cons x r ih =>
    by_cases hx : 0 < x
    · exact ⟨0, by simp, by simpa using hx⟩
    · simp only [cnt, if_neg hx] at h
      obtain ⟨i, h1, h2⟩ := ih (by omega)
      exact ⟨i + 1, by simp; omega, by simpa using h2⟩
theorem ends_pos {a : List Nat} (h : 0 < cnt a) : 0 < ends a := by
  rcases Nat.eq_zero_or_pos (ends a) with e | e
  · obtain ⟨i, _, h2⟩ := cnt_pos h
    have := (ends_spec a).1 i (by omega)
    omega
  · exact e
theorem get_le_sum (a : List Nat) (i : Nat) : a.getD i 0 ≤ a.sum := by
  induction a generalizing i with
  | nil => simp
  | cons x r ih =>
    cases i with
    | zero => simp
    | succ i => have := ih i; simp at this ⊢; omega

/-- Parts just of those that are. -/
def Good : List Nat → List Int → Prop
  | [], [] => True
  | o :: os, p :: ps => (0 ≤ p ∧ (p ≠ 0 ↔ 0 < o)) ∧ Good os ps
  | _, _ => False
theorem Good.len : ∀ {os : List Nat} {ps : List Int}, Good os ps → ps.length = os.length
  | [], [], _ => rfl
  | _ :: _, _ :: _, h => by simp [Good.len h.2]
  | [], _ :: _, h => h.elim
  | _ :: _, [], h => h.elim
theorem Good.get : ∀ {os : List Nat} {ps : List Int}, Good os ps → ∀ i, 0 ≤ ps.getD i 0 ∧ (ps.getD i 0 ≠ 0 ↔ 0 < os.getD i 0)
  | [], [], _, i => by simp
  | o :: os, p :: ps, h, 0 => by simpa using h.1
  | o :: os, p :: ps, h, i + 1 => by simpa using Good.get h.2 i
  | [], _ :: _, h, _ => h.elim
  | _ :: _, [], h, _ => h.elim
theorem Good.set : ∀ {os : List Nat} {ps : List Int}, Good os ps → ∀ (i : Nat) (y : Int), 0 < y → 0 < os.getD i 0 → Good os (ps.set i y)
  | [], [], _, i, y, _, ho => by simp at ho
  | o :: os, p :: ps, h, 0, y, hy, ho => ⟨⟨by omega, by simp at ho; omega⟩, h.2⟩
  | o :: os, p :: ps, h, i + 1, y, hy, ho => ⟨h.1, Good.set h.2 i y hy (by simpa using ho)⟩
  | [], _ :: _, h, _, _, _, _ => h.elim
  | _ :: _, [], h, _, _, _, _ => h.elim
theorem sum_set : ∀ (ps : List Int) (i : Nat) (y : Int), i < ps.length → (ps.set i y).sum = ps.sum - ps.getD i 0 + y
  | [], i, y, h => by simp at h
  | p :: ps, 0, y, _ => by simp; omega
  | p :: ps, i + 1, y, h => by
    have := sum_set ps i y (by simpa using h)
    simp at this ⊢
    omega
theorem Good.le_sum : ∀ {os : List Nat} {ps : List Int}, Good os ps → 0 ≤ ps.sum ∧ ∀ i, ps.getD i 0 ≤ ps.sum
  | [], [], _ => by simp
  | o :: os, p :: ps, h => by
    obtain ⟨h1, h2⟩ := Good.le_sum h.2
    have hp := h.1.1
    refine ⟨by simp; omega, fun i => ?_⟩
    cases i with
    | zero => simp; omega
    | succ i => have := h2 i; simp at this ⊢; omega
  | [], _ :: _, h => h.elim
  | _ :: _, [], h => h.elim
theorem Good.small : ∀ {os : List Nat} {ps : List Int}, Good os ps → (∀ i, ps.getD i 0 < 2) → ps.sum ≤ cnt os
  | [], [], _, _ => by simp [cnt]
  | o :: os, p :: ps, h, hs => by
    have ih := Good.small h.2 fun i => by simpa using hs (i + 1)
    have h0 : p < 2 := by simpa using hs 0
    have hp := h.1
    simp only [List.sum_cons, cnt]
    split <;> omega
  | [], _ :: _, h, _ => h.elim
  | _ :: _, [], h, _ => h.elim
theorem Good.big {os : List Nat} {ps : List Int} (h : Good os ps) (hs : (cnt os : Int) < ps.sum) : ∃ i, i < ps.length ∧ 2 ≤ ps.getD i 0 := by
  rcases Classical.em (∃ i, i < ps.length ∧ 2 ≤ ps.getD i 0) with e | e
  · exact e
  · have := h.small fun i => by
      rcases Nat.lt_or_ge i ps.length with hi | hi
      · rcases Int.lt_or_le (ps.getD i 0) 2 with q | q
        · exact q
        · exact absurd ⟨i, hi, q⟩ e
      · rw [List.getD_eq_getElem?_getD, List.getElem?_eq_none hi]
        decide
    omega
theorem Good.tot : ∀ {os : List Nat} {ps : List Int}, Good os ps → tot ps = ps.sum
  | [], [], _ => rfl
  | o :: os, p :: ps, h => by
    rw [tot_cons, Good.tot h.2, List.sum_cons]
    have := h.1.1
    unfold wi
    split <;> omega
  | [], _ :: _, h => h.elim
  | _ :: _, [], h => h.elim
theorem Good.neg : ∀ {os : List Nat} {ps : List Int}, Good os ps → ∀ p ∈ ps, -1 ≤ p
  | [], [], _, p, hp => by simp at hp
  | o :: os, q :: ps, h, p, hp => by
    rw [List.mem_cons] at hp
    rcases hp with rfl | hp
    · have := h.1.1; omega
    · exact Good.neg h.2 p hp
  | [], _ :: _, h, _, _ => h.elim
  | _ :: _, [], h, _, _ => h.elim

/-- A symbol's first share. -/
def shr (S Z o : Nat) : Int := if 0 < o then ((max 1 (o * Z / S) : Nat) : Int) else 0
theorem shr_good (S Z : Nat) (os : List Nat) : Good os (os.map (shr S Z)) := by
  induction os with
  | nil => trivial
  | cons o r ih =>
    refine ⟨?_, ih⟩
    unfold shr
    split <;> omega
theorem shr_le {S Z o : Nat} (h : o ≤ S) (hZ : 1 ≤ Z) : shr S Z o ≤ Z := by
  unfold shr
  split
  · have : o * Z / S ≤ Z := by
      rcases Nat.eq_zero_or_pos S with e | e
      · subst e; simp
      · exact Nat.div_le_of_le_mul (Nat.mul_le_mul_right _ h)
    omega
  · omega
/-- Counts that were settled may be. -/
theorem Good.may {os : List Nat} {ps : List Int} {l : Nat} (h : Good (os.take (ends os)) ps) (h1 : 5 ≤ l) (h2 : l ≤ 15) (hn : os.length ≤ 256) (hc : 0 < cnt os) (hs : ps.sum = 2 ^ l) : mayB (l : Int) ps = true := by
  have he := ends_pos hc
  have hle := ends_le os
  have hlen := h.len
  rw [List.length_take, Nat.min_eq_left hle] at hlen
  refine mayB_iff.2 ⟨by omega, by omega, by omega, by omega, ?_, h.neg, by rw [h.tot, hs]; simp⟩
  intro e
  rw [List.getLast?_eq_getElem?, hlen] at e
  have hg := (h.get (ends os - 1)).2
  have hz : ps.getD (ends os - 1) 0 = 0 := by rw [List.getD_eq_getElem?_getD, e]; rfl
  have hp := (ends_spec os).2 he
  have ht : (os.take (ends os)).getD (ends os - 1) 0 = os.getD (ends os - 1) 0 := by
    rw [List.getD_eq_getElem?_getD, List.getElem?_take, if_pos (by omega), ← List.getD_eq_getElem?_getD]
  rw [ht, hz] at hg
  exact (hg.2 hp) rfl
end Go.Proofs.Ytjpjbbbpmhcgnaa

/- The contracts of what the program's Of calls: tally, halves, scarcest, richest, shares, settle. -/
namespace Go.Proofs.Ytjpjbbbpmhcgnaa
open Go.RowKit

def ucel (n : Nat) : Value := .int .u32 (n : Int)
theorem sum_le (l : List Nat) (B : Nat) (h : ∀ o ∈ l, o ≤ B) : l.sum ≤ B * l.length := by
  induction l with
  | nil => simp
  | cons x r ih =>
    have h1 := h x (by simp)
    have h2 := ih fun o ho => h o (by simp [ho])
    rw [List.sum_cons, List.length_cons, Nat.mul_succ]
    omega
theorem take_snoc' {α : Type} (l : List α) (k : Nat) (h : k < l.length) : l.take (k + 1) = l.take k ++ [l[k]] := List.take_succ_eq_append_getElem h

theorem getD_eq {α : Type} (l : List α) (k : Nat) (d : α) (h : k < l.length) : l.getD k d = l[k] := by rw [List.getD_eq_getElem?_getD, List.getElem?_eq_getElem h]; rfl

/-- An index below n of which P holds; the world has drawn alone. -/
def Chosen (w : World) (n : Nat) (P : Nat → Prop) (e : Ending) (w' : World) : Prop := ∃ b q : Nat, e = .returned (.int .i64 (b : Int)) ∧ b < n ∧ P b ∧ w' = w.drewN q
/-- A product of a number of 32 bits and some halves, as 64 bits have it. -/
theorem mul_fits (a : Nat) (p : Int) (ha : a ≤ 2147483647) (h0 : 0 ≤ p) (h1 : p ≤ 200000001) : 0 ≤ (a : Int) * p ∧ IntKind.u64.wrap ((a : Int) * p) = (a : Int) * p := by
  obtain ⟨b, rfl⟩ := Int.eq_ofNat_of_zero_le h0
  have h := Nat.mul_le_mul ha (show b ≤ 200000001 by omega)
  have e : (a : Int) * (b : Int) = ((a * b : Nat) : Int) := by simp
  rw [e, IntKind.wrap_u64]
  omega

/-! Cells of a slice of the call's own. -/
theorem OwE.cellAt {α : Type} {f : α → Value} {w : World} {u base d n c : Nat} {xs : List α} (h : OwE f w u base (.slice (some ⟨d, 0, none⟩) n c) xs) (i : Nat) (hi : i < xs.length) :
    w.cell? ⟨d, i, none⟩ = some (f xs[i]) ∧ w.frozen? ⟨d, i, none⟩ = false := by
  have hc := World.ownsRow.cells h (g := d) rfl i (f xs[i]) (by simp [hi])
  have ha : (⟨d, 0, none⟩ : Addr).add i = ⟨d, i, none⟩ := by unfold Addr.add; split <;> simp_all
  rw [ha] at hc
  refine ⟨hc, ?_⟩
  rcases h.2 with ⟨e, _⟩ | ⟨g', cap, cur, e, _, hh, _⟩
  · cases e
  · injection e with e
    injection e with e
    injection e with e
    subst e
    simp [World.frozen?, hh]
theorem OwE.put {α : Type} {f : α → Value} {w : World} {u base d n c : Nat} {xs : List α} (h : OwE f w u base (.slice (some ⟨d, 0, none⟩) n c) xs) (i : Nat) (y : α) :
    OwE f (w.setCell ⟨d, i, none⟩ (f y)) u base (.slice (some ⟨d, 0, none⟩) n c) (xs.set i y) := by
  have hl := h.1
  rcases h.2 with ⟨e, _⟩ | ⟨g', cap, cur, e, hb, hh, hnc, hcm, hcs, ht⟩
  · cases e
  · injection e with e1 e2 e3
    injection e1 with e1
    injection e1 with e1
    subst e1
    subst e3
    refine ⟨by simp, .inr ⟨d, c, cur.setIfInBounds i (f y), by rw [List.length_set, ← e2], hb, Box.put hh i _, by simpa using hnc, hcm, by simpa using hcs, ?_⟩⟩
    rw [Array.toList_setIfInBounds, List.take_set, List.length_set, ht, List.map_set]
theorem OwE.len {α : Type} {f : α → Value} {w : World} {u base n c : Nat} {A : Option Addr} {xs : List α} (h : OwE f w u base (.slice A n c) xs) : xs.length = n := by
  obtain ⟨A', c', hv, _⟩ := h.form
  injection hv with _ h2 _
  exact h2.symm
theorem OwE.place {α : Type} {f : α → Value} {w : World} {u base : Nat} {v : Value} {xs : List α} (h : OwE f w u base v xs) (hx : 0 < xs.length) : ∃ d c, v = .slice (some ⟨d, 0, none⟩) xs.length c ∧ base ≤ d ∧ d < w.heap.size := by
  rcases h.2 with ⟨_, h0⟩ | ⟨g, cap, cur, rfl, hb, hh, _⟩
  · omega
  · exact ⟨g, cap, rfl, hb, (Array.getElem?_eq_some_iff.1 hh).1⟩
theorem OwE.drawn {α : Type} {f : α → Value} {w : World} {u base : Nat} {v : Value} {xs : List α} (h : OwE f w u base v xs) (q : Nat) : OwE f (w.drewN q) u base v xs := h
end Go.Proofs.Ytjpjbbbpmhcgnaa

/- The contracts of the program's shares and settle. -/
namespace Go.Proofs.Ytjpjbbbpmhcgnaa
open Go.RowKit

theorem fill_set (l : List Int) (k n : Nat) (y : Int) (hk : k < n) (hl : l.length = n) (hy : l[k]? = some y) : (l.take k ++ List.replicate (n - k) 0).set k y = l.take (k + 1) ++ List.replicate (n - (k + 1)) 0 := by
  obtain ⟨m, hm⟩ : ∃ m, n - k = m + 1 := ⟨n - k - 1, by omega⟩
  have hlk : k < l.length := by omega
  rw [List.getElem?_eq_getElem hlk] at hy
  injection hy with hy
  rw [hm, List.replicate_succ, List.set_append_right _ _ (by simp; omega), List.take_succ_eq_append_getElem hlk, show n - (k + 1) = m by omega, hy]
  have : k - (l.take k).length = 0 := by simp; omega
  rw [this, List.set_cons_zero, List.append_assoc]
  rfl
theorem set_self (l : List Int) (k : Nat) (y : Int) (h : l[k]? = some y) : l.set k y = l := by
  apply List.ext_getElem?
  intro i
  rw [List.getElem?_set]
  split
  · next e => subst e; rw [h]; split
              · rfl
              · next hn => rw [List.getElem?_eq_none (by omega)] at h; cases h
  · rfl
theorem made_ints (L : Nat) : (madeCells #[Value.int .i64 0] L).toList = (List.replicate L (0 : Int)).map icel := by
  apply List.ext_getElem
  · simp [madeCells]
  · intro i h1 h2
    simp [madeCells, icel, Nat.mod_one]

theorem isum_le (l : List Int) (B : Int) (h : ∀ p ∈ l, 0 ≤ p ∧ p ≤ B) : 0 ≤ l.sum ∧ l.sum ≤ B * l.length := by
  induction l with
  | nil => simp
  | cons p r ih =>
    obtain ⟨i1, i2⟩ := ih fun q hq => h q (by simp [hq])
    have hp := h p (by simp)
    rw [List.sum_cons, List.length_cons]
    have : B * ((r.length + 1 : Nat) : Int) = B * r.length + B := by rw [Int.natCast_add, Int.mul_add]; simp
    omega
theorem isum_take (l : List Int) (k : Nat) (h : k < l.length) : (l.take (k + 1)).sum = (l.take k).sum + l[k] := by
  rw [List.take_succ_eq_append_getElem h, List.sum_append]
  simp
theorem OwE.dat {α : Type} {f : α → Value} {w : World} {u base n c : Nat} {A : Option Addr} {xs : List α} (h : OwE f w u base (.slice A n c) xs) : DatE f w base w.heap.size A xs := by
  obtain ⟨A', c', hv, _, hd⟩ := h.form
  injection hv with h1 _ _
  rw [h1]
  exact hd
theorem OwE.lt {α : Type} {f : α → Value} {w : World} {u base d n c : Nat} {xs : List α} (h : OwE f w u base (.slice (some ⟨d, 0, none⟩) n c) xs) : base ≤ d ∧ d < w.heap.size := h.block d rfl

/-- What settle leaves. -/
def Settled (w : World) (base d n c Z : Nat) (os : List Nat) (e : Ending) (w' : World) : Prop :=
  e = .returned (.tuple #[]) ∧ ∃ ps, OwE icel w' 3 base (.slice (some ⟨d, 0, none⟩) n c) ps ∧ Good os ps ∧ ps.sum = Z ∧ Stp w w' d

end Go.Proofs.Ytjpjbbbpmhcgnaa

/- The contract of the program's Of. -/
namespace Go.Proofs.Ytjpjbbbpmhcgnaa
open Go.RowKit

/-- May counts of this Log be made of these numbers? -/
def mayOf (os : List Nat) (log : Int) : Bool := decide (5 ≤ log ∧ log ≤ 15 ∧ os.length ≤ 256 ∧ 2 ≤ cnt os ∧ cnt os ≤ 2 ^ log.toNat ∧ os.sum ≤ 2147483647)
theorem mayOf_iff {os : List Nat} {log : Int} : mayOf os log = true ↔ (5 ≤ log ∧ log ≤ 15 ∧ os.length ≤ 256 ∧ 2 ≤ cnt os ∧ cnt os ≤ 2 ^ log.toNat ∧ os.sum ≤ 2147483647) := by
  unfold mayOf; exact decide_eq_true_iff
theorem mayOf_false {os : List Nat} {log : Int} (h : ¬ (5 ≤ log ∧ log ≤ 15 ∧ os.length ≤ 256 ∧ 2 ≤ cnt os ∧ cnt os ≤ 2 ^ log.toNat ∧ os.sum ≤ 2147483647)) : mayOf os log = false := by
  unfold mayOf; exact decide_eq_false h

/-- What Of answers. -/
def OfPost (os : List Nat) (log : Int) (w : World) (e : Ending) (w' : World) : Prop :=
  Below w.heap.size w w' ∧ ((mayOf os log = true ∧ ∃ ps v, e = .returned (.tuple #[.agg #[.int .i64 log, v], .int .i64 0]) ∧ OwE icel w' 3 w.heap.size v ps ∧ mayB log ps = true ∧ ps.length = ends os ∧ Good (os.take (ends os)) ps) ∨
    (mayOf os log = false ∧ e = .returned (.tuple #[.agg #[.int .i64 0, .slice none 0 0], .int .i64 1])))

section
variable {w : World} {lo hi : Nat} {A : Option Addr} {n c : Nat} {os : List Nat}
end
end Go.Proofs.Ytjpjbbbpmhcgnaa

/- The document's example for counts answers true, in whatever world, and nothing that was there has turned. -/
namespace Go.Proofs.Ytjpjbbbpmhcgnaa
open Go.RowKit

/-- A new row of elements. -/
theorem datE_row {α : Type} (f : α → Value) (w : World) (xs : List α) (u : TypeId) (cs : Array Value) (hcs : cs.toList = xs.map f) : DatE f (w.alloc (.cells cs u)) w.heap.size (w.heap.size + 1) (some ⟨w.heap.size, 0, none⟩) xs := fun _ =>
  ⟨w.heap.size, 0, rfl, Nat.le_refl _, by omega, fun j hj => by
    have h := (Box.new w u cs).cell (0 + j)
    rw [h, Nat.zero_add, ← Array.getElem?_toList, hcs, List.getElem?_map, List.getElem?_eq_getElem hj]
    rfl⟩
theorem bits_back (l : List Bool) : ∃ rest, bitsOf (bytesOf l) = l ++ rest := ⟨(bitsOf (bytesOf l)).drop l.length, by
  have h := List.take_append_drop l.length (bitsOf (bytesOf l))
  rw [take_bits] at h
  exact h.symm⟩
/-- What is written is read. -/
theorem rdC_back {log : Int} {ps : List Int} (hm : mayB log ps = true) {most sy : Int} (h1 : log ≤ most) (h2 : (ps.length : Int) ≤ sy) (more : List Bool) :
    rdC (bitsOf (bytesOf (wrC log.toNat ps)) ++ more) most sy = .ok (log.toNat, ps, (wrC log.toNat ps).length) := by
  obtain ⟨rest, hr⟩ := bits_back (wrC log.toNat ps)
  exact rdC_wrC (rest := rest ++ more) hm (by rw [hr, List.append_assoc]) h1 h2

end Go.Proofs.Ytjpjbbbpmhcgnaa

/- The contracts of the document's Same, and of the law's modelOf. -/
namespace Go.Proofs.Ytjpjbbbpmhcgnaa
open Go.RowKit

end Go.Proofs.Ytjpjbbbpmhcgnaa

/- What the laws of layer 6 share: a field that is appended to, and the calls that stand in an answer's region. -/
namespace Go.Proofs.Ytjpjbbbpmhcgnaa
open Go.RowKit

/-- A slice in a box of two cells, appended to and stored back. -/
theorem push_facts {wx w2 : World} {b : Nat} {t : TypeId} {x v v1 : Value} {xs ys : List Int} {o : Obj} (hb : Box wx b t #[x, v]) (ho : OwE icel wx 3 (b + 1) v xs) (ho1 : OwE icel w2 3 (b + 1) v1 ys) (hg : (wx.alloc o).grownBy w2 v.ownBlock) :
    w2.cell? ⟨b, 0, none⟩ = some x ∧ w2.cell? ⟨b, 1, none⟩ = some v ∧ w2.frozen? ⟨b, 1, none⟩ = false ∧
    Hid (Box (w2.setCell ⟨b, 1, none⟩ v1) b t #[x, v1] ∧ OwE icel (w2.setCell ⟨b, 1, none⟩ v1) 3 (b + 1) v1 ys ∧ Below b wx (w2.setCell ⟨b, 1, none⟩ v1)) := by
  have hne : some b ≠ v.ownBlock := fun e => by have := (ho.block b e.symm).1; omega
  have hb2 : Box w2 b t #[x, v] := (hb.alloc o).grown hg hne
  have hlt := hb.lt
  refine ⟨hb2.cell 0, hb2.cell 1, hb2.free 1, hb2.put 1 v1, ?_, ?_⟩
  · exact ho1.keep fun k hk => Below.heap_setCell _ _ _ k (by have := (ho1.block k hk).1; simp; omega)
  · have hB : Below b wx (wx.alloc o) := (Below.refl _ _).alloc (by omega) _
    exact (hB.grown hg (by simp; omega) (fun k hk => by have := (ho.block k hk).1; omega)).setCell (Nat.le_refl _) _

theorem OwE.below {α : Type} {f : α → Value} {w w' : World} {u base B : Nat} {v : Value} {xs : List α} (h : OwE f w u base v xs) (hb : Below B w w') (hB : w.heap.size ≤ B) : OwE f w' u base v xs :=
  h.keep fun k hk => hb.block k (by have := (h.block k hk).2; omega)
theorem OwE.cap {α : Type} {f : α → Value} {w : World} {u base n c : Nat} {A : Option Addr} {xs : List α} (h : OwE f w u base (.slice A n c) xs) : n ≤ c := by
  obtain ⟨A', c', hv, hc, _⟩ := h.form
  injection hv with _ h2 h3
  omega
theorem cells4 {W wn : World} {b b2 B : Nat} {x v y u : Value} (hB : Below B W wn) (h1 : b < B) (h2 : b2 < B) (h : W.cell? ⟨b, 0, none⟩ = some x ∧ W.cell? ⟨b, 1, none⟩ = some v ∧ W.cell? ⟨b2, 0, none⟩ = some y ∧ W.cell? ⟨b2, 1, none⟩ = some u) :
    wn.cell? ⟨b, 0, none⟩ = some x ∧ wn.cell? ⟨b, 1, none⟩ = some v ∧ wn.cell? ⟨b2, 0, none⟩ = some y ∧ wn.cell? ⟨b2, 1, none⟩ = some u :=
  ⟨(hB.cell (p := ⟨b, 0, none⟩) h1).trans h.1, (hB.cell (p := ⟨b, 1, none⟩) h1).trans h.2.1, (hB.cell (p := ⟨b2, 0, none⟩) h2).trans h.2.2.1, (hB.cell (p := ⟨b2, 1, none⟩) h2).trans h.2.2.2⟩
theorem may_bounds {l : Int} {ps : List Int} (h : mayB l ps = true) : ∀ p ∈ ps, -9223372036854775808 ≤ p ∧ p ≤ 9223372036854775807 := by
  obtain ⟨h1, h2, _, _, _, h6, h7⟩ := mayB_iff.1 h
  have key : ∀ qs : List Int, (∀ p ∈ qs, -1 ≤ p) → ∀ p ∈ qs, p ≤ tot qs := by
    intro qs
    induction qs with
    | nil => intro _ p hp; simp at hp
    | cons q r ih =>
      intro hq p hp
      rw [tot_cons]
      have h0 := wi_pos (hq q (by simp))
      have hr := tot_pos (ps := r) fun z hz => hq z (by simp [hz])
      rw [List.mem_cons] at hp
      rcases hp with rfl | hp
      · omega
      · have := ih (fun z hz => hq z (by simp [hz])) p hp
        omega
  intro p hp
  have h8 := key ps h6 p hp
  have h9 := h6 p hp
  obtain ⟨n, hn⟩ : ∃ n, n = l.toNat := ⟨_, rfl⟩
  have hpw : 2 ^ n ≤ 2 ^ 15 := Nat.pow_le_pow_right (by omega) (by omega)
  rw [h7, ← hn] at h8
  have e : (2 : Int) ^ n = ((2 ^ n : Nat) : Int) := by simp
  rw [e] at h8
  omega
theorem wrC_len (l : Nat) (ps : List Int) : (bytesOf (wrC l ps)).length = ((wrC l ps).length + 7) / 8 := bytesOf_length _
theorem chk_ok {l most : Int} {ps : List Int} (h : mayB l ps = true) (hm : l ≤ most) : chk l ps most = 0 := by
  unfold chk
  rw [if_neg (by simp [h]), if_neg (by omega)]
theorem chk_big {l most : Int} {ps : List Int} (h : mayB l ps = true) (hm : most < l) : chk l ps most = 12 := by
  unfold chk
  rw [if_neg (by simp [h]), if_pos hm]
theorem partBits_pos (p : Int) (left : Nat) (h : 0 < left) : 1 ≤ (partBits p left).length := by
  have := ln_pos h
  unfold partBits
  split
  · rw [low_length]; omega
  · split <;> rw [low_length] <;> omega
/-- How long what is told of counts is at most. -/
theorem wrP_len : ∀ (f : Nat) (ps : List Int) (left : Nat), ps.length ≤ 256 → left ≤ 32768 → (wrP f ps left).length ≤ 300 * f
  | 0, _, _, _, _ => by simp [wrP]
  | f + 1, [], _, _, _ => by simp [wrP]
  | f + 1, p :: r, left, h, hl => by
    rw [wrP, List.length_append]
    have h1 := partBits_len p left hl
    simp only [List.length_cons] at h
    split
    · rw [List.length_append]
      have h2 := rowBits_len (nz r)
      have h3 := nz_le r
      have h4 := wrP_len f (r.drop (nz r)) left (by simp; omega) hl
      omega
    · have h4 := wrP_len f r (left - (wi p).toNat) (by omega) (by omega)
      omega
theorem wrC_bound {l : Nat} {ps : List Int} (h : mayB (l : Int) ps = true) : (wrC l ps).length ≤ 100000 := by
  obtain ⟨h1, h2, _, h4, _⟩ := mayB_iff.1 h
  have hp : 2 ^ l ≤ 2 ^ 15 := Nat.pow_le_pow_right (by omega) (by omega)
  have := wrP_len ps.length ps (2 ^ l) h4 (by omega)
  unfold wrC
  rw [List.length_append, low_length]
  omega
theorem OwB.below {w w' : World} {u base B : Nat} {v : Value} {xs : List UInt8} (h : OwB w u base v xs) (hb : Below B w w') (hB : w.heap.size ≤ B) : OwB w' u base v xs :=
  (show OwE cel w u base v xs from h).below hb hB
end Go.Proofs.Ytjpjbbbpmhcgnaa

/- Arguments of layer 6's laws: a slice of numbers of 32 bits; counts, by value. -/
namespace Go.Proofs.Ytjpjbbbpmhcgnaa
open Go.ChangeShapes Go.WideShapes Go.ChangeAt Go.RowKit

theorem u32_bounds {n : Int} (h : (Lit.int .u32 n).wf = true) : 0 ≤ n ∧ n ≤ 4294967295 := by simpa [Lit.wf, IntKind.min, IntKind.max, IntKind.signed, IntKind.bits] using h
theorem bitsOf_append (xs ys : List UInt8) : bitsOf (xs ++ ys) = bitsOf xs ++ bitsOf ys := by
  refine snoc_ind (P := fun ys => bitsOf (xs ++ ys) = bitsOf xs ++ bitsOf ys) (by simp [bitsOf]) (fun a x ih => ?_) ys
  rw [← List.append_assoc, bitsOf_snoc, ih, bitsOf_snoc, List.append_assoc]
theorem bitsOf_cut (xs : List UInt8) (k : Nat) : bitsOf (xs.take k) = (bitsOf xs).take (8 * k) := by
  by_cases h : k ≤ xs.length
  · have e : bitsOf xs = bitsOf (xs.take k) ++ bitsOf (xs.drop k) := by rw [← bitsOf_append, List.take_append_drop]
    have hl : (bitsOf (xs.take k)).length = 8 * k := by rw [bitsOf_length, List.length_take]; omega
    rw [e, ← hl, List.take_left]
  · rw [List.take_of_length_le (by omega), List.take_of_length_le (by rw [bitsOf_length]; omega)]
end Go.Proofs.Ytjpjbbbpmhcgnaa

/- The contracts of the document's Power, May, Check. -/
namespace Go.Proofs.Ytjpjbbbpmhcgnaa
open Go.RowKit

set_option maxRecDepth 100000 in
theorem refPower_any (n : Nat) (w : World) (h : n ≤ 40) : Calls Try.prog 48 #[.int .i64 (n : Int)] w fun e w' => e = .returned (.int .i64 ((2 ^ n : Nat) : Int)) ∧ w = w' := by
  obtain ⟨P, hP⟩ : ∃ P : Nat, P = 2 ^ n := ⟨_, rfl⟩
  rw [← hP]
  have HP := Lib.hid hP
  clear hP
  go_enter Try.func48, Try.ntmps48
  go_wp2_with fail
  go_loop [3, 4] (fun x i => ∃ k q : Nat, k ≤ n ∧ i = .int .i64 k ∧ x = .int .i64 q ∧ q = 2 ^ k) (fun _ i => n - (intOf i).toNat)
  case atStart => exact ⟨0, 1, Nat.zero_le _, rfl, rfl, rfl⟩
  case round =>
    obtain ⟨k, q, hk, rfl, rfl, hq⟩ := hrel
    have hqb : 2 ^ k ≤ 2 ^ 40 := Nat.pow_le_pow_right (by omega) (by omega)
    rw [← hq] at hqb
    have HQ := Lib.hid hq
    clear hq
    by_cases hlt : k < n
    · have hki : (k : Int) < (n : Int) := by omega
      have hk4 : (k : Int) < 40 := by omega
      go_wp2_with fail
      go_round
      case rel => exact ⟨k + 1, q * 2, by omega, by go_num, by go_num, by rw [HQ.out, Nat.pow_succ]⟩
      case measure => simp [intOf]; omega
    · obtain rfl : k = n := by omega
      have hki : decide ((k : Int) < (k : Int)) = false := by simp
      go_wp2_with fail
      go_ret
      refine ⟨?_, rfl⟩
      rw [HP.out, ← HQ.out]
      rfl

theorem le_tot (qs : List Int) (h : ∀ p ∈ qs, -1 ≤ p) : ∀ p ∈ qs, p ≤ tot qs := by
  induction qs with
  | nil => intro p hp; simp at hp
  | cons q r ih =>
    intro p hp
    rw [tot_cons]
    have h0 := wi_pos (h q (by simp))
    have hr := tot_pos (ps := r) fun z hz => h z (by simp [hz])
    rw [List.mem_cons] at hp
    rcases hp with rfl | hp
    · omega
    · have := ih (fun z hz => h z (by simp [hz])) p hp
      omega
theorem may_le {l : Int} {ps : List Int} (h : mayB l ps = true) : ∀ p ∈ ps, -1 ≤ p ∧ p ≤ 32768 := by
  obtain ⟨h1, h2, _, _, _, h6, h7⟩ := mayB_iff.1 h
  intro p hp
  have h8 := le_tot ps h6 p hp
  have h9 := h6 p hp
  obtain ⟨n, hn⟩ : ∃ n, n = l.toNat := ⟨_, rfl⟩
  have hpw : 2 ^ n ≤ 2 ^ 15 := Nat.pow_le_pow_right (by omega) (by omega)
  rw [h7, ← hn] at h8
  have e : (2 : Int) ^ n = ((2 ^ n : Nat) : Int) := by simp
  rw [e] at h8
  omega

section
variable {w : World} {lo hi : Nat} {A : Option Addr} {n c : Nat} {ps : List Int}
end
end Go.Proofs.Ytjpjbbbpmhcgnaa
