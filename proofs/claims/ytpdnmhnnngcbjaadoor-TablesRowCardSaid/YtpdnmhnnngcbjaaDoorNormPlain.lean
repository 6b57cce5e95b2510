
/- Plain lemmas for the normal layer: how bits tell counts, and how counts are told in bits. Nothing of the program is named here. -/
import Derived.Test.YtpdnmhnnngcbjaaDoorBitPlain
namespace Go.Proofs.YtpdnmhnnngcbjaaDoor

/-- How many bits of a number are low, when so much is left; 2 to the power of that; how many numbers are told in the low bits alone. -/
def ln (left : Nat) : Nat := (left + 1).log2
def hf (left : Nat) : Nat := 2 ^ ln left
def fr (left : Nat) : Nat := 2 * hf left - 2 - left
theorem hf_le (left : Nat) : hf left ≤ left + 1 := Nat.log2_self_le (by omega)
theorem lt_hf (left : Nat) : left + 1 < 2 * hf left := by
  have : left + 1 < 2 ^ ((left + 1).log2 + 1) := Nat.lt_log2_self
  rw [Nat.pow_succ] at this
  unfold hf ln
  omega
theorem hf_pos (left : Nat) : 0 < hf left := Nat.two_pow_pos _
theorem ln_lt {left n : Nat} (h : left + 1 < 2 ^ n) : ln left < n := by
  unfold ln
  exact (Nat.log2_lt (by omega)).2 h
theorem ln_pos {left : Nat} (h : 0 < left) : 0 < ln left := by
  rcases Nat.eq_zero_or_pos (ln left) with e | e
  · have := lt_hf left
    unfold hf at this
    rw [e] at this
    omega
  · exact e

/-- The number of n bits from a on, if they are there. -/
def rd (L : List Bool) (a n : Nat) : Option Nat := if a + n ≤ L.length then some (num ((L.drop a).take n)) else none
theorem rd_lt {L : List Bool} {a n x : Nat} (h : rd L a n = some x) : x < 2 ^ n ∧ a + n ≤ L.length := by
  unfold rd at h
  split at h
  · injection h with h
    subst h
    refine ⟨Nat.lt_of_lt_of_le (num_lt _) (Nat.pow_le_pow_right (by omega) (by simp; omega)), by assumption⟩
  · cases h
theorem rd_ok {L : List Bool} {a n : Nat} (x : Nat) {rest : List Bool} (h : L.drop a = low x n ++ rest) (hx : x < 2 ^ n) (ha : a ≤ L.length) : rd L a n = some x ∧ L.drop (a + n) = rest := by
  have hl : (L.drop a).length = n + rest.length := by rw [h, List.length_append, low_length]
  rw [List.length_drop] at hl
  constructor
  · unfold rd
    rw [if_pos (by omega), h, List.take_append_of_le_length (by rw [low_length]; omega), List.take_of_length_le (by rw [low_length]; omega), num_low, Nat.mod_eq_of_lt hx]
  · rw [← List.drop_drop, h, List.drop_append_of_le_length (by rw [low_length]; omega), List.drop_of_length_le (by rw [low_length]; omega), List.nil_append]
theorem rd_cut {L : List Bool} {a n x m : Nat} (h : rd L a n = some x) (hm : a + n ≤ m) : rd (L.take m) a n = some x := by
  unfold rd at h ⊢
  split at h
  · rw [if_pos (by rw [List.length_take]; omega), ← h]
    congr 2
    rw [List.drop_take, List.take_take, Nat.min_eq_left (by omega)]
  · cases h
theorem rd_short {L : List Bool} {a n : Nat} (h : ¬ a + n ≤ L.length) : rd L a n = none := by unfold rd; rw [if_neg h]

/-- The next symbol's number, and where it ends. -/
def nextV (L : List Bool) (a left : Nat) : Option (Nat × Nat) :=
  match rd L a (ln left) with
  | none => none
  | some x => if x < fr left then some (x, a + ln left) else
    match rd L (a + ln left) 1 with
    | none => none
    | some y => some (if y = 1 then x + hf left - fr left else x, a + ln left + 1)
theorem nextV_le {L : List Bool} {a left v a1 : Nat} (h : nextV L a left = some (v, a1)) (hl : 0 < left) : v ≤ left + 1 ∧ a + 1 ≤ a1 ∧ a1 ≤ L.length := by
  have h1 := hf_le left
  have h2 := lt_hf left
  have h3 := ln_pos hl
  unfold nextV at h
  unfold fr at h
  split at h
  · cases h
  · next x hx =>
    have hxl := rd_lt hx
    have hh : 2 ^ ln left = hf left := rfl
    rw [hh] at hxl
    split at h
    · simp only [Option.some.injEq, Prod.mk.injEq] at h
      omega
    · split at h
      · cases h
      · next y hy =>
        have hyl := rd_lt hy
        simp only [Option.some.injEq, Prod.mk.injEq] at h
        obtain ⟨h, h'⟩ := h
        split at h <;> omega

/-- How many noughts follow one, counted on from acc, and where that ends. -/
def rowA : Nat → List Bool → Nat → Nat → Option (Nat × Nat)
  | 0, _, _, _ => none
  | f + 1, L, a, acc => match rd L a 2 with
    | none => none
    | some x => if x < 3 then some (acc + x, a + 2) else rowA f L (a + 2) (acc + 3)
theorem rowA_le : ∀ (f : Nat) {L : List Bool} {a acc r a2 : Nat}, rowA f L a acc = some (r, a2) → acc ≤ r ∧ a + 2 ≤ a2 ∧ a2 ≤ L.length ∧ 2 * (r - acc) ≤ 3 * (a2 - a)
  | 0, _, _, _, _, _, h => by cases h
  | f + 1, L, a, acc, r, a2, h => by
    unfold rowA at h
    split at h
    · cases h
    · next x hx =>
      have hxl := rd_lt hx
      split at h
      · simp only [Option.some.injEq, Prod.mk.injEq] at h
        omega
      · have := rowA_le f h
        omega

/-- How much a symbol of this number takes. -/
def wv (v : Nat) : Nat := if v = 0 then 1 else v - 1
/-- The parts that bits tell from a on, when so much is left, behind those of acc; where they end. -/
def rdP : Nat → List Bool → Int → Nat → Nat → List Int → Except Int (List Int × Nat)
  | 0, _, _, _, _, _ => .error 10
  | f + 1, L, sy, a, left, acc =>
    if left = 0 then .ok (acc, a) else
    match nextV L a left with
    | none => .error 10
    | some (v, a1) =>
      if v = 1 then
        match rowA f L a1 0 with
        | none => .error 10
        | some (r, a2) => if sy < ((acc.length + 1 + r : Nat) : Int) then .error 11 else rdP f L sy a2 left (acc ++ 0 :: List.replicate r 0)
      else if sy < ((acc.length + 1 : Nat) : Int) then .error 11 else rdP f L sy a1 (left - wv v) (acc ++ [(v : Int) - 1])
/-- The counts that bits tell: the log, the parts, how many bits. -/
def rdC (L : List Bool) (most sy : Int) : Except Int (Nat × List Int × Nat) :=
  match rd L 0 4 with
  | none => .error 10
  | some x => if most < ((x + 5 : Nat) : Int) ∨ 15 < x + 5 then .error 12 else
    match rdP (L.length + 1) L sy 4 (2 ^ (x + 5)) [] with
    | .error e => .error e
    | .ok (ps, a) => .ok (x + 5, ps, a)

/-- How much a part takes of all of them. -/
def wi (p : Int) : Int := if p = -1 then 1 else p
def tot (ps : List Int) : Int := (ps.map wi).sum
theorem tot_cons (p : Int) (r : List Int) : tot (p :: r) = wi p + tot r := by simp [tot]
theorem tot_append (p r : List Int) : tot (p ++ r) = tot p + tot r := by simp [tot]
theorem tot_zeros (n : Nat) : tot (List.replicate n 0) = 0 := by
  induction n with
  | zero => rfl
  | succ n ih => rw [List.replicate_succ, tot_cons, ih]; rfl
theorem wi_pos {p : Int} (h : -1 ≤ p) : 0 ≤ wi p ∧ p ≤ wi p ∧ (wi p = 0 ↔ p = 0) := by unfold wi; split <;> omega
theorem tot_pos {ps : List Int} (h : ∀ p ∈ ps, -1 ≤ p) : 0 ≤ tot ps := by
  induction ps with
  | nil => exact Int.le_refl _
  | cons p r ih =>
    rw [tot_cons]
    have := wi_pos (h p (by simp))
    have := ih fun q hq => h q (by simp [hq])
    omega

/-- May counts be? -/
def mayB (log : Int) (ps : List Int) : Bool :=
  decide (5 ≤ log ∧ log ≤ 15 ∧ 0 < ps.length ∧ ps.length ≤ 256 ∧ ps.getLast? ≠ some 0 ∧ (∀ p ∈ ps, -1 ≤ p) ∧ tot ps = 2 ^ log.toNat)
theorem mayB_iff {log : Int} {ps : List Int} : mayB log ps = true ↔ 5 ≤ log ∧ log ≤ 15 ∧ 0 < ps.length ∧ ps.length ≤ 256 ∧ ps.getLast? ≠ some 0 ∧ (∀ p ∈ ps, -1 ≤ p) ∧ tot ps = 2 ^ log.toNat := by
  unfold mayB; exact decide_eq_true_iff

/-- What is told of the next symbol. -/
def partBits (p : Int) (left : Nat) : List Bool :=
  if (p + 1).toNat < fr left then low (p + 1).toNat (ln left) else if (p + 1).toNat < hf left then low (p + 1).toNat (ln left + 1) else low ((p + 1).toNat + fr left) (ln left + 1)
/-- How many parts are 0 ahead of the first one that isn't. -/
def nz (ps : List Int) : Nat := (ps.takeWhile (· == 0)).length
/-- What is told of so many noughts behind one. -/
def rowBits : Nat → List Bool
  | r + 3 => true :: true :: rowBits r
  | r => low r 2
/-- What is told of parts when so much is left. -/
def wrP : Nat → List Int → Nat → List Bool
  | 0, _, _ => []
  | _ + 1, [], _ => []
  | f + 1, p :: r, left => partBits p left ++ (if p = 0 then rowBits (nz r) ++ wrP f (r.drop (nz r)) left else wrP f r (left - (wi p).toNat))
/-- What is told of counts. -/
def wrC (log : Nat) (ps : List Int) : List Bool := low (log - 5) 4 ++ wrP ps.length ps (2 ^ log)

/-! What is told is read. -/
theorem nextV_part {L rest : List Bool} {a left : Nat} {p : Int} (h : L.drop a = partBits p left ++ rest) (ha : a ≤ L.length) (_hp : -1 ≤ p) (hp2 : p ≤ left) :
    nextV L a left = some ((p + 1).toNat, a + (partBits p left).length) ∧ L.drop (a + (partBits p left).length) = rest := by
  have h1 := hf_le left
  have h2 := lt_hf left
  have hh : 2 ^ ln left = hf left := rfl
  have hs : 2 ^ (ln left + 1) = 2 * hf left := by rw [Nat.pow_succ, hh]; omega
  obtain ⟨v, hv⟩ : ∃ v, v = (p + 1).toNat := ⟨_, rfl⟩
  have hvl : v ≤ left + 1 := by omega
  unfold partBits at h ⊢
  rw [← hv] at h ⊢
  clear hv
  by_cases c1 : v < fr left
  · rw [if_pos c1] at h ⊢
    obtain ⟨e1, e2⟩ := rd_ok v h (by unfold fr at c1; omega) ha
    rw [low_length]
    refine ⟨?_, e2⟩
    unfold nextV
    rw [e1]
    simp only [if_pos c1]
  · rw [if_neg c1] at h ⊢
    have key : ∀ y, y < 2 * hf left → L.drop a = low y (ln left + 1) ++ rest → rd L a (ln left) = some (y % hf left) ∧ rd L (a + ln left) 1 = some (y / hf left) ∧ L.drop (a + ln left + 1) = rest := by
      intro y hy hd
      rw [low_succ, List.append_assoc] at hd
      have hlow : low y (ln left) = low (y % hf left) (ln left) := by
        apply List.ext_getElem
        · rw [low_length, low_length]
        · intro i i1 i2
          rw [low_length] at i1
          simp only [low, List.getElem_map, List.getElem_range]
          rw [← hh, Nat.testBit_mod_two_pow]
          simp [i1]
      rw [hlow] at hd
      obtain ⟨e1, e2⟩ := rd_ok (y % hf left) hd (by rw [hh]; exact Nat.mod_lt _ (hf_pos left)) ha
      have hd1 : y / hf left < 2 := Nat.div_lt_of_lt_mul (by omega)
      have hb : [y.testBit (ln left)] = low (y / hf left) 1 := by
        simp only [low, List.range_succ, List.range_zero, List.nil_append, List.map_cons, List.map_nil]
        rw [Nat.testBit_eq_decide_div_mod_eq, hh, Nat.testBit_eq_decide_div_mod_eq]
        simp
      have hal : a + ln left ≤ L.length := (rd_lt e1).2
      rw [hb] at e2
      obtain ⟨e3, e4⟩ := rd_ok (y / hf left) e2 (by simpa using hd1) hal
      exact ⟨e1, e3, e4⟩
    have hfr : fr left = 2 * hf left - 2 - left := rfl
    by_cases c2 : v < hf left
    · rw [if_pos c2] at h ⊢
      obtain ⟨e1, e2, e3⟩ := key v (by omega) h
      rw [Nat.mod_eq_of_lt c2] at e1
      rw [Nat.div_eq_of_lt c2] at e2
      rw [low_length]
      refine ⟨?_, e3⟩
      unfold nextV
      rw [e1]
      simp only [if_neg c1, e2]
      rfl
    · rw [if_neg c2] at h ⊢
      obtain ⟨e1, e2, e3⟩ := key (v + fr left) (by omega) h
      have hm : (v + fr left) % hf left = v + fr left - hf left := by
        rw [Nat.mod_eq_sub_mod (by omega), Nat.mod_eq_of_lt (by omega)]
      have hd : (v + fr left) / hf left = 1 := by
        apply Nat.div_eq_of_lt_le <;> omega
      rw [hm] at e1
      rw [hd] at e2
      rw [low_length]
      refine ⟨?_, e3⟩
      unfold nextV
      rw [e1]
      simp only [if_neg (show ¬ v + fr left - hf left < fr left by omega), e2]
      simp
      omega

theorem rowBits_pos (r : Nat) : 2 ≤ (rowBits r).length := by
  unfold rowBits
  split
  · simp
  · simp [low]
theorem rowA_row : ∀ (r f : Nat) {L rest : List Bool} {a acc : Nat}, L.drop a = rowBits r ++ rest → a ≤ L.length → L.length < f + a → rowA f L a acc = some (acc + r, a + (rowBits r).length) ∧ L.drop (a + (rowBits r).length) = rest := by
  intro r
  induction r using Nat.strongRecOn with
  | ind r ih =>
    intro f L rest a acc h ha hf
    obtain ⟨g, rfl⟩ : ∃ g, f = g + 1 := ⟨f - 1, by omega⟩
    by_cases h3 : 3 ≤ r
    · obtain ⟨s, rfl⟩ : ∃ s, r = s + 3 := ⟨r - 3, by omega⟩
      have hb : rowBits (s + 3) = low 3 2 ++ rowBits s := rfl
      rw [hb, List.append_assoc] at h
      obtain ⟨e1, e2⟩ := rd_ok 3 h (by decide) ha
      obtain ⟨e3, e4⟩ := ih s (by omega) g (acc := acc + 3) e2 (rd_lt e1).2 (by omega)
      have el : a + (rowBits (s + 3)).length = a + 2 + (rowBits s).length := by rw [hb, List.length_append, low_length]; omega
      rw [el]
      refine ⟨?_, e4⟩
      rw [rowA, e1]
      simp only [if_neg (show ¬ 3 < 3 by omega)]
      rw [e3]
      congr 2
      omega
    · have hb : rowBits r = low r 2 := by
        match r, h3 with
        | 0, _ => rfl
        | 1, _ => rfl
        | 2, _ => rfl
        | s + 3, h => omega
      rw [hb] at h ⊢
      obtain ⟨e1, e2⟩ := rd_ok r h (by omega) ha
      rw [low_length]
      refine ⟨?_, e2⟩
      rw [rowA, e1]
      simp only [if_pos (show r < 3 by omega)]

theorem nz_split (ps : List Int) : ps = List.replicate (nz ps) 0 ++ ps.drop (nz ps) := by
  induction ps with
  | nil => rfl
  | cons p r ih =>
    unfold nz at ih ⊢
    rw [List.takeWhile_cons]
    by_cases h : p = 0
    · subst h
      simp only [beq_self_eq_true, if_true, List.length_cons, List.replicate_succ, List.drop_succ_cons, List.cons_append]
      rw [← ih]
    · simp [h]
theorem nz_le (ps : List Int) : nz ps ≤ ps.length := by
  have := congrArg List.length (nz_split ps)
  simp at this
  omega
theorem nz_last {ps : List Int} (h0 : ps.getLast? ≠ some 0) (hn : ps ≠ []) : nz ps < ps.length := by
  rcases Nat.lt_or_ge (nz ps) ps.length with h | h
  · exact h
  · exfalso
    have hs := nz_split ps
    have hd : ps.drop (nz ps) = [] := List.drop_of_length_le h
    rw [hd, List.append_nil] at hs
    apply h0
    rw [hs]
    have : nz ps ≠ 0 := by
      intro e
      rw [e] at hs
      exact hn hs
    rw [List.getLast?_replicate, if_neg this]
theorem last_drop {ps : List Int} {k : Nat} (h0 : ps.getLast? ≠ some 0) (hk : k < ps.length) : (ps.drop k).getLast? ≠ some 0 := by
  rw [List.getLast?_drop, if_neg (by omega)]
  exact h0

theorem last_tail {p : Int} {r : List Int} (h : (p :: r).getLast? ≠ some 0) (hn : r ≠ []) : r.getLast? ≠ some 0 := by
  rcases r with _ | ⟨q, r⟩
  · exact absurd rfl hn
  · simpa [List.getLast?_cons_cons] using h
theorem tot_last {ps : List Int} (hp : ∀ p ∈ ps, -1 ≤ p) (h : ps.getLast? ≠ some 0) (hn : ps ≠ []) : 0 < tot ps := by
  induction ps with
  | nil => exact absurd rfl hn
  | cons p r ih =>
    rw [tot_cons]
    have hw := wi_pos (hp p (by simp))
    have hr := tot_pos (ps := r) fun q hq => hp q (by simp [hq])
    by_cases hr0 : r = []
    · subst hr0
      have : p ≠ 0 := by intro e; subst e; exact h rfl
      omega
    · have := ih (fun q hq => hp q (by simp [hq])) (last_tail h hr0) hr0
      omega

/-- Parts of which the last one isn't 0 are read as they were told. -/
theorem rdP_wrP : ∀ (f : Nat) (ps : List Int) (left : Nat) {g : Nat} {L rest : List Bool} {sy : Int} {a : Nat} {acc : List Int},
    ps.length ≤ f → L.drop a = wrP f ps left ++ rest → a ≤ L.length → L.length < g + a → (∀ p ∈ ps, -1 ≤ p) → tot ps = left → (ps = [] ∨ ps.getLast? ≠ some 0) → ((acc.length + ps.length : Nat) : Int) ≤ sy →
    rdP g L sy a left acc = .ok (acc ++ ps, a + (wrP f ps left).length) ∧ a + (wrP f ps left).length ≤ L.length := by
  intro f
  induction f with
  | zero =>
    intro ps left g L rest sy a acc hf h ha hg hp ht hl hs
    have : ps = [] := List.eq_nil_of_length_eq_zero (by omega)
    subst this
    obtain ⟨g', rfl⟩ : ∃ g', g = g' + 1 := ⟨g - 1, by omega⟩
    have hz : left = 0 := by simp [tot] at ht; omega
    simp [rdP, hz, wrP, ha]
  | succ f ih =>
    intro ps left g L rest sy a acc hf h ha hg hp ht hl hs
    obtain ⟨g', rfl⟩ : ∃ g', g = g' + 1 := ⟨g - 1, by omega⟩
    match ps with
    | [] =>
      have hz : left = 0 := by simp [tot] at ht; omega
      simp [rdP, hz, wrP, ha]
    | p :: r =>
      have hl' : (p :: r).getLast? ≠ some 0 := by
        rcases hl with e | e
        · cases e
        · exact e
      have htl := tot_last hp hl' (by simp)
      have hpp := hp p (by simp)
      have hpr : ∀ q ∈ r, -1 ≤ q := fun q hq => hp q (by simp [hq])
      have hw := wi_pos hpp
      have htr := tot_pos hpr
      have hleft : left ≠ 0 := by omega
      rw [tot_cons] at ht
      have hpl : p ≤ left := by omega
      rw [wrP, List.append_assoc] at h
      obtain ⟨e1, e2⟩ := nextV_part h ha hpp hpl
      obtain ⟨_, e3, e4⟩ := nextV_le e1 (by omega)
      rw [wrP, List.length_append]
      rw [rdP, if_neg hleft, e1]
      simp only [List.length_cons] at hf hs
      by_cases hp0 : p = 0
      · subst hp0
        rw [if_pos rfl] at e2
        simp only [if_true]
        rw [List.append_assoc] at e2
        obtain ⟨e5, e6⟩ := rowA_row (nz r) g' (acc := 0) e2 e4 (by omega)
        obtain ⟨_, _, e7, _⟩ := rowA_le g' e5
        have hrn : r ≠ [] := by
          intro e
          subst e
          exact hl' rfl
        have hnz := nz_last (last_tail hl' hrn) hrn
        have hsp := nz_split r
        have e8 := ih (r.drop (nz r)) left (g := g') (sy := sy) (acc := acc ++ 0 :: List.replicate (nz r) 0) (by simp; omega) e6 e7 (by omega) (fun q hq => hpr q (List.mem_of_mem_drop hq)) (by
          have : tot r = tot (List.replicate (nz r) 0) + tot (r.drop (nz r)) := by rw [← tot_append, ← hsp]
          rw [tot_zeros] at this
          have : wi 0 = 0 := rfl
          omega) (.inr (last_drop (last_tail hl' hrn) hnz)) (by simp; omega)
        simp only [show ((0 : Int) + 1).toNat = 1 by rfl, if_true]
        rw [e5]
        simp only [Nat.zero_add]
        rw [if_neg (by omega), e8.1, List.length_append]
        refine ⟨?_, by omega⟩
        congr 2
        · rw [List.append_assoc, List.cons_append, ← hsp]
        · omega
      · rw [if_neg hp0] at e2 ⊢
        have hv1 : ¬ (p + 1).toNat = 1 := by omega
        have hwv : wv (p + 1).toNat = (wi p).toNat := by
          unfold wv wi
          split <;> split <;> omega
        have hvp : (((p + 1).toNat : Nat) : Int) - 1 = p := by omega
        have e8 := ih r (left - (wi p).toNat) (g := g') (sy := sy) (acc := acc ++ [p]) (by omega) e2 e4 (by omega) hpr (by omega) (by
          by_cases hr0 : r = []
          · exact .inl hr0
          · exact .inr (last_tail hl' hr0)) (by simp; omega)
        simp only [if_neg hv1]
        rw [if_neg (by omega), hwv, hvp, e8.1]
        refine ⟨?_, by omega⟩
        congr 2
        · simp
        · omega

theorem wrP_nil (f left : Nat) : wrP f [] left = [] := by cases f <;> rfl

/-- Counts that may be, and are told, are read as they were. -/
theorem rdC_wrC {log : Int} {ps : List Int} {L rest : List Bool} (hm : mayB log ps = true) (h : L = wrC log.toNat ps ++ rest) {most sy : Int} (h1 : log ≤ most) (h2 : (ps.length : Int) ≤ sy) :
    rdC L most sy = .ok (log.toNat, ps, (wrC log.toNat ps).length) := by
  obtain ⟨q1, q2, q3, q4, q5, q6, q7⟩ := mayB_iff.1 hm
  unfold wrC at h ⊢
  rw [List.append_assoc] at h
  have hd : L.drop 0 = low (log.toNat - 5) 4 ++ (wrP ps.length ps (2 ^ log.toNat) ++ rest) := h
  obtain ⟨e1, e2⟩ := rd_ok (log.toNat - 5) hd (by omega) (by omega)
  have e3 := rd_lt e1
  obtain ⟨e4, e5⟩ := rdP_wrP ps.length ps (2 ^ log.toNat) (g := L.length + 1) (sy := sy) (acc := []) (Nat.le_refl _) e2 e3.2 (by omega) q6 (by rw [q7]; simp) (.inr q5) (by simpa using h2)
  unfold rdC
  rw [e1]
  simp only [show log.toNat - 5 + 5 = log.toNat by omega]
  rw [if_neg (by omega), e4, List.length_append, low_length]
  simp

/-! What is read where bits are cut. -/
theorem nextV_cut {L : List Bool} {a left v a1 m : Nat} (h : nextV L a left = some (v, a1)) : (a1 ≤ m → nextV (L.take m) a left = some (v, a1)) ∧ (m < a1 → nextV (L.take m) a left = none) := by
  unfold nextV at h ⊢
  split at h
  · cases h
  · next x hx =>
    have hxl := rd_lt hx
    split at h
    · next hlt =>
      simp only [Option.some.injEq, Prod.mk.injEq] at h
      obtain ⟨rfl, rfl⟩ := h
      constructor
      · intro hm
        rw [rd_cut hx hm]
        simp [hlt]
      · intro hm
        rw [rd_short (by rw [List.length_take]; omega)]
    · next hlt =>
      split at h
      · cases h
      · next y hy =>
        simp only [Option.some.injEq, Prod.mk.injEq] at h
        obtain ⟨rfl, rfl⟩ := h
        constructor
        · intro hm
          rw [rd_cut hx (by omega), rd_cut hy hm]
          simp [hlt]
        · intro hm
          by_cases hm2 : a + ln left ≤ m
          · rw [rd_cut hx hm2]
            simp only [if_neg hlt]
            rw [rd_short (by rw [List.length_take]; omega)]
          · rw [rd_short (by rw [List.length_take]; omega)]
theorem rowA_cut : ∀ (f f' : Nat) {L : List Bool} {a acc r a2 m : Nat}, rowA f L a acc = some (r, a2) → a ≤ m → m < f' + a → (a2 ≤ m → rowA f' (L.take m) a acc = some (r, a2)) ∧ (m < a2 → rowA f' (L.take m) a acc = none)
  | 0, _, _, _, _, _, _, _, h, _, _ => by cases h
  | f + 1, f', L, a, acc, r, a2, m, h, ha, hf => by
    obtain ⟨g, rfl⟩ : ∃ g, f' = g + 1 := ⟨f' - 1, by omega⟩
    rw [rowA] at h ⊢
    split at h
    · cases h
    · next x hx =>
      have hxl := rd_lt hx
      split at h
      · next hlt =>
        simp only [Option.some.injEq, Prod.mk.injEq] at h
        obtain ⟨rfl, rfl⟩ := h
        constructor
        · intro hm
          rw [rd_cut hx hm]
          simp [hlt]
        · intro hm
          rw [rd_short (by rw [List.length_take]; omega)]
      · next hlt =>
        have hle := rowA_le f h
        by_cases hm : a + 2 ≤ m
        · obtain ⟨i1, i2⟩ := rowA_cut f g h hm (by omega)
          rw [rd_cut hx hm]
          simp only [if_neg hlt]
          exact ⟨i1, i2⟩
        · constructor
          · intro; omega
          · intro
            rw [rd_short (by rw [List.length_take]; omega)]
theorem rdP_le : ∀ (f : Nat) {L : List Bool} {sy : Int} {a left a2 : Nat} {acc ps : List Int}, rdP f L sy a left acc = .ok (ps, a2) → a ≤ a2 ∧ (a ≤ L.length → a2 ≤ L.length)
  | 0, _, _, _, _, _, _, _, h => by cases h
  | f + 1, L, sy, a, left, a2, acc, ps, h => by
    rw [rdP] at h
    split at h
    · simp only [Except.ok.injEq, Prod.mk.injEq] at h
      omega
    · next hz =>
      split at h
      · cases h
      · next v a1 hv =>
        have := (nextV_le hv (by omega)).2
        split at h
        · split at h
          · cases h
          · next r a3 hr =>
            have := (rowA_le f hr).2
            split at h
            · cases h
            · have := rdP_le f h
              omega
        · split at h
          · cases h
          · have := rdP_le f h
            omega
theorem rdP_cut : ∀ (f f' : Nat) {L : List Bool} {sy : Int} {a left a2 m : Nat} {acc ps : List Int}, rdP f L sy a left acc = .ok (ps, a2) → a ≤ m → m < f' + a → m < a2 → rdP f' (L.take m) sy a left acc = .error 10
  | 0, _, _, _, _, _, _, _, _, _, h, _, _, _ => by cases h
  | f + 1, f', L, sy, a, left, a2, m, acc, ps, h, ha, hf, hm => by
    obtain ⟨g, rfl⟩ : ∃ g, f' = g + 1 := ⟨f' - 1, by omega⟩
    rw [rdP] at h ⊢
    split at h
    · simp only [Except.ok.injEq, Prod.mk.injEq] at h
      omega
    · next hz =>
      rw [if_neg hz]
      split at h
      · cases h
      · next v a1 hv =>
        have hle := (nextV_le hv (by omega)).2.1
        by_cases hm1 : a1 ≤ m
        · rw [(nextV_cut hv).1 hm1]
          simp only
          split at h
          · next hv1 =>
            rw [if_pos hv1]
            split at h
            · cases h
            · next r a3 hr =>
              have hrl := (rowA_le f hr).2.1
              split at h
              · cases h
              · next hs =>
                by_cases hm3 : a3 ≤ m
                · rw [(rowA_cut f g hr hm1 (by omega)).1 hm3]
                  simp only
                  rw [if_neg hs]
                  exact rdP_cut f g h hm3 (by omega) hm
                · rw [(rowA_cut f g hr hm1 (by omega)).2 (by omega)]
          · next hv1 =>
            rw [if_neg hv1]
            split at h
            · cases h
            · next hs =>
              rw [if_neg hs]
              exact rdP_cut f g h hm1 (by omega) hm
        · rw [(nextV_cut hv).2 (by omega)]
/-- Counts that are cut before their end lack bits. -/
theorem rdC_cut {L : List Bool} {most sy : Int} {log a m : Nat} {ps : List Int} (h : rdC L most sy = .ok (log, ps, a)) (hm : m < a) : rdC (L.take m) most sy = .error 10 := by
  unfold rdC at h ⊢
  split at h
  · cases h
  · next x hx =>
    split at h
    · cases h
    · next hc =>
      by_cases h4 : 4 ≤ m
      · rw [rd_cut hx (by omega)]
        simp only
        rw [if_neg hc]
        split at h
        · cases h
        · next q a' hq =>
          simp only [Except.ok.injEq, Prod.mk.injEq] at h
          obtain ⟨_, _, rfl⟩ := h
          rw [rdP_cut _ ((L.take m).length + 1) hq h4 (by have h1 := (rd_lt hx).2; have h2 := (rdP_le _ hq).2 (by omega); rw [List.length_take]; omega) hm]
      · rw [rd_short (by rw [List.length_take]; omega)]

/-! What is read may be. -/
theorem getLast_snoc (l : List Int) (x : Int) : (l ++ [x]).getLast? = some x := by simp
theorem rdP_may : ∀ (f : Nat) {L : List Bool} {sy : Int} {a left a2 : Nat} {acc ps : List Int}, rdP f L sy a left acc = .ok (ps, a2) →
    ∃ qs, ps = acc ++ qs ∧ (∀ q ∈ qs, -1 ≤ q) ∧ tot qs = left ∧ (0 < left → 0 < qs.length ∧ qs.getLast? ≠ some 0 ∧ (ps.length : Int) ≤ sy)
  | 0, _, _, _, _, _, _, _, h => by cases h
  | f + 1, L, sy, a, left, a2, acc, ps, h => by
    rw [rdP] at h
    split at h
    · next hz =>
      simp only [Except.ok.injEq, Prod.mk.injEq] at h
      exact ⟨[], by simp [h.1], by simp, by simp [tot, hz], by omega⟩
    · next hz =>
      split at h
      · cases h
      · next v a1 hv =>
        have hvl := (nextV_le hv (by omega)).1
        split at h
        · next hv1 =>
          split at h
          · cases h
          · next r a3 hr =>
            split at h
            · cases h
            · obtain ⟨qs, h1, h2, h3, h4⟩ := rdP_may f h
              obtain ⟨h5, h6, h7⟩ := h4 (by omega)
              refine ⟨0 :: List.replicate r 0 ++ qs, by rw [h1, List.append_assoc], ?_, ?_, fun _ => ⟨by simp, ?_, h7⟩⟩
              · intro q hq
                simp only [List.cons_append, List.mem_cons, List.mem_append, List.mem_replicate] at hq
                rcases hq with e | e | e
                · omega
                · omega
                · exact h2 q e
              · rw [tot_append, tot_cons, tot_zeros, h3]
                have : wi 0 = 0 := rfl
                omega
              · rw [List.getLast?_append]
                rcases hq : qs.getLast? with _ | z
                · rw [List.getLast?_eq_none_iff] at hq
                  subst hq
                  simp at h5
                · rw [hq] at h6
                  simpa using h6
        · next hv1 =>
          split at h
          · cases h
          · next hs =>
            obtain ⟨qs, h1, h2, h3, h4⟩ := rdP_may f h
            have hww : wi ((v : Int) - 1) = (wv v : Nat) := by
              unfold wi wv
              split <;> split <;> omega
            have hwl : wv v ≤ left := by
              unfold wv
              split <;> omega
            have hww0 : 0 < wv v := by
              unfold wv
              split <;> omega
            refine ⟨((v : Int) - 1) :: qs, by rw [h1, List.append_assoc]; rfl, ?_, ?_, fun _ => ⟨by simp, ?_, ?_⟩⟩
            · intro q hq
              simp only [List.mem_cons] at hq
              rcases hq with e | e
              · omega
              · exact h2 q e
            · rw [tot_cons, h3, hww]
              omega
            · by_cases hl0 : 0 < left - wv v
              · obtain ⟨h5, h6, _⟩ := h4 hl0
                rcases qs with _ | ⟨q, r⟩
                · simp at h5
                · rw [List.getLast?_cons_cons]
                  exact h6
              · have h30 : tot qs = 0 := by omega
                rcases f with _ | f
                · cases h
                rw [rdP, if_pos (by omega)] at h
                simp only [Except.ok.injEq, Prod.mk.injEq] at h
                have : qs = [] := by
                  have := congrArg List.length (h.1.trans h1)
                  simp only [List.length_append] at this
                  exact List.eq_nil_of_length_eq_zero (by omega)
                subst this
                simp
                omega
            · by_cases hl0 : 0 < left - wv v
              · exact (h4 hl0).2.2
              · rcases f with _ | f
                · cases h
                rw [rdP, if_pos (by omega)] at h
                simp only [Except.ok.injEq, Prod.mk.injEq] at h
                rw [← h.1]
                simp
                omega
/-- Counts that are read may be. -/
theorem rdC_may {L : List Bool} {most sy : Int} {log a : Nat} {ps : List Int} (h : rdC L most sy = .ok (log, ps, a)) (hs : sy ≤ 256) : mayB log ps = true ∧ (ps.length : Int) ≤ sy ∧ (log : Int) ≤ most := by
  unfold rdC at h
  split at h
  · cases h
  · next x hx =>
    split at h
    · cases h
    · next hc =>
      split at h
      · cases h
      · next q a' hq =>
        simp only [Except.ok.injEq, Prod.mk.injEq] at h
        obtain ⟨h1, h2, _⟩ := h
        subst h1 h2
        have hp := Nat.two_pow_pos (x + 5)
        obtain ⟨qs, e, h3, h4, h5⟩ := rdP_may _ hq
        simp only [List.nil_append] at e
        subst e
        obtain ⟨h6, h7, h8⟩ := h5 hp
        refine ⟨mayB_iff.2 ⟨by omega, by omega, h6, by omega, h7, h3, by rw [h4, show ((x + 5 : Nat) : Int).toNat = x + 5 by omega]; simp⟩, h8, by omega⟩

theorem rdP_err : ∀ (f : Nat) {L : List Bool} {sy : Int} {a left : Nat} {acc : List Int} {er : Int}, rdP f L sy a left acc = .error er → er = 10 ∨ er = 11
  | 0, _, _, _, _, _, _, h => by
    rw [rdP] at h
    injection h with h
    omega
  | f + 1, L, sy, a, left, acc, er, h => by
    rw [rdP] at h
    split at h
    · cases h
    · split at h
      · injection h with h
        omega
      · split at h
        · split at h
          · injection h with h
            omega
          · split at h
            · injection h with h
              omega
            · exact rdP_err f h
        · split at h
          · injection h with h
            omega
          · exact rdP_err f h
end Go.Proofs.YtpdnmhnnngcbjaaDoor
