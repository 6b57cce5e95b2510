
/- Plain lemmas for the fse layer: the table of counts, how many states each symbol has, and that each state is reached from just one state of each symbol. Nothing of the program is named here. -/
import Derived.Test.YtpdnmhnnngcbjaaDoorFsePlain
namespace Go.Proofs.YtpdnmhnnngcbjaaDoor

/-- The symbols of part -1 among the first k, the highest first; the others, each as often as its part says. -/
def rr (ps : List Int) : Nat → List Nat
  | 0 => []
  | k + 1 => if ps.getD k 0 = -1 then k :: rr ps k else rr ps k
def ot (ps : List Int) : Nat → List Nat
  | 0 => []
  | k + 1 => ot ps k ++ List.replicate (ps.getD k 0).toNat k
def fe (l : Nat) (ps : List Int) : Nat := 2 ^ l - (rr ps ps.length).length
/-- The symbols of all states. -/
def syms (l : Nat) (ps : List Int) : List Nat := (lay (2 ^ l) (fe l ps) (List.replicate (fe l ps) 0 ++ rr ps ps.length) (ot ps ps.length)).1

theorem rr_lt (ps : List Int) : ∀ k, ∀ x ∈ rr ps k, x < k
  | 0, x, h => by simp [rr] at h
  | k + 1, x, h => by
    rw [rr] at h
    split at h
    · rw [List.mem_cons] at h
      rcases h with rfl | h
      · omega
      · have := rr_lt ps k x h; omega
    · have := rr_lt ps k x h; omega
theorem ot_lt (ps : List Int) : ∀ k, ∀ x ∈ ot ps k, x < k
  | 0, x, h => by simp [ot] at h
  | k + 1, x, h => by
    rw [ot, List.mem_append] at h
    rcases h with h | h
    · have := ot_lt ps k x h; omega
    · have := (List.mem_replicate.1 h).2; omega
theorem rr_ot (ps : List Int) (hp : ∀ p ∈ ps, -1 ≤ p) : ∀ k, k ≤ ps.length → ((ot ps k).length : Int) + (rr ps k).length = tot (ps.take k)
  | 0, _ => by simp [rr, ot, tot]
  | k + 1, h => by
    have hk : k < ps.length := by omega
    have e : ps.getD k 0 = ps[k] := by rw [List.getD_eq_getElem?_getD, List.getElem?_eq_getElem hk]; rfl
    have ih := rr_ot ps hp k (by omega)
    have h1 := hp ps[k] (List.getElem_mem hk)
    rw [List.take_succ_eq_append_getElem hk, tot_append, tot_cons, rr, ot, e, List.length_append, List.length_replicate]
    have h2 : tot [] = 0 := rfl
    rw [h2]
    unfold wi
    split
    · rw [List.length_cons]
      omega
    · omega
theorem rr_count (ps : List Int) (s : Nat) : ∀ k, (rr ps k).count s = if s < k ∧ ps.getD s 0 = -1 then 1 else 0
  | 0 => by simp [rr]
  | k + 1 => by
    rw [rr]
    have ih := rr_count ps s k
    by_cases hk : s = k
    · subst hk
      split
      · next h =>
        rw [List.count_cons_self, ih, if_neg (by omega), if_pos ⟨by omega, h⟩]
      · next h =>
        rw [ih, if_neg (by omega), if_neg (fun q => h q.2)]
    · have e : (s < k + 1 ∧ ps.getD s 0 = -1) ↔ (s < k ∧ ps.getD s 0 = -1) := by constructor <;> (rintro ⟨a, b⟩; exact ⟨by omega, b⟩)
      simp only [e]
      split
      · rw [List.count_cons_of_ne (by omega), ih]
      · exact ih
theorem ot_count (ps : List Int) (s : Nat) : ∀ k, (ot ps k).count s = if s < k then (ps.getD s 0).toNat else 0
  | 0 => by simp [ot]
  | k + 1 => by
    rw [ot, List.count_append, ot_count ps s k, List.count_replicate]
    by_cases hk : s = k
    · subst hk
      simp
    · have e : (s < k + 1) ↔ (s < k) := by omega
      simp only [e]
      have : (k == s) = false := by simp; omega
      simp [this]
/-- What stands at the top: the first symbol of part -1 at the very top. -/
theorem rr_top (ps : List Int) (s : Nat) (hs : ps.getD s 0 = -1) : ∀ k, s < k → ∃ X, rr ps k = X ++ s :: rr ps s
  | 0, h => by omega
  | k + 1, h => by
    rw [rr]
    by_cases hk : s = k
    · subst hk
      rw [if_pos hs]
      exact ⟨[], rfl⟩
    · obtain ⟨X, hX⟩ := rr_top ps s hs k (by omega)
      split
      · exact ⟨k :: X, by rw [hX]; rfl⟩
      · exact ⟨X, hX⟩
theorem getD_out (ps : List Int) (s : Nat) (h : ps.length ≤ s) : ps.getD s 0 = 0 := by
  rw [List.getD_eq_getElem?_getD, List.getElem?_eq_none h]; rfl

section
variable {l : Nat} {ps : List Int}
/-- What is known of counts that may be. -/
structure MayF (l : Nat) (ps : List Int) : Prop where
  l5 : 5 ≤ l
  l15 : l ≤ 15
  len : ps.length ≤ 256
  ge : ∀ p ∈ ps, -1 ≤ p
  sum : (ot ps ps.length).length + (rr ps ps.length).length = 2 ^ l
theorem mayF (h : mayB (l : Int) ps = true) : MayF l ps := by
  obtain ⟨h1, h2, _, h4, _, h6, h7⟩ := mayB_iff.1 h
  have := rr_ot ps h6 ps.length (Nat.le_refl _)
  rw [List.take_length, h7, show ((l : Nat) : Int).toNat = l by omega] at this
  refine ⟨by omega, by omega, h4, h6, ?_⟩
  have e : ((2 ^ l : Nat) : Int) = (2 : Int) ^ l := by simp
  omega
theorem MayF.getD (h : MayF l ps) (s : Nat) : -1 ≤ ps.getD s 0 := by
  rcases Nat.lt_or_ge s ps.length with q | q
  · rw [List.getD_eq_getElem?_getD, List.getElem?_eq_getElem q]
    exact h.ge _ (List.getElem_mem q)
  · rw [getD_out ps s q]; omega
theorem MayF.fe_eq (h : MayF l ps) : (ot ps ps.length).length = fe l ps := by
  have := h.sum
  unfold fe
  omega
theorem MayF.fe_le (h : MayF l ps) : fe l ps ≤ 2 ^ l ∧ fe l ps + (rr ps ps.length).length = 2 ^ l := by
  have := h.sum
  unfold fe
  omega
theorem MayF.base_len (h : MayF l ps) {α : Type} (z : α) (f : Nat → α) : (List.replicate (fe l ps) z ++ (rr ps ps.length).map f).length = 2 ^ l := by
  have := h.fe_le
  simp
  omega
theorem MayF.syms_len (h : MayF l ps) : (syms l ps).length = 2 ^ l :=
  lay_len h.l5 h.fe_le.1 _ (by simpa using h.base_len 0 id) _ (by rw [h.fe_eq]; exact Nat.le_refl _)
theorem MayF.syms_drop (h : MayF l ps) : (syms l ps).drop (fe l ps) = rr ps ps.length := by
  unfold syms
  rw [lay_drop h.l5 h.fe_le.1 _ (by simpa using h.base_len 0 id) _ (by rw [h.fe_eq]; exact Nat.le_refl _)]
  rw [List.drop_left' (by simp)]
theorem MayF.syms_perm (h : MayF l ps) : (syms l ps).Perm (ot ps ps.length ++ rr ps ps.length) := by
  have h1 := lay_perm h.l5 h.fe_le.1 (List.replicate (fe l ps) 0 ++ rr ps ps.length) (by simpa using h.base_len 0 id) (ot ps ps.length) h.fe_eq
  have h2 := h1.append_right ((syms l ps).drop (fe l ps))
  rw [show (lay (2 ^ l) (fe l ps) (List.replicate (fe l ps) 0 ++ rr ps ps.length) (ot ps ps.length)).1 = syms l ps from rfl, List.take_append_drop, h.syms_drop] at h2
  exact h2
/-- Each symbol has as many states as its part says. -/
theorem MayF.count (h : MayF l ps) (s : Nat) : (syms l ps).count s = (wi (ps.getD s 0)).toNat := by
  rw [h.syms_perm.count_eq, List.count_append, ot_count, rr_count]
  have hg := h.getD s
  rcases Nat.lt_or_ge s ps.length with q | q
  · unfold wi
    by_cases e : ps.getD s 0 = -1
    · rw [if_pos q, if_pos ⟨q, e⟩, if_pos e, e]; rfl
    · rw [if_pos q, if_neg (fun x => e x.2), if_neg e]; rfl
  · rw [getD_out ps s q, if_neg (by omega), if_neg (fun x => by omega)]; rfl
theorem MayF.syms_lt (h : MayF l ps) : ∀ x ∈ syms l ps, x < ps.length := fun x hx => by
  have := h.syms_perm.mem_iff.1 hx
  rw [List.mem_append] at this
  rcases this with q | q
  · exact ot_lt _ _ x q
  · exact rr_lt _ _ x q
theorem MayF.top (h : MayF l ps) (s : Nat) (hs : s < ps.length) (hp : ps.getD s 0 = -1) : (rr ps s).length < 2 ^ l ∧ (syms l ps)[2 ^ l - 1 - (rr ps s).length]? = some s := by
  obtain ⟨X, hX⟩ := rr_top ps s hp ps.length hs
  have h1 := h.fe_le
  have hd := h.syms_drop
  have hl := congrArg List.length hX
  rw [List.length_append, List.length_cons] at hl
  refine ⟨by omega, ?_⟩
  have e : 2 ^ l - 1 - (rr ps s).length = fe l ps + X.length := by omega
  rw [e, ← List.getElem?_drop, hd, hX, List.getElem?_append_right (Nat.le_refl _)]
  simp
end

/-! Entries. -/
structure En where
  s : Int
  b : Int
  e : Int
/-- The number of a state, and the entry by it. -/
def kOf (ps : List Int) (sy : List Nat) (i : Nat) : Nat := (wi (ps.getD (sy.getD i 0) 0)).toNat + (sy.take i).count (sy.getD i 0)
def entN (l s k : Nat) : En := ⟨s, ((l - k.log2 : Nat) : Int), ((k * 2 ^ (l - k.log2) - 2 ^ l : Nat) : Int)⟩
def tabS (l : Nat) (ps : List Int) (sy : List Nat) : List En := (List.range sy.length).map fun i => entN l (sy.getD i 0) (kOf ps sy i)
def tab (l : Nat) (ps : List Int) : List En := tabS l ps (syms l ps)

theorem tabS_length (l : Nat) (ps : List Int) (sy : List Nat) : (tabS l ps sy).length = sy.length := by simp [tabS]
theorem tabS_get (l : Nat) (ps : List Int) (sy : List Nat) (i : Nat) (h : i < (tabS l ps sy).length) : (tabS l ps sy)[i] = entN l (sy.getD i 0) (kOf ps sy i) := by simp [tabS]
theorem count_take_lt (l : List Nat) (i : Nat) (h : i < l.length) : (l.take i).count l[i] < l.count l[i] := by
  have e : l.count l[i] = (l.take (i + 1)).count l[i] + (l.drop (i + 1)).count l[i] := by
    rw [← List.count_append, List.take_append_drop]
  rw [List.take_succ_eq_append_getElem h, List.count_append] at e
  simp at e
  omega
theorem count_take_succ (l : List Nat) (i s : Nat) (h : i < l.length) : (l.take (i + 1)).count s = (l.take i).count s + if l.getD i 0 = s then 1 else 0 := by
  have e0 : l.getD i 0 = l[i] := by rw [List.getD_eq_getElem?_getD, List.getElem?_eq_getElem h]; rfl
  rw [List.take_succ_eq_append_getElem h, List.count_append, e0]
  congr 1
  rw [List.count_singleton]
  simp

section
variable {l : Nat} {ps : List Int}
theorem MayF.wi_le (h : MayF l ps) (s : Nat) : (wi (ps.getD s 0)).toNat ≤ 2 ^ l := by
  rw [← h.count s, ← h.syms_len]
  exact List.count_le_length
theorem MayF.k_w (h : MayF l ps) (i : Nat) (hi : i < 2 ^ l) :
    (wi (ps.getD ((syms l ps).getD i 0) 0)).toNat ≤ kOf ps (syms l ps) i ∧ kOf ps (syms l ps) i < 2 * (wi (ps.getD ((syms l ps).getD i 0) 0)).toNat := by
  have hl := h.syms_len
  have hil : i < (syms l ps).length := by omega
  have e0 : (syms l ps).getD i 0 = (syms l ps)[i] := by rw [List.getD_eq_getElem?_getD, List.getElem?_eq_getElem hil]; rfl
  have h1 := count_take_lt (syms l ps) i hil
  rw [h.count] at h1
  unfold kOf
  rw [e0]
  omega
/-- The bounds of a state's number. -/
theorem MayF.k_bd (h : MayF l ps) (i : Nat) (hi : i < 2 ^ l) : 1 ≤ kOf ps (syms l ps) i ∧ kOf ps (syms l ps) i < 2 * 2 ^ l := by
  have h1 := h.k_w i hi
  have h2 := h.wi_le ((syms l ps).getD i 0)
  omega
end

/-- Bits and Base of a number. -/
theorem log_bd {k l : Nat} (h1 : 1 ≤ k) (h2 : k < 2 * 2 ^ l) : k.log2 ≤ l ∧ 2 ^ l ≤ k * 2 ^ (l - k.log2) ∧ k * 2 ^ (l - k.log2) + 2 ^ (l - k.log2) ≤ 2 * 2 ^ l := by
  have a1 : k.log2 < l + 1 := (Nat.log2_lt (by omega)).2 (by rw [Nat.pow_succ]; omega)
  have a2 : 2 ^ k.log2 ≤ k := Nat.log2_self_le (by omega)
  have a3 : k < 2 ^ (k.log2 + 1) := Nat.lt_log2_self
  refine ⟨by omega, ?_, ?_⟩
  · have := Nat.mul_le_mul_right (2 ^ (l - k.log2)) a2
    rwa [← Nat.pow_add, show k.log2 + (l - k.log2) = l by omega] at this
  · have := Nat.mul_le_mul_right (2 ^ (l - k.log2)) (show k + 1 ≤ 2 ^ (k.log2 + 1) by omega)
    rw [← Nat.pow_add, show k.log2 + 1 + (l - k.log2) = l + 1 by omega, Nat.pow_succ, Nat.add_mul] at this
    omega
/-- A state is reached from the state of number k, if k is the beginning of its own number. -/
theorem reach_iff {k l st : Nat} (h1 : 1 ≤ k) (h2 : k < 2 * 2 ^ l) :
    (k * 2 ^ (l - k.log2) - 2 ^ l ≤ st ∧ st < k * 2 ^ (l - k.log2) - 2 ^ l + 2 ^ (l - k.log2)) ↔ (2 ^ l + st) / 2 ^ (l - k.log2) = k := by
  obtain ⟨b1, b2, b3⟩ := log_bd h1 h2
  have hp : 0 < 2 ^ (l - k.log2) := Nat.two_pow_pos _
  generalize 2 ^ (l - k.log2) = P at *
  generalize 2 ^ l = N at *
  rw [Nat.div_eq_iff hp]
  constructor
  · rintro ⟨c1, c2⟩
    omega
  · rintro ⟨c1, c2⟩
    omega
theorem pre_ex (N w : Nat) : ∀ b, N / 2 ^ b < 2 * w → w ≤ N → ∃ b', b' ≤ b ∧ w ≤ N / 2 ^ b' ∧ N / 2 ^ b' < 2 * w
  | 0, h, h0 => ⟨0, Nat.le_refl _, by simpa using h0, h⟩
  | b + 1, h, h0 => by
    by_cases hw : w ≤ N / 2 ^ (b + 1)
    · exact ⟨b + 1, Nat.le_refl _, hw, h⟩
    · have e : N / 2 ^ (b + 1) = N / 2 ^ b / 2 := by rw [Nat.pow_succ, Nat.div_div_eq_div_mul]
      obtain ⟨b', h1, h2⟩ := pre_ex N w b (by omega) h0
      exact ⟨b', by omega, h2⟩
/-- Of the numbers from w on and below twice w just one is the beginning of the state's own number. -/
theorem pre_one {l st w : Nat} (hs : st < 2 ^ l) (h1 : 1 ≤ w) (h2 : w ≤ 2 ^ l) :
    ∃ k, w ≤ k ∧ k < 2 * w ∧ ∀ k', w ≤ k' → k' < 2 * w → ((2 ^ l + st) / 2 ^ (l - k'.log2) = k' ↔ k' = k) := by
  have e1 : (2 ^ l + st) / 2 ^ l = 1 := by
    rw [Nat.div_eq_iff (Nat.two_pow_pos _)]
    omega
  obtain ⟨b, c1, c2, c3⟩ := pre_ex (2 ^ l + st) w l (by omega) (by omega)
  have hlog : ((2 ^ l + st) / 2 ^ b).log2 = l - b := by
    rw [Nat.log2_eq_iff (by omega)]
    have hb : 0 < 2 ^ b := Nat.two_pow_pos _
    have e2 : 2 ^ l = 2 ^ (l - b) * 2 ^ b := by rw [← Nat.pow_add]; congr 1; omega
    constructor
    · rw [Nat.le_div_iff_mul_le hb, ← e2]; omega
    · rw [Nat.div_lt_iff_lt_mul hb, Nat.pow_succ, Nat.mul_right_comm, ← e2]; omega
  refine ⟨(2 ^ l + st) / 2 ^ b, c2, c3, fun k' d1 d2 => ⟨fun e => ?_, fun e => ?_⟩⟩
  · generalize l - k'.log2 = b' at e
    rcases Nat.lt_trichotomy b b' with q | q | q
    · exfalso
      obtain ⟨m, rfl⟩ : ∃ m, b' = b + 1 + m := ⟨b' - (b + 1), by omega⟩
      rw [Nat.pow_add, Nat.pow_add, ← Nat.div_div_eq_div_mul, ← Nat.div_div_eq_div_mul] at e
      generalize (2 ^ l + st) / 2 ^ b = A at *
      have := Nat.div_le_self (A / 2 ^ 1) (2 ^ m)
      omega
    · subst q
      exact e.symm
    · exfalso
      obtain ⟨m, rfl⟩ : ∃ m, b = b' + 1 + m := ⟨b - (b' + 1), by omega⟩
      rw [Nat.pow_add, Nat.pow_add, ← Nat.div_div_eq_div_mul, ← Nat.div_div_eq_div_mul] at c2
      generalize (2 ^ l + st) / 2 ^ b' = A at *
      have := Nat.div_le_self (A / 2 ^ 1) (2 ^ m)
      omega
  · subst e
    rw [hlog, show l - (l - b) = b by omega]

/-- Is state st reached from the state of this entry, a state of symbol y? -/
def matB (x : En) (y st : Int) : Bool := decide (x.s = y) && decide (x.e ≤ st) && decide (st < x.e + 2 ^ x.b.toNat)
/-- How many of the first m states of symbol y reach st. -/
def thr (es : List En) (y st : Int) (m : Nat) : Nat := ((es.take m).filter fun x => matB x y st).length
theorem thr_succ (es : List En) (y st : Int) (m : Nat) (h : m < es.length) : thr es y st (m + 1) = thr es y st m + if matB es[m] y st = true then 1 else 0 := by
  unfold thr
  rw [List.take_succ_eq_append_getElem h, List.filter_append, List.length_append]
  congr 1
  cases hm : matB es[m] y st <;> simp [hm]
theorem thr_le (es : List En) (y st : Int) (m : Nat) : thr es y st m ≤ m := by
  unfold thr
  refine Nat.le_trans (List.length_filter_le _ _) ?_
  rw [List.length_take]
  omega
section
variable {l : Nat} {ps : List Int}
theorem tab_length (h : MayF l ps) : (tab l ps).length = 2 ^ l := by unfold tab; rw [tabS_length, h.syms_len]
theorem tab_get (_h : MayF l ps) (i : Nat) (hi : i < (tab l ps).length) : (tab l ps)[i] = entN l ((syms l ps).getD i 0) (kOf ps (syms l ps) i) := tabS_get l ps (syms l ps) i hi
theorem mat_iff (h : MayF l ps) (i : Nat) (hi : i < (tab l ps).length) (y st : Nat) :
    matB (tab l ps)[i] y st = true ↔ (syms l ps).getD i 0 = y ∧ (2 ^ l + st) / 2 ^ (l - (kOf ps (syms l ps) i).log2) = kOf ps (syms l ps) i := by
  have hb := h.k_bd i (by rw [tab_length h] at hi; exact hi)
  rw [tab_get h i hi]
  unfold matB entN
  generalize kOf ps (syms l ps) i = k at *
  rw [← reach_iff hb.1 hb.2]
  simp only [Bool.and_eq_true, decide_eq_true_eq]
  have e : ((l - k.log2 : Nat) : Int).toNat = l - k.log2 := by omega
  rw [e]
  have e2 : (2 : Int) ^ (l - k.log2) = ((2 ^ (l - k.log2) : Nat) : Int) := by simp
  rw [e2]
  generalize k * 2 ^ (l - k.log2) - 2 ^ l = B
  omega
/-- Each state is reached from just one state of each symbol that has any. -/
theorem thr_one (h : MayF l ps) (y st : Nat) (hs : st < 2 ^ l) : thr (tab l ps) y st (2 ^ l) = if 1 ≤ (wi (ps.getD y 0)).toNat then 1 else 0 := by
  have hlen := tab_length h
  have hsl := h.syms_len
  split
  · next hw =>
    obtain ⟨k, k1, k2, k3⟩ := pre_one hs hw (h.wi_le y)
    have key : ∀ m, m ≤ 2 ^ l → thr (tab l ps) y st m = if k - (wi (ps.getD y 0)).toNat < ((syms l ps).take m).count y then 1 else 0 := by
      intro m
      induction m with
      | zero => intro _; simp [thr]
      | succ m ih =>
        intro hm
        rw [thr_succ _ _ _ _ (by omega), ih (by omega), count_take_succ _ _ _ (by omega)]
        have hb := h.k_w m (by omega)
        by_cases hy : (syms l ps).getD m 0 = y
        · rw [hy] at hb
          have e : kOf ps (syms l ps) m = (wi (ps.getD y 0)).toNat + ((syms l ps).take m).count y := by unfold kOf; rw [hy]
          have hk := k3 _ hb.1 hb.2
          have hmi := mat_iff h m (by omega) y st
          rw [hk] at hmi
          simp only [hy, true_and] at hmi
          simp only [hmi, hy, if_pos]
          rw [e]
          generalize ((syms l ps).take m).count y = C at *
          by_cases c1 : k - (wi (ps.getD y 0)).toNat < C
          · rw [if_pos c1, if_neg (by omega), if_pos (by omega)]
          · rw [if_neg c1]
            by_cases c2 : (wi (ps.getD y 0)).toNat + C = k
            · rw [if_pos c2, if_pos (by omega)]
            · rw [if_neg c2, if_neg (by omega)]
        · have hmi : ¬ matB (tab l ps)[m] y st = true := fun q => hy ((mat_iff h m (by omega) y st).1 q).1
          rw [if_neg hmi, if_neg hy]
          rfl
    rw [key _ (Nat.le_refl _), List.take_of_length_le (by omega), h.count y, if_pos (by omega)]
  · next hw =>
    have key : ∀ m, m ≤ 2 ^ l → thr (tab l ps) y st m = 0 := by
      intro m
      induction m with
      | zero => intro _; simp [thr]
      | succ m ih =>
        intro hm
        rw [thr_succ _ _ _ _ (by omega), ih (by omega)]
        have hb := h.k_w m (by omega)
        have hmi : ¬ matB (tab l ps)[m] y st = true := fun q => by
          have := ((mat_iff h m (by omega) y st).1 q).1
          rw [this] at hb
          omega
        rw [if_neg hmi]
    exact key _ (Nat.le_refl _)
/-- What an entry's numbers may be. -/
theorem tab_bd (h : MayF l ps) (i : Nat) (hi : i < (tab l ps).length) : ∃ s b e : Nat, (tab l ps)[i] = ⟨s, b, e⟩ ∧ s < 256 ∧ s = (syms l ps).getD i 0 ∧ b ≤ l ∧ e + 2 ^ b ≤ 2 ^ l := by
  have hil : i < 2 ^ l := by rw [tab_length h] at hi; exact hi
  have hb := h.k_bd i hil
  obtain ⟨b1, b2, b3⟩ := log_bd hb.1 hb.2
  refine ⟨(syms l ps).getD i 0, l - (kOf ps (syms l ps) i).log2, kOf ps (syms l ps) i * 2 ^ (l - (kOf ps (syms l ps) i).log2) - 2 ^ l, tab_get h i hi, ?_, rfl, by omega, by omega⟩
  have hsl := h.syms_len
  have hm : (syms l ps).getD i 0 ∈ syms l ps := by
    rw [List.getD_eq_getElem?_getD, List.getElem?_eq_getElem (by omega)]
    exact List.getElem_mem _
  have := h.syms_lt _ hm
  have := h.len
  omega
end
end Go.Proofs.YtpdnmhnnngcbjaaDoor
