
/- Plain lemmas for the fse layer: the walk that lays symbols at states, how many states a symbol has, from which state another one is reached. Nothing of the program is named here. -/
import Derived.Test.YtpdnmhnnngcbjaaDoorNormPlain
namespace Go.Proofs.YtpdnmhnnngcbjaaDoor

/-! The walk. -/
def stp (n : Nat) : Nat := n / 2 + n / 8 + 3
def nx (n a : Nat) : Nat := (a + stp n) % n
def skip (n F : Nat) : Nat → Nat → Nat
  | 0, a => a
  | f + 1, a => if a < F then a else skip n F f (nx n a)
def place {α : Type} (n F : Nat) (st : List α × Nat) (s : α) : List α × Nat := (st.1.set st.2 s, skip n F n (nx n st.2))
def lay {α : Type} (n F : Nat) (L S : List α) : List α × Nat := S.foldl (place n F) (L, 0)
def pt (n q : Nat) : Nat := q * stp n % n
def hit (n F q : Nat) : Bool := decide (pt n q < F)
def hc (n F t : Nat) : Nat := ((List.range t).filter (hit n F)).length

theorem nx_pt (n q : Nat) : nx n (pt n q) = pt n (q + 1) := by
  unfold nx pt
  rw [Nat.mod_add_mod, Nat.succ_mul]
theorem stp_odd {l : Nat} (h : 5 ≤ l) : stp (2 ^ l) % 2 = 1 := by
  obtain ⟨m, rfl⟩ : ∃ m, l = m + 5 := ⟨l - 5, by omega⟩
  unfold stp
  rw [Nat.pow_add]
  generalize 2 ^ m = X
  omega
theorem pt_inj {l a b : Nat} (h : 5 ≤ l) (ha : a < 2 ^ l) (hb : b < 2 ^ l) (e : pt (2 ^ l) a = pt (2 ^ l) b) : a = b := by
  have key : ∀ a b, a ≤ b → b < 2 ^ l → pt (2 ^ l) a = pt (2 ^ l) b → a = b := by
    intro a b hab hb e
    have h1 : (b * stp (2 ^ l) - a * stp (2 ^ l)) % 2 ^ l = 0 := Nat.sub_mod_eq_zero_of_mod_eq e.symm
    rw [← Nat.sub_mul] at h1
    have hco : Nat.Coprime (2 ^ l) (stp (2 ^ l)) := by
      refine Nat.Coprime.pow_left l ?_
      have := stp_odd h
      unfold Nat.Coprime
      rw [Nat.gcd_rec, this]
      rfl
    have h2 := hco.dvd_of_dvd_mul_right (Nat.dvd_of_mod_eq_zero h1)
    rcases Nat.eq_zero_or_pos (b - a) with e0 | e0
    · omega
    · have := Nat.le_of_dvd e0 h2
      omega
  rcases Nat.le_total a b with q | q
  · exact key a b q hb e
  · exact (key b a q ha e.symm).symm
theorem pt_lt {n : Nat} (q : Nat) (h : 0 < n) : pt n q < n := Nat.mod_lt _ h
theorem pt_zero (n : Nat) : pt n 0 = 0 := by simp [pt]
theorem pt_n (n : Nat) : pt n n = 0 := by simp [pt]

theorem nodup_len : ∀ (n : Nat) (l : List Nat), l.Nodup → (∀ x ∈ l, x < n) → l.length ≤ n
  | 0, l, _, h => by
    cases l with
    | nil => simp
    | cons x r => exact absurd (h x (by simp)) (by omega)
  | n + 1, l, hn, h => by
    have h1 := nodup_len n (l.erase n) (hn.erase n) (fun x hx => by
      have := (hn.mem_erase_iff).1 hx
      have := h x this.2
      omega)
    rw [List.length_erase] at h1
    split at h1 <;> omega
theorem perm_range : ∀ (n : Nat) (l : List Nat), l.Nodup → (∀ x ∈ l, x < n) → l.length = n → l.Perm (List.range n)
  | 0, l, _, _, h => by
    have : l = [] := List.eq_nil_of_length_eq_zero h
    subst this
    exact List.Perm.refl _
  | n + 1, l, hn, h, hl => by
    have hmem : n ∈ l := by
      refine Classical.byContradiction fun hm => ?_
      have := nodup_len n l hn (fun x hx => by
        have := h x hx
        have : x ≠ n := fun e => hm (e ▸ hx)
        omega)
      omega
    have h1 := perm_range n (l.erase n) (hn.erase n) (fun x hx => by
      have := (hn.mem_erase_iff).1 hx
      have := h x this.2
      omega) (by rw [List.length_erase, if_pos hmem]; omega)
    rw [List.range_succ]
    exact (List.perm_cons_erase hmem).trans ((h1.cons n).trans (List.perm_append_singleton n (List.range n)).symm)
theorem pts_perm {l : Nat} (h : 5 ≤ l) : ((List.range (2 ^ l)).map (pt (2 ^ l))).Perm (List.range (2 ^ l)) := by
  refine perm_range _ _ ?_ ?_ (by simp)
  · unfold List.Nodup
    rw [List.pairwise_map, List.pairwise_iff_getElem]
    intro i j hi hj hij e
    rw [List.getElem_range, List.getElem_range] at e
    rw [List.length_range] at hi hj
    have := pt_inj h (by omega) (by omega) e
    omega
  · intro x hx
    obtain ⟨q, _, rfl⟩ := List.mem_map.1 hx
    exact pt_lt q (Nat.two_pow_pos _)
theorem filter_range (n F : Nat) (h : F ≤ n) : (List.range n).filter (fun x => decide (x < F)) = List.range F := by
  induction n with
  | zero =>
    obtain rfl : F = 0 := by omega
    rfl
  | succ n ih =>
    rw [List.range_succ, List.filter_append]
    by_cases hF : F ≤ n
    · rw [ih hF]
      simp
      omega
    · obtain rfl : F = n + 1 := by omega
      rw [List.range_succ, List.filter_eq_self.2 (fun x hx => by have := List.mem_range.1 hx; simp; omega)]
      simp
theorem hits_perm {l F : Nat} (h : 5 ≤ l) (hF : F ≤ 2 ^ l) : (((List.range (2 ^ l)).filter (hit (2 ^ l) F)).map (pt (2 ^ l))).Perm (List.range F) := by
  have h1 := (pts_perm h).filter (fun x => decide (x < F))
  rw [filter_range _ _ hF, List.filter_map] at h1
  exact h1
theorem hc_n {l F : Nat} (h : 5 ≤ l) (hF : F ≤ 2 ^ l) : hc (2 ^ l) F (2 ^ l) = F := by
  have := (hits_perm h hF).length_eq
  simpa [hc] using this
theorem hc_succ (n F t : Nat) : hc n F (t + 1) = hc n F t + if hit n F t = true then 1 else 0 := by
  unfold hc
  rw [List.range_succ, List.filter_append, List.length_append]
  congr 1
  cases h : hit n F t <;> simp [h]
theorem hc_mono (n F : Nat) {a b : Nat} (h : a ≤ b) : hc n F a ≤ hc n F b := by
  induction b with
  | zero => obtain rfl : a = 0 := by omega
            exact Nat.le_refl _
  | succ b ih =>
    by_cases e : a = b + 1
    · rw [e]; exact Nat.le_refl _
    · have := ih (by omega)
      rw [hc_succ]
      omega
theorem skip_spec {n F : Nat} (hF : 0 < F) : ∀ (f q : Nat), q ≤ n → n ≤ q + f → ∃ t, q ≤ t ∧ t ≤ n ∧ hit n F t = true ∧ hc n F t = hc n F q ∧ skip n F f (pt n q) = pt n t
  | 0, q, h1, h2 => by
    obtain rfl : q = n := by omega
    exact ⟨q, Nat.le_refl _, Nat.le_refl _, by simp [hit, pt_n, hF], rfl, rfl⟩
  | f + 1, q, h1, h2 => by
    by_cases hq : pt n q < F
    · exact ⟨q, Nat.le_refl _, h1, by simp [hit, hq], rfl, by rw [skip, if_pos hq]⟩
    · have hqn : q ≠ n := by
        rintro rfl
        rw [pt_n] at hq
        exact hq hF
      obtain ⟨t, t1, t2, t3, t4, t5⟩ := skip_spec (n := n) hF f (q + 1) (by omega) (by omega)
      have hh : hit n F q = false := by simp only [hit, decide_eq_false_iff_not]; exact hq
      refine ⟨t, by omega, t2, t3, ?_, ?_⟩
      · rw [t4, hc_succ, hh]; simp
      · rw [skip, if_neg hq, nx_pt, t5]

section
variable {α : Type}
theorem lay_snoc (n F : Nat) (L S : List α) (s : α) : lay n F L (S ++ [s]) = place n F (lay n F L S) s := by
  unfold lay
  rw [List.foldl_append]
  rfl
theorem snocs {P : List α → Prop} (h0 : P []) (h1 : ∀ l a, P l → P (l ++ [a])) : ∀ l, P l := by
  intro l
  have key : ∀ (n : Nat) (l : List α), l.length = n → P l := by
    intro n
    induction n with
    | zero =>
      intro l hl
      have : l = [] := List.eq_nil_of_length_eq_zero hl
      subst this
      exact h0
    | succ n ih =>
      intro l hl
      have hne : l ≠ [] := by rintro rfl; simp at hl
      have e := List.dropLast_concat_getLast hne
      rw [← e]
      exact h1 _ _ (ih _ (by simp; omega))
  exact key _ l rfl
/-- Where the walk stands when S is laid, and what it has laid. -/
theorem lay_inv {l F : Nat} (h : 5 ≤ l) (hF : F ≤ 2 ^ l) (h0 : 0 < F) (L : List α) (hL : L.length = 2 ^ l) : ∀ (S : List α), S.length ≤ F →
    (lay (2 ^ l) F L S).1.length = 2 ^ l ∧ (∀ x, F ≤ x → (lay (2 ^ l) F L S).1[x]? = L[x]?) ∧
    (∀ q, q < 2 ^ l → hit (2 ^ l) F q = true → hc (2 ^ l) F q < S.length → (lay (2 ^ l) F L S).1[pt (2 ^ l) q]? = S[hc (2 ^ l) F q]?) ∧
    ∃ t, t ≤ 2 ^ l ∧ hit (2 ^ l) F t = true ∧ hc (2 ^ l) F t = S.length ∧ (lay (2 ^ l) F L S).2 = pt (2 ^ l) t := by
  have hn := hc_n h hF
  generalize hN : 2 ^ l = n at *
  have hn0 : 0 < n := by rw [← hN]; exact Nat.two_pow_pos _
  intro S
  induction S using snocs with
  | h0 =>
    intro _
    exact ⟨hL, fun _ _ => rfl, fun q _ _ hq => absurd hq (by simp), 0, by omega, by simp [hit, pt_zero, h0], rfl, by rw [pt_zero]; rfl⟩
  | h1 S s ih =>
    intro hS
    rw [List.length_append, List.length_singleton] at hS
    obtain ⟨i1, i2, i3, t, t1, t2, t3, t4⟩ := ih (by omega)
    rw [lay_snoc]
    generalize lay n F L S = st at *
    obtain ⟨M, a⟩ := st
    simp only [place] at *
    subst t4
    have htn : t < n := by
      rcases Nat.lt_or_ge t n with q | q
      · exact q
      · obtain rfl : t = n := by omega
        omega
    have hF2 : pt n t < F := by simpa [hit] using t2
    have hFn : F ≤ n := hF
    refine ⟨by simp [i1], ?_, ?_, ?_⟩
    · intro x hx
      rw [List.getElem?_set_ne (by omega)]
      exact i2 x hx
    · intro q hq hq1 hq2
      rw [List.length_append, List.length_singleton] at hq2
      by_cases e : q = t
      · subst e
        rw [List.getElem?_set_self (by omega), t3]
        simp
      · have hqt : q < t := by
          rcases Nat.lt_or_ge q t with y | y
          · exact y
          · have h5 : hc n F (t + 1) = hc n F t + 1 := by rw [hc_succ, t2]; rfl
            have := hc_mono n F (show t + 1 ≤ q by omega)
            omega
        have h5 : hc n F (q + 1) = hc n F q + 1 := by rw [hc_succ, hq1]; rfl
        have h6 := hc_mono n F (show q + 1 ≤ t by omega)
        have hne : pt n t ≠ pt n q := by
          intro e2
          subst hN
          exact e (pt_inj h hq htn e2.symm)
        rw [List.getElem?_set_ne hne, i3 q hq hq1 (by omega), List.getElem?_append_left (by omega)]
    · rw [nx_pt]
      obtain ⟨t', u1, u2, u3, u4, u5⟩ := skip_spec (n := n) h0 n (t + 1) (by omega) (by omega)
      refine ⟨t', u2, u3, ?_, u5⟩
      rw [u4, hc_succ, t2, t3]
      simp
theorem lay_below {l F : Nat} (h : 5 ≤ l) (hF : F ≤ 2 ^ l) (h0 : 0 < F) (L : List α) (hL : L.length = 2 ^ l) (S : List α) (hS : S.length ≤ F) : (lay (2 ^ l) F L S).2 < F := by
  obtain ⟨_, _, _, t, _, t2, _, t4⟩ := lay_inv h hF h0 L hL S hS
  rw [t4]
  simpa [hit] using t2
theorem hits_take (n F : Nat) (S : List α) : ∀ t, hc n F t ≤ S.length → ((List.range t).filter (hit n F)).map (fun q => S[hc n F q]?) = (S.take (hc n F t)).map some
  | 0, _ => by simp [hc]
  | t + 1, h => by
    rw [hc_succ] at h ⊢
    rw [List.range_succ, List.filter_append, List.map_append, hits_take n F S t (by omega)]
    cases hh : hit n F t with
    | false => simp [hh]
    | true =>
      rw [hh] at h
      simp only [if_pos] at h ⊢
      have hlt : hc n F t < S.length := by omega
      rw [List.take_succ_eq_append_getElem hlt, List.map_append]
      simp [hh, hlt]
/-- All free states together have just the symbols that are laid. -/
theorem lay_perm {l F : Nat} (h : 5 ≤ l) (hF : F ≤ 2 ^ l) (L : List α) (hL : L.length = 2 ^ l) (S : List α) (hS : S.length = F) : ((lay (2 ^ l) F L S).1.take F).Perm S := by
  rcases Nat.eq_zero_or_pos F with e | h0
  · subst e
    have : S = [] := List.eq_nil_of_length_eq_zero hS
    subst this
    simp
  · obtain ⟨i1, i2, i3, _⟩ := lay_inv h hF h0 L hL S (by omega)
    have hp := (hits_perm h hF).map (fun x => (lay (2 ^ l) F L S).1[x]?)
    rw [List.map_map] at hp
    have e1 : List.map ((fun x => (lay (2 ^ l) F L S).1[x]?) ∘ pt (2 ^ l)) (List.filter (hit (2 ^ l) F) (List.range (2 ^ l))) = ((List.range (2 ^ l)).filter (hit (2 ^ l) F)).map (fun q => S[hc (2 ^ l) F q]?) := by
      refine List.map_congr_left fun q hq => ?_
      rw [List.mem_filter, List.mem_range] at hq
      have h5 : hc (2 ^ l) F (q + 1) = hc (2 ^ l) F q + 1 := by rw [hc_succ, hq.2]; rfl
      have h6 := hc_mono (2 ^ l) F (show q + 1 ≤ 2 ^ l by omega)
      have h7 := hc_n h hF
      exact i3 q hq.1 hq.2 (by omega)
    have h7 := hc_n h hF
    rw [e1, hits_take _ _ _ _ (by omega), h7, List.take_of_length_le (by omega)] at hp
    have e2 : (List.range F).map (fun x => (lay (2 ^ l) F L S).1[x]?) = ((lay (2 ^ l) F L S).1.take F).map some := by
      apply List.ext_getElem?
      intro i
      rw [List.getElem?_map, List.getElem?_map]
      by_cases hi : i < F
      · rw [List.getElem?_range hi, List.getElem?_take, if_pos hi]
        simp only [Option.map_some]
        rw [List.getElem?_eq_getElem (by omega)]
        rfl
      · rw [List.getElem?_eq_none (by simp; omega), List.getElem?_eq_none (by simp; omega)]
        rfl
    rw [e2] at hp
    have := (hp.symm.filterMap id)
    rw [List.filterMap_map, List.filterMap_map] at this
    have e3 : ∀ l : List α, List.filterMap (id ∘ some) l = l := fun l => by simp
    rw [e3, e3] at this
    exact this
theorem lay_len {l F : Nat} (h : 5 ≤ l) (hF : F ≤ 2 ^ l) (L : List α) (hL : L.length = 2 ^ l) (S : List α) (hS : S.length ≤ F) : (lay (2 ^ l) F L S).1.length = 2 ^ l := by
  rcases Nat.eq_zero_or_pos F with e | h0
  · subst e
    have : S = [] := List.eq_nil_of_length_eq_zero (by omega)
    subst this
    exact hL
  · exact (lay_inv h hF h0 L hL S hS).1
theorem lay_drop {l F : Nat} (h : 5 ≤ l) (hF : F ≤ 2 ^ l) (L : List α) (hL : L.length = 2 ^ l) (S : List α) (hS : S.length ≤ F) : (lay (2 ^ l) F L S).1.drop F = L.drop F := by
  rcases Nat.eq_zero_or_pos F with e | h0
  · subst e
    have : S = [] := List.eq_nil_of_length_eq_zero (by omega)
    subst this
    rfl
  · have i2 := (lay_inv h hF h0 L hL S hS).2.1
    apply List.ext_getElem?
    intro i
    rw [List.getElem?_drop, List.getElem?_drop]
    exact i2 _ (by omega)
/-- What is laid doesn't hang on what stood there, nor on how symbols are spelled. -/
theorem lay_map {β : Type} {l F : Nat} (h : 5 ≤ l) (hF : F ≤ 2 ^ l) (f : α → β) (L : List α) (L' : List β) (hL : L.length = 2 ^ l) (hL' : L'.length = 2 ^ l) (hd : L'.drop F = (L.drop F).map f) (S : List α) (hS : S.length = F) :
    (lay (2 ^ l) F L' (S.map f)).1 = (lay (2 ^ l) F L S).1.map f := by
  rcases Nat.eq_zero_or_pos F with e | h0
  · subst e
    have : S = [] := List.eq_nil_of_length_eq_zero hS
    subst this
    simpa [lay] using hd
  · obtain ⟨i1, i2, i3, _⟩ := lay_inv h hF h0 L hL S (by omega)
    obtain ⟨j1, j2, j3, _⟩ := lay_inv h hF h0 L' hL' (S.map f) (by simp; omega)
    apply List.ext_getElem?
    intro x
    rw [List.getElem?_map]
    by_cases hx : F ≤ x
    · rw [i2 x hx, j2 x hx]
      have := congrArg (fun (z : List β) => z[x - F]?) hd
      simp only [List.getElem?_drop, List.getElem?_map, show F + (x - F) = x by omega] at this
      exact this
    · have hm : x ∈ List.map (pt (2 ^ l)) (List.filter (hit (2 ^ l) F) (List.range (2 ^ l))) := (hits_perm h hF).mem_iff.2 (List.mem_range.2 (by omega))
      obtain ⟨q, hq, rfl⟩ := List.mem_map.1 hm
      rw [List.mem_filter, List.mem_range] at hq
      have h5 : hc (2 ^ l) F (q + 1) = hc (2 ^ l) F q + 1 := by rw [hc_succ, hq.2]; rfl
      have h6 := hc_mono (2 ^ l) F (show q + 1 ≤ 2 ^ l by omega)
      have h7 := hc_n h hF
      rw [i3 q hq.1 hq.2 (by omega), j3 q hq.1 hq.2 (by simp; omega), List.getElem?_map]
end
end Go.Proofs.YtpdnmhnnngcbjaaDoor
