/- The contracts of FsePlain, FseTab, FseSmall, FseEntry, FseRare, FseOthers, FseEntries, FseBuild, FseFirst, FseAwake, FseRefP, FseRead, FseChain, FseRefRead, FseRef, in one text. -/
import Derived.Test.YtlidnialggpcpaaGreatDoorPileC
import Derived.Test.YtlidnialggpcpaaGreatDoorPileA
import Derived.RegionTactic
import Derived.ChangeAlike
import Derived.Deep.LoopGhost
import Derived.Deep.RegionWith
import Derived.Deep.QuietTactic
import Derived.BigQuiet
import Derived.Test.YtlidnialggpcpaaGreatDoorPileB
import Derived.Deep.RegionHeld3
/- Plain lemmas for the fse layer: the walk that lays symbols at states, how many states a symbol has, from which state another one is reached. Nothing of the program is named here. -/
namespace Go.Proofs.YtlidnialggpcpaaGreatDoor

/-! The walk. -/
def stp (n : Nat) : Nat := n / 2 + n / 8 + 3
def nx (n a : Nat) : Nat := (a + stp n) % n
def skip (n F : Nat) : Nat → Nat → Nat
  | 0, a => a
  | f + 1, a => if a < F then a else skip n F f (nx n a)
def place {α : Type} (n F : Nat) (st : List α × Nat) (s : α) : List α × Nat := (st.1.set st.2 s, skip n F n (nx n st.2))
def lay {α : Type} (n F : Nat) (L S : List α) : List α × Nat := S.foldl (place n F) (L, 0)
def pt (n q : Nat) : Nat := q * stp n % n
def hit (n F q : Nat) : Bool := decide (pt n q < F)
def hc (n F t : Nat) : Nat := ((List.range t).filter (hit n F)).length

theorem nx_pt (n q : Nat) : nx n (pt n q) = pt n (q + 1) := by
  unfold nx pt
  rw [Nat.mod_add_mod, Nat.succ_mul]
theorem stp_odd {l : Nat} (h : 5 ≤ l) : stp (2 ^ l) % 2 = 1 := by
  obtain ⟨m, rfl⟩ : ∃ m, l = m + 5 := ⟨l - 5, by omega⟩
  unfold stp
  rw [Nat.pow_add]
  generalize 2 ^ m = X
  omega
theorem pt_inj {l a b : Nat} (h : 5 ≤ l) (ha : a < 2 ^ l) (hb : b < 2 ^ l) (e : pt (2 ^ l) a = pt (2 ^ l) b) : a = b := by
  have key : ∀ a b, a ≤ b → b < 2 ^ l → pt (2 ^ l) a = pt (2 ^ l) b → a = b := by
    intro a b hab hb e
    have h1 : (b * stp (2 ^ l) - a * stp (2 ^ l)) % 2 ^ l = 0 := Nat.sub_mod_eq_zero_of_mod_eq e.symm
    rw [← Nat.sub_mul] at h1
    have hco : Nat.Coprime (2 ^ l) (stp (2 ^ l)) := by
      refine Nat.Coprime.pow_left l ?_
      have := stp_odd h
      unfold Nat.Coprime
      rw [Nat.gcd_rec, this]
      rfl
    have h2 := hco.dvd_of_dvd_mul_right (Nat.dvd_of_mod_eq_zero h1)
    rcases Nat.eq_zero_or_pos (b - a) with e0 | e0
    · omega
    · have := Nat.le_of_dvd e0 h2
      omega
  rcases Nat.le_total a b with q | q
  · exact key a b q hb e
  · exact (key b a q ha e.symm).symm
theorem pt_lt {n : Nat} (q : Nat) (h : 0 < n) : pt n q < n := Nat.mod_lt _ h
theorem pt_zero (n : Nat) : pt n 0 = 0 := by simp [pt]
theorem pt_n (n : Nat) : pt n n = 0 := by simp [pt]

theorem nodup_len : ∀ (n : Nat) (l : List Nat), l.Nodup → (∀ x ∈ l, x < n) → l.length ≤ n
  | 0, l, _, h => by
    cases l with
    | nil => simp
    | cons x r => exact absurd (h x (by simp)) (by omega)
  | n + 1, l, hn, h => by
    have h1 := nodup_len n (l.erase n) (hn.erase n) (fun x hx => by
      have := (hn.mem_erase_iff).1 hx
      have := h x this.2
      omega)
    rw [List.length_erase] at h1
    split at h1 <;> omega
theorem perm_range : ∀ (n : Nat) (l : List Nat), l.Nodup → (∀ x ∈ l, x < n) → l.length = n → l.Perm (List.range n)
  | 0, l, _, _, h => by
    have : l = [] := List.eq_nil_of_length_eq_zero h
    subst this
    exact List.Perm.refl _
  | n + 1, l, hn, h, hl => by
    have hmem : n ∈ l := by
      refine Classical.byContradiction fun hm => ?_
      have := nodup_len n l hn (fun x hx => by
        have := h x hx
        have : x ≠ n := fun e => hm (e ▸ hx)
        omega)
      omega
    have h1 := perm_range n (l.erase n) (hn.erase n) (fun x hx => by
      have := (hn.mem_erase_iff).1 hx
      have := h x this.2
      omega) (by rw [List.length_erase, if_pos hmem]; omega)
    rw [List.range_succ]
    exact (List.perm_cons_erase hmem).trans ((h1.cons n).trans (List.perm_append_singleton n (List.range n)).symm)
theorem pts_perm {l : Nat} (h : 5 ≤ l) : ((List.range (2 ^ l)).map (pt (2 ^ l))).Perm (List.range (2 ^ l)) := by
  refine perm_range _ _ ?_ ?_ (by simp)
  · unfold List.Nodup
    rw [List.pairwise_map, List.pairwise_iff_getElem]
    intro i j hi hj hij e
    rw [List.getElem_range, List.getElem_range] at e
    rw [List.length_range] at hi hj
    have := pt_inj h (by omega) (by omega) e
    omega
  · intro x hx
    obtain ⟨q, _, rfl⟩ := List.mem_map.1 hx
    exact pt_lt q (Nat.two_pow_pos _)
theorem filter_range (n F : Nat) (h : F ≤ n) : (List.range n).filter (fun x => decide (x < F)) = List.range F := by
  induction n with
  | zero =>
    obtain rfl : F = 0 := by omega
    rfl
  | succ n ih =>
    rw [List.range_succ, List.filter_append]
    by_cases hF : F ≤ n
    · rw [ih hF]
      simp
      omega
    · obtain rfl : F = n + 1 := by omega
      rw [List.range_succ, List.filter_eq_self.2 (fun x hx => by have := List.mem_range.1 hx; simp; omega)]
      simp
theorem hits_perm {l F : Nat} (h : 5 ≤ l) (hF : F ≤ 2 ^ l) : (((List.range (2 ^ l)).filter (hit (2 ^ l) F)).map (pt (2 ^ l))).Perm (List.range F) := by
  have h1 := (pts_perm h).filter (fun x => decide (x < F))
  rw [filter_range _ _ hF, List.filter_map] at h1
  exact h1
theorem hc_n {l F : Nat} (h : 5 ≤ l) (hF : F ≤ 2 ^ l) : hc (2 ^ l) F (2 ^ l) = F := by
  have := (hits_perm h hF).length_eq
  simpa [hc] using this
theorem hc_succ (n F t : Nat) : hc n F (t + 1) = hc n F t + if hit n F t = true then 1 else 0 := by
  unfold hc
  rw [List.range_succ, List.filter_append, List.length_append]
  congr 1
  cases h : hit n F t <;> simp [h]
theorem hc_mono (n F : Nat) {a b : Nat} (h : a ≤ b) : hc n F a ≤ hc n F b := by
  induction b with
  | zero => obtain rfl : a = 0 := by omega
            exact Nat.le_refl _
  | succ b ih =>
    by_cases e : a = b + 1
    · rw [e]; exact Nat.le_refl _
    · have := ih (by omega)
      rw [hc_succ]
      omega
theorem skip_spec {n F : Nat} (hF : 0 < F) : ∀ (f q : Nat), q ≤ n → n ≤ q + f → ∃ t, q ≤ t ∧ t ≤ n ∧ hit n F t = true ∧ hc n F t = hc n F q ∧ skip n F f (pt n q) = pt n t
  | 0, q, h1, h2 => by
    obtain rfl : q = n := by omega
    exact ⟨q, Nat.le_refl _, Nat.le_refl _, by simp [hit, pt_n, hF], rfl, rfl⟩
  | f + 1, q, h1, h2 => by
    by_cases hq : pt n q < F
    · exact ⟨q, Nat.le_refl _, h1, by simp [hit, hq], rfl, by rw [skip, if_pos hq]⟩
    · have hqn : q ≠ n := by
        rintro rfl
        rw [pt_n] at hq
        exact hq hF
      obtain ⟨t, t1, t2, t3, t4, t5⟩ := skip_spec (n := n) hF f (q + 1) (by omega) (by omega)
      have hh : hit n F q = false := by simp only [hit, decide_eq_false_iff_not]; exact hq
      refine ⟨t, by omega, t2, t3, ?_, ?_⟩
      · rw [t4, hc_succ, hh]; simp
      · rw [skip, if_neg hq, nx_pt, t5]

section
variable {α : Type}
theorem lay_snoc (n F : Nat) (L S : List α) (s : α) : lay n F L (S ++ [s]) = place n F (lay n F L S) s := by
  unfold lay
  rw [List.foldl_append]
  rfl
theorem snocs {P : List α → Prop} (h0 : P []) (h1 : ∀ l a, P l → P (l ++ [a])) : ∀ l, P l := by
  intro l
  have key : ∀ (n : Nat) (l : List α), l.length = n → P l := by
    intro n
    induction n with
    | zero =>
      intro l hl
      have : l = [] := List.eq_nil_of_length_eq_zero hl
      subst this
      exact h0
    | succ n ih =>
      intro l hl
      have hne : l ≠ [] := by rintro rfl; simp at hl
      have e := List.dropLast_concat_getLast hne
      rw [← e]
      exact h1 _ _ (ih _ (by simp; omega))
  exact key _ l rfl
/-- Where the walk stands when S is laid, and what it has laid. -/
theorem lay_inv {l F : Nat} (h : 5 ≤ l) (hF : F ≤ 2 ^ l) (h0 : 0 < F) (L : List α) (hL : L.length = 2 ^ l) : ∀ (S : List α), S.length ≤ F →
    (lay (2 ^ l) F L S).1.length = 2 ^ l ∧ (∀ x, F ≤ x → (lay (2 ^ l) F L S).1[x]? = L[x]?) ∧
    (∀ q, q < 2 ^ l → hit (2 ^ l) F q = true → hc (2 ^ l) F q < S.length → (lay (2 ^ l) F L S).1[pt (2 ^ l) q]? = S[hc (2 ^ l) F q]?) ∧
    ∃ t, t ≤ 2 ^ l ∧ hit (2 ^ l) F t = true ∧ hc (2 ^ l) F t = S.length ∧ (lay (2 ^ l) F L S).2 = pt (2 ^ l) t := by
  have hn := hc_n h hF
  generalize hN : 2 ^ l = n at *
  have hn0 : 0 < n := by rw [← hN]; exact Nat.two_pow_pos _
  intro S
  induction S using snocs with
  | h0 =>
    intro _
    exact ⟨hL, fun _ _ => rfl, fun q _ _ hq => absurd hq (by simp), 0, by omega, by simp [hit, pt_zero, h0], rfl, by rw [pt_zero]; rfl⟩
  | h1 S s ih =>
    intro hS
    rw [List.length_append, List.length_singleton] at hS
    obtain ⟨i1, i2, i3, t, t1, t2, t3, t4⟩ := ih (by omega)
    rw [lay_snoc]
    generalize lay n F L S = st at *
    obtain ⟨M, a⟩ := st
    simp only [place] at *
    subst t4
    have htn : t < n := by
      rcases Nat.lt_or_ge t n with q | q
      · exact q
      · obtain rfl : t = n := by omega
        omega
    have hF2 : pt n t < F := by simpa [hit] using t2
    have hFn : F ≤ n := hF
    refine ⟨by simp [i1], ?_, ?_, ?_⟩
    · intro x hx
      rw [List.getElem?_set_ne (by omega)]
      exact i2 x hx
    · intro q hq hq1 hq2
      rw [List.length_append, List.length_singleton] at hq2
      by_cases e : q = t
      · subst e
        rw [List.getElem?_set_self (by omega), t3]
        simp
      · have hqt : q < t := by
          rcases Nat.lt_or_ge q t with y | y
          · exact y
          · have h5 : hc n F (t + 1) = hc n F t + 1 := by rw [hc_succ, t2]; rfl
            have := hc_mono n F (show t + 1 ≤ q by omega)
            omega
        have h5 : hc n F (q + 1) = hc n F q + 1 := by rw [hc_succ, hq1]; rfl
        have h6 := hc_mono n F (show q + 1 ≤ t by omega)
        have hne : pt n t ≠ pt n q := by
          intro e2
          subst hN
          exact e (pt_inj h hq htn e2.symm)
        rw [List.getElem?_set_ne hne, i3 q hq hq1 (by omega), List.getElem?_append_left (by omega)]
    · rw [nx_pt]
      obtain ⟨t', u1, u2, u3, u4, u5⟩ := skip_spec (n := n) h0 n (t + 1) (by omega) (by omega)
      refine ⟨t', u2, u3, ?_, u5⟩
      rw [u4, hc_succ, t2, t3]
      simp
theorem lay_below {l F : Nat} (h : 5 ≤ l) (hF : F ≤ 2 ^ l) (h0 : 0 < F) (L : List α) (hL : L.length = 2 ^ l) (S : List α) (hS : S.length ≤ F) : (lay (2 ^ l) F L S).2 < F := by
  obtain ⟨_, _, _, t, _, t2, _, t4⟩ := lay_inv h hF h0 L hL S hS
  rw [t4]
  simpa [hit] using t2
theorem hits_take (n F : Nat) (S : List α) : ∀ t, hc n F t ≤ S.length → ((List.range t).filter (hit n F)).map (fun q => S[hc n F q]?) = (S.take (hc n F t)).map some
  | 0, _ => by simp [hc]
  | t + 1, h => by
    rw [hc_succ] at h ⊢
    rw [List.range_succ, List.filter_append, List.map_append, hits_take n F S t (by omega)]
    cases hh : hit n F t with
    | false => simp [hh]
    | true =>
      rw [hh] at h
      simp only [if_pos] at h ⊢
      have hlt : hc n F t < S.length := by omega
      rw [List.take_succ_eq_append_getElem hlt, List.map_append]
      simp [hh, hlt]
/-- All free states together have just the symbols that are laid. -/
theorem lay_perm {l F : Nat} (h : 5 ≤ l) (hF : F ≤ 2 ^ l) (L : List α) (hL : L.length = 2 ^ l) (S : List α) (hS : S.length = F) : ((lay (2 ^ l) F L S).1.take F).Perm S := by
  rcases Nat.eq_zero_or_pos F with e | h0
  · subst e
    have : S = [] := List.eq_nil_of_length_eq_zero hS
    subst this
    simp
  · obtain ⟨i1, i2, i3, _⟩ := lay_inv h hF h0 L hL S (by omega)
    have hp := (hits_perm h hF).map (fun x => (lay (2 ^ l) F L S).1[x]?)
    rw [List.map_map] at hp
    have e1 : List.map ((fun x => (lay (2 ^ l) F L S).1[x]?) ∘ pt (2 ^ l)) (List.filter (hit (2 ^ l) F) (List.range (2 ^ l))) = ((List.range (2 ^ l)).filter (hit (2 ^ l) F)).map (fun q => S[hc (2 ^ l) F q]?) := by
      refine List.map_congr_left fun q hq => ?_
      rw [List.mem_filter, List.mem_range] at hq
      have h5 : hc (2 ^ l) F (q + 1) = hc (2 ^ l) F q + 1 := by rw [hc_succ, hq.2]; rfl
      have h6 := hc_mono (2 ^ l) F (show q + 1 ≤ 2 ^ l by omega)
      have h7 := hc_n h hF
      exact i3 q hq.1 hq.2 (by omega)
    have h7 := hc_n h hF
    rw [e1, hits_take _ _ _ _ (by omega), h7, List.take_of_length_le (by omega)] at hp
    have e2 : (List.range F).map (fun x => (lay (2 ^ l) F L S).1[x]?) = ((lay (2 ^ l) F L S).1.take F).map some := by
      apply List.ext_getElem?
      intro i
      rw [List.getElem?_map, List.getElem?_map]
      by_cases hi : i < F
      · rw [List.getElem?_range hi, List.getElem?_take, if_pos hi]
        simp only [Option.map_some]
        rw [List.getElem?_eq_getElem (by omega)]
        rfl
      · rw [List.getElem?_eq_none (by simp; omega), List.getElem?_eq_none (by simp; omega)]
        rfl
    rw [e2] at hp
    have := (hp.symm.filterMap id)
    rw [List.filterMap_map, List.filterMap_map] at this
    have e3 : ∀ l : List α, List.filterMap (id ∘ some) l = l := fun l => by simp
    rw [e3, e3] at this
    exact this
theorem lay_len {l F : Nat} (h : 5 ≤ l) (hF : F ≤ 2 ^ l) (L : List α) (hL : L.length = 2 ^ l) (S : List α) (hS : S.length ≤ F) : (lay (2 ^ l) F L S).1.length = 2 ^ l := by
  rcases Nat.eq_zero_or_pos F with e | h0
  · subst e
    have : S = [] := List.eq_nil_of_length_eq_zero (by omega)
    subst this
    exact hL
  · exact (lay_inv h hF h0 L hL S hS).1
theorem lay_drop {l F : Nat} (h : 5 ≤ l) (hF : F ≤ 2 ^ l) (L : List α) (hL : L.length = 2 ^ l) (S : List α) (hS : S.length ≤ F) : (lay (2 ^ l) F L S).1.drop F = L.drop F := by
  rcases Nat.eq_zero_or_pos F with e | h0
  · subst e
    have : S = [] := List.eq_nil_of_length_eq_zero (by omega)
    subst this
    rfl
  · have i2 := (lay_inv h hF h0 L hL S hS).2.1
    apply List.ext_getElem?
    intro i
    rw [List.getElem?_drop, List.getElem?_drop]
    exact i2 _ (by omega)
/-- What is laid doesn't hang on what stood there, nor on how symbols are spelled. -/
theorem lay_map {β : Type} {l F : Nat} (h : 5 ≤ l) (hF : F ≤ 2 ^ l) (f : α → β) (L : List α) (L' : List β) (hL : L.length = 2 ^ l) (hL' : L'.length = 2 ^ l) (hd : L'.drop F = (L.drop F).map f) (S : List α) (hS : S.length = F) :
    (lay (2 ^ l) F L' (S.map f)).1 = (lay (2 ^ l) F L S).1.map f := by
  rcases Nat.eq_zero_or_pos F with e | h0
  · subst e
    have : S = [] := List.eq_nil_of_length_eq_zero hS
    subst this
    simpa [lay] using hd
  · obtain ⟨i1, i2, i3, _⟩ := lay_inv h hF h0 L hL S (by omega)
    obtain ⟨j1, j2, j3, _⟩ := lay_inv h hF h0 L' hL' (S.map f) (by simp; omega)
    apply List.ext_getElem?
    intro x
    rw [List.getElem?_map]
    by_cases hx : F ≤ x
    · rw [i2 x hx, j2 x hx]
      have := congrArg (fun (z : List β) => z[x - F]?) hd
      simp only [List.getElem?_drop, List.getElem?_map, show F + (x - F) = x by omega] at this
      exact this
    · have hm : x ∈ List.map (pt (2 ^ l)) (List.filter (hit (2 ^ l) F) (List.range (2 ^ l))) := (hits_perm h hF).mem_iff.2 (List.mem_range.2 (by omega))
      obtain ⟨q, hq, rfl⟩ := List.mem_map.1 hm
      rw [List.mem_filter, List.mem_range] at hq
      have h5 : hc (2 ^ l) F (q + 1) = hc (2 ^ l) F q + 1 := by rw [hc_succ, hq.2]; rfl
      have h6 := hc_mono (2 ^ l) F (show q + 1 ≤ 2 ^ l by omega)
      have h7 := hc_n h hF
      rw [i3 q hq.1 hq.2 (by omega), j3 q hq.1 hq.2 (by simp; omega), List.getElem?_map]
end
end Go.Proofs.YtlidnialggpcpaaGreatDoor

/- Plain lemmas for the fse layer: the table of counts, how many states each symbol has, and that each state is reached from just one state of each symbol. Nothing of the program is named here. -/
namespace Go.Proofs.YtlidnialggpcpaaGreatDoor

/-- The symbols of part -1 among the first k, the highest first; the others, each as often as its part says. -/
def rr (ps : List Int) : Nat → List Nat
  | 0 => []
  | k + 1 => if ps.getD k 0 = -1 then k :: rr ps k else rr ps k
def ot (ps : List Int) : Nat → List Nat
  | 0 => []
  | k + 1 => ot ps k ++ List.replicate (ps.getD k 0).toNat k
def fe (l : Nat) (ps : List Int) : Nat := 2 ^ l - (rr ps ps.length).length
/-- The symbols of all states. -/
def syms (l : Nat) (ps : List Int) : List Nat := (lay (2 ^ l) (fe l ps) (List.replicate (fe l ps) 0 ++ rr ps ps.length) (ot ps ps.length)).1

theorem rr_lt (ps : List Int) : ∀ k, ∀ x ∈ rr ps k, x < k
  | 0, x, h => by simp [rr] at h
  | k + 1, x, h => by
    rw [rr] at h
    split at h
    · rw [List.mem_cons] at h
      rcases h with rfl | h
      · omega
      · have := rr_lt ps k x h; omega
    · have := rr_lt ps k x h; omega
theorem ot_lt (ps : List Int) : ∀ k, ∀ x ∈ ot ps k, x < k
  | 0, x, h => by simp [ot] at h
  | k + 1, x, h => by
    rw [ot, List.mem_append] at h
    rcases h with h | h
    · have := ot_lt ps k x h; omega
    · have := (List.mem_replicate.1 h).2; omega
theorem rr_ot (ps : List Int) (hp : ∀ p ∈ ps, -1 ≤ p) : ∀ k, k ≤ ps.length → ((ot ps k).length : Int) + (rr ps k).length = tot (ps.take k)
  | 0, _ => by simp [rr, ot, tot]
  | k + 1, h => by
    have hk : k < ps.length := by omega
    have e : ps.getD k 0 = ps[k] := by rw [List.getD_eq_getElem?_getD, List.getElem?_eq_getElem hk]; rfl
    have ih := rr_ot ps hp k (by omega)
    have h1 := hp ps[k] (List.getElem_mem hk)
    rw [List.take_succ_eq_append_getElem hk, tot_append, tot_cons, rr, ot, e, List.length_append, List.length_replicate]
    have h2 : tot [] = 0 := rfl
    rw [h2]
    unfold wi
    split
    · rw [List.length_cons]
      omega
    · omega
theorem rr_count (ps : List Int) (s : Nat) : ∀ k, (rr ps k).count s = if s < k ∧ ps.getD s 0 = -1 then 1 else 0
  | 0 => by simp [rr]
  | k + 1 => by
    rw [rr]
    have ih := rr_count ps s k
    by_cases hk : s = k
    · subst hk
      split
      · next h =>
        rw [List.count_cons_self, ih, if_neg (by omega), if_pos ⟨by omega, h⟩]
      · next h =>
        rw [ih, if_neg (by omega), if_neg (fun q => h q.2)]
    · have e : (s < k + 1 ∧ ps.getD s 0 = -1) ↔ (s < k ∧ ps.getD s 0 = -1) := by constructor <;> (rintro ⟨a, b⟩; exact ⟨by omega, b⟩)
      simp only [e]
      split
      · rw [List.count_cons_of_ne (by omega), ih]
      · exact ih
theorem ot_count (ps : List Int) (s : Nat) : ∀ k, (ot ps k).count s = if s < k then (ps.getD s 0).toNat else 0
  | 0 => by simp [ot]
  | k + 1 => by
    rw [ot, List.count_append, ot_count ps s k, List.count_replicate]
    by_cases hk : s = k
    · subst hk
      simp
    · have e : (s < k + 1) ↔ (s < k) := by omega
      simp only [e]
      have : (k == s) = false := by simp; omega
      simp [this]
/-- What stands at the top: the first symbol of part -1 at the very top. -/
theorem rr_top (ps : List Int) (s : Nat) (hs : ps.getD s 0 = -1) : ∀ k, s < k → ∃ X, rr ps k = X ++ s :: rr ps s
  | 0, h => by omega
  | k + 1, h => by
    rw [rr]
    by_cases hk : s = k
    · subst hk
      rw [if_pos hs]
      exact ⟨[], rfl⟩
    · obtain ⟨X, hX⟩ := rr_top ps s hs k (by omega)
      split
      · exact ⟨k :: X, by rw [hX]; rfl⟩
      · exact ⟨X, hX⟩
theorem getD_out (ps : List Int) (s : Nat) (h : ps.length ≤ s) : ps.getD s 0 = 0 := by
  rw [List.getD_eq_getElem?_getD, List.getElem?_eq_none h]; rfl

section
variable {l : Nat} {ps : List Int}
/-- What is known of counts that may be. -/
structure MayF (l : Nat) (ps : List Int) : Prop where
  l5 : 5 ≤ l
  l15 : l ≤ 15
  len : ps.length ≤ 256
  ge : ∀ p ∈ ps, -1 ≤ p
  sum : (ot ps ps.length).length + (rr ps ps.length).length = 2 ^ l
theorem mayF (h : mayB (l : Int) ps = true) : MayF l ps := by
  obtain ⟨h1, h2, _, h4, _, h6, h7⟩ := mayB_iff.1 h
  have := rr_ot ps h6 ps.length (Nat.le_refl _)
  rw [List.take_length, h7, show ((l : Nat) : Int).toNat = l by omega] at this
  refine ⟨by omega, by omega, h4, h6, ?_⟩
  have e : ((2 ^ l : Nat) : Int) = (2 : Int) ^ l := by simp
  omega
theorem MayF.getD (h : MayF l ps) (s : Nat) : -1 ≤ ps.getD s 0 := by
  rcases Nat.lt_or_ge s ps.length with q | q
  · rw [List.getD_eq_getElem?_getD, List.getElem?_eq_getElem q]
    exact h.ge _ (List.getElem_mem q)
  · rw [getD_out ps s q]; omega
theorem MayF.fe_eq (h : MayF l ps) : (ot ps ps.length).length = fe l ps := by
  have := h.sum
  unfold fe
  omega
theorem MayF.fe_le (h : MayF l ps) : fe l ps ≤ 2 ^ l ∧ fe l ps + (rr ps ps.length).length = 2 ^ l := by
  have := h.sum
  unfold fe
  omega
theorem MayF.base_len (h : MayF l ps) {α : Type} (z : α) (f : Nat → α) : (List.replicate (fe l ps) z ++ (rr ps ps.length).map f).length = 2 ^ l := by
  have := h.fe_le
  simp
  omega
theorem MayF.syms_len (h : MayF l ps) : (syms l ps).length = 2 ^ l :=
  lay_len h.l5 h.fe_le.1 _ (by simpa using h.base_len 0 id) _ (by rw [h.fe_eq]; exact Nat.le_refl _)
theorem MayF.syms_drop (h : MayF l ps) : (syms l ps).drop (fe l ps) = rr ps ps.length := by
  unfold syms
  rw [lay_drop h.l5 h.fe_le.1 _ (by simpa using h.base_len 0 id) _ (by rw [h.fe_eq]; exact Nat.le_refl _)]
  rw [List.drop_left' (by simp)]
theorem MayF.syms_perm (h : MayF l ps) : (syms l ps).Perm (ot ps ps.length ++ rr ps ps.length) := by
  have h1 := lay_perm h.l5 h.fe_le.1 (List.replicate (fe l ps) 0 ++ rr ps ps.length) (by simpa using h.base_len 0 id) (ot ps ps.length) h.fe_eq
  have h2 := h1.append_right ((syms l ps).drop (fe l ps))
  rw [show (lay (2 ^ l) (fe l ps) (List.replicate (fe l ps) 0 ++ rr ps ps.length) (ot ps ps.length)).1 = syms l ps from rfl, List.take_append_drop, h.syms_drop] at h2
  exact h2
/-- Each symbol has as many states as its part says. -/
theorem MayF.count (h : MayF l ps) (s : Nat) : (syms l ps).count s = (wi (ps.getD s 0)).toNat := by
  rw [h.syms_perm.count_eq, List.count_append, ot_count, rr_count]
  have hg := h.getD s
  rcases Nat.lt_or_ge s ps.length with q | q
  · unfold wi
    by_cases e : ps.getD s 0 = -1
    · rw [if_pos q, if_pos ⟨q, e⟩, if_pos e, e]; rfl
    · rw [if_pos q, if_neg (fun x => e x.2), if_neg e]; rfl
  · rw [getD_out ps s q, if_neg (by omega), if_neg (fun x => by omega)]; rfl
theorem MayF.syms_lt (h : MayF l ps) : ∀ x ∈ syms l ps, x < ps.length := fun x hx => by
  have := h.syms_perm.mem_iff.1 hx
  rw [List.mem_append] at this
  rcases this with q | q
  · exact ot_lt _ _ x q
  · exact rr_lt _ _ x q
theorem MayF.top (h : MayF l ps) (s : Nat) (hs : s < ps.length) (hp : ps.getD s 0 = -1) : (rr ps s).length < 2 ^ l ∧ (syms l ps)[2 ^ l - 1 - (rr ps s).length]? = some s := by
  obtain ⟨X, hX⟩ := rr_top ps s hp ps.length hs
  have h1 := h.fe_le
  have hd := h.syms_drop
  have hl := congrArg List.length hX
  rw [List.length_append, List.length_cons] at hl
  refine ⟨by omega, ?_⟩
  have e : 2 ^ l - 1 - (rr ps s).length = fe l ps + X.length := by omega
  rw [e, ← List.getElem?_drop, hd, hX, List.getElem?_append_right (Nat.le_refl _)]
  simp
end

/-! Entries. -/
structure En where
  s : Int
  b : Int
  e : Int
/-- The number of a state, and the entry by it. -/
def kOf (ps : List Int) (sy : List Nat) (i : Nat) : Nat := (wi (ps.getD (sy.getD i 0) 0)).toNat + (sy.take i).count (sy.getD i 0)
def entN (l s k : Nat) : En := ⟨s, ((l - k.log2 : Nat) : Int), ((k * 2 ^ (l - k.log2) - 2 ^ l : Nat) : Int)⟩
def tabS (l : Nat) (ps : List Int) (sy : List Nat) : List En := (List.range sy.length).map fun i => entN l (sy.getD i 0) (kOf ps sy i)
def tab (l : Nat) (ps : List Int) : List En := tabS l ps (syms l ps)

theorem tabS_length (l : Nat) (ps : List Int) (sy : List Nat) : (tabS l ps sy).length = sy.length := by simp [tabS]
theorem tabS_get (l : Nat) (ps : List Int) (sy : List Nat) (i : Nat) (h : i < (tabS l ps sy).length) : (tabS l ps sy)[i] = entN l (sy.getD i 0) (kOf ps sy i) := by simp [tabS]
theorem count_take_lt (l : List Nat) (i : Nat) (h : i < l.length) : (l.take i).count l[i] < l.count l[i] := by
  have e : l.count l[i] = (l.take (i + 1)).count l[i] + (l.drop (i + 1)).count l[i] := by
    rw [← List.count_append, List.take_append_drop]
  rw [List.take_succ_eq_append_getElem h, List.count_append] at e
  simp at e
  omega
theorem count_take_succ (l : List Nat) (i s : Nat) (h : i < l.length) : (l.take (i + 1)).count s = (l.take i).count s + if l.getD i 0 = s then 1 else 0 := by
  have e0 : l.getD i 0 = l[i] := by rw [List.getD_eq_getElem?_getD, List.getElem?_eq_getElem h]; rfl
  rw [List.take_succ_eq_append_getElem h, List.count_append, e0]
  congr 1
  rw [List.count_singleton]
  simp

section
variable {l : Nat} {ps : List Int}
theorem MayF.wi_le (h : MayF l ps) (s : Nat) : (wi (ps.getD s 0)).toNat ≤ 2 ^ l := by
  rw [← h.count s, ← h.syms_len]
  exact List.count_le_length
theorem MayF.k_w (h : MayF l ps) (i : Nat) (hi : i < 2 ^ l) :
    (wi (ps.getD ((syms l ps).getD i 0) 0)).toNat ≤ kOf ps (syms l ps) i ∧ kOf ps (syms l ps) i < 2 * (wi (ps.getD ((syms l ps).getD i 0) 0)).toNat := by
  have hl := h.syms_len
  have hil : i < (syms l ps).length := by omega
  have e0 : (syms l ps).getD i 0 = (syms l ps)[i] := by rw [List.getD_eq_getElem?_getD, List.getElem?_eq_getElem hil]; rfl
  have h1 := count_take_lt (syms l ps) i hil
  rw [h.count] at h1
  unfold kOf
  rw [e0]
  omega
/-- The bounds of a state's number. -/
theorem MayF.k_bd (h : MayF l ps) (i : Nat) (hi : i < 2 ^ l) : 1 ≤ kOf ps (syms l ps) i ∧ kOf ps (syms l ps) i < 2 * 2 ^ l := by
  have h1 := h.k_w i hi
  have h2 := h.wi_le ((syms l ps).getD i 0)
  omega
end

/-- Bits and Base of a number. -/
theorem log_bd {k l : Nat} (h1 : 1 ≤ k) (h2 : k < 2 * 2 ^ l) : k.log2 ≤ l ∧ 2 ^ l ≤ k * 2 ^ (l - k.log2) ∧ k * 2 ^ (l - k.log2) + 2 ^ (l - k.log2) ≤ 2 * 2 ^ l := by
  have a1 : k.log2 < l + 1 := (Nat.log2_lt (by omega)).2 (by rw [Nat.pow_succ]; omega)
  have a2 : 2 ^ k.log2 ≤ k := Nat.log2_self_le (by omega)
  have a3 : k < 2 ^ (k.log2 + 1) := Nat.lt_log2_self
  refine ⟨by omega, ?_, ?_⟩
  · have := Nat.mul_le_mul_right (2 ^ (l - k.log2)) a2
    rwa [← Nat.pow_add, show k.log2 + (l - k.log2) = l by omega] at this
  · have := Nat.mul_le_mul_right (2 ^ (l - k.log2)) (show k + 1 ≤ 2 ^ (k.log2 + 1) by omega)
    rw [← Nat.pow_add, show k.log2 + 1 + (l - k.log2) = l + 1 by omega, Nat.pow_succ, Nat.add_mul] at this
    omega
/-- A state is reached from the state of number k, if k is the beginning of its own number. -/
theorem reach_iff {k l st : Nat} (h1 : 1 ≤ k) (h2 : k < 2 * 2 ^ l) :
    (k * 2 ^ (l - k.log2) - 2 ^ l ≤ st ∧ st < k * 2 ^ (l - k.log2) - 2 ^ l + 2 ^ (l - k.log2)) ↔ (2 ^ l + st) / 2 ^ (l - k.log2) = k := by
  obtain ⟨b1, b2, b3⟩ := log_bd h1 h2
  have hp : 0 < 2 ^ (l - k.log2) := Nat.two_pow_pos _
  generalize 2 ^ (l - k.log2) = P at *
  generalize 2 ^ l = N at *
  rw [Nat.div_eq_iff hp]
  constructor
  · rintro ⟨c1, c2⟩
    omega
  · rintro ⟨c1, c2⟩
    omega
theorem pre_ex (N w : Nat) : ∀ b, N / 2 ^ b < 2 * w → w ≤ N → ∃ b', b' ≤ b ∧ w ≤ N / 2 ^ b' ∧ N / 2 ^ b' < 2 * w
  | 0, h, h0 => ⟨0, Nat.le_refl _, by simpa using h0, h⟩
  | b + 1, h, h0 => by
    by_cases hw : w ≤ N / 2 ^ (b + 1)
    · exact ⟨b + 1, Nat.le_refl _, hw, h⟩
    · have e : N / 2 ^ (b + 1) = N / 2 ^ b / 2 := by rw [Nat.pow_succ, Nat.div_div_eq_div_mul]
      obtain ⟨b', h1, h2⟩ := pre_ex N w b (by omega) h0
      exact ⟨b', by omega, h2⟩
/-- Of the numbers from w on and below twice w just one is the beginning of the state's own number. -/
theorem pre_one {l st w : Nat} (hs : st < 2 ^ l) (h1 : 1 ≤ w) (h2 : w ≤ 2 ^ l) :
    ∃ k, w ≤ k ∧ k < 2 * w ∧ ∀ k', w ≤ k' → k' < 2 * w → ((2 ^ l + st) / 2 ^ (l - k'.log2) = k' ↔ k' = k) := by
  have e1 : (2 ^ l + st) / 2 ^ l = 1 := by
    rw [Nat.div_eq_iff (Nat.two_pow_pos _)]
    omega
  obtain ⟨b, c1, c2, c3⟩ := pre_ex (2 ^ l + st) w l (by omega) (by omega)
  have hlog : ((2 ^ l + st) / 2 ^ b).log2 = l - b := by
    rw [Nat.log2_eq_iff (by omega)]
    have hb : 0 < 2 ^ b := Nat.two_pow_pos _
    have e2 : 2 ^ l = 2 ^ (l - b) * 2 ^ b := by rw [← Nat.pow_add]; congr 1; omega
    constructor
    · rw [Nat.le_div_iff_mul_le hb, ← e2]; omega
    · rw [Nat.div_lt_iff_lt_mul hb, Nat.pow_succ, Nat.mul_right_comm, ← e2]; omega
  refine ⟨(2 ^ l + st) / 2 ^ b, c2, c3, fun k' d1 d2 => ⟨fun e => ?_, fun e => ?_⟩⟩
  · generalize l - k'.log2 = b' at e
    rcases Nat.lt_trichotomy b b' with q | q | q
    · exfalso
      obtain ⟨m, rfl⟩ : ∃ m, b' = b + 1 + m := ⟨b' - (b + 1), by omega⟩
      rw [Nat.pow_add, Nat.pow_add, ← Nat.div_div_eq_div_mul, ← Nat.div_div_eq_div_mul] at e
      generalize (2 ^ l + st) / 2 ^ b = A at *
      have := Nat.div_le_self (A / 2 ^ 1) (2 ^ m)
      omega
    · subst q
      exact e.symm
    · exfalso
      obtain ⟨m, rfl⟩ : ∃ m, b = b' + 1 + m := ⟨b - (b' + 1), by omega⟩
      rw [Nat.pow_add, Nat.pow_add, ← Nat.div_div_eq_div_mul, ← Nat.div_div_eq_div_mul] at c2
      generalize (2 ^ l + st) / 2 ^ b' = A at *
      have := Nat.div_le_self (A / 2 ^ 1) (2 ^ m)
      omega
  · subst e
    rw [hlog, show l - (l - b) = b by omega]

/-- Is state st reached from the state of this entry, a state of symbol y? -/
def matB (x : En) (y st : Int) : Bool := decide (x.s = y) && decide (x.e ≤ st) && decide (st < x.e + 2 ^ x.b.toNat)
/-- How many of the first m states of symbol y reach st. -/
def thr (es : List En) (y st : Int) (m : Nat) : Nat := ((es.take m).filter fun x => matB x y st).length
theorem thr_succ (es : List En) (y st : Int) (m : Nat) (h : m < es.length) : thr es y st (m + 1) = thr es y st m + if matB es[m] y st = true then 1 else 0 := by
  unfold thr
  rw [List.take_succ_eq_append_getElem h, List.filter_append, List.length_append]
  congr 1
  cases hm : matB es[m] y st <;> simp [hm]
section
variable {l : Nat} {ps : List Int}
theorem tab_length (h : MayF l ps) : (tab l ps).length = 2 ^ l := by unfold tab; rw [tabS_length, h.syms_len]
theorem tab_get (_h : MayF l ps) (i : Nat) (hi : i < (tab l ps).length) : (tab l ps)[i] = entN l ((syms l ps).getD i 0) (kOf ps (syms l ps) i) := tabS_get l ps (syms l ps) i hi
theorem mat_iff (h : MayF l ps) (i : Nat) (hi : i < (tab l ps).length) (y st : Nat) :
    matB (tab l ps)[i] y st = true ↔ (syms l ps).getD i 0 = y ∧ (2 ^ l + st) / 2 ^ (l - (kOf ps (syms l ps) i).log2) = kOf ps (syms l ps) i := by
  have hb := h.k_bd i (by rw [tab_length h] at hi; exact hi)
  rw [tab_get h i hi]
  unfold matB entN
  generalize kOf ps (syms l ps) i = k at *
  rw [← reach_iff hb.1 hb.2]
  simp only [Bool.and_eq_true, decide_eq_true_eq]
  have e : ((l - k.log2 : Nat) : Int).toNat = l - k.log2 := by omega
  rw [e]
  have e2 : (2 : Int) ^ (l - k.log2) = ((2 ^ (l - k.log2) : Nat) : Int) := by simp
  rw [e2]
  generalize k * 2 ^ (l - k.log2) - 2 ^ l = B
  omega
/-- Each state is reached from just one state of each symbol that has any. -/
theorem thr_one (h : MayF l ps) (y st : Nat) (hs : st < 2 ^ l) : thr (tab l ps) y st (2 ^ l) = if 1 ≤ (wi (ps.getD y 0)).toNat then 1 else 0 := by
  have hlen := tab_length h
  have hsl := h.syms_len
  split
  · next hw =>
    obtain ⟨k, k1, k2, k3⟩ := pre_one hs hw (h.wi_le y)
    have key : ∀ m, m ≤ 2 ^ l → thr (tab l ps) y st m = if k - (wi (ps.getD y 0)).toNat < ((syms l ps).take m).count y then 1 else 0 := by
      intro m
      induction m with
      | zero => intro _; simp [thr]
      | succ m ih =>
        intro hm
        rw [thr_succ _ _ _ _ (by omega), ih (by omega), count_take_succ _ _ _ (by omega)]
        have hb := h.k_w m (by omega)
        by_cases hy : (syms l ps).getD m 0 = y
        · rw [hy] at hb
          have e : kOf ps (syms l ps) m = (wi (ps.getD y 0)).toNat + ((syms l ps).take m).count y := by unfold kOf; rw [hy]
          have hk := k3 _ hb.1 hb.2
          have hmi := mat_iff h m (by omega) y st
          rw [hk] at hmi
          simp only [hy, true_and] at hmi
          simp only [hmi, hy, if_pos]
          rw [e]
          generalize ((syms l ps).take m).count y = C at *
          by_cases c1 : k - (wi (ps.getD y 0)).toNat < C
          · rw [if_pos c1, if_neg (by omega), if_pos (by omega)]
          · rw [if_neg c1]
            by_cases c2 : (wi (ps.getD y 0)).toNat + C = k
            · rw [if_pos c2, if_pos (by omega)]
            · rw [if_neg c2, if_neg (by omega)]
        · have hmi : ¬ matB (tab l ps)[m] y st = true := fun q => hy ((mat_iff h m (by omega) y st).1 q).1
          rw [if_neg hmi, if_neg hy]
          rfl
    rw [key _ (Nat.le_refl _), List.take_of_length_le (by omega), h.count y, if_pos (by omega)]
  · next hw =>
    have key : ∀ m, m ≤ 2 ^ l → thr (tab l ps) y st m = 0 := by
      intro m
      induction m with
      | zero => intro _; simp [thr]
      | succ m ih =>
        intro hm
        rw [thr_succ _ _ _ _ (by omega), ih (by omega)]
        have hb := h.k_w m (by omega)
        have hmi : ¬ matB (tab l ps)[m] y st = true := fun q => by
          have := ((mat_iff h m (by omega) y st).1 q).1
          rw [this] at hb
          omega
        rw [if_neg hmi]
    exact key _ (Nat.le_refl _)
/-- What an entry's numbers may be. -/
theorem tab_bd (h : MayF l ps) (i : Nat) (hi : i < (tab l ps).length) : ∃ s b e : Nat, (tab l ps)[i] = ⟨s, b, e⟩ ∧ s < 256 ∧ s = (syms l ps).getD i 0 ∧ b ≤ l ∧ e + 2 ^ b ≤ 2 ^ l := by
  have hil : i < 2 ^ l := by rw [tab_length h] at hi; exact hi
  have hb := h.k_bd i hil
  obtain ⟨b1, b2, b3⟩ := log_bd hb.1 hb.2
  refine ⟨(syms l ps).getD i 0, l - (kOf ps (syms l ps) i).log2, kOf ps (syms l ps) i * 2 ^ (l - (kOf ps (syms l ps) i).log2) - 2 ^ l, tab_get h i hi, ?_, rfl, by omega, by omega⟩
  have hsl := h.syms_len
  have hm : (syms l ps).getD i 0 ∈ syms l ps := by
    rw [List.getD_eq_getElem?_getD, List.getElem?_eq_getElem (by omega)]
    exact List.getElem_mem _
  have := h.syms_lt _ hm
  have := h.len
  omega
end
end Go.Proofs.YtlidnialggpcpaaGreatDoor

/- The contracts of the program's small functions of layer 7: isState, reaches, One, and the model's modelOf; how entries lie in memory. -/
namespace Go.Proofs.YtlidnialggpcpaaGreatDoor
open Go.RowKit

def ecell (x : En) : List Value := [.int .u8 x.s, .int .i64 x.b, .int .i64 x.e]
def rcell (x : En) : List Value := [.int .i64 x.s, .int .i64 x.b, .int .i64 x.e]
theorem ecell_len : ∀ x, (ecell x).length = 3 := fun _ => rfl
theorem rcell_len : ∀ x, (rcell x).length = 3 := fun _ => rfl
theorem ecell_one : ∀ x, ∀ v ∈ ecell x, v.oneCell' = true := by
  intro x v hv
  simp [ecell] at hv
  rcases hv with rfl | rfl | rfl <;> rfl
theorem rcell_one : ∀ x, ∀ v ∈ rcell x, v.oneCell' = true := by
  intro x v hv
  simp [rcell] at hv
  rcases hv with rfl | rfl | rfl <;> rfl
theorem entry_info : (Tryz.prog.info? 111).map (fun i => (i.zero, i.size, i.bytes)) = some (some (.agg #[.int .u8 0, .int .i64 0, .int .i64 0]), 3, 24) := by kernel_rfl

/-- The three cells of an entry that is read. -/
theorem DatR.three {f : En → List Value} {w : World} {lo hi : Nat} {A : Option Addr} {es : List En} (hf : ∀ x, f x = ecell x ∨ f x = rcell x) (h : DatR 3 f w lo hi A es) (hx : 0 < es.length) :
    ∃ d o, A = some ⟨d, o, none⟩ ∧ lo ≤ d ∧ d < hi ∧ ∀ j (hj : j < es.length), w.cell? ⟨d, o + j * 3 + 1, none⟩ = some (.int .i64 es[j].b) ∧ w.cell? ⟨d, o + j * 3 + 2, none⟩ = some (.int .i64 es[j].e) := by
  obtain ⟨d, o, hA, h1, h2, hc⟩ := h hx
  refine ⟨d, o, hA, h1, h2, fun j hj => ⟨hc j hj 1 _ ?_, hc j hj 2 _ ?_⟩⟩
  · rcases hf es[j] with q | q <;> rw [q] <;> rfl
  · rcases hf es[j] with q | q <;> rw [q] <;> rfl
/-- The cells of the program's entries. -/
theorem DatR.ent {w : World} {lo hi : Nat} {A : Option Addr} {es : List En} (h : DatR 3 ecell w lo hi A es) (hx : 0 < es.length) :
    ∃ d o, A = some ⟨d, o, none⟩ ∧ lo ≤ d ∧ d < hi ∧ ∀ j (hj : j < es.length), w.cell? ⟨d, o + j * 3, none⟩ = some (.int .u8 es[j].s) ∧ w.cell? ⟨d, o + j * 3 + 1, none⟩ = some (.int .i64 es[j].b) ∧ w.cell? ⟨d, o + j * 3 + 2, none⟩ = some (.int .i64 es[j].e) := by
  obtain ⟨d, o, hA, h1, h2, hc⟩ := h hx
  exact ⟨d, o, hA, h1, h2, fun j hj => ⟨hc j hj 0 _ rfl, hc j hj 1 _ rfl, hc j hj 2 _ rfl⟩⟩
theorem DatR.ref {w : World} {lo hi : Nat} {A : Option Addr} {es : List En} (h : DatR 3 rcell w lo hi A es) (hx : 0 < es.length) :
    ∃ d o, A = some ⟨d, o, none⟩ ∧ lo ≤ d ∧ d < hi ∧ ∀ j (hj : j < es.length), w.cell? ⟨d, o + j * 3, none⟩ = some (.int .i64 es[j].s) ∧ w.cell? ⟨d, o + j * 3 + 1, none⟩ = some (.int .i64 es[j].b) ∧ w.cell? ⟨d, o + j * 3 + 2, none⟩ = some (.int .i64 es[j].e) := by
  obtain ⟨d, o, hA, h1, h2, hc⟩ := h hx
  exact ⟨d, o, hA, h1, h2, fun j hj => ⟨hc j hj 0 _ rfl, hc j hj 1 _ rfl, hc j hj 2 _ rfl⟩⟩

/-- An entry is stored. -/
theorem OwR.put3 {w : World} {u base d n c : Nat} {es : List En} (h : OwR 3 ecell w u base (.slice (some ⟨d, 0, none⟩) n c) es) (j : Nat) (hj : j < es.length) (x : En) :
    OwR 3 ecell (((w.setCell ⟨d, j * 3, none⟩ (.int .u8 x.s)).setCell ⟨d, j * 3 + 1, none⟩ (.int .i64 x.b)).setCell ⟨d, j * 3 + 2, none⟩ (.int .i64 x.e)) u base (.slice (some ⟨d, 0, none⟩) n c) (es.set j x) := by
  have h1 := h.put ecell_len j 0 hj (by decide) (.int .u8 x.s) ⟨x.s, es[j].b, es[j].e⟩ rfl
  have h2 := h1.put ecell_len j 1 (by simpa using hj) (by decide) (.int .i64 x.b) ⟨x.s, x.b, es[j].e⟩ (by simp [ecell])
  have h3 := h2.put ecell_len j 2 (by simpa using hj) (by decide) (.int .i64 x.e) ⟨x.s, x.b, x.e⟩ (by simp [ecell])
  rw [List.set_set, List.set_set] at h3
  exact h3
/-- The cells of an entry of the call's own. -/
theorem OwR.cells3 {w : World} {u base d n c : Nat} {es : List En} (h : OwR 3 ecell w u base (.slice (some ⟨d, 0, none⟩) n c) es) (j : Nat) (hj : j < es.length) :
    (w.cell? ⟨d, j * 3, none⟩ = some (.int .u8 es[j].s) ∧ w.cell? ⟨d, j * 3 + 1, none⟩ = some (.int .i64 es[j].b) ∧ w.cell? ⟨d, j * 3 + 2, none⟩ = some (.int .i64 es[j].e)) ∧
    w.frozen? ⟨d, j * 3, none⟩ = false ∧ w.frozen? ⟨d, j * 3 + 1, none⟩ = false ∧ w.frozen? ⟨d, j * 3 + 2, none⟩ = false := by
  have h0 := h.cellAt ecell_len j 0 hj (by decide) _ rfl
  have h1 := h.cellAt ecell_len j 1 hj (by decide) _ rfl
  have h2 := h.cellAt ecell_len j 2 hj (by decide) _ rfl
  exact ⟨⟨h0.1, h1.1, h2.1⟩, h0.2, h1.2, h2.2⟩

section
variable {w : World} {L : Int} {A : Option Addr} {n c : Nat}
theorem isState_yes (s : Nat) (hs : s < n) :
    Calls Tryz.prog 113 #[.agg #[.int .i64 L, .slice A n c], .int .i64 (s : Int)] w fun e w' => e = .returned (.bool true) ∧ Below w.heap.size w w' := by
  have h1 : (s : Int) < (n : Int) := by omega
  go_enter Tryz.func113, Tryz.ntmps113
  go_wp2_with fail
  go_ret
  exact ⟨rfl, (Below.refl _ _).alloc (Nat.le_refl _) _⟩
end

/-- Is this state reached from the state of an entry? -/
def rchB (x : En) (st : Int) : Bool := decide (x.e ≤ st) && decide (st < x.e + 2 ^ x.b.toNat)
theorem reaches_any (sy : Int) (b e st : Nat) (w : World) (hb : b ≤ 15) (he : e ≤ 65536) (hs : st ≤ 65536) :
    Calls Tryz.prog 122 #[.agg #[.int .u8 sy, .int .i64 (b : Int), .int .i64 (e : Int)], .int .i64 (st : Int)] w fun r w' => r = .returned (.bool (rchB ⟨sy, b, e⟩ st)) ∧ Below w.heap.size w w' := by
  have hpow : (2 : Int) ^ b = ((2 ^ b : Nat) : Int) := by simp
  have hp : 0 < 2 ^ b := Nat.two_pow_pos _
  have hp2 : 2 ^ b ≤ 2 ^ 15 := Nat.pow_le_pow_right (by omega) hb
  unfold rchB
  simp only [show ((b : Nat) : Int).toNat = b by omega, hpow]
  by_cases h1 : e ≤ st
  · have h1i : (e : Int) ≤ (st : Int) := by omega
    by_cases h2 : st < e + 2 ^ b
    · have h2i : (st : Int) < (e : Int) + ((2 ^ b : Nat) : Int) := by omega
      rw [decide_eq_true h1i, decide_eq_true h2i]
      have hz : ((st : Int) - (e : Int)) / ((2 ^ b : Nat) : Int) = 0 := Int.ediv_eq_zero_of_lt (by omega) (by omega)
      have hz2 : ((st : Int) - (e : Int)) / 2 ^ b = 0 := by rw [hpow]; exact hz
      clear hz h2i hp2 hp
      have HP := Lib.hid hpow
      clear hpow
      go_enter Tryz.func122, Tryz.ntmps122
      go_wp2_with fail
      go_ret
      exact ⟨rfl, (Below.refl _ _).alloc (Nat.le_refl _) _⟩
    · have h2i : ¬ (st : Int) < (e : Int) + ((2 ^ b : Nat) : Int) := by omega
      rw [decide_eq_true h1i, decide_eq_false h2i]
      have hz : ((st : Int) - (e : Int)) / 2 ^ b ≠ 0 := by
        rw [hpow]
        have : 1 ≤ ((st : Int) - (e : Int)) / ((2 ^ b : Nat) : Int) := (Int.le_ediv_iff_mul_le (by omega)).2 (by omega)
        omega
      have hz2 : (((st : Int) - (e : Int)) / 2 ^ b == 0) = false := by rw [beq_eq_false_iff_ne]; exact hz
      clear hz h2i hp2 hp
      have HP := Lib.hid hpow
      clear hpow
      go_enter Tryz.func122, Tryz.ntmps122
      go_wp2_with fail
      go_ret
      exact ⟨rfl, (Below.refl _ _).alloc (Nat.le_refl _) _⟩
  · have h1i : ¬ (e : Int) ≤ (st : Int) := by omega
    rw [decide_eq_false h1i]
    have h1b : decide ((e : Int) ≤ (st : Int)) = false := by simp; omega
    clear hp2 hp hpow
    go_enter Tryz.func122, Tryz.ntmps122
    go_wp2_with fail
    go_ret
    exact ⟨rfl, (Below.refl _ _).alloc (Nat.le_refl _) _⟩

set_option maxRecDepth 100000 in
theorem one_any (sy : Int) (w : World) :
    Calls Tryz.prog 40 #[.int .u8 sy] w fun r w' => ∃ v, r = .returned (.agg #[.int .i64 0, v]) ∧ OwR 3 ecell w' 111 w.heap.size v [⟨sy, 0, 0⟩] ∧ Below w.heap.size w w' := by
  go_enter Tryz.func40, Tryz.ntmps40
  go_wp2_with fail
  refine bodyPost_ret (v := .agg #[.int .i64 0, .slice (some ⟨w.heap.size + 1, 0, none⟩) 1 1]) (by simp [results, Tryz.results40, go_sem]) rfl ⟨_, rfl, ?_, ?_⟩
  · refine ⟨rfl, .inr ⟨w.heap.size + 1, 1, #[.int .u8 sy, .int .i64 0, .int .i64 0], rfl, by omega, ?_, Nat.le_refl _, by decide, rfl, rfl⟩⟩
    have := heap_alloc_new (w.alloc (.cells #[.int .i64 0, .slice (some ⟨w.heap.size + 1, 0, none⟩) 1 1] 27)) (.cells #[.int .u8 sy, .int .i64 0, .int .i64 0] 111)
    rw [World.size_alloc] at this
    exact this
  · exact ((Below.refl _ _).alloc (Nat.le_refl _) _).alloc (by simp) _
end Go.Proofs.YtlidnialggpcpaaGreatDoor

/- The contract of the program's entry. -/
namespace Go.Proofs.YtlidnialggpcpaaGreatDoor
open Go.RowKit

set_option maxRecDepth 100000 in
set_option maxHeartbeats 1000000 in
theorem entry_any (s k l : Nat) (w : World) (hl : l ≤ 15) (h1 : 1 ≤ k) (h2 : k < 2 * 2 ^ l) :
    Calls Tryz.prog 124 #[.int .u8 (s : Int), .int .i64 (k : Int), .int .i64 (l : Int)] w fun r w' =>
      r = .returned (.agg #[.int .u8 (entN l s k).s, .int .i64 (entN l s k).b, .int .i64 (entN l s k).e]) ∧ Below w.heap.size w w' := by
  obtain ⟨b1, b2, b3⟩ := log_bd h1 h2
  have hp : 2 ^ l ≤ 2 ^ 15 := Nat.pow_le_pow_right (by omega) hl
  have HC := Lib.hid (len_any k (w.alloc (.cells #[.int .u8 0, .int .i64 0, .int .i64 0] 111)) (by omega) (by omega))
  have hk : k < 65536 := by omega
  unfold entN
  generalize k.log2 = g at *
  obtain ⟨b, rfl⟩ : ∃ b, l = b + g := ⟨l - g, by omega⟩
  simp only [Nat.add_sub_cancel] at *
  have hb15 : b ≤ 15 := by omega
  obtain ⟨P, hP⟩ : ∃ P : Nat, P = k * 2 ^ b := ⟨_, rfl⟩
  obtain ⟨Q, hQ⟩ : ∃ Q : Nat, Q = 2 ^ (b + g) := ⟨_, rfl⟩
  have e1 : (k : Int) * 2 ^ b = (P : Int) := by rw [hP]; simp
  have e2 : (2 : Int) ^ (b + g) = (Q : Int) := by rw [hQ]; simp
  rw [← hP, ← hQ] at b2 b3 ⊢
  rw [← hQ] at hp
  have hpb := Nat.two_pow_pos b
  have hPb : P ≤ 65536 := by omega
  clear hpb
  have e3 : ((P - Q : Nat) : Int) = (P : Int) - (Q : Int) := by omega
  rw [e3]
  clear hP hQ e3 h2 b3
  have hbg : ((b + g : Nat) : Int) + 1 - ((g + 1 : Nat) : Int) = (b : Int) := by omega
  clear hbg
  have E1 := Lib.hid e1
  have E2 := Lib.hid e2
  clear e1 e2
  go_enter Tryz.func124, Tryz.ntmps124
  go_wp2_with fail
  refine HC.out.mono ?_
  rintro e w1 ⟨rfl, rfl⟩
  go_wp2_with fail
  rw [show (b : Int) + (g : Int) + 1 - ((g : Int) + 1) = (b : Int) by omega]
  have e1 := E1.out
  have e2 := E2.out
  go_region
  all_goals
    go_wp2_with fail
    refine bodyPost_ret (v := .agg #[.int .u8 (s : Int), .int .i64 (b : Int), .int .i64 ((P : Int) - (Q : Int))]) (by simp [results, Tryz.results124, go_sem]) rfl ⟨rfl, ?_⟩
    exact ((Below.refl _ _).alloc (Nat.le_refl _) _).drew
end Go.Proofs.YtlidnialggpcpaaGreatDoor

/- The contract of the program's layRare. -/
namespace Go.Proofs.YtlidnialggpcpaaGreatDoor
open Go.RowKit

def bocel (x : Nat) : Value := .int .u8 (x : Int)
theorem rr_mono (ps : List Int) {a b : Nat} (h : a ≤ b) : (rr ps a).length ≤ (rr ps b).length := by
  induction b with
  | zero => obtain rfl : a = 0 := by omega
            exact Nat.le_refl _
  | succ b ih =>
    by_cases e : a = b + 1
    · rw [e]; exact Nat.le_refl _
    · have := ih (by omega)
      rw [rr]
      split
      · rw [List.length_cons]; omega
      · exact this
theorem rare_set {α : Type} (F : Nat) (z x : α) (R : List α) : (List.replicate (F + 1) z ++ R).set F x = List.replicate F z ++ x :: R := by
  rw [List.replicate_succ', List.append_assoc, List.set_append_right _ _ (by simp)]
  simp

set_option maxRecDepth 100000 in
set_option maxHeartbeats 1000000 in
theorem layRare_any {w : World} {base d n c lo hi m cp : Nat} {A : Option Addr} {ps : List Int} (ho : OwE bocel w 5 base (.slice (some ⟨d, 0, none⟩) n c) (List.replicate n 0)) (hd : DatE icel w lo hi A ps) (hdl : d < lo ∨ hi ≤ d) (hm : ps.length = m) (hm2 : m ≤ 256)
    (hR : (rr ps ps.length).length ≤ n) (hn : n ≤ 65536) :
    Calls Tryz.prog 108 #[.slice (some ⟨d, 0, none⟩) n c, .slice A m cp] w fun e w' =>
      e = .returned (.int .i64 ((n - (rr ps ps.length).length : Nat) : Int)) ∧ OwE bocel w' 5 base (.slice (some ⟨d, 0, none⟩) n c) (List.replicate (n - (rr ps ps.length).length) 0 ++ rr ps ps.length) ∧ Stp w w' d := by
  have HO := Lib.hid ho
  have HD := Lib.hid hd
  have HM := Lib.hid hm
  rw [hm] at hR ⊢
  have HR := Lib.hid hR
  clear ho hd hm hR
  go_enter Tryz.func108, Tryz.ntmps108
  go_wp2_with fail
  go_loopg [5, 12] m (fun gh v i wx => ∃ k F : Nat, k + gh = m ∧ i = .int .i64 (k : Int) ∧ v = .int .i64 (F : Int) ∧ F + (rr ps k).length = n ∧ OwE bocel wx 5 base (.slice (some ⟨d, 0, none⟩) n c) (List.replicate F 0 ++ rr ps k) ∧ Stp w wx d)
  case atStart => exact ⟨0, n, by omega, rfl, rfl, by simp [rr], by simpa [rr] using HO.out, Stp.refl _ _⟩
  case round =>
    obtain ⟨k, F, hk, rfl, rfl, hF, ho, hs⟩ := hrel
    have HO1 := Lib.hid ho
    have HS1 := Lib.hid hs
    have HK := Lib.hid hk
    have HF := Lib.hid hF
    have hFn : F ≤ n := by omega
    have hkm : k ≤ m := by omega
    clear ho hs hk hF
    by_cases hlt : k < m
    · obtain ⟨g', rfl⟩ : ∃ g', gk = g' + 1 := ⟨gk - 1, by have := HK.out; omega⟩
      have hkl : k < ps.length := by have := HM.out; omega
      obtain ⟨d1, o1, rfl, q1, q2, hc⟩ := HD.out (by omega)
      have hcell := (World.cell?_of_block (a := ⟨d1, o1 + k, none⟩) (HS1.out.1.block d1 (World.block_lt_of_cell? _ ⟨d1, o1 + k, none⟩ (hc k hkl)) (by intro e; injection e with e; omega))).trans (hc k hkl)
      unfold icel at hcell
      have HG := Lib.hid (getD_eq ps k 0 hkl)
      have hki : (k : Int) < (m : Int) := by omega
      clear hc
      generalize ps[k] = p at *
      by_cases hp : p = -1
      · subst hp
        have hrk : rr ps (k + 1) = k :: rr ps k := by rw [rr, if_pos HG.out]
        have h1 := rr_mono ps (show k + 1 ≤ m by omega)
        rw [hrk, List.length_cons] at h1
        obtain ⟨F', rfl⟩ : ∃ F', F = F' + 1 := ⟨F - 1, by have := HF.out; have := HR.out; omega⟩
        have HRK := Lib.hid hrk
        clear hrk h1
        have hlen : (List.replicate (F' + 1) 0 ++ rr ps k).length = n := by simp; exact HF.out
        obtain ⟨x0, c1, f1⟩ : ∃ x0 : Nat, wr.cell? ⟨d, F', none⟩ = some (.int .u8 (x0 : Int)) ∧ wr.frozen? ⟨d, F', none⟩ = false := ⟨_, HO1.out.cellAt F' (by omega)⟩
        have hst := HO1.out.put F' k
        rw [rare_set] at hst
        have HSt := Lib.hid hst
        have hw8 : IntKind.u8.wrap (k : Int) = (k : Int) := by rw [IntKind.wrap_u8']; omega
        clear hlen hst
        go_wp2_with fail
        go_roundg g'
        case rel =>
          exact ⟨k + 1, F', by have := HK.out; omega, by go_num, rfl, by have := HF.out; rw [HRK.out, List.length_cons]; omega, by rw [HRK.out]; exact HSt.out, HS1.out.trans (Stp.set _ _ _ _)⟩
        case measure => omega
      · have hrk : rr ps (k + 1) = rr ps k := by rw [rr, if_neg (by rw [HG.out]; exact hp)]
        have HRK := Lib.hid hrk
        have hp1 : (p == -1) = false := by simp [hp]
        clear hrk
        go_wp2_with fail
        go_roundg g'
        case rel => exact ⟨k + 1, F, by have := HK.out; omega, by go_num, rfl, by rw [HRK.out]; exact HF.out, by rw [HRK.out]; exact HO1.out, HS1.out⟩
        case measure => omega
    · obtain rfl : k = m := by omega
      have hki : ¬ (k : Int) < (k : Int) := by omega
      have hfe : F = n - (rr ps k).length := by have := HF.out; omega
      have HFE := Lib.hid hfe
      clear hfe
      go_wp2_with fail
      go_ret
      rw [← HFE.out]
      exact ⟨rfl, HO1.out, HS1.out⟩
end Go.Proofs.YtlidnialggpcpaaGreatDoor

/- The contract of the program's layOthers. -/
namespace Go.Proofs.YtlidnialggpcpaaGreatDoor
open Go.RowKit

theorem ot_mono (ps : List Int) {a b : Nat} (h : a ≤ b) : (ot ps a).length ≤ (ot ps b).length := by
  induction b with
  | zero => obtain rfl : a = 0 := by omega
            exact Nat.le_refl _
  | succ b ih =>
    by_cases e : a = b + 1
    · rw [e]; exact Nat.le_refl _
    · have := ih (by omega)
      rw [ot, List.length_append]
      omega
/-- Where the walk stands when the first k symbols are laid, and j states of the next one. -/
def at_ (l : Nat) (ps : List Int) (L : List Nat) (k j : Nat) : List Nat × Nat := lay (2 ^ l) (fe l ps) L (ot ps k ++ List.replicate j k)
theorem at_zero (l : Nat) (ps : List Int) (L : List Nat) : at_ l ps L 0 0 = (L, 0) := rfl
theorem at_next (l : Nat) (ps : List Int) (L : List Nat) (k : Nat) : at_ l ps L (k + 1) 0 = at_ l ps L k (ps.getD k 0).toNat := by
  unfold at_
  rw [List.replicate_zero, List.append_nil, ot]
theorem at_step (l : Nat) (ps : List Int) (L : List Nat) (k j : Nat) : at_ l ps L k (j + 1) = ((at_ l ps L k j).1.set (at_ l ps L k j).2 k, skip (2 ^ l) (fe l ps) (2 ^ l) (nx (2 ^ l) (at_ l ps L k j).2)) := by
  unfold at_
  rw [List.replicate_succ', ← List.append_assoc, lay_snoc]
  rfl
theorem MayF.at_bd {l : Nat} {ps : List Int} (h : MayF l ps) (L : List Nat) (hL : L.length = 2 ^ l) (k j : Nat) (hk : k < ps.length) (hj : j ≤ (ps.getD k 0).toNat) :
    (at_ l ps L k j).1.length = 2 ^ l ∧ (0 < fe l ps → (at_ l ps L k j).2 < fe l ps) ∧ (0 < (ps.getD k 0).toNat → 0 < fe l ps) := by
  have h1 := ot_mono ps (show k + 1 ≤ ps.length by omega)
  rw [ot, List.length_append, List.length_replicate, h.fe_eq] at h1
  have hS : (ot ps k ++ List.replicate j k).length ≤ fe l ps := by rw [List.length_append, List.length_replicate]; omega
  refine ⟨lay_len h.l5 h.fe_le.1 L hL _ hS, fun h0 => lay_below h.l5 h.fe_le.1 h0 L hL _ hS, fun h0 => by omega⟩

set_option maxRecDepth 100000 in
set_option maxHeartbeats 2000000 in
theorem layOthers_any {w : World} {base d c lo hi m cp l n F : Nat} {A : Option Addr} {ps : List Int} {L : List Nat} (h : MayF l ps) (hn : n = 2 ^ l) (hF : F = fe l ps) (hL : L.length = 2 ^ l) (ho : OwE bocel w 5 base (.slice (some ⟨d, 0, none⟩) n c) L) (hd : DatE icel w lo hi A ps) (hdl : d < lo ∨ hi ≤ d) (hm : ps.length = m) :
    Calls Tryz.prog 109 #[.slice (some ⟨d, 0, none⟩) n c, .slice A m cp, .int .i64 (F : Int)] w fun e w' =>
      e = .returned (.tuple #[]) ∧ OwE bocel w' 5 base (.slice (some ⟨d, 0, none⟩) n c) (lay (2 ^ l) (fe l ps) L (ot ps ps.length)).1 ∧ Stp w w' d := by
  have HM := Lib.hid hm
  have HO := Lib.hid ho
  have HD := Lib.hid hd
  have HMay := Lib.hid h
  have HN := Lib.hid hn
  have HF := Lib.hid hF
  have HL := Lib.hid hL
  have hn5 : 2 ^ 5 ≤ 2 ^ l := Nat.pow_le_pow_right (by omega) h.l5
  have hn15 : 2 ^ l ≤ 2 ^ 15 := Nat.pow_le_pow_right (by omega) h.l15
  have hm2 := h.len
  rw [hm] at hm2 ⊢
  rw [← hn] at hn5 hn15
  have hFn : F ≤ n := by rw [hF, hn]; exact h.fe_le.1
  obtain ⟨s, hs⟩ : ∃ s : Nat, (s : Int) = (n : Int) / 2 + (n : Int) / 8 + 3 := ⟨stp n, by unfold stp; omega⟩
  have hs2 : s = stp n := by unfold stp; omega
  have hsn : s ≤ n := by omega
  have HS2 := Lib.hid hs2
  have HSI := Lib.hid hs
  clear ho hd h hn hF hL hm hs hs2
  go_enter Tryz.func109, Tryz.ntmps109
  go_wp2_with fail
  rw [← HSI.out]
  have HAt := Lib.hid (at_zero l ps L)
  go_loopg [8, 21] m (fun gh v i wx => ∃ k a : Nat, k + gh = m ∧ i = .int .i64 (k : Int) ∧ v = .int .i64 (a : Int) ∧ a = (at_ l ps L k 0).2 ∧ (0 < F → a < F) ∧ OwE bocel wx 5 base (.slice (some ⟨d, 0, none⟩) n c) (at_ l ps L k 0).1 ∧ Stp w wx d)
  case atStart => exact ⟨0, 0, by omega, rfl, rfl, by rw [HAt.out], fun h => h, by rw [HAt.out]; exact HO.out, Stp.refl _ _⟩
  case round =>
    obtain ⟨k, a, hk, rfl, rfl, ha, haF, ho, hs⟩ := hrel
    have HO1 := Lib.hid ho
    have HS1 := Lib.hid hs
    have HK := Lib.hid hk
    have HA1 := Lib.hid ha
    have HAF := Lib.hid haF
    have hkm : k ≤ m := by omega
    clear ho hs hk ha haF
    by_cases hlt : k < m
    · obtain ⟨g', rfl⟩ : ∃ g', gk = g' + 1 := ⟨gk - 1, by have := HK.out; omega⟩
      have hkl : k < ps.length := by have := HM.out; omega
      obtain ⟨d1, o1, rfl, q1, q2, hc⟩ := HD.out (by omega)
      have hcell := (World.cell?_of_block (a := ⟨d1, o1 + k, none⟩) (HS1.out.1.block d1 (World.block_lt_of_cell? _ ⟨d1, o1 + k, none⟩ (hc k hkl)) (by intro e; injection e with e; omega))).trans (hc k hkl)
      unfold icel at hcell
      have HG := Lib.hid (getD_eq ps k 0 hkl)
      have hki : (k : Int) < (m : Int) := by omega
      have hpg := HMay.out.ge ps[k] (List.getElem_mem hkl)
      clear hc
      generalize ps[k] = p at *
      obtain ⟨P, hP⟩ : ∃ P : Nat, P = (ps.getD k 0).toNat := ⟨_, rfl⟩
      have hpP : P = p.toNat := by rw [hP, HG.out]
      have HPP := Lib.hid hP
      have hP32 : P ≤ n := by
        have h1 := HMay.out.fe_le.1
        have h2 := ot_mono ps (show k + 1 ≤ ps.length by omega)
        rw [ot, List.length_append, List.length_replicate, HMay.out.fe_eq, ← hP] at h2
        have := HN.out
        omega
      have HPp := Lib.hid hpP
      clear hP hpP
      have hp15 : p ≤ 32768 := by have := HPp.out; omega
      go_wp2_with fail
      go_step3
      go_wp2_with fail
      go_step3
      go_wp2_with fail
      obtain ⟨wo, rfl⟩ : ∃ wo : World, wo = wr := ⟨_, rfl⟩
      have HAn := Lib.hid (at_next l ps L k)
      have HCv := Lib.hid (HMay.out.at_bd L HL.out k 0 hkl (Nat.zero_le _))
      go_loopg [8, 27] P (fun gh v i wx => ∃ j a : Nat, j + gh = P ∧ i = .int .i64 (j : Int) ∧ v = .int .i64 (a : Int) ∧ a = (at_ l ps L k j).2 ∧ (0 < F → a < F) ∧ OwE bocel wx 5 base (.slice (some ⟨d, 0, none⟩) n c) (at_ l ps L k j).1 ∧ Stp w wx d)
      case atStart => exact ⟨0, a, by omega, rfl, rfl, HA1.out, HAF.out, HO1.out, HS1.out⟩
      case round =>
        clear HA1 HAF HO1 HS1
        obtain ⟨j, a, hj, rfl, rfl, ha, haF, ho, hs⟩ := hrel
        have HO1 := Lib.hid ho
        have HS1 := Lib.hid hs
        have HJ := Lib.hid hj
        have HA1 := Lib.hid ha
        have HAF := Lib.hid haF
        have hjP : j ≤ P := by omega
        clear ho hs hj ha haF
        by_cases hjl : j < P
        · obtain ⟨g2, rfl⟩ : ∃ g2, gk = g2 + 1 := ⟨gk - 1, by have := HJ.out; omega⟩
          have hji : (j : Int) < p := by have := HPp.out; omega
          have hF0 : 0 < F := by have := HCv.out.2.2; rw [HF.out]; apply this; have := HPP.out; omega
          have haF := HAF.out hF0
          have hlen : (at_ l ps L k j).1.length = n := by rw [(HMay.out.at_bd L HL.out k j hkl (by have := HPP.out; omega)).1, HN.out]
          have hnb := (HMay.out.at_bd L HL.out k (j + 1) hkl (by have := HPP.out; omega)).2.1 (by rw [← HF.out]; exact hF0)
          have HSt := Lib.hid (at_step l ps L k j)
          rw [HSt.out] at hnb
          rw [← HF.out, ← HN.out, ← HA1.out] at HSt
          rw [← HF.out, ← HN.out, ← HA1.out] at hnb
          dsimp only at hnb
          obtain ⟨x0, c1, f1⟩ : ∃ x0 : Nat, wr.cell? ⟨d, a, none⟩ = some (.int .u8 (x0 : Int)) ∧ wr.frozen? ⟨d, a, none⟩ = false := ⟨_, HO1.out.cellAt a (by omega)⟩
          have HPut := Lib.hid (HO1.out.put a k)
          have hw8 : IntKind.u8.wrap (k : Int) = (k : Int) := by rw [IntKind.wrap_u8']; omega
          obtain ⟨T, hT⟩ : ∃ T, T = skip n F n (nx n a) := ⟨_, rfl⟩
          rw [← hT] at hnb HSt
          have HT := Lib.hid hT
          clear hT hlen
          go_wp2_with fail
          clear c1 f1
          have HS3 : Hid (Stp w (wr.setCell ⟨d, a, none⟩ (.int .u8 (k : Int))) d) := HS1.out.trans (Stp.set _ _ _ _)
          have HO3 : Hid (OwE bocel (wr.setCell ⟨d, a, none⟩ (.int .u8 (k : Int))) 5 base (.slice (some ⟨d, 0, none⟩) n c) (at_ l ps L k (j + 1)).1) := by
            rw [HSt.out]
            exact HPut.out
          generalize wr.setCell ⟨d, a, none⟩ (.int .u8 (k : Int)) = w3 at *
          go_loopg [8] n (fun gh v wx => ∃ a : Nat, v = .int .i64 (a : Int) ∧ a < n ∧ T = skip n F gh (nx n a) ∧ wx = w3)
          case atStart => exact ⟨a, rfl, by omega, HT.out, rfl⟩
          case round =>
            clear HT HPut haF
            obtain ⟨a, rfl, han, hTs, rfl⟩ := hrel
            have HTs := Lib.hid hTs
            clear hTs
            have hb : ((a : Int) + (s : Int)) % (n : Int) = ((nx n a : Nat) : Int) := by unfold nx; rw [← HS2.out]; simp
            have HNx : Hid (nx n a < n) := Nat.mod_lt _ (by omega)
            obtain ⟨y, hy⟩ : ∃ y, y = nx n a := ⟨_, rfl⟩
            rw [← hy] at hb HTs HNx
            clear hy
            have hyn := HNx.out
            by_cases hyF : y < F
            · have hyi : (y : Int) < (F : Int) := by omega
              have hyT : y = T := by
                rw [HTs.out]
                cases gk with
                | zero => rfl
                | succ f => rw [skip, if_pos hyF]
              subst hyT
              go_wp2_with fail
              go_roundg g2
              case rel =>
                refine ⟨j + 1, y, by have := HJ.out; omega, by go_num, by first | rfl | rw [hb], by rw [HSt.out], fun _ => hyF, HO3.out, HS3.out⟩
              case measure => omega
            · have hyi : ¬ (y : Int) < (F : Int) := by omega
              obtain ⟨f, hf⟩ : ∃ f, gk = f + 1 := by
                cases gk with
                | zero =>
                  exfalso
                  have := HTs.out
                  rw [skip] at this
                  omega
                | succ f => exact ⟨f, rfl⟩
              subst hf
              have hTn : T = skip n F f (nx n y) := by rw [HTs.out, skip, if_neg hyF]
              have HTn := Lib.hid hTn
              clear hTn
              go_wp2_with fail
              go_roundg f
              case rel => exact ⟨y, by first | rfl | rw [hb], hyn, HTn.out, rfl⟩
              case measure => omega
        · obtain rfl : j = P := by omega
          have hji : ¬ (j : Int) < p := by have := HPp.out; omega
          go_wp2_with fail
          go_roundg g'
          case rel =>
            refine ⟨k + 1, a, by have := HK.out; omega, by go_num, rfl, ?_, HAF.out, ?_, HS1.out⟩
            · rw [HAn.out, ← HPP.out]; exact HA1.out
            · rw [HAn.out, ← HPP.out]; exact HO1.out
          case measure => omega
    · obtain rfl : k = m := by omega
      have hki : ¬ (k : Int) < (k : Int) := by omega
      go_wp2_with fail
      go_end0
      refine ⟨rfl, ?_, HS1.out⟩
      have h1 := HO1.out
      unfold at_ at h1
      rw [List.replicate_zero, List.append_nil] at h1
      exact h1
end Go.Proofs.YtlidnialggpcpaaGreatDoor

/- The contract of the program's entries. -/
namespace Go.Proofs.YtlidnialggpcpaaGreatDoor
open Go.RowKit

theorem getD_of {α : Type} (l : List α) (i : Nat) (d : α) (h : i < l.length) : l.getD i d = l[i] := by rw [List.getD_eq_getElem?_getD, List.getElem?_eq_getElem h]; rfl
theorem array_zero : (Tryz.prog.info? 184).map (·.zero) = some (some (.agg (arr fun _ => 0))) := by kernel_rfl
/-- The numbers that the symbols begin with, the first k of them; those behind the first i states. -/
def nxt0 (ps : List Int) (k s : Nat) : Nat := if s < k then (wi (ps.getD s 0)).toNat else 0
def nxtI (ps : List Int) (sy : List Nat) (i s : Nat) : Nat := (wi (ps.getD s 0)).toNat + (sy.take i).count s
theorem nxt0_all (ps : List Int) (s : Nat) : nxt0 ps ps.length s = nxtI ps [] 0 s := by
  unfold nxt0 nxtI
  split
  · simp
  · rw [getD_out ps s (by omega)]; rfl
theorem nxt0_succ (ps : List Int) (k : Nat) : (fun i => if i = k then (wi (ps.getD k 0)).toNat else nxt0 ps k i) = nxt0 ps (k + 1) := by
  funext i
  unfold nxt0
  by_cases h : i = k
  · subst h
    rw [if_pos rfl, if_pos (by omega)]
  · rw [if_neg h]
    have e : (i < k + 1) = (i < k) := by apply propext; omega
    simp only [e]
theorem nxtI_succ (ps : List Int) (sy : List Nat) (i : Nat) (h : i < sy.length) : (fun s => if s = sy.getD i 0 then nxtI ps sy i (sy.getD i 0) + 1 else nxtI ps sy i s) = nxtI ps sy (i + 1) := by
  funext s
  unfold nxtI
  rw [count_take_succ sy i s h]
  by_cases e : s = sy.getD i 0
  · rw [if_pos e, e, if_pos rfl]; omega
  · rw [if_neg e, if_neg (fun q => e q.symm)]; rfl
/-- The table's entries up to state i, noughts behind. -/
def upTo (T : List En) (n i : Nat) : List En := T.take i ++ List.replicate (n - i) ⟨0, 0, 0⟩
theorem upTo_length (T : List En) (n i : Nat) (h : T.length = n) (hi : i ≤ n) : (upTo T n i).length = n := by
  unfold upTo
  simp
  omega
theorem upTo_set (T : List En) (n i : Nat) (h : T.length = n) (hi : i < n) : (upTo T n i).set i (T[i]'(by omega)) = upTo T n (i + 1) := by
  unfold upTo
  have e : n - i = (n - (i + 1)) + 1 := by omega
  rw [List.set_append_right _ _ (by simp; omega), List.take_succ_eq_append_getElem (by omega), e, List.replicate_succ, List.append_assoc]
  have e2 : i - (T.take i).length = 0 := by simp; omega
  rw [e2]
  rfl

theorem keep3 {W wn : World} {b o B : Nat} {x y z : Value} (hB : Below B W wn) (hb : b < B) (h : W.cell? ⟨b, o, none⟩ = some x ∧ W.cell? ⟨b, o + 1, none⟩ = some y ∧ W.cell? ⟨b, o + 2, none⟩ = some z) (hf : W.frozen? ⟨b, o, none⟩ = false ∧ W.frozen? ⟨b, o + 1, none⟩ = false ∧ W.frozen? ⟨b, o + 2, none⟩ = false) :
    (wn.cell? ⟨b, o, none⟩ = some x ∧ wn.cell? ⟨b, o + 1, none⟩ = some y ∧ wn.cell? ⟨b, o + 2, none⟩ = some z) ∧ wn.frozen? ⟨b, o, none⟩ = false ∧ wn.frozen? ⟨b, o + 1, none⟩ = false ∧ wn.frozen? ⟨b, o + 2, none⟩ = false :=
  ⟨⟨(hB.cell (p := ⟨b, o, none⟩) hb).trans h.1, (hB.cell (p := ⟨b, o + 1, none⟩) hb).trans h.2.1, (hB.cell (p := ⟨b, o + 2, none⟩) hb).trans h.2.2⟩, (hB.frozen (p := ⟨b, o, none⟩) hb).trans hf.1, (hB.frozen (p := ⟨b, o + 1, none⟩) hb).trans hf.2.1, (hB.frozen (p := ⟨b, o + 2, none⟩) hb).trans hf.2.2⟩

/-- What entries has made so far: the counts, what goes by symbol, the entries. -/
def Mk (w wx : World) (l : Int) (A : Option Addr) (m cp n : Nat) (g : Nat → Nat) (es : List En) : Prop :=
  Box wx w.heap.size 164 #[.int .i64 l, .slice A m cp] ∧ Box wx (w.heap.size + 1) 184 (arr g) ∧ OwR 3 ecell wx 111 (w.heap.size + 2) (.slice (some ⟨w.heap.size + 2, 0, none⟩) n n) es ∧ Below w.heap.size w wx

set_option maxRecDepth 100000 in
set_option maxHeartbeats 2000000 in
theorem entries_any {w : World} {lo hi lo2 hi2 n c m cp l : Nat} {A A2 : Option Addr} {ps : List Int} (h : MayF l ps) (hn : n = 2 ^ l) (hsy : DatE bocel w lo2 hi2 A2 (syms l ps)) (hhi2 : hi2 ≤ w.heap.size) (hd : DatE icel w lo hi A ps) (hhi : hi ≤ w.heap.size) (hm : ps.length = m) :
    Calls Tryz.prog 110 #[.slice A2 n c, .agg #[.int .i64 (l : Int), .slice A m cp]] w fun e w' => ∃ v, e = .returned v ∧ OwR 3 ecell w' 111 w.heap.size v (tab l ps) ∧ Below w.heap.size w w' := by
  obtain ⟨i0, hi0, hz0, hz1, hz2⟩ := info_parts entry_info
  have hn5 : 2 ^ 5 ≤ 2 ^ l := Nat.pow_le_pow_right (by omega) h.l5
  have hn15 : 2 ^ l ≤ 2 ^ 15 := Nat.pow_le_pow_right (by omega) h.l15
  have hl15 := h.l15
  have hm2 := h.len
  have hsl := h.syms_len
  have htl := tab_length h
  rw [← hn] at hn5 hn15 hsl htl
  rw [hm] at hm2
  have HMay := Lib.hid h
  have HN := Lib.hid hn
  have HSy := Lib.hid hsy
  have HD := Lib.hid hd
  have HM := Lib.hid hm
  have HSL := Lib.hid hsl
  have HTL := Lib.hid htl
  clear h hn hsy hd hm hsl htl
  go_enter Tryz.func110, Tryz.ntmps110
  go_wp2_with (refine wpList_alloc_z rfl 184 rfl (arr fun _ => 0) array_zero ?_)
  have hb0 := (Box.new w 164 #[.int .i64 (l : Int), .slice A m cp]).alloc (.cells (arr fun _ => 0) 184)
  have hb1 := Box.new (w.alloc (.cells #[.int .i64 (l : Int), .slice A m cp] 164)) 184 (arr fun _ => 0)
  rw [World.size_alloc] at hb1
  have H0 := Lib.hid hb0
  have H1 : Hid (Box ((w.alloc (.cells #[.int .i64 (l : Int), .slice A m cp] 164)).alloc (.cells (arr fun _ => 0) 184)) (w.heap.size + 1) 184 (arr (nxt0 ps 0))) := by
    rw [show nxt0 ps 0 = fun _ => 0 from rfl]
    exact hb1
  have H2 : Hid (((w.alloc (.cells #[.int .i64 (l : Int), .slice A m cp] 164)).alloc (.cells (arr fun _ => 0) 184)).heap.size = w.heap.size + 2) := by simp [Hid]
  have HB : Hid (Below w.heap.size w ((w.alloc (.cells #[.int .i64 (l : Int), .slice A m cp] 164)).alloc (.cells (arr fun _ => 0) 184))) := ((Below.refl _ _).alloc (Nat.le_refl _) _).alloc (by simp) _
  clear hb0 hb1
  generalize (w.alloc (.cells #[.int .i64 (l : Int), .slice A m cp] 164)).alloc (.cells (arr fun _ => 0) 184) = W at *
  go_loopg [14] m (fun gh i wx => ∃ k : Nat, k + gh = m ∧ i = .int .i64 (k : Int) ∧ Box wx w.heap.size 164 #[.int .i64 (l : Int), .slice A m cp] ∧ Box wx (w.heap.size + 1) 184 (arr (nxt0 ps k)) ∧ wx.heap.size = w.heap.size + 2 ∧ Below w.heap.size w wx)
  case atStart => exact ⟨0, by omega, rfl, H0.out, H1.out, H2.out, HB.out⟩
  case round =>
    clear H0 H1 H2 HB
    obtain ⟨k, hk, rfl, hb0, hb1, hsz, hB⟩ := hrel
    have H0 := Lib.hid hb0
    have H1 := Lib.hid hb1
    have H2 := Lib.hid hsz
    have HB := Lib.hid hB
    have HK := Lib.hid hk
    have hkm : k ≤ m := by omega
    clear hb0 hb1 hsz hB hk
    by_cases hlt : k < m
    · obtain ⟨g', rfl⟩ : ∃ g', gk = g' + 1 := ⟨gk - 1, by have := HK.out; omega⟩
      have hkl : k < ps.length := by have := HM.out; omega
      obtain ⟨d1, o1, rfl, q1, q2, hc⟩ := (HD.out.below HB.out hhi) (by omega)
      have hcell := hc k hkl
      unfold icel at hcell
      have HG := Lib.hid (getD_eq ps k 0 hkl)
      have hki : (k : Int) < (m : Int) := by omega
      have hpg := HMay.out.ge ps[k] (List.getElem_mem hkl)
      have hpw := HMay.out.wi_le k
      rw [HG.out] at hpw
      have hc1 := (H1.out.cell k).trans (arr_get _ k (by omega))
      have hf1 := H1.out.free k
      have hput := H1.out.put k (.int .i64 (((wi (ps.getD k 0)).toNat : Nat) : Int))
      rw [arr_set, nxt0_succ] at hput
      have HPut := Lib.hid hput
      have hpn : ((wi ps[k]).toNat : Int) = wi ps[k] := by have := (wi_pos hpg).1; omega
      rw [HG.out] at HPut
      rw [hpn] at HPut
      have hNn := HN.out
      rw [← hNn] at hpw
      have hp15 : ps[k] ≤ 32768 := by unfold wi at hpw; split at hpw <;> omega
      clear hc hput hpn hpw hNn
      generalize ps[k] = p at *
      by_cases hp : p = -1
      · subst hp
        have hmax : wi (-1) = 1 := rfl
        rw [hmax] at HPut
        clear hmax
        go_wp2_with fail
        go_roundg g'
        case rel => exact ⟨k + 1, by have := HK.out; omega, by go_num, H0.out.far (by show w.heap.size ≠ w.heap.size + 1; omega) _, HPut.out, by simpa using H2.out, HB.out.setCell (by show w.heap.size ≤ w.heap.size + 1; omega) _⟩
        case measure => omega
      · have hp0 : 0 ≤ p := by omega
        have hw : wi p = p := by unfold wi; rw [if_neg hp]
        rw [hw] at HPut
        clear hw
        go_wp2_with fail
        go_roundg g'
        case rel => exact ⟨k + 1, by have := HK.out; omega, by go_num, H0.out.far (by show w.heap.size ≠ w.heap.size + 1; omega) _, HPut.out, by simpa using H2.out, HB.out.setCell (by show w.heap.size ≤ w.heap.size + 1; omega) _⟩
        case measure => omega
    · obtain rfl : k = m := by omega
      have hki : ¬ (k : Int) < (k : Int) := by omega
      have hgfull : nxt0 ps k = nxtI ps (syms l ps) 0 := by
        funext s
        have := HM.out
        rw [← this, nxt0_all]
        unfold nxtI
        simp
      rw [hgfull] at H1
      have hsz := H2.out
      clear hgfull hsz
      go_wp2_with (refine wpList_make_full _ rfl _ _ 25 rfl (w.heap.size + 2) 111 i0 (.agg #[.int .u8 0, .int .i64 0, .int .i64 0]) 3 Tryz.underlying25 hi0 hz0 hz1 .i64 .i64 _ _ n rfl rfl rfl rfl ?_ ?_ ?_ ?_)
      · first | omega | (rw [hz2]; omega)
      · unfold maxLen; omega
      · rw [H2.out]; exact Nat.le_refl _
      intro w1 ho hg
      have hes := OwR.made (f := ecell) (x := (⟨0, 0, 0⟩ : En)) ecell_len (by decide) rfl ho
      rw [H2.out] at hes
      have HMk : Hid (Mk w w1 (l : Int) A k cp n (nxtI ps (syms l ps) 0) (upTo (tab l ps) n 0)) := by
        refine ⟨H0.out.grown hg (by simp), H1.out.grown hg (by simp), ?_, HB.out.grown hg (by rw [H2.out]; omega) (by simp)⟩
        unfold upTo
        simpa using hes
      rw [H2.out]
      clear ho hg hes H0 H1 H2 HB
      go_wp2_with fail
      go_loopg [31] n (fun gh i wx => ∃ j : Nat, j + gh = n ∧ i = .int .i64 (j : Int) ∧ Mk w wx (l : Int) A k cp n (nxtI ps (syms l ps) j) (upTo (tab l ps) n j))
      case atStart => exact ⟨0, by omega, rfl, HMk.out⟩
      case round =>
        clear HMk
        obtain ⟨j, hj, rfl, hmk⟩ := hrel
        have HMk := Lib.hid hmk
        have HJ := Lib.hid hj
        have hjn : j ≤ n := by omega
        clear hmk hj
        by_cases hjl : j < n
        · obtain ⟨g', rfl⟩ : ∃ g', gk = g' + 1 := ⟨gk - 1, by have := HJ.out; omega⟩
          have hjs : j < (syms l ps).length := by have := HSL.out; omega
          have hjt : j < (tab l ps).length := by have := HTL.out; omega
          obtain ⟨d2, o2, rfl, q1, q2, hc⟩ := (HSy.out.below HMk.out.2.2.2 hhi2) (by omega)
          have hcell := hc j hjs
          unfold bocel at hcell
          have hg := getD_of (syms l ps) j 0 hjs
          have hs256 : (syms l ps)[j] < 256 := by
            have h1 := HMay.out.syms_lt _ (List.getElem_mem hjs)
            have h2 := HMay.out.len
            omega
          have hkb := HMay.out.k_bd j (by have := HN.out; omega)
          have hte := tabS_get l ps (syms l ps) j hjt
          have hnx : kOf ps (syms l ps) j = nxtI ps (syms l ps) j ((syms l ps).getD j 0) := rfl
          have hns := nxtI_succ ps (syms l ps) j hjs
          rw [← hnx] at hns
          have hup := upTo_set (tab l ps) n j HTL.out hjl
          rw [show (tab l ps)[j] = (tabS l ps (syms l ps))[j]'hjt from rfl, hte] at hup
          rw [hg] at hup hns hnx
          have hli : j < (upTo (tab l ps) n j).length := by rw [upTo_length _ _ _ HTL.out hjn]; exact hjl
          have HNx := Lib.hid hnx.symm
          have HUp := Lib.hid hup
          have HNs := Lib.hid hns
          have hki : (j : Int) < (n : Int) := by omega
          have hc1 := (HMk.out.2.1.cell (syms l ps)[j]).trans (arr_get _ _ hs256)
          rw [← hnx] at hc1
          have hf1 := HMk.out.2.1.free (syms l ps)[j]
          have hc0 := HMk.out.1.cell 0
          obtain ⟨z0, z1, z2, ⟨x0, x1, x2⟩, y0, y1, y2⟩ : ∃ z0 z1 z2 : Int, (wr.cell? ⟨w.heap.size + 2, j * 3, none⟩ = some (.int .u8 z0) ∧ wr.cell? ⟨w.heap.size + 2, j * 3 + 1, none⟩ = some (.int .i64 z1) ∧ wr.cell? ⟨w.heap.size + 2, j * 3 + 2, none⟩ = some (.int .i64 z2)) ∧
              wr.frozen? ⟨w.heap.size + 2, j * 3, none⟩ = false ∧ wr.frozen? ⟨w.heap.size + 2, j * 3 + 1, none⟩ = false ∧ wr.frozen? ⟨w.heap.size + 2, j * 3 + 2, none⟩ = false := ⟨_, _, _, HMk.out.2.2.1.cells3 j hli⟩
          have hlb : w.heap.size + 2 < wr.heap.size := World.block_lt_of_cell? wr _ x0
          have hw8 : (((syms l ps)[j] : Nat) : Int) < 256 := by omega
          have HE := fun W => Lib.hid (entry_any (syms l ps)[j] (kOf ps (syms l ps) j) l W hl15 hkb.1 hkb.2)
          have HLi := Lib.hid hli
          have HKb := Lib.hid hkb
          have hk1 : kOf ps (syms l ps) j ≤ 65536 := by have := HN.out; omega
          clear hc hg hte hnx hns hup hli hkb
          generalize (syms l ps)[j] = s at *
          generalize kOf ps (syms l ps) j = k9 at *
          go_wp2_with fail
          go_region_with (go_at_call 124; refine ((HE _).out).mono ?_; rintro e' wn ⟨rfl, hB⟩; have HBn : Hid (Below wr.heap.size wr wn) := (⟨hB.os, hB.tape, hB.output, hB.size, hB.block⟩ : Below wr.heap.size wr wn); obtain ⟨⟨x0n, x1n, x2n⟩, y0n, y1n, y2n⟩ := keep3 HBn.out hlb ⟨x0, x1, x2⟩ ⟨y0, y1, y2⟩; clear hB)
          all_goals
            have HM5 : Hid (Mk w (((wn.setCell ⟨w.heap.size + 2, j * 3, none⟩ (.int .u8 (entN l s k9).s)).setCell ⟨w.heap.size + 2, j * 3 + 1, none⟩ (.int .i64 (entN l s k9).b)).setCell ⟨w.heap.size + 2, j * 3 + 2, none⟩ (.int .i64 (entN l s k9).e)) (l : Int) A k cp n (nxtI ps (syms l ps) j) (upTo (tab l ps) n (j + 1))) := by
              have h1 := HMk.out.1.below HBn.out (by omega)
              have h2 := HMk.out.2.1.below HBn.out (by omega)
              have h3 := HMk.out.2.2.1.below HBn.out (Nat.le_refl _)
              have h4 := h3.put3 j HLi.out (entN l s k9)
              rw [HUp.out] at h4
              refine ⟨((h1.far ?_ _).far ?_ _).far ?_ _, ((h2.far ?_ _).far ?_ _).far ?_ _, h4, (((HMk.out.2.2.2.trans (HBn.out.mono (by omega))).setCell ?_ _).setCell ?_ _).setCell ?_ _⟩
              all_goals (show _ ; simp only; omega)
            generalize ((wn.setCell ⟨w.heap.size + 2, j * 3, none⟩ (.int .u8 (entN l s k9).s)).setCell ⟨w.heap.size + 2, j * 3 + 1, none⟩ (.int .i64 (entN l s k9).b)).setCell ⟨w.heap.size + 2, j * 3 + 2, none⟩ (.int .i64 (entN l s k9).e) = w5 at *
            have c5 := (HM5.out.2.1.cell s).trans (arr_get _ _ hs256)
            have f5 := HM5.out.2.1.free s
            have hput := HM5.out.2.1.put s (.int .i64 ((k9 + 1 : Nat) : Int))
            rw [arr_set, HNs.out] at hput
            rw [show nxtI ps (syms l ps) j s = k9 from HNx.out] at c5
            have HPut := Lib.hid hput
            clear x0n x1n x2n y0n y1n y2n x0 x1 x2 y0 y1 y2 hc1 hf1 hc0 hcell hput
            go_wp2_with fail
            go_roundg g'
            case rel =>
              exact ⟨j + 1, by have := HJ.out; omega, by go_num, HM5.out.1.far (by show w.heap.size ≠ w.heap.size + 1; omega) _, HPut.out, HM5.out.2.2.1.aside (by omega) _ _, HM5.out.2.2.2.setCell (by show w.heap.size ≤ w.heap.size + 1; omega) _⟩
            case measure => omega
        · obtain rfl : j = n := by omega
          have hji : ¬ (j : Int) < (j : Int) := by omega
          go_wp2_with fail
          go_ret
          refine ⟨_, rfl, ?_, HMk.out.2.2.2⟩
          have h3 := HMk.out.2.2.1
          unfold upTo at h3
          rw [Nat.sub_self, List.replicate_zero, List.append_nil, List.take_of_length_le (by rw [HTL.out]; exact Nat.le_refl _)] at h3
          exact h3.mono (by omega)
end Go.Proofs.YtlidnialggpcpaaGreatDoor

/- The contract of the program's Build. -/
namespace Go.Proofs.YtlidnialggpcpaaGreatDoor
open Go.RowKit

theorem u8_info7 : (Tryz.prog.info? 5).map (fun i => (i.zero, i.size, i.bytes)) = some (some (.int .u8 0), 1, 1) := by kernel_rfl

section
variable {w : World} {lo hi m cp : Nat} {A : Option Addr} {ps : List Int}
set_option maxRecDepth 100000 in
set_option maxHeartbeats 2000000 in
theorem build_yes (l : Nat) (hyes : mayB (l : Int) ps = true) (hd : DatE icel w lo hi A ps) (hm : ps.length = m) (hc : m ≤ cp) (hmx : m ≤ maxLen) (hhi : hi ≤ w.heap.size) (hb : ∀ p ∈ ps, -9223372036854775808 ≤ p ∧ p ≤ 9223372036854775807) :
    Calls Tryz.prog 75 #[.agg #[.int .i64 (l : Int), .slice A m cp]] w fun e w' => ∃ v, e = .returned (.tuple #[.agg #[.int .i64 (l : Int), v], .int .i64 0]) ∧ OwR 3 ecell w' 111 w.heap.size v (tab l ps) ∧ Below w.heap.size w w' := by
  have hb2 : Below w.heap.size w ((w.alloc (.cells #[.int .i64 (l : Int), .slice A m cp] 164)).alloc (.cells #[.int .i64 0, .slice none 0 0] 27)) := ((Below.refl _ _).alloc (Nat.le_refl _) _).alloc (by simp) _
  have HC := Lib.hid (check_any (c := cp) (l : Int) 15 (hd.below hb2 hhi) hm hc hmx (by simp; omega) hb)
  have hF := mayF hyes
  rw [chk_ok hyes (by have := hF.l15; omega)] at HC
  have hx0 := (Box.new w 164 #[.int .i64 (l : Int), .slice A m cp]).alloc (.cells #[.int .i64 0, .slice none 0 0] 27)
  have HX0 := Lib.hid hx0
  have HX := Lib.hid (Box.new (w.alloc (.cells #[.int .i64 (l : Int), .slice A m cp] 164)) 27 #[.int .i64 0, .slice none 0 0])
  rw [World.size_alloc] at HX
  have HB2 := Lib.hid hb2
  have HF := Lib.hid hF
  have HD := Lib.hid hd
  have HM := Lib.hid hm
  have hl5 := hF.l5
  have hl15 := hF.l15
  obtain ⟨i0, hi0, hz0, hz1, hz2⟩ := info_parts u8_info7
  obtain ⟨n, hn⟩ : ∃ n : Nat, n = 2 ^ l := ⟨_, rfl⟩
  have hpow : (2 : Int) ^ l = (n : Int) := by rw [hn]; simp
  have hn5 : 2 ^ 5 ≤ 2 ^ l := Nat.pow_le_pow_right (by omega) hl5
  have hn15 : 2 ^ l ≤ 2 ^ 15 := Nat.pow_le_pow_right (by omega) hl15
  rw [← hn] at hn5 hn15
  have HN := Lib.hid hn
  clear hd hm hb hyes hb2 hF hx0 hn
  go_enter Tryz.func75, Tryz.ntmps75
  go_wp2_with fail
  refine HC.out.mono ?_
  rintro e w1 ⟨rfl, hB⟩
  have HB := Lib.hid (HB2.out.trans (hB.mono (by simp; omega)))
  have HY0 := Lib.hid (HX0.out.below hB (by simp; omega))
  have HY := Lib.hid (HX.out.below hB (by simp))
  have hs1 := hB.size
  simp only [World.size_alloc] at hs1
  obtain ⟨c0, c1, f0, f1⟩ := box2 HY0.out
  clear hB HC HX HX0 HB2
  go_wp2_with (refine wpList_make_full _ rfl _ _ 22 rfl w1.heap.size 5 i0 (.int .u8 0) 1 Tryz.underlying22 hi0 hz0 hz1 .i64 .i64 _ _ n rfl rfl rfl rfl ?_ ?_ ?_ ?_)
  · first | omega | (rw [hz2]; omega)
  · unfold maxLen; omega
  · exact Nat.le_refl _
  intro w2 ho hg
  have ho2 : OwE bocel w2 5 w1.heap.size (.slice (some ⟨w1.heap.size, 0, none⟩) n n) (List.replicate n 0) := by
    unfold OwE
    rw [List.length_replicate, List.map_replicate]
    have h := ho
    rw [toList_madeCells_one] at h
    exact h
  have HO2 := Lib.hid ho2
  have hg2 := hg.size
  have HB2 := Lib.hid (HB.out.grown hg (by omega) (by simp))
  have HY02 := Lib.hid (HY0.out.grown hg (by simp))
  have HY2 := Lib.hid (HY.out.grown hg (by simp))
  have hlt2 := ho2.lt
  clear ho ho2 hg HB HY0 HY c0 c1 f0 f1
  obtain ⟨c0, c1, f0, f1⟩ := box2 HY02.out
  have hR : (rr ps ps.length).length ≤ n := by have := HF.out.sum; have := HN.out; omega
  have hm256 : m ≤ 256 := by have := HF.out.len; have := HM.out; omega
  have HRr := Lib.hid (layRare_any (cp := cp) HO2.out (HD.out.below HB2.out hhi) (Or.inr (by omega)) HM.out hm256 hR (by omega))
  obtain ⟨F, hFe⟩ : ∃ F : Nat, F = n - (rr ps ps.length).length := ⟨_, rfl⟩
  rw [← hFe] at HRr
  have HFe : Hid (F = fe l ps) := by unfold Hid fe; rw [hFe, HN.out]
  clear hR hFe
  go_wp2_with fail
  refine HRr.out.mono ?_
  rintro e w3 ⟨rfl, ho, hs⟩
  have HO3 := Lib.hid ho
  have hs3 := hs.2
  have HB3 := Lib.hid (HB2.out.trans (hs.below (B := w.heap.size) (by omega) (by omega)))
  have HY03 := Lib.hid (HY02.out.keep (hs.1.block w.heap.size (by omega) (by intro e; injection e with e; omega)))
  have HY3 := Lib.hid (HY2.out.keep (hs.1.block (w.heap.size + 1) (by omega) (by intro e; injection e with e; omega)))
  have hlt3 := ho.lt
  clear ho hs HRr HO2 HB2 HY02 HY2 c0 c1 f0 f1
  obtain ⟨c0, c1, f0, f1⟩ := box2 HY03.out
  have hLl : (List.replicate F 0 ++ rr ps ps.length).length = 2 ^ l := by rw [HFe.out]; simpa using HF.out.base_len 0 id
  have HOt := Lib.hid (layOthers_any (cp := cp) HF.out HN.out HFe.out hLl HO3.out (HD.out.below HB3.out hhi) (Or.inr (by omega)) HM.out)
  rw [show (lay (2 ^ l) (fe l ps) (List.replicate F 0 ++ rr ps ps.length) (ot ps ps.length)).1 = syms l ps by rw [HFe.out]; rfl] at HOt
  clear hLl
  go_wp2_with fail
  refine HOt.out.mono ?_
  rintro e w4 ⟨rfl, ho, hs⟩
  have HO4 := Lib.hid ho
  have hs4 := hs.2
  have HB4 := Lib.hid (HB3.out.trans (hs.below (B := w.heap.size) (by omega) (by omega)))
  have HY04 := Lib.hid (HY03.out.keep (hs.1.block w.heap.size (by omega) (by intro e; injection e with e; omega)))
  have HY4 := Lib.hid (HY3.out.keep (hs.1.block (w.heap.size + 1) (by omega) (by intro e; injection e with e; omega)))
  clear ho hs HOt HO3 HB3 HY03 HY3 c0 c1 f0 f1
  obtain ⟨c0, c1, f0, f1⟩ := box2 HY04.out
  obtain ⟨Ay, cy, hv, _, hdy⟩ := HO4.out.form
  have HEn := Lib.hid (entries_any (w := w4.drew) (c := n) (cp := cp) HF.out HN.out (show DatE bocel w4.drew w1.heap.size w4.heap.size (some ⟨w1.heap.size, 0, none⟩) (syms l ps) by injection hv with hv; subst hv; exact hdy) (Nat.le_refl _) (show DatE icel w4.drew lo hi A ps from HD.out.below HB4.out.drew hhi) (by show hi ≤ w4.heap.size; omega) HM.out)
  clear hv hdy
  go_wp2_with fail
  go_region_with (go_at_call 110; refine (HEn.out).mono ?_; rintro e' wn ⟨v, rfl, hes, hB⟩; obtain ⟨Av, nv, cv, rfl⟩ := hes.slice; have hB4 : Below w4.heap.size w4 wn := ⟨hB.os, hB.tape, hB.output, hB.size, hB.block⟩; have HBn := Lib.hid (HB4.out.trans (hB4.mono (by omega))); have HEs := Lib.hid hes; obtain ⟨t0, t1, k0, k1⟩ := box2 (HY4.out.below hB4 (by omega)); obtain ⟨d0, d1, g0, g1⟩ := box2 (HY04.out.below hB4 (by omega)); clear hB hB4 hes)
  all_goals
    go_wp2_with fail
    refine bodyPost_ret (v := .tuple #[.agg #[.int .i64 (l : Int), .slice Av nv cv], .int .i64 0]) (by simp [results, Tryz.results75, go_sem, t0, t1]) rfl ⟨.slice Av nv cv, rfl, ?_, ?_⟩
    · refine (HEs.out.keep fun k hk => ?_).mono (show w.heap.size ≤ w4.heap.size by omega)
      have hk4 : w4.heap.size ≤ k := (HEs.out.block k hk).1
      rw [Below.heap_setCell _ _ _ k (by show k ≠ w.heap.size + 1; omega), Below.heap_setCell _ _ _ k (by show k ≠ w.heap.size + 1; omega)]
    · exact (HBn.out.setCell (by show w.heap.size ≤ w.heap.size + 1; omega) _).setCell (by show w.heap.size ≤ w.heap.size + 1; omega) _
end
end Go.Proofs.YtlidnialggpcpaaGreatDoor

/- The contracts of the program's First and Before. -/
namespace Go.Proofs.YtlidnialggpcpaaGreatDoor
open Go.RowKit

/-- What First answers. -/
def FirstPost (es : List En) (y : Int) (w : World) (e : Ending) (w' : World) : Prop :=
  Below w.heap.size w w' ∧ ((∃ i, ∃ h : i < es.length, e = .returned (.tuple #[.int .i64 (i : Int), .int .i64 0]) ∧ es[i].s = y ∧ ∀ j (hj : j < i), es[j].s ≠ y) ∨
    ((∀ j (h : j < es.length), es[j].s ≠ y) ∧ e = .returned (.tuple #[.int .i64 0, .int .i64 21])))

section
variable {w : World} {lo hi n c : Nat} {A : Option Addr} {es : List En}
set_option maxRecDepth 100000 in
set_option maxHeartbeats 1000000 in
theorem first_any (L y : Int) (hd : DatR 3 ecell w lo hi A es) (hn : es.length = n) (hn2 : n ≤ 65536) (hhi : hi ≤ w.heap.size) :
    Calls Tryz.prog 101 #[.agg #[.int .i64 L, .slice A n c], .int .u8 y] w (FirstPost es y w) := by
  have HD := Lib.hid hd
  have HN := Lib.hid hn
  clear hd hn
  go_enter Tryz.func101, Tryz.ntmps101
  go_wp2_with fail
  go_loopg [11] n (fun gh i wx => ∃ k : Nat, k + gh = n ∧ i = .int .i64 (k : Int) ∧ (∀ j (hj : j < k) (h : j < es.length), es[j].s ≠ y) ∧ Below w.heap.size w wx)
  case atStart => exact ⟨0, by omega, rfl, fun j hj => absurd hj (by omega), (Below.refl _ _).alloc (Nat.le_refl _) _⟩
  case round =>
    obtain ⟨k, hk, rfl, hall, hB⟩ := hrel
    have HB := Lib.hid hB
    have HK := Lib.hid hk
    have HAll := Lib.hid hall
    have hkn : k ≤ n := by omega
    have hsz := hB.size
    clear hall hB hk
    by_cases hlt : k < n
    · obtain ⟨g', rfl⟩ : ∃ g', gk = g' + 1 := ⟨gk - 1, by have := HK.out; omega⟩
      have hkl : k < es.length := by have := HN.out; omega
      obtain ⟨d, o, rfl, q1, q2, hc⟩ := (HD.out.below HB.out hhi).ent (by omega)
      obtain ⟨c0, c1, c2⟩ := hc k hkl
      have hki : (k : Int) < (n : Int) := by omega
      obtain ⟨x, hx⟩ : ∃ x, x = es[k] := ⟨_, rfl⟩
      rw [← hx] at c0 c1 c2
      have HX := Lib.hid hx
      clear hc hx
      obtain ⟨s, b, e⟩ := x
      simp only at c0 c1 c2
      by_cases hs : s = y
      · subst hs
        go_wp2_with fail
        go_ret2
        exact ⟨HB.out.alloc hsz _, .inl ⟨k, hkl, rfl, by rw [← HX.out], fun j hj => HAll.out j hj (by omega)⟩⟩
      · have hs1 : (s == y) = false := by rw [beq_eq_false_iff_ne]; exact hs
        go_wp2_with fail
        go_roundg g'
        case rel =>
          refine ⟨k + 1, by have := HK.out; omega, by go_num, fun j hj h => ?_, HB.out.alloc hsz _⟩
          by_cases hjk : j = k
          · subst hjk
            rw [← HX.out]; exact hs
          · exact HAll.out j (by omega) h
        case measure => omega
    · obtain rfl : k = n := by omega
      have hki : ¬ (k : Int) < (k : Int) := by omega
      go_wp2_with fail
      go_ret2
      exact ⟨HB.out, .inr ⟨fun j h => HAll.out j (by have := HN.out; omega) h, rfl⟩⟩

/-- What Before answers of a state that there is. -/
def BeforePost (es : List En) (st : Nat) (y : Int) (w : World) (e : Ending) (w' : World) : Prop :=
  Below w.heap.size w w' ∧ ((∃ i, ∃ h : i < es.length, e = .returned (.tuple #[.int .i64 (i : Int), .int .u64 ((st : Int) - es[i].e), .int .i64 es[i].b, .int .i64 0]) ∧ matB es[i] y st = true) ∨
    ((∀ j (h : j < es.length), matB es[j] y st = false) ∧ e = .returned (.tuple #[.int .i64 0, .int .u64 0, .int .i64 0, .int .i64 21])))
/-- What entries may be. -/
def Fine (es : List En) : Prop := ∀ i (h : i < es.length), ∃ s b e : Nat, es[i] = ⟨s, b, e⟩ ∧ s < 256 ∧ b ≤ 15 ∧ e + 2 ^ b ≤ 65536
theorem mat_rch (x : En) (y st : Int) : matB x y st = (decide (x.s = y) && rchB x st) := by unfold matB rchB; rw [Bool.and_assoc]

set_option maxRecDepth 100000 in
set_option maxHeartbeats 2000000 in
theorem before_any (L : Int) (y st : Nat) (hd : DatR 3 ecell w lo hi A es) (hf : Fine es) (hn : es.length = n) (hn2 : n ≤ 65536) (hhi : hi ≤ w.heap.size) (hst : st < n) :
    Calls Tryz.prog 102 #[.agg #[.int .i64 L, .slice A n c], .int .i64 (st : Int), .int .u8 (y : Int)] w (BeforePost es st y w) := by
  have HC := Lib.hid (isState_yes (w := w.alloc (.cells #[.int .i64 L, .slice A n c] 27)) (L := L) (A := A) (c := c) st hst)
  have hx := Box.new w 27 #[.int .i64 L, .slice A n c]
  have HX := Lib.hid hx
  have HD := Lib.hid hd
  have HN := Lib.hid hn
  have HF := Lib.hid hf
  clear hd hn hf hx
  go_enter Tryz.func102, Tryz.ntmps102
  go_wp2_with fail
  refine HC.out.mono ?_
  rintro e w1 ⟨rfl, hB⟩
  have HB := Lib.hid (((Below.refl _ _).alloc (Nat.le_refl _) (.cells #[.int .i64 L, .slice A n c] 27)).trans (hB.mono (by simp)))
  obtain ⟨c0, c1, f0, f1⟩ := box2 (HX.out.below hB (by simp))
  clear hB HC HX
  go_wp2_with fail
  clear c0 c1 f0 f1
  go_loopg [19] n (fun gh i wx => ∃ k : Nat, k + gh = n ∧ i = .int .i64 (k : Int) ∧ (∀ j (hj : j < k) (h : j < es.length), matB es[j] y st = false) ∧ Below w.heap.size w wx)
  case atStart => exact ⟨0, by omega, rfl, fun j hj => absurd hj (by omega), HB.out⟩
  case round =>
    clear HB
    obtain ⟨k, hk, rfl, hall, hB⟩ := hrel
    have HB := Lib.hid hB
    have HK := Lib.hid hk
    have HAll := Lib.hid hall
    have hkn : k ≤ n := by omega
    have hsz := hB.size
    clear hall hB hk
    by_cases hlt : k < n
    · obtain ⟨g', rfl⟩ : ∃ g', gk = g' + 1 := ⟨gk - 1, by have := HK.out; omega⟩
      have hkl : k < es.length := by have := HN.out; omega
      obtain ⟨d, o, rfl, q1, q2, hc⟩ := (HD.out.below HB.out hhi).ent (by omega)
      obtain ⟨c0, c1, c2⟩ := hc k hkl
      have hki : (k : Int) < (n : Int) := by omega
      obtain ⟨s, b, e, hx, hs256, hb15, he2⟩ := HF.out k hkl
      have hp := Nat.two_pow_pos b
      have he : e ≤ 65536 := by omega
      rw [hx] at c0 c1 c2
      simp only at c0 c1 c2
      have HXk := Lib.hid hx
      have HMt := Lib.hid (mat_rch es[k] y st)
      rw [hx] at HMt
      clear hc hx hp he2
      have HNx : Hid (matB es[k] y st = false → ∀ j (hj : j < k + 1) (h : j < es.length), matB es[j] y st = false) := by
        intro h1 j hj h
        by_cases hjk : j = k
        · subst hjk
          exact h1
        · exact HAll.out j (by omega) h
      by_cases hs : s = y
      · subst hs
        have HRe := Lib.hid (reaches_any (s : Int) b e st (wr.alloc (.cells #[.int .u8 (s : Int), .int .i64 (b : Int), .int .i64 (e : Int)] 111)) hb15 he (by omega))
        have hbx := Box.new wr 111 #[.int .u8 (s : Int), .int .i64 (b : Int), .int .i64 (e : Int)]
        have HBx := Lib.hid hbx
        clear hbx
        rcases hr : rchB ⟨s, b, e⟩ st with _ | _
        · rw [hr] at HRe HMt
          clear hr
          go_wp2_with fail
          refine HRe.out.mono ?_
          rintro e' w2 ⟨rfl, hB⟩
          have HB2 := Lib.hid ((HB.out.alloc hsz (.cells #[.int .u8 (s : Int), .int .i64 (b : Int), .int .i64 (e : Int)] 111)).trans (hB.mono (by simp; omega)))
          clear hB
          go_wp2_with fail
          go_roundg g'
          case rel => exact ⟨k + 1, by have := HK.out; omega, by go_num, HNx.out (by rw [HXk.out, HMt.out]; simp), HB2.out⟩
          case measure => omega
        · rw [hr] at HRe HMt
          have hle : e ≤ st := by
            unfold rchB at hr
            simp only [Bool.and_eq_true, decide_eq_true_eq] at hr
            omega
          clear hr
          have hw : IntKind.u64.wrap ((st : Int) - (e : Int)) = (st : Int) - (e : Int) := by rw [IntKind.wrap_u64]; omega
          go_wp2_with fail
          refine HRe.out.mono ?_
          rintro e' w2 ⟨rfl, hB⟩
          have HB2 := Lib.hid ((HB.out.alloc hsz (.cells #[.int .u8 (s : Int), .int .i64 (b : Int), .int .i64 (e : Int)] 111)).trans (hB.mono (by simp; omega)))
          have z0 := (HBx.out.below hB (by simp)).cell 0
          have z1 := (HBx.out.below hB (by simp)).cell 1
          have z2 := (HBx.out.below hB (by simp)).cell 2
          simp at z0 z1 z2
          clear hB c0 c1 c2
          go_wp2_with fail
          go_quiet (fail)
          go_wp2_with fail
          refine bodyPost_ret (v := .tuple #[.int .i64 (k : Int), .int .u64 ((st : Int) - (e : Int)), .int .i64 (b : Int), .int .i64 0]) (by simp [results, Tryz.results102, go_sem]) rfl ⟨below_drawn HB2.out _, .inl ⟨k, hkl, by rw [HXk.out], by rw [HXk.out, HMt.out]; simp⟩⟩
      · have hs1 : ((s : Int) == (y : Int)) = false := by rw [beq_eq_false_iff_ne]; omega
        go_wp2_with fail
        go_roundg g'
        case rel => exact ⟨k + 1, by have := HK.out; omega, by go_num, HNx.out (by rw [HXk.out, HMt.out]; simp; omega), HB.out.alloc hsz _⟩
        case measure => omega
    · obtain rfl : k = n := by omega
      have hki : ¬ (k : Int) < (k : Int) := by omega
      go_wp2_with fail
      refine bodyPost_ret (v := .tuple #[.int .i64 0, .int .u64 0, .int .i64 0, .int .i64 21]) (by simp [results, Tryz.results102, go_sem]) rfl ⟨HB.out, .inr ⟨fun j h => HAll.out j (by have := HN.out; omega) h, rfl⟩⟩
end
end Go.Proofs.YtlidnialggpcpaaGreatDoor

/- The document's examples for tables answer true, in whatever world, and nothing that was there has turned. -/
namespace Go.Proofs.YtlidnialggpcpaaGreatDoor
open Go.RowKit

section
variable {l : Nat} {ps : List Int}
theorem tab_fine (h : MayF l ps) : Fine (tab l ps) := fun i hi => by
  obtain ⟨s, b, e, h1, h2, _, h4, h5⟩ := tab_bd h i hi
  have hl := h.l15
  have hp : 2 ^ l ≤ 2 ^ 15 := Nat.pow_le_pow_right (by omega) hl
  exact ⟨s, b, e, h1, h2, by omega, by omega⟩
theorem tab_sym (h : MayF l ps) (i : Nat) (hi : i < (tab l ps).length) : (tab l ps)[i].s = (((syms l ps).getD i 0 : Nat) : Int) := by
  rw [tab_get h i hi]
  rfl
theorem tab_has (h : MayF l ps) (y : Nat) (hy : 1 ≤ (wi (ps.getD y 0)).toNat) : ∃ i, ∃ hi : i < (tab l ps).length, (tab l ps)[i].s = (y : Int) := by
  rw [← h.count y] at hy
  have hm : y ∈ syms l ps := List.count_pos_iff.1 hy
  obtain ⟨i, hi, e⟩ := List.getElem_of_mem hm
  have hl : i < (tab l ps).length := by rw [tab_length h, ← h.syms_len]; exact hi
  refine ⟨i, hl, ?_⟩
  rw [tab_sym h i hl, getD_of _ _ _ hi, e]
theorem tab_hasnt (h : MayF l ps) (y : Nat) (hy : ¬ 1 ≤ (wi (ps.getD y 0)).toNat) : ∀ i (hi : i < (tab l ps).length), (tab l ps)[i].s ≠ (y : Int) := by
  intro i hi e
  rw [← h.count y] at hy
  apply hy
  rw [tab_sym h i hi] at e
  have hl : i < (syms l ps).length := by rw [tab_length h, ← h.syms_len] at hi; exact hi
  have hm : y ∈ syms l ps := by
    rw [getD_of _ _ _ hl] at e
    have := List.getElem_mem hl
    have e2 : (syms l ps)[i] = y := by omega
    rw [e2] at this
    exact this
  exact List.count_pos_iff.2 hm
end

end Go.Proofs.YtlidnialggpcpaaGreatDoor

/- What the document's Build holds while it runs, and plain lemmas for it. -/
namespace Go.Proofs.YtlidnialggpcpaaGreatDoor
open Go.RowKit

theorem cnt_succ (sy : List Nat) (i : Nat) (h : i < sy.length) : (fun s => if s = sy.getD i 0 then (sy.take i).count (sy.getD i 0) + 1 else (sy.take i).count s) = fun s => (sy.take (i + 1)).count s := by
  funext s
  rw [count_take_succ sy i s h]
  by_cases e : s = sy.getD i 0
  · rw [if_pos e, e, if_pos rfl]
  · rw [if_neg e, if_neg (fun q => e q.symm)]; rfl
theorem ref_info : (Tryz.prog.info? 141).map (fun i => (i.zero, i.size, i.bytes)) = some (some (.agg #[.int .i64 0, .int .i64 0, .int .i64 0]), 3, 24) := by kernel_rfl

/-- A slice of records in a box of two cells, appended to and stored back. -/
theorem pushR_facts {α : Type} {z : Nat} {f : α → List Value} {wx w2 : World} {u b : Nat} {t : TypeId} {x v v1 : Value} {xs ys : List α} {o : Obj} (hb : Box wx b t #[x, v]) (ho : OwR z f wx u (b + 1) v xs) (ho1 : OwR z f w2 u (b + 1) v1 ys) (hg : (wx.alloc o).grownBy w2 v.ownBlock) :
    w2.cell? ⟨b, 0, none⟩ = some x ∧ w2.cell? ⟨b, 1, none⟩ = some v ∧ w2.frozen? ⟨b, 1, none⟩ = false ∧
    Hid (Box (w2.setCell ⟨b, 1, none⟩ v1) b t #[x, v1] ∧ OwR z f (w2.setCell ⟨b, 1, none⟩ v1) u (b + 1) v1 ys ∧ Below b wx (w2.setCell ⟨b, 1, none⟩ v1)) := by
  have hne : some b ≠ v.ownBlock := fun e => by have := (ho.block b e.symm).1; omega
  have hb2 : Box w2 b t #[x, v] := (hb.alloc o).grown hg hne
  have hlt := hb.lt
  refine ⟨hb2.cell 0, hb2.cell 1, hb2.free 1, hb2.put 1 v1, ?_, ?_⟩
  · exact ho1.keep fun k hk => Below.heap_setCell _ _ _ k (by have := (ho1.block k hk).1; simp; omega)
  · have hB : Below b wx (wx.alloc o) := (Below.refl _ _).alloc (by omega) _
    exact (hB.grown hg (by simp; omega) (fun k hk => by have := (ho.block k hk).1; omega)).setCell (Nat.le_refl _) _

/-- What it holds: the counts, the result, the table, the entries; g: the table's block. -/
structure RB (w wx : World) (g l : Nat) (A : Option Addr) (m cp : Nat) (v : Value) (es : List En) : Prop where
  cb : Box wx w.heap.size 131 #[.int .i64 (l : Int), .slice A m cp]
  rb : Box wx (w.heap.size + 1) 35 #[.int .i64 0, .slice none 0 0]
  tb : Box wx g 35 #[.int .i64 (l : Int), v]
  es : OwR 3 rcell wx 141 (g + 1) v es
  below : Below w.heap.size w wx
  hg : w.heap.size + 2 ≤ g

section
variable {w wx wy : World} {g l : Nat} {A : Option Addr} {m cp : Nat} {v : Value} {es : List En}
theorem RB.push {v1 : Value} {es1 : List En} (h : RB w wx g l A m cp v es) (hk : Box wy g 35 #[.int .i64 (l : Int), v1] ∧ OwR 3 rcell wy 141 (g + 1) v1 es1 ∧ Below g wx wy) : RB w wy g l A m cp v1 es1 :=
  have hs := h.hg
  ⟨h.cb.below hk.2.2 (by omega), h.rb.below hk.2.2 (by omega), hk.1, hk.2.1, h.below.trans (hk.2.2.mono (by omega)), hs⟩
theorem RB.alloc (h : RB w wx g l A m cp v es) (o : Obj) : RB w (wx.alloc o) g l A m cp v es :=
  ⟨h.cb.alloc o, h.rb.alloc o, h.tb.alloc o, h.es.alloc o, h.below.alloc h.below.size o, h.hg⟩
theorem RB.aside {d n c b : Nat} (h : RB w wx g l A m cp (.slice (some ⟨d, 0, none⟩) n c) es) (hb : g < b) (hd : d ≠ b) (i : Nat) (x : Value) : RB w (wx.setCell ⟨b, i, none⟩ x) g l A m cp (.slice (some ⟨d, 0, none⟩) n c) es := by
  have hs := h.hg
  exact ⟨h.cb.far (by show w.heap.size ≠ b; omega) _, h.rb.far (by show w.heap.size + 1 ≠ b; omega) _, h.tb.far (by show g ≠ b; omega) _, h.es.aside hd _ _, h.below.setCell (by show w.heap.size ≤ b; omega) _, hs⟩
theorem RB.drewR (h : RB w wx g l A m cp v es) : RB w wx.drew g l A m cp v es := ⟨h.cb, h.rb, h.tb, h.es, h.below.drew, h.hg⟩
/-- One cell of one entry is stored. -/
theorem RB.put {d n c : Nat} (h : RB w wx g l A m cp (.slice (some ⟨d, 0, none⟩) n c) es) (j i : Nat) (hj : j < es.length) (hi : i < 3) (x : Value) (y : En) (hy : rcell y = (rcell es[j]).set i x) :
    RB w (wx.setCell ⟨d, j * 3 + i, none⟩ x) g l A m cp (.slice (some ⟨d, 0, none⟩) n c) (es.set j y) := by
  have hdb := (h.es.block d rfl).1
  have hs := h.hg
  exact ⟨h.cb.far (by show w.heap.size ≠ d; omega) _, h.rb.far (by show w.heap.size + 1 ≠ d; omega) _, h.tb.far (by show g ≠ d; omega) _, h.es.put rcell_len j i hj hi x y hy, h.below.setCell (by show w.heap.size ≤ d; omega) _, hs⟩
theorem RB.cells {d n c : Nat} (h : RB w wx g l A m cp (.slice (some ⟨d, 0, none⟩) n c) es) (j : Nat) (hj : j < es.length) :
    (wx.cell? ⟨d, j * 3, none⟩ = some (.int .i64 es[j].s) ∧ wx.cell? ⟨d, j * 3 + 1, none⟩ = some (.int .i64 es[j].b) ∧ wx.cell? ⟨d, j * 3 + 2, none⟩ = some (.int .i64 es[j].e)) ∧
    wx.frozen? ⟨d, j * 3, none⟩ = false ∧ wx.frozen? ⟨d, j * 3 + 1, none⟩ = false ∧ wx.frozen? ⟨d, j * 3 + 2, none⟩ = false := by
  have h0 := h.es.cellAt rcell_len j 0 hj (by decide) _ rfl
  have h1 := h.es.cellAt rcell_len j 1 hj (by decide) _ rfl
  have h2 := h.es.cellAt rcell_len j 2 hj (by decide) _ rfl
  exact ⟨⟨h0.1, h1.1, h2.1⟩, h0.2, h1.2, h2.2⟩
end

/-- An entry of a symbol whose numbers aren't known yet. -/
def raw (s : Nat) : En := ⟨s, 0, 0⟩
def none1 : En := ⟨-1, 0, 0⟩
/-- Where the walk stands when the first k symbols are laid, and j states of the next one. -/
def atE (l : Nat) (ps : List Int) (k j : Nat) : List En × Nat := lay (2 ^ l) (fe l ps) (List.replicate (fe l ps) none1 ++ (rr ps ps.length).map raw) ((ot ps k ++ List.replicate j k).map raw)
theorem atE_zero (l : Nat) (ps : List Int) : atE l ps 0 0 = (List.replicate (fe l ps) none1 ++ (rr ps ps.length).map raw, 0) := rfl
theorem atE_next (l : Nat) (ps : List Int) (k : Nat) : atE l ps (k + 1) 0 = atE l ps k (ps.getD k 0).toNat := by
  unfold atE
  rw [List.replicate_zero, List.append_nil, ot]
theorem atE_step (l : Nat) (ps : List Int) (k j : Nat) : atE l ps k (j + 1) = ((atE l ps k j).1.set (atE l ps k j).2 (raw k), skip (2 ^ l) (fe l ps) (2 ^ l) (nx (2 ^ l) (atE l ps k j).2)) := by
  unfold atE
  rw [List.replicate_succ', ← List.append_assoc, List.map_append, List.map_singleton, lay_snoc]
  rfl
section
variable {l : Nat} {ps : List Int}
theorem MayF.baseE (h : MayF l ps) : (List.replicate (fe l ps) none1 ++ (rr ps ps.length).map raw).length = 2 ^ l := h.base_len none1 raw
theorem MayF.atE_bd (h : MayF l ps) (k j : Nat) (hk : k < ps.length) (hj : j ≤ (ps.getD k 0).toNat) :
    (atE l ps k j).1.length = 2 ^ l ∧ (0 < fe l ps → (atE l ps k j).2 < fe l ps) ∧ (0 < (ps.getD k 0).toNat → 0 < fe l ps) := by
  have h1 := ot_mono ps (show k + 1 ≤ ps.length by omega)
  rw [ot, List.length_append, List.length_replicate, h.fe_eq] at h1
  have hS : ((ot ps k ++ List.replicate j k).map raw).length ≤ fe l ps := by rw [List.length_map, List.length_append, List.length_replicate]; omega
  refine ⟨lay_len h.l5 h.fe_le.1 _ h.baseE _ hS, fun h0 => lay_below h.l5 h.fe_le.1 h0 _ h.baseE _ hS, fun h0 => by omega⟩
/-- What is laid at last: the symbols of all states. -/
theorem MayF.atE_all (h : MayF l ps) : (atE l ps ps.length 0).1 = (syms l ps).map raw := by
  unfold atE syms
  rw [List.replicate_zero, List.append_nil]
  refine lay_map h.l5 h.fe_le.1 raw _ _ (by simpa using h.base_len 0 id) h.baseE ?_ _ h.fe_eq
  rw [List.drop_left' (by simp), List.drop_left' (by simp)]
end
/-- The entries whose numbers are known up to state i. -/
def mid (T : List En) (sy : List Nat) (i : Nat) : List En := T.take i ++ (sy.map raw).drop i
theorem mid_zero (T : List En) (sy : List Nat) : mid T sy 0 = sy.map raw := by simp [mid]
theorem mid_all (T : List En) (sy : List Nat) (h : T.length = sy.length) : mid T sy T.length = T := by
  unfold mid
  rw [List.take_length, List.drop_of_length_le (by simp; omega), List.append_nil]
theorem mid_length (T : List En) (sy : List Nat) (h : T.length = sy.length) (i : Nat) (hi : i ≤ T.length) : (mid T sy i).length = T.length := by
  unfold mid
  simp
  omega
theorem mid_get (T : List En) (sy : List Nat) (h : T.length = sy.length) (i : Nat) (hi : i < T.length) : (mid T sy i)[i]'(by rw [mid_length T sy h i (by omega)]; exact hi) = raw (sy.getD i 0) := by
  have hl : (T.take i).length = i := by simp; omega
  have hs : i < sy.length := by omega
  unfold mid
  rw [List.getElem_append_right (by omega)]
  simp only [hl, Nat.sub_self, List.getElem_drop, List.getElem_map, Nat.add_zero]
  rw [getD_of _ _ _ hs]
theorem mid_set (T : List En) (sy : List Nat) (h : T.length = sy.length) (i : Nat) (hi : i < T.length) : (mid T sy i).set i T[i] = mid T sy (i + 1) := by
  have hl : (T.take i).length = i := by simp; omega
  have hs : i < (sy.map raw).length := by simp; omega
  unfold mid
  rw [List.set_append_right _ _ (by omega), hl, Nat.sub_self, List.drop_eq_getElem_cons hs, List.set_cons_zero, List.take_succ_eq_append_getElem hi, List.append_assoc]
  rfl
end Go.Proofs.YtlidnialggpcpaaGreatDoor

/- The contracts of Start and Next, the program's and the document's, and of the document's One. -/
namespace Go.Proofs.YtlidnialggpcpaaGreatDoor
open Go.RowKit

theorem bread_le' (xs : List UInt8) (left n : Int) : (bread xs left n).2 ≤ left ∧ left - 56 ≤ (bread xs left n).2 := by
  unfold bread
  split
  · next h =>
    have h' : 1 ≤ n ∧ n ≤ 56 := by simpa [wid] using h
    show left - n ≤ left ∧ left - 56 ≤ left - n
    omega
  · show left ≤ left ∧ left - 56 ≤ left
    omega
theorem bread_lt (xs : List UInt8) (left : Int) (n : Nat) : (bread xs left (n : Int)).1 < 2 ^ n := by
  unfold bread
  split
  · have h0 : there left (n : Int) ≤ n := by unfold there; omega
    have h1 := num_lt (((bitsOf xs).drop (left.toNat - there left (n : Int))).take (there left (n : Int)))
    have h2 : (((bitsOf xs).drop (left.toNat - there left (n : Int))).take (there left (n : Int))).length ≤ there left (n : Int) := by simp; omega
    have h3 := Nat.lt_of_lt_of_le h1 (Nat.pow_le_pow_right (by omega) h2)
    have h4 := Nat.mul_lt_mul_of_pos_right h3 (Nat.two_pow_pos ((n : Int).toNat - there left (n : Int)))
    rw [← Nat.pow_add, show there left (n : Int) + ((n : Int).toNat - there left (n : Int)) = n by omega] at h4
    exact h4
  · exact Nat.two_pow_pos _

theorem grown_alloc {w w' : World} {o : Obj} {r : Option Nat} (h : (w.alloc o).grownBy w' r) : w.grownBy w' r :=
  ⟨h.os, h.tape, h.output, by have := h.size; simp at this; omega, fun k hk hne => (h.block k (by simp; omega) hne).trans (heap_alloc_old w o hk)⟩
theorem grown_below {w w1 w' : World} {r : Option Nat} (hb : Below w.heap.size w w1) (h : w1.grownBy w' r) : w.grownBy w' r :=
  ⟨h.os.trans hb.os, h.tape.trans hb.tape, h.output.trans hb.output, Nat.le_trans hb.size h.size, fun k hk hne => (h.block k (by have := hb.size; omega) hne).trans (hb.block k hk)⟩

section
variable {w : World} {lo g : Nat} {xs : List UInt8} {left : Int} {A : Option Addr} {n c : Nat}
set_option maxRecDepth 100000 in
theorem start_any (l : Nat) (h : BW w lo g xs left) (hl : -1000000000000 ≤ left) (hl15 : l ≤ 15) :
    Calls Tryz.prog 83 #[.agg #[.int .i64 (l : Int), .slice A n c], .pointer (some ⟨g, 0, none⟩)] w fun e w' =>
      e = .returned (.int .i64 ((bread xs left (l : Int)).1 : Nat)) ∧ BW w' lo g xs (bread xs left (l : Int)).2 ∧ w.grownBy w' (some g) := by
  have HR := Lib.hid (bread_any (l : Int) (h.keep fun k _ hk => Below.heap_alloc w (.cells #[.int .i64 (l : Int), .slice A n c] 27) k (by have := h.lt; omega)) hl)
  have hlt := bread_lt xs left l
  have hp : 2 ^ l ≤ 2 ^ 15 := Nat.pow_le_pow_right (by omega) hl15
  generalize bread xs left (l : Int) = tt at *
  obtain ⟨X, left2⟩ := tt
  dsimp only at *
  have hX : X < 32768 := by omega
  have hw : IntKind.i64.wrap (X : Int) = (X : Int) := IntWalk.i64_in _ (by omega)
  clear h hlt hp
  go_enter Tryz.func83, Tryz.ntmps83
  go_wp2_with fail
  refine HR.out.mono ?_
  rintro e w1 ⟨rfl, hb, hs⟩
  have HB := Lib.hid hb
  have HS := Lib.hid hs
  clear hb hs
  go_wp2_with fail
  go_ret
  exact ⟨rfl, HB.out, grown_alloc HS.out.1⟩

set_option maxRecDepth 100000 in
set_option maxHeartbeats 1000000 in
theorem next_any {lo2 hi2 : Nat} {es : List En} (L : Int) (s : Nat) {sy b e : Nat} (h : BW w lo g xs left) (hl : -1000000000000 ≤ left) (hd : DatR 3 ecell w lo2 hi2 A es) (hhi : hi2 ≤ w.heap.size) (hn : es.length = n) (hn2 : n ≤ 65536) (hs : s < n) (hx : es[s]'(by omega) = ⟨sy, b, e⟩) (hb15 : b ≤ 15) (he : e ≤ 65536) :
    Calls Tryz.prog 84 #[.agg #[.int .i64 L, .slice A n c], .int .i64 (s : Int), .pointer (some ⟨g, 0, none⟩)] w fun r w' =>
      r = .returned (.int .i64 ((e + (bread xs left (b : Int)).1 : Nat) : Int)) ∧ BW w' lo g xs (bread xs left (b : Int)).2 ∧ w.grownBy w' (some g) := by
  have HW := Lib.hid h
  have HC := Lib.hid (isState_yes (w := w.alloc (.cells #[.int .i64 L, .slice A n c] 27)) (L := L) (A := A) (c := c) s hs)
  have hxb := Box.new w 27 #[.int .i64 L, .slice A n c]
  have HX := Lib.hid hxb
  have HD := Lib.hid hd
  have hglt := h.lt
  obtain ⟨d, o, rfl, _, hd2, hc⟩ := hd.ent (by omega)
  obtain ⟨e0, e1, e2⟩ := hc s (by omega)
  rw [hx] at e0 e1 e2
  simp only at e0 e1 e2
  have hlt := bread_lt xs left b
  have hp : 2 ^ b ≤ 2 ^ 15 := Nat.pow_le_pow_right (by omega) hb15
  have HE := Lib.hid (And.intro e0 (And.intro e1 e2))
  have hsi : (s : Int) < (n : Int) := by omega
  have HR0 := fun (W : World) (hW : BW W lo g xs left) => Lib.hid (bread_any (b : Int) hW hl)
  clear h hd hc hx hxb e0 e1 e2
  generalize bread xs left (b : Int) = tt at *
  obtain ⟨X, left2⟩ := tt
  dsimp only at *
  have hX : X < 32768 := by omega
  go_enter Tryz.func84, Tryz.ntmps84
  go_wp2_with fail
  refine HC.out.mono ?_
  rintro r w1 ⟨rfl, hB⟩
  have HB : Hid (Below w.heap.size w w1) := ((Below.refl _ _).alloc (Nat.le_refl _) _).trans (hB.mono (by simp))
  obtain ⟨t0, t1, _, _⟩ := box2 (HX.out.below hB (by simp))
  have e0 := (HB.out.cell (p := ⟨d, o + s * 3, none⟩) (by show d < w.heap.size; omega)).trans HE.out.1
  have e1 := (HB.out.cell (p := ⟨d, o + s * 3 + 1, none⟩) (by show d < w.heap.size; omega)).trans HE.out.2.1
  have e2 := (HB.out.cell (p := ⟨d, o + s * 3 + 2, none⟩) (by show d < w.heap.size; omega)).trans HE.out.2.2
  have hs1 := HB.out.size
  clear hB HC HX HE
  go_wp2_with fail
  have hbx := Box.new w1 111 #[.int .u8 (sy : Int), .int .i64 (b : Int), .int .i64 (e : Int)]
  have HBx := Lib.hid hbx
  have HB2 : Hid (Below w.heap.size w (w1.alloc (.cells #[.int .u8 (sy : Int), .int .i64 (b : Int), .int .i64 (e : Int)] 111))) := HB.out.alloc hs1 _
  have hgn : g < w1.heap.size := by omega
  clear hbx e0 e1 e2 t0 t1 HB
  generalize w1.alloc (.cells #[.int .u8 (sy : Int), .int .i64 (b : Int), .int .i64 (e : Int)] 111) = W at *
  generalize w1.heap.size = q at *
  have z1 := HBx.out.cell 1
  have z2 := HBx.out.cell 2
  simp at z1 z2
  have hqW := HBx.out.lt
  have HR := HR0 W.drew (HW.out.below HB2.out.drew hglt)
  have hw : IntKind.i64.wrap (X : Int) = (X : Int) := IntWalk.i64_in _ (by omega)
  have hw2 : IntKind.i64.wrap ((e : Int) + (X : Int)) = (e : Int) + (X : Int) := IntWalk.i64_in _ (by omega)
  have hgq : q ≠ g := by omega
  go_region_held3 (fun w' => w'.cell? ⟨q, 1, none⟩ = some (.int .i64 (b : Int)) ∧ w'.cell? ⟨q, 2, none⟩ = some (.int .i64 (e : Int))) (first | exact ⟨z1, z2⟩ | exact ⟨k1, k2⟩ | go_keep) ((go_at_call 86; refine HR.out.mono ?_; rintro e' wn ⟨rfl, hb, hs⟩; have k1 := (World.cell?_of_block (a := ⟨q, 1, none⟩) (hs.1.block q (by exact hqW) (by intro h; injection h with h; exact hgq h))).trans z1; have k2 := (World.cell?_of_block (a := ⟨q, 2, none⟩) (hs.1.block q (by exact hqW) (by intro h; injection h with h; exact hgq h))).trans z2; have HBn := Lib.hid hb; have HSn := Lib.hid hs; clear hb hs))
  all_goals
    go_wp2_with fail
    go_ret
    exact ⟨by first | rfl | (rw [Int.natCast_add]; rfl), HBn.out, grown_below (HB2.out.drew) HSn.out.1⟩
end

end Go.Proofs.YtlidnialggpcpaaGreatDoor

/- What is written backwards of symbols is read as it was: plain lemmas. Nothing of the program's code is named here. -/
namespace Go.Proofs.YtlidnialggpcpaaGreatDoor

/-- From state s on, which is one of the first symbol, these bits, read from the back, lead through states of all of them. -/
def Chain (es : List En) : List Nat → Nat → List Bool → Prop
  | [], _, _ => False
  | [y], s, bits => (∃ h : s < es.length, es[s].s = (y : Int)) ∧ bits = []
  | y :: y2 :: r, s, bits => ∃ (h : s < es.length) (b e x : Nat) (bits' : List Bool), es[s] = ⟨y, b, e⟩ ∧ x < 2 ^ b ∧ b ≤ 15 ∧ bits = bits' ++ low x b ∧ Chain es (y2 :: r) (e + x) bits'
theorem Chain.back {es : List En} {y y2 : Nat} {r : List Nat} {st p b e : Nat} {bits : List Bool} (h : Chain es (y2 :: r) st bits) (hp : p < es.length) (hx : es[p] = ⟨y, b, e⟩) (hb : b ≤ 15) (h1 : e ≤ st) (h2 : st < e + 2 ^ b) :
    Chain es (y :: y2 :: r) p (bits ++ low (st - e) b) :=
  ⟨hp, b, e, st - e, bits, hx, by omega, hb, rfl, by rw [show e + (st - e) = st by omega]; exact h⟩
theorem take_closed' (l : List Bool) : (bitsOf (bytesOf (l ++ [true]))).take l.length = l := by
  have h := take_bits (l ++ [true])
  have h2 : ((bitsOf (bytesOf (l ++ [true]))).take (l ++ [true]).length).take l.length = (l ++ [true]).take l.length := by rw [h]
  rw [List.take_take, Nat.min_eq_left (by simp), List.take_left] at h2
  exact h2
theorem closed_back' (l : List Bool) : noBack (bytesOf (l ++ [true])) = false := by
  have hlen : (bytesOf (l ++ [true])).length = l.length / 8 + 1 := by rw [bytesOf_length]; simp; omega
  have hset : bitAt (bytesOf (l ++ [true])) l.length = true := by rw [bitAt_bytesOf]; simp [List.getD]
  unfold noBack
  rw [hlen]
  have hz : (bytesOf (l ++ [true])).getD (l.length / 8 + 1 - 1) 0 ≠ 0 := by
    intro e
    unfold bitAt at hset
    rw [show l.length / 8 + 1 - 1 = l.length / 8 by omega] at e
    rw [e] at hset
    simp at hset
  simp only [Bool.or_eq_false_iff, decide_eq_false_iff_not]
  exact ⟨by omega, hz⟩
end Go.Proofs.YtlidnialggpcpaaGreatDoor

/- The contracts of the document's Start and Next. -/
namespace Go.Proofs.YtlidnialggpcpaaGreatDoor
open Go.RowKit

/-- What the document's Last answers, wherever its bits are. -/
def LastIs (lo hi : Nat) (Ab : Option Addr) (bits : List Bool) (M cb : Nat) (LK n : Int) (M2 : Nat) (LK2 : Int) (X : Nat) : Prop :=
  ∀ W, DatE Value.bool W lo hi Ab bits → hi ≤ W.heap.size → Calls Tryz.prog 61 #[.agg #[.slice Ab M cb, .int .i64 LK], .int .i64 n] W fun e w' =>
    e = .returned (.tuple #[.agg #[.slice Ab M2 cb, .int .i64 LK2], .int .u64 (X : Int)]) ∧ Below W.heap.size W w'

section
variable {w : World} {lo hi n c M cb M2 X : Nat} {A Ab : Option Addr} {bits : List Bool} {LK LK2 : Int}
set_option maxRecDepth 100000 in
set_option maxHeartbeats 1000000 in
theorem refStart_any (L : Int) (hd : DatE Value.bool w lo hi Ab bits) (hhi : hi ≤ w.heap.size) (hX : X < 32768) (hl : LastIs lo hi Ab bits M cb LK L M2 LK2 X) :
    Calls Tryz.prog 26 #[.agg #[.int .i64 L, .slice A n c], .agg #[.slice Ab M cb, .int .i64 LK]] w fun e w' =>
      e = .returned (.tuple #[.agg #[.slice Ab M2 cb, .int .i64 LK2], .int .i64 (X : Int)]) ∧ Below w.heap.size w w' := by
  have hw : IntKind.i64.wrap (X : Int) = (X : Int) := IntWalk.i64_in _ (by omega)
  have HD := Lib.hid hd
  have HL := Lib.hid hl
  clear hd hl
  go_enter Tryz.func26, Tryz.ntmps26
  go_wp2_with fail
  have hb0 := ((Box.new w 35 #[.int .i64 L, .slice A n c]).alloc (.cells #[.slice Ab M cb, .int .i64 LK] 77)).alloc (.cells #[.slice none 0 0, .int .i64 0] 77)
  have hb1 := (Box.new (w.alloc (.cells #[.int .i64 L, .slice A n c] 35)) 77 #[.slice Ab M cb, .int .i64 LK]).alloc (.cells #[.slice none 0 0, .int .i64 0] 77)
  have hb2 := Box.new ((w.alloc (.cells #[.int .i64 L, .slice A n c] 35)).alloc (.cells #[.slice Ab M cb, .int .i64 LK] 77)) 77 #[.slice none 0 0, .int .i64 0]
  rw [World.size_alloc] at hb1
  rw [World.size_alloc, World.size_alloc] at hb2
  have H1 := Lib.hid hb1
  have H2 := Lib.hid hb2
  have HB : Hid (Below w.heap.size w (((w.alloc (.cells #[.int .i64 L, .slice A n c] 35)).alloc (.cells #[.slice Ab M cb, .int .i64 LK] 77)).alloc (.cells #[.slice none 0 0, .int .i64 0] 77))) := (((Below.refl _ _).alloc (Nat.le_refl _) _).alloc (by simp) _).alloc (by simp; omega) _
  clear hb0 hb1 hb2
  generalize ((w.alloc (.cells #[.int .i64 L, .slice A n c] 35)).alloc (.cells #[.slice Ab M cb, .int .i64 LK] 77)).alloc (.cells #[.slice none 0 0, .int .i64 0] 77) = W at *
  refine (HL.out W (HD.out.below HB.out hhi) (by have := HB.out.size; omega)).mono ?_
  rintro e w1 ⟨rfl, hB⟩
  have H1' := Lib.hid (H1.out.below hB H1.out.lt)
  have H2' := Lib.hid (H2.out.below hB H2.out.lt)
  have HB' := Lib.hid (HB.out.trans (hB.mono HB.out.size))
  obtain ⟨b0, b1, f0, f1⟩ := box2 H1'.out
  obtain ⟨r0, r1, g0, g1⟩ := box2 H2'.out
  clear hB H1 H2 HB HD HL
  go_wp2_with fail
  refine bodyPost_ret (v := .tuple #[.agg #[.slice Ab M2 cb, .int .i64 LK2], .int .i64 (X : Int)]) (by simp [results, Tryz.results26, go_sem, r0, r1]) rfl ⟨rfl, ?_⟩
  have hs := HB'.out.size
  exact (((HB'.out.setCell (by show w.heap.size ≤ w.heap.size + 1; omega) _).setCell (by show w.heap.size ≤ w.heap.size + 1; omega) _).setCell (by show w.heap.size ≤ w.heap.size + 1 + 1; omega) _).setCell (by show w.heap.size ≤ w.heap.size + 1 + 1; omega) _
set_option maxRecDepth 100000 in
set_option maxHeartbeats 2000000 in
theorem refNext_any {lo2 hi2 : Nat} {es : List En} (L : Int) (s : Nat) {sy b e : Nat} (hd : DatE Value.bool w lo hi Ab bits) (hhi : hi ≤ w.heap.size) (hde : DatR 3 rcell w lo2 hi2 A es) (hhi2 : hi2 ≤ w.heap.size) (hn : es.length = n) (hn2 : n ≤ 65536) (hs : s < n) (hx : es[s]'(by omega) = ⟨sy, b, e⟩) (he : e ≤ 65536) (hX : X < 32768) (hl : LastIs lo hi Ab bits M cb LK (b : Int) M2 LK2 X) :
    Calls Tryz.prog 28 #[.agg #[.int .i64 L, .slice A n c], .int .i64 (s : Int), .agg #[.slice Ab M cb, .int .i64 LK]] w fun r w' =>
      r = .returned (.tuple #[.agg #[.slice Ab M2 cb, .int .i64 LK2], .int .i64 ((e + X : Nat) : Int)]) ∧ Below w.heap.size w w' := by
  have hw : IntKind.i64.wrap (X : Int) = (X : Int) := IntWalk.i64_in _ (by omega)
  have hw2 : IntKind.i64.wrap ((e : Int) + (X : Int)) = (e : Int) + (X : Int) := IntWalk.i64_in _ (by omega)
  have hsi : decide ((n : Int) ≤ (s : Int)) = false := by simp; omega
  have hsl : (s : Int) < (n : Int) := by omega
  have hs0 : (0 : Int) ≤ (s : Int) := by omega
  obtain ⟨d, o, rfl, _, hd2, hc⟩ := hde.ref (by omega)
  obtain ⟨e0, e1, e2⟩ := hc s (by omega)
  rw [hx] at e0 e1 e2
  simp only at e0 e1 e2
  have HD := Lib.hid hd
  have HL := Lib.hid hl
  have HE := Lib.hid (And.intro e0 (And.intro e1 e2))
  have hb0 := ((Box.new w 35 #[.int .i64 L, .slice (some ⟨d, o, none⟩) n c]).alloc (.cells #[.slice Ab M cb, .int .i64 LK] 77)).alloc (.cells #[.slice none 0 0, .int .i64 0] 77)
  have hb1 := (Box.new (w.alloc (.cells #[.int .i64 L, .slice (some ⟨d, o, none⟩) n c] 35)) 77 #[.slice Ab M cb, .int .i64 LK]).alloc (.cells #[.slice none 0 0, .int .i64 0] 77)
  have hb2 := Box.new ((w.alloc (.cells #[.int .i64 L, .slice (some ⟨d, o, none⟩) n c] 35)).alloc (.cells #[.slice Ab M cb, .int .i64 LK] 77)) 77 #[.slice none 0 0, .int .i64 0]
  rw [World.size_alloc] at hb1
  rw [World.size_alloc, World.size_alloc] at hb2
  have H0 := Lib.hid hb0
  have H1 := Lib.hid hb1
  have H2 := Lib.hid hb2
  have HB : Hid (Below w.heap.size w (((w.alloc (.cells #[.int .i64 L, .slice (some ⟨d, o, none⟩) n c] 35)).alloc (.cells #[.slice Ab M cb, .int .i64 LK] 77)).alloc (.cells #[.slice none 0 0, .int .i64 0] 77))) := (((Below.refl _ _).alloc (Nat.le_refl _) _).alloc (by simp) _).alloc (by simp; omega) _
  clear hd hde hl hc hx e0 e1 e2 hb0 hb1 hb2
  go_enter Tryz.func28, Tryz.ntmps28
  go_upto_region 3 with (fail)
  generalize ((w.alloc (.cells #[.int .i64 L, .slice (some ⟨d, o, none⟩) n c] 35)).alloc (.cells #[.slice Ab M cb, .int .i64 LK] 77)).alloc (.cells #[.slice none 0 0, .int .i64 0] 77) = W at *
  obtain ⟨t0, t1, _, _⟩ := box2 H0.out
  obtain ⟨b0, b1, f0, f1⟩ := box2 H1.out
  have e1 := (HB.out.cell (p := ⟨d, o + s * 3 + 1, none⟩) (by show d < w.heap.size; omega)).trans HE.out.2.1
  have HLW := Lib.hid (HL.out W.drew (HD.out.below HB.out.drew hhi) (by have := HB.out.size; show hi ≤ W.heap.size; omega))
  have hsW := HB.out.size
  have hbW := H2.out.lt
  go_region_with (go_at_call 61; refine HLW.out.mono ?_; rintro e' wn ⟨rfl, hB⟩; have HBn : Hid (Below W.heap.size W wn) := (⟨hB.os, hB.tape, hB.output, hB.size, hB.block⟩ : Below W.heap.size W wn); obtain ⟨c0, c1, k0, k1⟩ := box2 (H1.out.below HBn.out (by omega)); clear hB)
  all_goals
    have H1n : Hid (Box ((wn.setCell ⟨w.heap.size + 1, 0, none⟩ (.slice Ab M2 cb)).setCell ⟨w.heap.size + 1, 1, none⟩ (.int .i64 LK2)) (w.heap.size + 1) 77 #[.slice Ab M2 cb, .int .i64 LK2]) :=
      ((H1.out.below HBn.out (by omega)).put 0 _).put 1 _
    have H0n : Hid (Box ((wn.setCell ⟨w.heap.size + 1, 0, none⟩ (.slice Ab M2 cb)).setCell ⟨w.heap.size + 1, 1, none⟩ (.int .i64 LK2)) w.heap.size 35 #[.int .i64 L, .slice (some ⟨d, o, none⟩) n c]) :=
      ((H0.out.below HBn.out (by omega)).far (by show w.heap.size ≠ w.heap.size + 1; omega) _).far (by show w.heap.size ≠ w.heap.size + 1; omega) _
    have H2n : Hid (Box ((wn.setCell ⟨w.heap.size + 1, 0, none⟩ (.slice Ab M2 cb)).setCell ⟨w.heap.size + 1, 1, none⟩ (.int .i64 LK2)) (w.heap.size + 1 + 1) 77 #[.slice none 0 0, .int .i64 0]) :=
      ((H2.out.below HBn.out (by omega)).far (by show w.heap.size + 1 + 1 ≠ w.heap.size + 1; omega) _).far (by show w.heap.size + 1 + 1 ≠ w.heap.size + 1; omega) _
    have HB5 : Hid (Below w.heap.size w ((wn.setCell ⟨w.heap.size + 1, 0, none⟩ (.slice Ab M2 cb)).setCell ⟨w.heap.size + 1, 1, none⟩ (.int .i64 LK2))) :=
      ((HB.out.trans (HBn.out.mono hsW)).setCell (by show w.heap.size ≤ w.heap.size + 1; omega) _).setCell (by show w.heap.size ≤ w.heap.size + 1; omega) _
    clear c0 c1 k0 k1 t0 t1 b0 b1 f0 f1 e1
    generalize (wn.setCell ⟨w.heap.size + 1, 0, none⟩ (.slice Ab M2 cb)).setCell ⟨w.heap.size + 1, 1, none⟩ (.int .i64 LK2) = w5 at *
    obtain ⟨t0, t1, _, _⟩ := box2 H0n.out
    obtain ⟨b0, b1, _, _⟩ := box2 H1n.out
    obtain ⟨r0, r1, g0, g1⟩ := box2 H2n.out
    have e2 := (HB5.out.cell (p := ⟨d, o + s * 3 + 2, none⟩) (by show d < w.heap.size; omega)).trans HE.out.2.2
    go_wp2_with fail
    go_region
    all_goals
      go_wp2_with fail
      refine bodyPost_ret (v := .tuple #[.agg #[.slice Ab M2 cb, .int .i64 LK2], .int .i64 ((e + X : Nat) : Int)]) (by simp [results, Tryz.results28, go_sem, r0, r1]) rfl ⟨rfl, ?_⟩
      first
        | exact ((HB5.out.drew.setCell (by show w.heap.size ≤ w.heap.size + 1 + 1; omega) _).setCell (by show w.heap.size ≤ w.heap.size + 1 + 1; omega) _)
        | exact ((HB5.out.setCell (by show w.heap.size ≤ w.heap.size + 1 + 1; omega) _).setCell (by show w.heap.size ≤ w.heap.size + 1 + 1; omega) _).drew
end
end Go.Proofs.YtlidnialggpcpaaGreatDoor

/- The contract of the document's Build. -/
namespace Go.Proofs.YtlidnialggpcpaaGreatDoor
open Go.RowKit

/-- With the array that counts, in block ab. -/
structure RBA (w wx : World) (g l : Nat) (A : Option Addr) (m cp : Nat) (v : Value) (es : List En) (ab : Nat) (f : Nat → Nat) : Prop where
  rb : RB w wx g l A m cp v es
  ar : Box wx ab 184 (arr f)
  hab : g < ab

section
variable {w : World} {lo hi m cp : Nat} {A : Option Addr} {ps : List Int}
set_option maxRecDepth 100000 in
set_option maxHeartbeats 8000000 in
theorem refBuild_yes (l : Nat) (hyes : mayB (l : Int) ps = true) (hd : DatE icel w lo hi A ps) (hm : ps.length = m) (hc : m ≤ cp) (hmx : m ≤ maxLen) (hhi : hi ≤ w.heap.size) (hb : ∀ p ∈ ps, -9223372036854775808 ≤ p ∧ p ≤ 9223372036854775807) :
    Calls Tryz.prog 59 #[.agg #[.int .i64 (l : Int), .slice A m cp]] w fun e w' => ∃ v, e = .returned (.tuple #[.agg #[.int .i64 (l : Int), v], .int .i64 0]) ∧ OwR 3 rcell w' 141 w.heap.size v (tab l ps) ∧ Below w.heap.size w w' := by
  have hb2 : Below w.heap.size w ((w.alloc (.cells #[.int .i64 (l : Int), .slice A m cp] 131)).alloc (.cells #[.int .i64 0, .slice none 0 0] 35)) := ((Below.refl _ _).alloc (Nat.le_refl _) _).alloc (by simp) _
  have HC := Lib.hid (refCheck_any (c := cp) (l : Int) 15 (hd.below hb2 hhi) hm hc hmx (by simp; omega) hb)
  have hF := mayF hyes
  rw [chk_ok hyes (by have := hF.l15; omega)] at HC
  have hx0 := (Box.new w 131 #[.int .i64 (l : Int), .slice A m cp]).alloc (.cells #[.int .i64 0, .slice none 0 0] 35)
  have HX0 := Lib.hid hx0
  have HX := Lib.hid (Box.new (w.alloc (.cells #[.int .i64 (l : Int), .slice A m cp] 131)) 35 #[.int .i64 0, .slice none 0 0])
  rw [World.size_alloc] at HX
  have HB2 := Lib.hid hb2
  have HF := Lib.hid hF
  have HD := Lib.hid hd
  have HM := Lib.hid hm
  have hl5 := hF.l5
  have hl15 := hF.l15
  obtain ⟨i0, hi0, hz0, hz1, hz2⟩ := info_parts ref_info
  obtain ⟨n, hn⟩ : ∃ n : Nat, n = 2 ^ l := ⟨_, rfl⟩
  have hn5 : 2 ^ 5 ≤ 2 ^ l := Nat.pow_le_pow_right (by omega) hl5
  have hn15 : 2 ^ l ≤ 2 ^ 15 := Nat.pow_le_pow_right (by omega) hl15
  have hm256 : m ≤ 256 := by have := hF.len; omega
  rw [← hn] at hn5 hn15
  have HN := Lib.hid hn
  have HPw := fun W => Lib.hid (refPower_any l W (by omega))
  rw [← hn] at HPw
  clear hd hm hb hyes hb2 hF hx0 hn
  go_enter Tryz.func59, Tryz.ntmps59
  go_wp2_with fail
  refine HC.out.mono ?_
  rintro e w1 ⟨rfl, hB⟩
  have HB := Lib.hid (HB2.out.trans (hB.mono (by simp; omega)))
  have HY0 := Lib.hid (HX0.out.below hB (by simp; omega))
  have HY := Lib.hid (HX.out.below hB (by simp))
  have hs1 := hB.size
  simp only [World.size_alloc] at hs1
  obtain ⟨c0, c1, f0, f1⟩ := box2 HY0.out
  clear hB HC HX HX0 HB2
  go_wp2_with fail
  refine (HPw _).out.mono ?_
  rintro e w2 ⟨rfl, rfl⟩
  go_wp2_with fail
  have hrb : RB w (w1.alloc (.cells #[.int .i64 (l : Int), .slice none 0 0] 35)) w1.heap.size l A m cp (.slice none 0 0) (List.replicate 0 none1) :=
    ⟨HY0.out.alloc _, HY.out.alloc _, Box.new w1 _ _, OwR.nil _ _ _ _ _, HB.out.alloc (by omega) _, by omega⟩
  have HRB := Lib.hid hrb
  clear hrb HY0 HY HB c0 c1 f0 f1
  generalize w1.alloc (.cells #[.int .i64 (l : Int), .slice none 0 0] 35) = W at *
  go_loopg [7] n (fun gh i wx => ∃ (k : Nat) (v : Value), k + gh = n ∧ i = .int .i64 (k : Int) ∧ RB w wx w1.heap.size l A m cp v (List.replicate k none1))
  case atStart => exact ⟨0, _, by omega, rfl, HRB.out⟩
  case round =>
    clear HRB
    obtain ⟨k, v, hk, rfl, hrb⟩ := hrel
    have hkn : k ≤ n := by omega
    have HK := Lib.hid hk
    clear hk
    obtain ⟨Av, cv, rfl, hcv, _⟩ := hrb.es.form rcell_len
    rw [List.length_replicate] at hrb hcv
    have HRB := Lib.hid hrb
    obtain ⟨t0, t1, _, _⟩ := box2 hrb.tb
    have hlt1 := hrb.tb.lt
    clear hrb
    by_cases hlt : k < n
    · obtain ⟨g', rfl⟩ : ∃ g', gk = g' + 1 := ⟨gk - 1, by have := HK.out; omega⟩
      have hki : (k : Int) < (n : Int) := by omega
      have HA := Lib.hid (HRB.out.es.alloc (.cells #[.int .i64 (-1), .int .i64 0, .int .i64 0] 141))
      have HD1 := Lib.hid (datR_one (f := rcell) (z := 3) wr none1 141 #[.int .i64 (-1), .int .i64 0, .int .i64 0] rfl)
      go_wp2_with (at_builtin; refine list_appR rcell_len (by decide) rcell_one _ rfl _ _ 33 rfl i0 (.agg #[.int .i64 0, .int .i64 0, .int .i64 0]) 24 Tryz.underlying33 hi0 hz0 hz1 hz2 rfl (by decide) rfl HA.out rfl HD1.out rfl ?_ ?_ ?_)
      · first | omega | (simp; omega)
      · first | omega | (simp; omega)
      intro v1 w4 ho1 hg1 hat1
      obtain ⟨Av1, nv1, cv1, rfl⟩ := ho1.slice
      obtain ⟨k0, k1, kf, HKf⟩ := pushR_facts HRB.out.tb HRB.out.es ho1 hg1
      have HR2 := Lib.hid (HRB.out.push HKf.out)
      rw [show List.replicate k none1 ++ [none1] = List.replicate (k + 1) none1 by rw [List.replicate_succ']] at HR2
      clear ho1 hg1 hat1 HA HD1 t0 t1 HKf
      go_wp2_with fail
      go_roundg g'
      case rel => exact ⟨k + 1, _, by have := HK.out; omega, by go_num, HR2.out⟩
      case measure => omega
    · obtain rfl : k = n := by omega
      have hki : ¬ (k : Int) < (k : Int) := by omega
      obtain ⟨d, hd1, hd2, rfl⟩ : ∃ d, w1.heap.size + 1 ≤ d ∧ d < wr.heap.size ∧ Av = some ⟨d, 0, none⟩ := by
        obtain ⟨d, c', hv, h1, h2, _⟩ := HRB.out.es.place (by rw [List.length_replicate]; omega)
        injection hv with hv
        exact ⟨d, h1, h2, hv⟩
      clear HK
      go_wp2_with fail
      clear t0 t1
      obtain ⟨wo, rfl⟩ : ∃ wo : World, wo = wr := ⟨_, rfl⟩
      go_loopg [8, 9] m (fun gh t i wx => ∃ j F : Nat, j + gh = m ∧ i = .int .i64 (j : Int) ∧ t = .int .i64 ((F : Int) - 1) ∧ F + (rr ps j).length = k ∧ RB w wx w1.heap.size l A m cp (.slice (some ⟨d, 0, none⟩) k cv) (List.replicate F none1 ++ (rr ps j).map raw))
      case atStart => exact ⟨0, k, by omega, rfl, rfl, by simp [rr], by simpa [rr] using HRB.out⟩
      case round =>
        clear HRB
        obtain ⟨j, F, hj, rfl, rfl, hF, hrb⟩ := hrel
        have HJ := Lib.hid hj
        have HFk := Lib.hid hF
        have HRB := Lib.hid hrb
        have hFk : F ≤ k := by omega
        have hjm : j ≤ m := by omega
        clear hj hF hrb
        obtain ⟨b0, b1, _, _⟩ := box2 HRB.out.cb
        by_cases hjl : j < m
        · obtain ⟨g', rfl⟩ : ∃ g', gk = g' + 1 := ⟨gk - 1, by have := HJ.out; omega⟩
          have hji : (j : Int) < (m : Int) := by omega
          have hjp : j < ps.length := by have := HM.out; omega
          obtain ⟨da, oa, rfl, q1, q2, hcp⟩ := (HD.out.below HRB.out.below hhi) (by omega)
          have hcell := hcp j hjp
          unfold icel at hcell
          have HG := Lib.hid (getD_eq ps j 0 hjp)
          have hpg := HF.out.ge ps[j] (List.getElem_mem hjp)
          clear hcp
          generalize ps[j] = p at *
          by_cases hp : p = -1
          · subst hp
            have hrs : rr ps (j + 1) = j :: rr ps j := by rw [rr, if_pos HG.out]
            have h1 := rr_mono ps (show j + 1 ≤ ps.length by omega)
            have h2 := HF.out.sum
            rw [hrs, List.length_cons] at h1
            obtain ⟨F', rfl⟩ : ∃ F', F = F' + 1 := ⟨F - 1, by have := HFk.out; have := HN.out; omega⟩
            have HRs := Lib.hid hrs
            have hlen : F' < (List.replicate (F' + 1) none1 ++ (rr ps j).map raw).length := by simp; omega
            obtain ⟨⟨e0, e1, e2⟩, f0, f1, f2⟩ := HRB.out.cells F' hlen
            have he : (List.replicate (F' + 1) none1 ++ (rr ps j).map raw)[F'] = none1 := by
              rw [List.getElem_append_left (by simp)]
              simp
            rw [he] at e0
            have hput := HRB.out.put F' 0 hlen (by decide) (.int .i64 (j : Int)) (raw j) (by rw [he]; rfl)
            rw [rare_set] at hput
            have HPut := Lib.hid hput
            have e3 : ((F' + 1 : Nat) : Int) - 1 = (F' : Int) := by omega
            rw [e3]
            obtain ⟨t0, t1, _, _⟩ := box2 HRB.out.tb
            have hFi : (F' : Int) < (k : Int) := by omega
            clear hrs h1 h2 e1 e2 f1 f2 he hput e3
            go_wp2_with fail
            go_roundg g'
            case rel =>
              exact ⟨j + 1, F', by have := HJ.out; omega, by go_num, rfl, by have := HFk.out; rw [HRs.out, List.length_cons]; omega, by rw [HRs.out, List.map_cons]; exact HPut.out⟩
            case measure => omega
          · have hrs : rr ps (j + 1) = rr ps j := by rw [rr, if_neg (by rw [HG.out]; exact hp)]
            have HRs := Lib.hid hrs
            have hp0 : decide (p < 0) = false := by simp; omega
            clear hrs
            go_wp2_with fail
            go_roundg g'
            case rel => exact ⟨j + 1, F, by have := HJ.out; omega, by go_num, rfl, by rw [HRs.out]; exact HFk.out, by rw [HRs.out]; exact HRB.out⟩
            case measure => omega
        · obtain rfl : j = m := by omega
          have hji : ¬ (j : Int) < (j : Int) := by omega
          have hFe : F = fe l ps := by
            have h1 := HFk.out
            have h2 := HN.out
            have h3 := HM.out
            unfold fe
            rw [h3]
            omega
          have HFe := Lib.hid hFe
          have hrb0 : RB w wr w1.heap.size l A j cp (.slice (some ⟨d, 0, none⟩) k cv) (atE l ps 0 0).1 := by
            have h1 := HRB.out
            have h3 := HM.out
            rw [hFe, ← h3] at h1
            rw [h3] at h1
            rw [atE_zero]
            rw [← h3] at h1 ⊢
            exact h1
          have HR0 := Lib.hid hrb0
          clear hrb0 hFe HFk HJ HRB
          have HA0 : Hid ((atE l ps 0 0).2 = 0) := by rw [Hid, atE_zero]
          go_wp2_with fail
          clear b0 b1
          go_loopg [10, 11] j (fun gh t i wx => ∃ q a : Nat, q + gh = j ∧ i = .int .i64 (q : Int) ∧ t = .int .i64 (a : Int) ∧ a = (atE l ps q 0).2 ∧ (0 < F → a < F) ∧ RB w wx w1.heap.size l A j cp (.slice (some ⟨d, 0, none⟩) k cv) (atE l ps q 0).1)
          case atStart => exact ⟨0, 0, by omega, rfl, rfl, HA0.out.symm, fun h => h, HR0.out⟩
          case round =>
            clear HR0
            obtain ⟨q, a, hq, rfl, rfl, ha, haF, hrb⟩ := hrel
            have HQ := Lib.hid hq
            have HRB := Lib.hid hrb
            have HA1 := Lib.hid ha
            have HAF := Lib.hid haF
            have hqj : q ≤ j := by omega
            clear hq hrb ha haF
            obtain ⟨b0, b1, _, _⟩ := box2 HRB.out.cb
            by_cases hql : q < j
            · obtain ⟨g', rfl⟩ : ∃ g', gk = g' + 1 := ⟨gk - 1, by have := HQ.out; omega⟩
              have hqi : (q : Int) < (j : Int) := by omega
              have hqp : q < ps.length := by have := HM.out; omega
              have HG := Lib.hid (getD_eq ps q 0 hqp)
              have hpg := HF.out.ge ps[q] (List.getElem_mem hqp)
              have HCel : Hid (∀ wx, Below w.heap.size w wx → ∃ da oa, A = some ⟨da, oa, none⟩ ∧ wx.cell? ⟨da, oa + q, none⟩ = some (.int .i64 ps[q])) := fun wx hb => by
                obtain ⟨da, oa, rfl, q1, q2, hcp⟩ := (HD.out.below hb hhi) (by omega)
                exact ⟨da, oa, rfl, hcp q hqp⟩
              have hFk : F ≤ k := by rw [HFe.out, HN.out]; exact HF.out.fe_le.1
              obtain ⟨P, hP⟩ : ∃ P : Nat, P = (ps.getD q 0).toNat := ⟨_, rfl⟩
              have hP32 : P ≤ k := by
                have h1 := HF.out.fe_le.1
                have h2 := ot_mono ps (show q + 1 ≤ ps.length by omega)
                rw [ot, List.length_append, List.length_replicate, HF.out.fe_eq, ← hP] at h2
                have := HN.out
                omega
              have HPP := Lib.hid hP
              have hpP : P = (ps[q]).toNat := by rw [hP, HG.out]
              have HPp := Lib.hid hpP
              have hp15 : ps[q] ≤ 32768 := by omega
              clear hP hpP
              generalize ps[q] = p at *
              have HAn := Lib.hid (atE_next l ps q)
              have HCv := Lib.hid (HF.out.atE_bd q 0 hqp (Nat.zero_le _))
              go_wp2_with fail
              obtain ⟨wo, rfl⟩ : ∃ wo : World, wo = wr := ⟨_, rfl⟩
              clear b0 b1
              go_loopg [10, 12] P (fun gh t i wx => ∃ r a : Nat, r + gh = P ∧ i = .int .i64 (r : Int) ∧ t = .int .i64 (a : Int) ∧ a = (atE l ps q r).2 ∧ (0 < F → a < F) ∧ RB w wx w1.heap.size l A j cp (.slice (some ⟨d, 0, none⟩) k cv) (atE l ps q r).1)
              case atStart => exact ⟨0, a, by omega, rfl, rfl, HA1.out, HAF.out, HRB.out⟩
              case round =>
                clear HA1 HAF HRB
                obtain ⟨r, a, hr, rfl, rfl, ha, haF, hrb⟩ := hrel
                have HR := Lib.hid hr
                have HRB := Lib.hid hrb
                have HA1 := Lib.hid ha
                have HAF := Lib.hid haF
                have hrP : r ≤ P := by omega
                clear hr hrb ha haF
                obtain ⟨b0, b1, _, _⟩ := box2 HRB.out.cb
                obtain ⟨da, oa, rfl, hcell⟩ := HCel.out wr HRB.out.below
                by_cases hrl : r < P
                · obtain ⟨g2, rfl⟩ : ∃ g2, gk = g2 + 1 := ⟨gk - 1, by have := HR.out; omega⟩
                  have hri : (r : Int) < p := by have := HPp.out; omega
                  have hF0 : 0 < F := by have := HCv.out.2.2; rw [HFe.out]; apply this; have := HPP.out; omega
                  have haF := HAF.out hF0
                  have hbd := HF.out.atE_bd q r hqp (by have := HPP.out; omega)
                  have hlen : a < (atE l ps q r).1.length := by rw [hbd.1]; have := HN.out; omega
                  have hnb := (HF.out.atE_bd q (r + 1) hqp (by have := HPP.out; omega)).2.1 (by rw [← HFe.out]; exact hF0)
                  have HSt := Lib.hid (atE_step l ps q r)
                  rw [HSt.out] at hnb
                  rw [← HFe.out, ← HN.out, ← HA1.out] at HSt
                  rw [← HFe.out, ← HN.out, ← HA1.out] at hnb
                  dsimp only at hnb
                  obtain ⟨x0, x1, x2, ⟨c0, _, _⟩, f0, _, _⟩ : ∃ x0 x1 x2 : Int, (wr.cell? ⟨d, a * 3, none⟩ = some (.int .i64 x0) ∧ wr.cell? ⟨d, a * 3 + 1, none⟩ = some (.int .i64 x1) ∧ wr.cell? ⟨d, a * 3 + 2, none⟩ = some (.int .i64 x2)) ∧ wr.frozen? ⟨d, a * 3, none⟩ = false ∧ wr.frozen? ⟨d, a * 3 + 1, none⟩ = false ∧ wr.frozen? ⟨d, a * 3 + 2, none⟩ = false := ⟨_, _, _, HRB.out.cells a hlen⟩
                  have HEx : Hid (∀ x ∈ (atE l ps q r).1, x.b = 0 ∧ x.e = 0) := by
                    have h1 : ∀ (S : List En) (L : List En × Nat), (∀ x ∈ L.1, x.b = 0 ∧ x.e = 0) → (∀ x ∈ S, x.b = 0 ∧ x.e = 0) → ∀ x ∈ (S.foldl (place (2 ^ l) (fe l ps)) L).1, x.b = 0 ∧ x.e = 0 := by
                      intro S
                      induction S with
                      | nil => intro L h _; exact h
                      | cons s S ih =>
                        intro L h hs
                        refine ih _ ?_ (fun x hx => hs x (by simp [hx]))
                        intro x hx
                        unfold place at hx
                        rcases List.mem_or_eq_of_mem_set hx with q | q
                        · exact h x q
                        · rw [q]; exact hs s (by simp)
                    refine h1 _ _ ?_ ?_
                    · intro x hx
                      simp only [List.mem_append, List.mem_replicate, List.mem_map] at hx
                      rcases hx with ⟨_, rfl⟩ | ⟨_, _, rfl⟩ <;> exact ⟨rfl, rfl⟩
                    · intro x hx
                      obtain ⟨_, _, rfl⟩ := List.mem_map.1 hx
                      exact ⟨rfl, rfl⟩
                  have HPut := Lib.hid (HRB.out.put a 0 hlen (by decide) (.int .i64 (q : Int)) (raw q) (by
                    have := HEx.out _ (List.getElem_mem hlen)
                    simp [rcell, raw, this]))
                  obtain ⟨T, hT⟩ : ∃ T, T = skip k F k (nx k a) := ⟨_, rfl⟩
                  rw [← hT] at hnb HSt
                  have HT := Lib.hid hT
                  obtain ⟨t0, t1, _, _⟩ := box2 HRB.out.tb
                  have haki : (a : Int) < (k : Int) := by omega
                  have hb : ((a : Int) + (k : Int) / 2 + (k : Int) / 8 + 3) % (k : Int) = ((nx k a : Nat) : Int) := by
                    rw [show (a : Int) + (k : Int) / 2 + (k : Int) / 8 + 3 = ((a + stp k : Nat) : Int) by unfold stp; omega]
                    exact (Int.natCast_emod _ _).symm
                  have HNx : Hid (nx k a < k) := Nat.mod_lt _ (by omega)
                  obtain ⟨y, hy⟩ : ∃ y, y = nx k a := ⟨_, rfl⟩
                  rw [← hy] at hb HNx HT
                  clear hT hlen hy HEx hbd
                  go_wp2_with fail
                  rw [hb]
                  have HR3 : Hid (RB w (wr.setCell ⟨d, a * 3, none⟩ (.int .i64 (q : Int))) w1.heap.size l (some ⟨da, oa, none⟩) j cp (.slice (some ⟨d, 0, none⟩) k cv) (atE l ps q (r + 1)).1) := by
                    rw [HSt.out]
                    exact HPut.out
                  have hyk := HNx.out
                  clear c0 f0 t0 t1 hcell b0 b1 hb HPut HRB haki
                  generalize wr.setCell ⟨d, a * 3, none⟩ (.int .i64 (q : Int)) = w3 at *
                  go_loopg [10, 13] k (fun gh t i wx => ∃ y z : Nat, t = .int .i64 (y : Int) ∧ y < k ∧ i = .int .i64 (z : Int) ∧ z + gh = k ∧ T = skip k F gh y ∧ wx = w3)
                  case atStart => exact ⟨y, 0, rfl, hyk, rfl, by omega, HT.out, rfl⟩
                  case round =>
                    clear HT HNx
                    obtain ⟨y, z, rfl, hyk, rfl, hz, hTs, rfl⟩ := hrel
                    have HZ := Lib.hid hz
                    have HTs := Lib.hid hTs
                    have hzk : z ≤ k := by omega
                    clear hz hTs
                    by_cases hyF : y < F
                    · have hyi : decide ((F : Int) - 1 < (y : Int)) = false := by simp; omega
                      have hyT : y = T := by
                        rw [HTs.out]
                        cases gk with
                        | zero => rfl
                        | succ f => rw [skip, if_pos hyF]
                      subst hyT
                      by_cases hzl : z < k
                      · have hzi : (z : Int) < (k : Int) := by omega
                        go_wp2_with fail
                        go_roundg g2
                        case rel => exact ⟨r + 1, y, by have := HR.out; omega, by go_num, rfl, by rw [HSt.out], fun _ => hyF, HR3.out⟩
                        case measure => omega
                      · have hzi : decide ((z : Int) < (k : Int)) = false := by simp; omega
                        go_wp2_with fail
                        go_roundg g2
                        case rel => exact ⟨r + 1, y, by have := HR.out; omega, by go_num, rfl, by rw [HSt.out], fun _ => hyF, HR3.out⟩
                        case measure => omega
                    · have hyi : (F : Int) - 1 < (y : Int) := by omega
                      obtain ⟨f, hf⟩ : ∃ f, gk = f + 1 := by
                        cases gk with
                        | zero =>
                          exfalso
                          have := HTs.out
                          rw [skip] at this
                          omega
                        | succ f => exact ⟨f, rfl⟩
                      subst hf
                      have hzi : (z : Int) < (k : Int) := by have := HZ.out; omega
                      have HTn : Hid (T = skip k F f (nx k y)) := by rw [Hid, HTs.out, skip, if_neg hyF]
                      have hb : ((y : Int) + (k : Int) / 2 + (k : Int) / 8 + 3) % (k : Int) = ((nx k y : Nat) : Int) := by
                        rw [show (y : Int) + (k : Int) / 2 + (k : Int) / 8 + 3 = ((y + stp k : Nat) : Int) by unfold stp; omega]
                        exact (Int.natCast_emod _ _).symm
                      have HNx : Hid (nx k y < k) := Nat.mod_lt _ (by omega)
                      obtain ⟨y2, hy2⟩ : ∃ y2, y2 = nx k y := ⟨_, rfl⟩
                      rw [← hy2] at hb HNx HTn
                      have HBb := Lib.hid hb
                      clear hy2 hb
                      go_wp2_with fail
                      go_roundg f
                      case rel => exact ⟨y2, z + 1, by rw [HBb.out], HNx.out, by go_num, by have := HZ.out; omega, HTn.out, rfl⟩
                      case measure => omega
                · obtain rfl : r = P := by omega
                  have hri : ¬ (r : Int) < p := by have := HPp.out; omega
                  go_wp2_with fail
                  go_roundg g'
                  case rel =>
                    refine ⟨q + 1, a, by have := HQ.out; omega, by go_num, rfl, ?_, HAF.out, ?_⟩
                    · rw [HAn.out, ← HPP.out]; exact HA1.out
                    · rw [HAn.out, ← HPP.out]; exact HRB.out
                  case measure => omega
            · obtain rfl : q = j := by omega
              have hqi : ¬ (q : Int) < (q : Int) := by omega
              have hrb := HRB.out
              rw [show (atE l ps q 0).1 = (syms l ps).map raw by have := HM.out; rw [← this]; exact HF.out.atE_all] at hrb
              have hsl := HF.out.syms_len
              have htl := tab_length HF.out
              rw [← HN.out] at hsl htl
              have HSl := Lib.hid hsl
              have HTl := Lib.hid htl
              have HR1 := Lib.hid hrb
              clear hrb hsl htl HRB HA1 HAF
              go_wp2_with (refine wpList_alloc_z rfl 184 rfl (arr fun _ => 0) array_zero ?_)
              have hRA : RBA w (wr.alloc (.cells (arr fun _ => 0) 184)) w1.heap.size l A q cp (.slice (some ⟨d, 0, none⟩) k cv) (mid (tab l ps) (syms l ps) 0) wr.heap.size (fun s => ((syms l ps).take 0).count s) := by
                refine ⟨?_, ?_, ?_⟩
                · rw [mid_zero]
                  exact HR1.out.alloc _
                · have e : (fun s => ((syms l ps).take 0).count s) = fun _ => 0 := by funext s; simp
                  rw [e]
                  exact Box.new wr _ _
                · have := HR1.out.es.block d rfl
                  omega
              have hdw : d < wr.heap.size := (HR1.out.es.block d rfl).2
              have HRA := Lib.hid hRA
              clear hRA HR1 b0 b1
              generalize wr.heap.size = ab at *
              generalize wr.alloc (.cells (arr fun _ => 0) 184) = W2 at *
              go_loopg [15] k (fun gh i wx => ∃ z : Nat, z + gh = k ∧ i = .int .i64 (z : Int) ∧ RBA w wx w1.heap.size l A q cp (.slice (some ⟨d, 0, none⟩) k cv) (mid (tab l ps) (syms l ps) z) ab (fun s => ((syms l ps).take z).count s))
              case atStart => exact ⟨0, by omega, rfl, HRA.out⟩
              case round =>
                clear HRA
                obtain ⟨z, hz, rfl, hra⟩ := hrel
                have HZ := Lib.hid hz
                have HRA := Lib.hid hra
                have hzk : z ≤ k := by omega
                clear hz hra
                obtain ⟨b0, b1, _, _⟩ := box2 HRA.out.rb.cb
                obtain ⟨t0, t1, _, _⟩ := box2 HRA.out.rb.tb
                by_cases hzl : z < k
                · obtain ⟨g', rfl⟩ : ∃ g', gk = g' + 1 := ⟨gk - 1, by have := HZ.out; omega⟩
                  have hzi : (z : Int) < (k : Int) := by omega
                  have hzs : z < (syms l ps).length := by have := HSl.out; omega
                  have hzt : z < (tab l ps).length := by have := HTl.out; omega
                  have hlen : (tab l ps).length = (syms l ps).length := by rw [HTl.out, HSl.out]
                  have hzm : z < (mid (tab l ps) (syms l ps) z).length := by rw [mid_length _ _ hlen z (by omega)]; exact hzt
                  have hmg := mid_get (tab l ps) (syms l ps) hlen z hzt
                  have hms := mid_set (tab l ps) (syms l ps) hlen z hzt
                  rw [show (tab l ps)[z] = entN l ((syms l ps).getD z 0) (kOf ps (syms l ps) z) from tab_get HF.out z hzt] at hms
                  have hsp : (syms l ps).getD z 0 < ps.length := by
                    rw [getD_of _ _ _ hzs]
                    exact HF.out.syms_lt _ (List.getElem_mem hzs)
                  have hkb := HF.out.k_bd z (by have := HN.out; omega)
                  have hkf : kOf ps (syms l ps) z = (wi (ps.getD ((syms l ps).getD z 0) 0)).toNat + ((syms l ps).take z).count ((syms l ps).getD z 0) := rfl
                  have hcs := cnt_succ (syms l ps) z hzs
                  obtain ⟨⟨e0, _, _⟩, _, _, _⟩ := HRA.out.rb.cells z hzm
                  rw [hmg] at e0
                  have cA := (HRA.out.ar.cell ((syms l ps).getD z 0)).trans (arr_get _ _ (by have := HM.out; omega))
                  have fA := HRA.out.ar.free ((syms l ps).getD z 0)
                  have hput := HRA.out.ar.put ((syms l ps).getD z 0) (.int .i64 ((((syms l ps).take z).count ((syms l ps).getD z 0) + 1 : Nat) : Int))
                  rw [arr_set] at hput
                  rw [hcs] at hput
                  have HPutA := Lib.hid hput
                  have HMs := Lib.hid hms
                  have HMg := Lib.hid hmg
                  have HKf := Lib.hid hkf
                  have HKb := Lib.hid hkb
                  have hC : ((syms l ps).take z).count ((syms l ps).getD z 0) ≤ z := by
                    refine Nat.le_trans List.count_le_length ?_
                    rw [List.length_take]; omega
                  unfold raw at e0
                  dsimp only at e0
                  clear hmg hms hkf hkb hput hcs
                  generalize (syms l ps).getD z 0 = sy at *
                  generalize ((syms l ps).take z).count sy = C at *
                  generalize kOf ps (syms l ps) z = K at *
                  have hsq : (sy : Int) < (q : Int) := by have := HM.out; omega
                  have hs256 : (sy : Int) < 256 := by omega
                  obtain ⟨da, oa, rfl, _, _, hcp⟩ := (HD.out.below HRA.out.rb.below hhi) (by omega)
                  have hcell := hcp sy hsp
                  unfold icel at hcell
                  have HG := Lib.hid (getD_eq ps sy 0 hsp)
                  have hpg := HF.out.ge ps[sy] (List.getElem_mem hsp)
                  have hwl := HF.out.wi_le sy
                  rw [HG.out, ← HN.out] at hwl
                  have hp15 : ps[sy] ≤ 32768 := by unfold wi at hwl; split at hwl <;> omega
                  have HKw : Hid (K = (wi ps[sy]).toNat + C) := by rw [Hid, HKf.out, HG.out]
                  clear hcp hwl HKf
                  generalize ps[sy] = p at *
                  have hge : decide (q ≤ sy) = false := by simp; have := HM.out; omega
                  have hneg : decide ((sy : Int) < 0) = false := by simp
                  by_cases hp : p < 0
                  · obtain rfl : p = -1 := by omega
                    have hKi : (C : Int) + 1 = (K : Int) := by have := HKw.out; rw [show (wi (-1)).toNat = 1 from rfl] at this; omega
                    have HKi := Lib.hid hKi
                    clear hKi
                    go_wp2_with fail
                    have HRB3 : Hid (RBA w (wr.setCell ⟨ab, sy, none⟩ (.int .i64 ((C : Int) + 1))) w1.heap.size l (some ⟨da, oa, none⟩) q cp (.slice (some ⟨d, 0, none⟩) k cv) (mid (tab l ps) (syms l ps) z) ab (fun s => ((syms l ps).take (z + 1)).count s)) :=
                      ⟨HRA.out.rb.aside HRA.out.hab (by omega) _ _, HPutA.out, HRA.out.hab⟩
                    clear b0 b1 t0 t1 cA fA hcell e0 HPutA HRA
                    generalize wr.setCell ⟨ab, sy, none⟩ (.int .i64 ((C : Int) + 1)) = w3 at *
                    rw [HKi.out]
                    clear HKi
                    have hkb := HKb.out
                    rw [← HN.out] at hkb
                    have hlb := log_bd HKb.out.1 HKb.out.2
                    have HG2 : Hid (2 ^ K.log2 ≤ K ∧ K < 2 ^ (K.log2 + 1)) := ⟨Nat.log2_self_le (by omega), Nat.lt_log2_self⟩
                    obtain ⟨G, hG⟩ : ∃ G, G = K.log2 := ⟨_, rfl⟩
                    have hen : entN l sy K = ⟨(sy : Int), ((l - G : Nat) : Int), ((K * 2 ^ (l - G) - 2 ^ l : Nat) : Int)⟩ := by unfold entN; rw [hG]
                    rw [hen] at HMs
                    rw [← hG] at HG2 hlb
                    clear hG hen
                    obtain ⟨hGl, hQ1, hQ2⟩ := hlb
                    obtain ⟨Bt, hBt⟩ : ∃ Bt, Bt = l - G := ⟨_, rfl⟩
                    rw [← hBt] at HMs hQ1 hQ2
                    obtain ⟨PB, hPB⟩ : ∃ PB : Nat, PB = 2 ^ Bt := ⟨_, rfl⟩
                    obtain ⟨Q, hQ⟩ : ∃ Q : Nat, Q = K * PB := ⟨_, rfl⟩
                    rw [← hPB, ← HN.out] at HMs hQ1 hQ2
                    rw [← hQ] at HMs hQ1 hQ2
                    have HPB := fun W => Lib.hid (refPower_any Bt W (by omega))
                    rw [← hPB] at HPB
                    have hKPB : (K : Int) * (PB : Int) = (Q : Int) := by rw [hQ]; simp
                    have hBtl : (l : Int) - (G : Int) = (Bt : Int) := by omega
                    have HKPB := Lib.hid hKPB
                    have HBtl := Lib.hid hBtl
                    clear hPB hQ hKPB hBtl hBt
                    obtain ⟨b0, b1, _, _⟩ := box2 HRB3.out.rb.cb
                    go_loopg [19] G (fun gh t wx => ∃ x : Nat, x + gh = G ∧ t = .int .i64 ((l : Int) - (x : Int)) ∧ wx = w3)
                    case atStart => exact ⟨0, by omega, by simp, rfl⟩
                    case round =>
                      obtain ⟨x, hxg, rfl, rfl⟩ := hrel
                      have HXg := Lib.hid hxg
                      have hx : x ≤ G := by omega
                      clear hxg
                      have HP1 := Lib.hid (refPower_any (x + 1) wr (by omega))
                      obtain ⟨PP, hPP⟩ : ∃ PP : Nat, PP = 2 ^ (x + 1) := ⟨_, rfl⟩
                      rw [← hPP] at HP1
                      have hxl : (x : Int) ≤ (l : Int) := by omega
                      by_cases hxG : x < G
                      · obtain ⟨g3, rfl⟩ : ∃ g3, gk = g3 + 1 := ⟨gk - 1, by have := HXg.out; omega⟩
                        have hle : PP ≤ K := by
                          rw [hPP]
                          exact Nat.le_trans (Nat.pow_le_pow_right (by omega) (by omega)) HG2.out.1
                        have hlei : (PP : Int) ≤ (K : Int) := by omega
                        clear hPP
                        go_wp2_with fail
                        rw [show (l : Int) - ((l : Int) - (x : Int)) + 1 = ((x + 1 : Nat) : Int) by omega]
                        refine HP1.out.mono ?_
                        rintro e w' ⟨rfl, rfl⟩
                        go_wp2_with fail
                        go_roundg g3
                        case rel => exact ⟨x + 1, by have := HXg.out; omega, by go_num, rfl⟩
                        case measure => omega
                      · obtain rfl : x = G := by omega
                        have hlt2 : K < PP := by rw [hPP]; exact HG2.out.2
                        have hlei : ¬ (PP : Int) ≤ (K : Int) := by omega
                        clear hPP
                        rw [HBtl.out]
                        obtain ⟨t0, t1, _, _⟩ := box2 HRB3.out.rb.tb
                        obtain ⟨⟨_, e1, _⟩, _, f1, _⟩ := HRB3.out.rb.cells z hzm
                        rw [HMg.out] at e1
                        have hp1 := HRB3.out.rb.put z 1 hzm (by decide) (.int .i64 (Bt : Int)) ⟨(sy : Int), (Bt : Int), 0⟩ (by rw [HMg.out]; rfl)
                        have HR4 := Lib.hid hp1
                        have HBx := Lib.hid HBtl.out
                        unfold raw at e1
                        dsimp only at e1
                        clear hp1
                        have hBl : (Bt : Int) ≤ (l : Int) := by have := HBtl.out; omega
                        go_wp2_with fail
                        rw [show (l : Int) - (Bt : Int) + 1 = ((x + 1 : Nat) : Int) by have := HBtl.out; omega]
                        refine HP1.out.mono ?_
                        rintro e w' ⟨rfl, rfl⟩
                        go_wp2_with fail
                        have har := HRB3.out.ar.far (show ab ≠ (⟨d, z * 3 + 1, none⟩ : Addr).block by show ab ≠ d; omega) (.int .i64 (Bt : Int))
                        have HAr := Lib.hid har
                        have hab := HRB3.out.hab
                        clear har e1 f1 t0 t1 b0 b1 HRB3 hlei
                        generalize wr.setCell ⟨d, z * 3 + 1, none⟩ (.int .i64 (Bt : Int)) = w5 at *
                        obtain ⟨t0, t1, _, _⟩ := box2 HR4.out.tb
                        have hzm2 : z < ((mid (tab l ps) (syms l ps) z).set z ⟨(sy : Int), (Bt : Int), 0⟩).length := by rw [List.length_set]; exact hzm
                        have hz2 : ((mid (tab l ps) (syms l ps) z).set z ⟨(sy : Int), (Bt : Int), 0⟩)[z]'hzm2 = ⟨(sy : Int), (Bt : Int), 0⟩ := by simp
                        obtain ⟨⟨_, _, e2⟩, _, _, f2⟩ := HR4.out.cells z hzm2
                        rw [hz2] at e2
                        dsimp only at e2
                        have hp2 := HR4.out.put z 2 hzm2 (by decide) (.int .i64 ((Q - k : Nat) : Int)) ⟨(sy : Int), (Bt : Int), ((Q - k : Nat) : Int)⟩ (by rw [hz2]; rfl)
                        rw [List.set_set, HMs.out, show ((Q - k : Nat) : Int) = (Q : Int) - (k : Int) by omega] at hp2
                        have HR5 := Lib.hid hp2
                        have q1 := HKPB.out
                        have q2 : IntKind.i64.wrap (Q : Int) = (Q : Int) := IntWalk.i64_in _ (by omega)
                        have q3 : IntKind.i64.wrap ((Q : Int) - (k : Int)) = (Q : Int) - (k : Int) := IntWalk.i64_in _ (by omega)
                        clear hz2 hp2
                        go_region_with (go_at_call 89; refine (HPB _).out.mono ?_; rintro e' wn ⟨rfl, rfl⟩)
                        all_goals
                          clear q1 q2 q3 e2 f2 t0 t1
                          go_wp2_with fail
                          go_roundg g'
                          case rel => exact ⟨z + 1, by have := HZ.out; omega, by go_num, ⟨by first | exact HR5.out.drewR | exact HR5.out, by first | exact HAr.out.far (by show ab ≠ d; omega) _, hab⟩⟩
                          case measure => omega
                  · have hw : wi p = p := by unfold wi; rw [if_neg (by omega)]
                    have hKi : (C : Int) + p = (K : Int) := by have := HKw.out; rw [hw] at this; omega
                    have HKi := Lib.hid hKi
                    have hp0 : decide (p < 0) = false := by simp; omega
                    clear hKi hw
                    go_wp2_with fail
                    have HRB3 : Hid (RBA w (wr.setCell ⟨ab, sy, none⟩ (.int .i64 ((C : Int) + 1))) w1.heap.size l (some ⟨da, oa, none⟩) q cp (.slice (some ⟨d, 0, none⟩) k cv) (mid (tab l ps) (syms l ps) z) ab (fun s => ((syms l ps).take (z + 1)).count s)) :=
                      ⟨HRA.out.rb.aside HRA.out.hab (by omega) _ _, HPutA.out, HRA.out.hab⟩
                    clear b0 b1 t0 t1 cA fA hcell e0 HPutA HRA
                    generalize wr.setCell ⟨ab, sy, none⟩ (.int .i64 ((C : Int) + 1)) = w3 at *
                    rw [HKi.out]
                    clear HKi
                    have hkb := HKb.out
                    rw [← HN.out] at hkb
                    have hlb := log_bd HKb.out.1 HKb.out.2
                    have HG2 : Hid (2 ^ K.log2 ≤ K ∧ K < 2 ^ (K.log2 + 1)) := ⟨Nat.log2_self_le (by omega), Nat.lt_log2_self⟩
                    obtain ⟨G, hG⟩ : ∃ G, G = K.log2 := ⟨_, rfl⟩
                    have hen : entN l sy K = ⟨(sy : Int), ((l - G : Nat) : Int), ((K * 2 ^ (l - G) - 2 ^ l : Nat) : Int)⟩ := by unfold entN; rw [hG]
                    rw [hen] at HMs
                    rw [← hG] at HG2 hlb
                    clear hG hen
                    obtain ⟨hGl, hQ1, hQ2⟩ := hlb
                    obtain ⟨Bt, hBt⟩ : ∃ Bt, Bt = l - G := ⟨_, rfl⟩
                    rw [← hBt] at HMs hQ1 hQ2
                    obtain ⟨PB, hPB⟩ : ∃ PB : Nat, PB = 2 ^ Bt := ⟨_, rfl⟩
                    obtain ⟨Q, hQ⟩ : ∃ Q : Nat, Q = K * PB := ⟨_, rfl⟩
                    rw [← hPB, ← HN.out] at HMs hQ1 hQ2
                    rw [← hQ] at HMs hQ1 hQ2
                    have HPB := fun W => Lib.hid (refPower_any Bt W (by omega))
                    rw [← hPB] at HPB
                    have hKPB : (K : Int) * (PB : Int) = (Q : Int) := by rw [hQ]; simp
                    have hBtl : (l : Int) - (G : Int) = (Bt : Int) := by omega
                    have HKPB := Lib.hid hKPB
                    have HBtl := Lib.hid hBtl
                    clear hPB hQ hKPB hBtl hBt
                    obtain ⟨b0, b1, _, _⟩ := box2 HRB3.out.rb.cb
                    go_loopg [19] G (fun gh t wx => ∃ x : Nat, x + gh = G ∧ t = .int .i64 ((l : Int) - (x : Int)) ∧ wx = w3)
                    case atStart => exact ⟨0, by omega, by simp, rfl⟩
                    case round =>
                      obtain ⟨x, hxg, rfl, rfl⟩ := hrel
                      have HXg := Lib.hid hxg
                      have hx : x ≤ G := by omega
                      clear hxg
                      have HP1 := Lib.hid (refPower_any (x + 1) wr (by omega))
                      obtain ⟨PP, hPP⟩ : ∃ PP : Nat, PP = 2 ^ (x + 1) := ⟨_, rfl⟩
                      rw [← hPP] at HP1
                      have hxl : (x : Int) ≤ (l : Int) := by omega
                      by_cases hxG : x < G
                      · obtain ⟨g3, rfl⟩ : ∃ g3, gk = g3 + 1 := ⟨gk - 1, by have := HXg.out; omega⟩
                        have hle : PP ≤ K := by
                          rw [hPP]
                          exact Nat.le_trans (Nat.pow_le_pow_right (by omega) (by omega)) HG2.out.1
                        have hlei : (PP : Int) ≤ (K : Int) := by omega
                        clear hPP
                        go_wp2_with fail
                        rw [show (l : Int) - ((l : Int) - (x : Int)) + 1 = ((x + 1 : Nat) : Int) by omega]
                        refine HP1.out.mono ?_
                        rintro e w' ⟨rfl, rfl⟩
                        go_wp2_with fail
                        go_roundg g3
                        case rel => exact ⟨x + 1, by have := HXg.out; omega, by go_num, rfl⟩
                        case measure => omega
                      · obtain rfl : x = G := by omega
                        have hlt2 : K < PP := by rw [hPP]; exact HG2.out.2
                        have hlei : ¬ (PP : Int) ≤ (K : Int) := by omega
                        clear hPP
                        rw [HBtl.out]
                        obtain ⟨t0, t1, _, _⟩ := box2 HRB3.out.rb.tb
                        obtain ⟨⟨_, e1, _⟩, _, f1, _⟩ := HRB3.out.rb.cells z hzm
                        rw [HMg.out] at e1
                        have hp1 := HRB3.out.rb.put z 1 hzm (by decide) (.int .i64 (Bt : Int)) ⟨(sy : Int), (Bt : Int), 0⟩ (by rw [HMg.out]; rfl)
                        have HR4 := Lib.hid hp1
                        have HBx := Lib.hid HBtl.out
                        unfold raw at e1
                        dsimp only at e1
                        clear hp1
                        have hBl : (Bt : Int) ≤ (l : Int) := by have := HBtl.out; omega
                        go_wp2_with fail
                        rw [show (l : Int) - (Bt : Int) + 1 = ((x + 1 : Nat) : Int) by have := HBtl.out; omega]
                        refine HP1.out.mono ?_
                        rintro e w' ⟨rfl, rfl⟩
                        go_wp2_with fail
                        have har := HRB3.out.ar.far (show ab ≠ (⟨d, z * 3 + 1, none⟩ : Addr).block by show ab ≠ d; omega) (.int .i64 (Bt : Int))
                        have HAr := Lib.hid har
                        have hab := HRB3.out.hab
                        clear har e1 f1 t0 t1 b0 b1 HRB3 hlei
                        generalize wr.setCell ⟨d, z * 3 + 1, none⟩ (.int .i64 (Bt : Int)) = w5 at *
                        obtain ⟨t0, t1, _, _⟩ := box2 HR4.out.tb
                        have hzm2 : z < ((mid (tab l ps) (syms l ps) z).set z ⟨(sy : Int), (Bt : Int), 0⟩).length := by rw [List.length_set]; exact hzm
                        have hz2 : ((mid (tab l ps) (syms l ps) z).set z ⟨(sy : Int), (Bt : Int), 0⟩)[z]'hzm2 = ⟨(sy : Int), (Bt : Int), 0⟩ := by simp
                        obtain ⟨⟨_, _, e2⟩, _, _, f2⟩ := HR4.out.cells z hzm2
                        rw [hz2] at e2
                        dsimp only at e2
                        have hp2 := HR4.out.put z 2 hzm2 (by decide) (.int .i64 ((Q - k : Nat) : Int)) ⟨(sy : Int), (Bt : Int), ((Q - k : Nat) : Int)⟩ (by rw [hz2]; rfl)
                        rw [List.set_set, HMs.out, show ((Q - k : Nat) : Int) = (Q : Int) - (k : Int) by omega] at hp2
                        have HR5 := Lib.hid hp2
                        have q1 := HKPB.out
                        have q2 : IntKind.i64.wrap (Q : Int) = (Q : Int) := IntWalk.i64_in _ (by omega)
                        have q3 : IntKind.i64.wrap ((Q : Int) - (k : Int)) = (Q : Int) - (k : Int) := IntWalk.i64_in _ (by omega)
                        clear hz2 hp2
                        go_region_with (go_at_call 89; refine (HPB _).out.mono ?_; rintro e' wn ⟨rfl, rfl⟩)
                        all_goals
                          clear q1 q2 q3 e2 f2 t0 t1
                          go_wp2_with fail
                          go_roundg g'
                          case rel => exact ⟨z + 1, by have := HZ.out; omega, by go_num, ⟨by first | exact HR5.out.drewR | exact HR5.out, by first | exact HAr.out.far (by show ab ≠ d; omega) _, hab⟩⟩
                          case measure => omega
                · obtain rfl : z = k := by omega
                  have hzi : ¬ (z : Int) < (z : Int) := by omega
                  obtain ⟨r0, r1, _, _⟩ := box2 HRA.out.rb.rb
                  have hful := mid_all (tab l ps) (syms l ps) (by rw [HTl.out, HSl.out])
                  rw [HTl.out] at hful
                  rw [hful] at HRA
                  clear hful
                  go_wp2_with fail
                  refine bodyPost_ret (v := .tuple #[.agg #[.int .i64 (l : Int), .slice (some ⟨d, 0, none⟩) z cv], .int .i64 0]) (by simp [results, Tryz.results59, go_sem, r0, r1]) rfl ⟨.slice (some ⟨d, 0, none⟩) z cv, rfl, ?_, ?_⟩
                  · exact (((HRA.out.rb.es.aside (by omega) _ _).aside (by omega) _ _)).mono (by omega)
                  · exact (HRA.out.rb.below.setCell (by show w.heap.size ≤ w.heap.size + 1; omega) _).setCell (by show w.heap.size ≤ w.heap.size + 1; omega) _
end
end Go.Proofs.YtlidnialggpcpaaGreatDoor
