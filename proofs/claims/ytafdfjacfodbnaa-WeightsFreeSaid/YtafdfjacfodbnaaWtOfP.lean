
/- Weights that are made of lengths of codes may be. No program here. -/
import Derived.Test.YtafdfjacfodbnaaWtLens
import Derived.Test.YtafdfjacfodbnaaWtPlain
namespace Go.Proofs.Ytafdfjacfodbnaa

/-- The weight of a length. -/
def wOf (D : Nat) (x : Nat) : Nat := if 0 < x then D + 1 - x else 0
/-- The weights of symbols. -/
def wts (D n : Nat) (T : List Pk) : List Nat := (List.range n).map fun j => wOf D (cn (UInt8.ofNat j) T)
theorem totW_sum (l : List Nat) : totW l = (l.map wor).sum := by
  induction l with
  | nil => rfl
  | cons x r ih => rw [totW, ih, List.map_cons, List.sum_cons]
theorem sum_scale (l : List (Nat × UInt8)) (f g : UInt8 → Nat) (c : Nat) (h : ∀ p ∈ l, f p.2 = c * g p.2) : (l.map fun p => f p.2).sum = c * (l.map fun p => g p.2).sum := by
  induction l with
  | nil => simp
  | cons x r ih =>
    rw [List.map_cons, List.sum_cons, List.map_cons, List.sum_cons, ih fun p hp => h p (by simp [hp]), h x (by simp), Nat.mul_add]
theorem sgs_get {os : List Nat} {p : Nat × UInt8} (h : p ∈ sgs 0 os) : ∃ j, j < os.length ∧ 0 < os.getD j 0 ∧ p.2 = UInt8.ofNat j := by
  obtain ⟨h0, j, hj, e, e2⟩ := sgs_mem h
  exact ⟨j, hj, by rw [e]; exact h0, by rw [e2, Nat.zero_add]⟩
theorem cntW_pos {os : List Nat} (h : 0 < cnt os) : ∃ j, j < os.length ∧ 0 < os.getD j 0 := by
  induction os with
  | nil => simp [cnt] at h
  | cons x r ih =>
    by_cases hx : 0 < x
    · exact ⟨0, by simp, by simpa using hx⟩
    · rw [cnt, if_neg hx, Nat.zero_add] at h
      obtain ⟨j, hj, h0⟩ := ih h
      exact ⟨j + 1, by simpa using hj, by simpa using h0⟩

theorem wts_may {os : List Nat} {T : List Pk} {D n : Nat} (hT : Told os T) (hn : os.length = n) (h256 : n ≤ 256) (h2 : 2 ≤ cnt os) (hlast : 0 < os.getD (n - 1) 0) (hD1 : ∃ j, j < n ∧ D = cn (UInt8.ofNat j) T) (hD2 : ∀ j, j < n → cn (UInt8.ofNat j) T ≤ D) : MayW D (wts D n T) := by
  obtain ⟨t1, t2, t3⟩ := hT
  have hcl := cnt_le os
  have hn0 : 0 < n := by omega
  have hD11 : D ≤ 11 := by
    obtain ⟨j, hj, e⟩ := hD1
    by_cases h0 : 0 < os.getD j 0
    · rw [e]; exact (t1 j (by omega) h0).2
    · rw [e, t2 j (by omega) h0]; omega
  have hDpos : 1 ≤ D := by
    obtain ⟨j, hj, h0⟩ := cntW_pos (show 0 < cnt os by omega)
    have a := (t1 j (by omega) h0).1
    have b := hD2 j (by omega)
    omega
  have hlen : (wts D n T).length = n := by simp [wts]
  refine ⟨by omega, by omega, ?_, ?_, hDpos, hD11, fun w hw => ?_⟩
  · refine ⟨(wts D n T).take (n - 1), wOf D (cn (UInt8.ofNat (n - 1)) T), ?_, ?_⟩
    · have hq : n - 1 < (wts D n T).length := by omega
      have := List.take_succ_eq_append_getElem hq
      rw [show n - 1 + 1 = n by omega, List.take_of_length_le (by omega)] at this
      conv => lhs; rw [this]
      simp [wts]
    · have a := t1 (n - 1) (by omega) hlast
      have b := hD2 (n - 1) (by omega)
      unfold wOf
      rw [if_pos (by omega)]
      omega
  · have e : wts D n T = lst (fun v => wOf D (cn v T)) 0 os := by
      apply List.ext_getElem
      · rw [lst_len, hlen, hn]
      · intro j h1 h2'
        have hg := lst_get (fun v => wOf D (cn v T)) os 0 j
        rw [List.getD_eq_getElem?_getD, List.getElem?_eq_getElem h2'] at hg
        have hj : j < n := by omega
        simp only [Option.getD_some, Nat.zero_add] at hg
        rw [hg]
        have : (wts D n T)[j] = wOf D (cn (UInt8.ofNat j) T) := by simp [wts]
        rw [this]
        split
        · rfl
        · next h0 =>
          rw [t2 j (by omega) h0]
          rfl
    rw [totW_sum, e, lst_sum _ wor rfl]
    have hsc := sum_scale (sgs 0 os) (fun v => 2 ^ (11 - cn v T)) (fun v => wor (wOf D (cn v T))) (2 ^ (11 - D)) fun p hp => by
      obtain ⟨j, hj, h0, e⟩ := sgs_get hp
      have a := t1 j (by omega) h0
      have b := hD2 j (by omega)
      rw [e]
      unfold wOf
      rw [if_pos (by omega), wor_pos (by omega), ← Nat.pow_add]
      congr 1
      omega
    rw [t3] at hsc
    have e11 : (2 : Nat) ^ 11 = 2 ^ (11 - D) * 2 ^ D := by rw [← Nat.pow_add]; congr 1; omega
    rw [e11] at hsc
    exact (Nat.eq_of_mul_eq_mul_left (Nat.two_pow_pos _) hsc).symm
  · obtain ⟨j, hj, e⟩ := List.getElem_of_mem hw
    have : (wts D n T)[j] = wOf D (cn (UInt8.ofNat j) T) := by simp [wts]
    rw [this] at e
    rw [← e]
    unfold wOf
    split <;> omega
end Go.Proofs.Ytafdfjacfodbnaa
