
/- Bundles of one symbol each, made of how often symbols are. -/
import Derived.Test.YtafdfjacfodbnaaWtPairs
import Derived.Test.YtafdfjacfodbnaaWtStable
import Derived.Test.YtafdfjacfodbnaaWtTally
namespace Go.Proofs.Ytafdfjacfodbnaa
open Go.RowKit

/-- How often symbols are that are, with their symbols. -/
def sgs : Nat → List Nat → List (Nat × UInt8)
  | _, [] => []
  | i, o :: r => (if 0 < o then [(o, UInt8.ofNat i)] else []) ++ sgs (i + 1) r
theorem sgs_snoc (a : List Nat) (o : Nat) : ∀ i, sgs i (a ++ [o]) = sgs i a ++ (if 0 < o then [(o, UInt8.ofNat (i + a.length))] else []) := by
  induction a with
  | nil => intro i; simp [sgs]
  | cons x r ih =>
    intro i
    rw [List.cons_append, sgs, ih (i + 1), sgs, List.append_assoc, List.length_cons, show i + 1 + r.length = i + (r.length + 1) by omega]
theorem sgs_len (os : List Nat) : ∀ i, (sgs i os).length = cnt os := by
  induction os with
  | nil => intro i; rfl
  | cons x r ih =>
    intro i
    rw [sgs, cnt, List.length_append, ih (i + 1)]
    split <;> rfl
theorem sgs_mem {os : List Nat} : ∀ {i : Nat} {p : Nat × UInt8}, p ∈ sgs i os → 0 < p.1 ∧ ∃ j, j < os.length ∧ os.getD j 0 = p.1 ∧ p.2 = UInt8.ofNat (i + j) := by
  induction os with
  | nil => intro i p h; simp [sgs] at h
  | cons x r ih =>
    intro i p h
    rw [sgs] at h
    rcases List.mem_append.1 h with q | q
    · split at q
      · next hx =>
        rw [List.mem_singleton.1 q]
        exact ⟨hx, 0, by simp, rfl, rfl⟩
      · cases q
    · obtain ⟨h1, j, hj, e, e2⟩ := ih q
      exact ⟨h1, j + 1, by simpa using hj, by simpa using e, by rw [e2]; congr 1; omega⟩
theorem sgs_has {os : List Nat} : ∀ {i j : Nat}, j < os.length → 0 < os.getD j 0 → UInt8.ofNat (i + j) ∈ (sgs i os).map (·.2) := by
  induction os with
  | nil => intro i j h; simp at h
  | cons x r ih =>
    intro i j h h0
    rw [sgs, List.map_append, List.mem_append]
    rcases j with _ | j
    · left
      have h0 : 0 < x := by simpa using h0
      rw [if_pos h0]
      simp
    · right
      have := @ih (i + 1) j (by simpa using h) (by simpa using h0)
      rw [show i + (j + 1) = i + 1 + j by omega]
      exact this
theorem ofNat_inj {a b : Nat} (ha : a < 256) (hb : b < 256) (h : UInt8.ofNat a = UInt8.ofNat b) : a = b := by
  have := congrArg UInt8.toNat h
  simp at this
  omega
theorem sgs_nodup {os : List Nat} : ∀ {i : Nat}, i + os.length ≤ 256 → ((sgs i os).map (·.2)).Nodup := by
  induction os with
  | nil => intro i _; exact List.nodup_nil
  | cons x r ih =>
    intro i h
    simp at h
    rw [sgs, List.map_append]
    split
    · rw [List.map_singleton, List.singleton_append, List.nodup_cons]
      refine ⟨fun hm => ?_, ih (by omega)⟩
      obtain ⟨p, hp, e⟩ := List.mem_map.1 hm
      obtain ⟨_, j, hj, _, e2⟩ := sgs_mem hp
      rw [e2] at e
      have := ofNat_inj (by omega) (by omega) e
      omega
    · exact ih (by omega)

/-- Numbers of symbols that are, 0 of the others. -/
def lst (F : UInt8 → Nat) : Nat → List Nat → List Nat
  | _, [] => []
  | i, o :: r => (if 0 < o then F (UInt8.ofNat i) else 0) :: lst F (i + 1) r
theorem lst_len (F : UInt8 → Nat) (os : List Nat) : ∀ i, (lst F i os).length = os.length := by
  induction os with
  | nil => intro i; rfl
  | cons x r ih => intro i; rw [lst, List.length_cons, ih, List.length_cons]
theorem lst_get (F : UInt8 → Nat) (os : List Nat) : ∀ (i j : Nat), (lst F i os).getD j 0 = if 0 < os.getD j 0 then F (UInt8.ofNat (i + j)) else 0 := by
  induction os with
  | nil => intro i j; simp [lst]
  | cons x r ih =>
    intro i j
    rw [lst]
    rcases j with _ | j
    · simp
    · rw [List.getD_cons_succ, List.getD_cons_succ, ih, show i + 1 + j = i + (j + 1) by omega]
theorem lst_sum (F : UInt8 → Nat) (G : Nat → Nat) (hG : G 0 = 0) (os : List Nat) : ∀ i, ((lst F i os).map G).sum = ((sgs i os).map fun p => G (F p.2)).sum := by
  induction os with
  | nil => intro i; rfl
  | cons x r ih =>
    intro i
    rw [lst, sgs, List.map_cons, List.sum_cons, ih (i + 1), List.map_append, List.sum_append]
    congr 1
    split
    · simp
    · simpa using hG

/-- Bundles of the symbols that are. -/
def SingOf (os : List Nat) (S : List Pk) : Prop := (S.map fun x => (x.n, sy x)) = sgs 0 os ∧ ∀ x ∈ S, x.y = [sy x] ∧ x.s = true
theorem sing_of {os : List Nat} {S0 S : List Pk} (h : SingOf os S0) (hl : os.length ≤ 256) (hs : Srt S) (ha : Alike S0 S) : Sing S := by
  have hp := ha.perm
  refine ⟨hs, fun x hx => ?_, fun x hx => (h.2 x (ha.symm.mem hx)).2, fun x hx => (h.2 x (ha.symm.mem hx)).1, ?_⟩
  · have : (x.n, sy x) ∈ sgs 0 os := by rw [← h.1]; exact List.mem_map.2 ⟨x, ha.symm.mem hx, rfl⟩
    exact (sgs_mem this).1
  · have e : S0.map sy = (sgs 0 os).map (·.2) := by rw [← h.1, List.map_map]; rfl
    have hd : (S0.map sy).Nodup := by rw [e]; exact sgs_nodup (by omega)
    exact (hp.map sy).nodup_iff.1 hd
theorem sing_len {os : List Nat} {S0 S : List Pk} (h : SingOf os S0) (ha : Alike S0 S) : S.length = cnt os := by
  rw [← ha.perm.length_eq, ← sgs_len os 0, ← h.1, List.length_map]
theorem sing_sum {os : List Nat} {S0 S : List Pk} (h : SingOf os S0) (ha : Alike S0 S) (G : UInt8 → Nat) : (S.map fun x => G (sy x)).sum = ((sgs 0 os).map fun p => G p.2).sum := by
  rw [← h.1, List.map_map]
  exact ((ha.perm.map (fun x => G (sy x))).sum_nat).symm
theorem sing_mem {os : List Nat} {S0 S : List Pk} (h : SingOf os S0) (ha : Alike S0 S) (hl : os.length ≤ 256) {j : Nat} (hj : j < 256) : UInt8.ofNat j ∈ S.map sy ↔ 0 < os.getD j 0 := by
  have e : S0.map sy = (sgs 0 os).map (·.2) := by rw [← h.1, List.map_map]; rfl
  have e2 : UInt8.ofNat j ∈ S.map sy ↔ UInt8.ofNat j ∈ S0.map sy := (ha.perm.map sy).mem_iff.symm
  rw [e2, e]
  constructor
  · intro hm
    obtain ⟨p, hp, e⟩ := List.mem_map.1 hm
    obtain ⟨h0, k, hk, e1, e3⟩ := sgs_mem hp
    rw [e3] at e
    have := ofNat_inj (by omega) hj e
    rw [show j = k by omega, e1]
    exact h0
  · intro h0
    have hjl : j < os.length := by
      rcases Nat.lt_or_ge j os.length with q | q
      · exact q
      · rw [List.getD_eq_getElem?_getD, List.getElem?_eq_none q] at h0
        simp at h0
    have := @sgs_has os 0 j hjl h0
    rwa [Nat.zero_add] at this
end Go.Proofs.Ytafdfjacfodbnaa
