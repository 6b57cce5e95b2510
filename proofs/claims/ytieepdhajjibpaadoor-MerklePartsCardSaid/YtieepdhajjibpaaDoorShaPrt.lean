
/- A block's words as they grow byte by byte; the whole schedule. Nothing of the program is named here. -/
import Derived.Test.YtieepdhajjibpaaDoorShaCells
namespace Go.Proofs.YtieepdhajjibpaaDoor
open Go.RowKit

theorem upw_or (a b : UInt32) (n : Nat) : upw (wO a b) n = wO (upw a n) (upw b n) := by
  apply UInt32.toNat_inj.1
  unfold upw wO
  simp only [UInt32.toNat_ofNat', UInt32.toNat_or]
  rw [← Nat.shiftLeft_eq, ← Nat.shiftLeft_eq, ← Nat.shiftLeft_eq, Nat.shiftLeft_or_distrib]
  exact Nat.or_mod_two_pow
theorem upw_upw (a : UInt32) (m n : Nat) : upw (upw a m) n = upw a (m + n) := by
  apply UInt32.toNat_inj.1
  unfold upw
  simp only [UInt32.toNat_ofNat']
  rw [Nat.mod_mul_mod, Nat.mul_assoc, ← Nat.pow_add]
theorem upw_zero (n : Nat) : upw 0 n = 0 := by
  apply UInt32.toNat_inj.1
  simp [upw]
theorem wO_zero (b : UInt32) : wO 0 b = b := by
  apply UInt32.toNat_inj.1
  simp [wO]

/-- The word at p after k of its bytes. -/
def acc (bs : List UInt8) (p : Nat) : Nat → UInt32
  | 0 => 0
  | k + 1 => wO (upw (acc bs p k) 8) (w8 (bs.getD (p + k) 0))
theorem acc_four (bs : List UInt8) (p : Nat) : acc bs p 4 = wd bs p := by
  simp only [acc, upw_or, upw_upw, upw_zero, wO_zero, Nat.add_zero]
  rfl

/-- The sixteen words after i bytes. -/
def prt (bs : List UInt8) (i : Nat) : List UInt32 := (List.range 16).map fun j => acc bs (4 * j) (min 4 (i - 4 * j))
theorem prt_length (bs : List UInt8) (i : Nat) : (prt bs i).length = 16 := by simp [prt]
theorem prt_get (bs : List UInt8) (i j : Nat) (hj : j < 16) : (prt bs i).getD j 0 = acc bs (4 * j) (min 4 (i - 4 * j)) := by
  simp [prt, List.getD, hj]
theorem prt_set (bs : List UInt8) (i : Nat) (hi : i < 64) : (prt bs i).set (i / 4) (wO (upw ((prt bs i).getD (i / 4) 0) 8) (w8 (bs.getD i 0))) = prt bs (i + 1) := by
  have h16 : i / 4 < 16 := by omega
  rw [prt_get bs i (i / 4) h16]
  apply List.ext_getElem
  · simp [prt]
  intro j h1 h2
  simp only [prt_length] at h2
  rw [List.getElem_set]
  by_cases hj : i / 4 = j
  · subst hj
    rw [if_pos rfl]
    have e1 : min 4 (i - 4 * (i / 4)) = i - 4 * (i / 4) := by omega
    have e2 : min 4 (i + 1 - 4 * (i / 4)) = (i - 4 * (i / 4)) + 1 := by omega
    have e3 : 4 * (i / 4) + (i - 4 * (i / 4)) = i := by omega
    simp only [prt, List.getElem_map, List.getElem_range, e1, e2, acc, e3]
  · rw [if_neg hj]
    simp only [prt, List.getElem_map, List.getElem_range]
    congr 1
    omega
theorem prt_zero (bs : List UInt8) : wcells (prt bs 0) = wcells [] := by
  have : prt bs 0 = List.replicate 16 0 := by
    apply List.ext_getElem
    · simp [prt]
    · intro i h1 h2
      rw [List.getElem_replicate]
      simp [prt, acc]
  rw [this]
  rfl
theorem sch16 (bs : List UInt8) (p : Nat) : ∀ t, t ≤ 16 → sch bs p t = (List.range t).map fun j => wd bs (p + 4 * j)
  | 0, _ => rfl
  | t + 1, h => by
    rw [sch, sch16 bs p t (by omega), List.range_succ, List.map_append]
    simp only [List.map_cons, List.map_nil, nxt, if_pos (show t < 16 by omega)]
theorem prt_all (bs : List UInt8) : prt bs 64 = sch bs 0 16 := by
  rw [sch16 bs 0 16 (Nat.le_refl _)]
  unfold prt
  apply List.map_congr_left
  intro j hj
  have : j < 16 := by simpa using hj
  rw [show min 4 (64 - 4 * j) = 4 by omega, acc_four, Nat.zero_add]
theorem wcells_upd (ws : List UInt32) (i : Nat) (x : UInt32) (h : i < ws.length) : (wcells ws).setIfInBounds i (.int .u32 (x.toNat : Int)) = wcells (ws.set i x) := by
  apply Array.ext'
  unfold wcells
  simp only [List.setIfInBounds_toArray, List.length_set]
  rw [List.set_append_left _ _ (by simpa using h), List.map_set]
theorem wcells_size (ws : List UInt32) (h : ws.length ≤ 64) : (wcells ws).size = 64 := by
  simp [wcells]
  omega
theorem wcells_one (ws : List UInt32) : (wcells ws).all (·.oneCell') = true := by
  rw [Array.all_eq_true_iff_forall_mem]
  intro v hv
  simp only [wcells, List.mem_toArray, List.mem_append, List.mem_map, List.mem_replicate] at hv
  rcases hv with ⟨x, _, rfl⟩ | ⟨_, rfl⟩ <;> rfl
end Go.Proofs.YtieepdhajjibpaaDoor
