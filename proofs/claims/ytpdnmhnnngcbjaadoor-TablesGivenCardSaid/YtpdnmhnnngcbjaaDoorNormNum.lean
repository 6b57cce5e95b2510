
/- The contracts of the program's small functions on numbers: isLog, weight, width. -/
import Derived.Test.YtpdnmhnnngcbjaaDoorNormPlain
import Derived.Test.YtpdnmhnnngcbjaaDoorBitFwd
import Derived.Lib.Tables
namespace Go.Proofs.YtpdnmhnnngcbjaaDoor
open Go.RowKit

theorem isLog_yes (x : Int) (w : World) (h1 : 5 ≤ x) (h2 : x ≤ 15) : Calls Tryd.prog 57 #[.int .i64 x] w fun e w' => e = .returned (.bool true) ∧ w = w' := by
  go_enter Tryd.func57, Tryd.ntmps57
  go_wp2
  go_ret
  exact ⟨rfl, rfl⟩
theorem isLog_no (x : Int) (w : World) (h : x < 5 ∨ 15 < x) : Calls Tryd.prog 57 #[.int .i64 x] w fun e w' => e = .returned (.bool false) ∧ w = w' := by
  rcases h with h | h
  · have h' : decide (5 ≤ x) = false := by simp; omega
    go_enter Tryd.func57, Tryd.ntmps57
    go_wp2
    go_ret
    exact ⟨rfl, rfl⟩
  · have h1 : 5 ≤ x := by omega
    have h' : decide (x ≤ 15) = false := by simp; omega
    go_enter Tryd.func57, Tryd.ntmps57
    go_wp2
    go_ret
    exact ⟨rfl, rfl⟩
theorem weight_any (p : Int) (w : World) : Calls Tryd.prog 64 #[.int .i64 p] w fun e w' => e = .returned (.int .i64 (wi p)) ∧ w = w' := by
  by_cases h : p = -1
  · subst h
    go_enter Tryd.func64, Tryd.ntmps64
    go_wp2
    go_ret
    exact ⟨rfl, rfl⟩
  · have h' : (p == -1) = false := by simp [h]
    rw [show wi p = p by simp [wi, h]]
    go_enter Tryd.func64, Tryd.ntmps64
    go_wp2
    go_ret
    exact ⟨rfl, rfl⟩

theorem len_tab : ∀ x : Fin 256, Lib.len8 (x.val : Int) = (len8 x.val : Nat) := by decide +kernel
theorem len8_le {x : Nat} (h : x < 256) : len8 x ≤ 8 := by
  unfold len8
  split
  · omega
  · have := (Nat.log2_lt (n := x) (k := 8) (by omega)).2 h
    omega
theorem log2_div (x : Nat) (h : 256 ≤ x) : (x / 256).log2 + 8 = x.log2 := by
  have h0 : x ≠ 0 := by omega
  have h1 : x / 256 ≠ 0 := by
    have : 1 ≤ x / 256 := (Nat.le_div_iff_mul_le (by omega)).2 (by omega)
    omega
  symm
  rw [Nat.log2_eq_iff h0]
  have a1 : 2 ^ (x / 256).log2 ≤ x / 256 := Nat.log2_self_le h1
  have a2 : x / 256 < 2 ^ ((x / 256).log2 + 1) := Nat.lt_log2_self
  rw [show (x / 256).log2 + 8 + 1 = ((x / 256).log2 + 1) + 8 by omega, Nat.pow_add 2 (x / 256).log2 8, Nat.pow_add 2 ((x / 256).log2 + 1) 8]
  generalize 2 ^ (x / 256).log2 = A at *
  generalize 2 ^ ((x / 256).log2 + 1) = B at *
  omega
set_option maxRecDepth 100000 in
theorem len64_any (x : Nat) (w : World) (h1 : 0 < x) (h2 : x < 65536) : Calls Tryd.prog 87 #[.int .u64 (x : Int)] w fun e w' => e = .returned (.int .i64 (x.log2 + 1 : Nat)) ∧ w = w' := by
  have h32 : decide (4294967296 ≤ (x : Int)) = false := by simp; omega
  have h16 : decide (65536 ≤ (x : Int)) = false := by simp; omega
  by_cases h8 : x < 256
  · have h8' : decide (256 ≤ (x : Int)) = false := by simp; omega
    have hx5 : (x : Int) ≤ 255 := by omega
    have hx0 : 0 ≤ (x : Int) := by omega
    have H := Lib.hid (len_tab ⟨x, h8⟩)
    have hl : len8 x = x.log2 + 1 := by unfold len8; rw [if_neg (by omega)]
    have hb := len8_le h8
    rw [hl] at hb
    have HL := Lib.hid hl
    clear hl
    go_enter Tryd.func87, Tryd.ntmps87
    go_wp2
    go_ret
    refine ⟨?_, rfl⟩
    show Ending.returned (.int .i64 (wrap64 (wrap64 (Lib.len8 ((x : Nat) : Int))))) = _
    rw [H.out]
    show Ending.returned (.int .i64 (wrap64 (wrap64 (len8 x : Nat)))) = _
    congr 2
    have := HL.out
    unfold wrap64
    omega
  · have h8' : (256 : Int) ≤ (x : Int) := by omega
    have hx5 : (x : Int) / 256 ≤ 255 := by omega
    have hx0 : 0 ≤ (x : Int) / 256 := by omega
    have hd : x / 256 < 256 := by omega
    have H := Lib.hid (len_tab ⟨x / 256, hd⟩)
    have hp : 0 < x / 256 := by omega
    have hl : len8 (x / 256) + 8 = x.log2 + 1 := by unfold len8; rw [if_neg (by omega), ← log2_div x (by omega)]
    have hb := len8_le hd
    have HL := Lib.hid hl
    clear hl
    go_enter Tryd.func87, Tryd.ntmps87
    go_wp2
    go_ret
    refine ⟨?_, rfl⟩
    show Ending.returned (.int .i64 (wrap64 (8 + wrap64 (Lib.len8 ((x / 256 : Nat) : Int))))) = _
    rw [H.out]
    show Ending.returned (.int .i64 (wrap64 (8 + wrap64 (len8 (x / 256) : Nat)))) = _
    congr 2
    have := HL.out
    unfold wrap64
    omega
theorem len_any (x : Nat) (w : World) (h1 : 0 < x) (h2 : x < 65536) : Calls Tryd.prog 81 #[.int .u64 (x : Int)] w fun e w' => e = .returned (.int .i64 (x.log2 + 1 : Nat)) ∧ w = w' := by
  go_enter Tryd.func81, Tryd.ntmps81
  go_wp2_with (go_at_call 87; refine (len64_any _ _ h1 h2).mono ?_; rintro e w' ⟨rfl, rfl⟩)
  go_ret
  exact ⟨rfl, rfl⟩
set_option maxRecDepth 100000 in
theorem width_any (left : Nat) (w : World) (h1 : 0 < left) (h2 : left ≤ 32768) :
    Calls Tryd.prog 79 #[.int .i64 (left : Int)] w fun e w' => e = .returned (.tuple #[.int .i64 (ln left + 1 : Nat), .int .i64 (fr left : Nat)]) ∧ ∃ n, w' = w.drewN n := by
  have hln : ln left < 16 := ln_lt (by omega)
  have ha := hf_le left
  have hb := lt_hf left
  have HC := Lib.hid (len_any (left + 1) w (by omega) (by omega))
  have hpow : (2 : Int) ^ (ln left + 1) = 2 * (hf left : Nat) := by
    unfold hf
    rw [Int.pow_succ]
    simp
    omega
  go_enter Tryd.func79, Tryd.ntmps79
  go_wp2_with fail
  rw [show (left : Int) + 1 = ((left + 1 : Nat) : Int) by omega]
  refine HC.out.mono ?_
  rintro e w' ⟨rfl, rfl⟩
  rw [show (left + 1).log2 + 1 = ln left + 1 from rfl]
  go_wp2_with fail
  go_quiet (fail)
  go_wp2
  go_ret2
  refine ⟨?_, _, rfl⟩
  have e : (2 * (hf left : Int) - 2 - left) = (fr left : Nat) := by unfold fr; omega
  show Ending.returned (.tuple #[.int .i64 ((ln left : Int) + 1), .int .i64 (2 * (hf left : Int) - 2 - left)]) = _
  rw [e]
  rfl
end Go.Proofs.YtpdnmhnnngcbjaaDoor
