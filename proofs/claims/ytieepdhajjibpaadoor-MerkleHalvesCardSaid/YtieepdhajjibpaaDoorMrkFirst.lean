
/- The contracts of firstOf and of bytes.Equal. -/
import Derived.Test.YtieepdhajjibpaaDoorMrkSame
import Derived.Lib.Tables
import Derived.Lib.Hide
import Derived.Laws.BitsAllLaws
import Derived.WalkLawsBesides
namespace Go.Proofs.YtieepdhajjibpaaDoor
open Go.RowKit

/-- How many bits a number takes. -/
def len8 (x : Nat) : Nat := if x = 0 then 0 else x.log2 + 1
theorem len_tab : ∀ x : Fin 256, Lib.len8 (x.val : Int) = (len8 x.val : Nat) := by decide +kernel
theorem len8_le {x : Nat} (h : x < 256) : len8 x ≤ 8 := by
  unfold len8
  split
  · omega
  · have := (Nat.log2_lt (n := x) (k := 8) (by omega)).2 h
    omega
theorem log2_div (x : Nat) (h : 256 ≤ x) : (x / 256).log2 + 8 = x.log2 := by
  have h0 : x ≠ 0 := by omega
  have h1 : x / 256 ≠ 0 := by
    have : 1 ≤ x / 256 := (Nat.le_div_iff_mul_le (by omega)).2 (by omega)
    omega
  symm
  rw [Nat.log2_eq_iff h0]
  have a1 : 2 ^ (x / 256).log2 ≤ x / 256 := Nat.log2_self_le h1
  have a2 : x / 256 < 2 ^ ((x / 256).log2 + 1) := Nat.lt_log2_self
  rw [show (x / 256).log2 + 8 + 1 = ((x / 256).log2 + 1) + 8 by omega, Nat.pow_add 2 (x / 256).log2 8, Nat.pow_add 2 ((x / 256).log2 + 1) 8]
  generalize 2 ^ (x / 256).log2 = A at *
  generalize 2 ^ ((x / 256).log2 + 1) = B at *
  omega
set_option maxRecDepth 100000 in
theorem len64_any (x : Nat) (w : World) (h1 : 0 < x) (h2 : x < 65536) : Calls Tryd.prog 55 #[.int .u64 (x : Int)] w fun e w' => e = .returned (.int .i64 (x.log2 + 1 : Nat)) ∧ w = w' := by
  have h32 : decide (4294967296 ≤ (x : Int)) = false := by simp; omega
  have h16 : decide (65536 ≤ (x : Int)) = false := by simp; omega
  by_cases h8 : x < 256
  · have h8' : decide (256 ≤ (x : Int)) = false := by simp; omega
    have hx5 : (x : Int) ≤ 255 := by omega
    have hx0 : 0 ≤ (x : Int) := by omega
    have H := Lib.hid (len_tab ⟨x, h8⟩)
    have hl : len8 x = x.log2 + 1 := by unfold len8; rw [if_neg (by omega)]
    have hb := len8_le h8
    rw [hl] at hb
    have HL := Lib.hid hl
    clear hl
    go_enter Tryd.func55, Tryd.ntmps55
    go_wp2
    go_ret
    refine ⟨?_, rfl⟩
    show Ending.returned (.int .i64 (wrap64 (wrap64 (Lib.len8 ((x : Nat) : Int))))) = _
    rw [H.out]
    show Ending.returned (.int .i64 (wrap64 (wrap64 (len8 x : Nat)))) = _
    congr 2
    have := HL.out
    unfold wrap64
    omega
  · have h8' : (256 : Int) ≤ (x : Int) := by omega
    have hx5 : (x : Int) / 256 ≤ 255 := by omega
    have hx0 : 0 ≤ (x : Int) / 256 := by omega
    have hd : x / 256 < 256 := by omega
    have H := Lib.hid (len_tab ⟨x / 256, hd⟩)
    have hp : 0 < x / 256 := by omega
    have hl : len8 (x / 256) + 8 = x.log2 + 1 := by unfold len8; rw [if_neg (by omega), ← log2_div x (by omega)]
    have hb := len8_le hd
    have HL := Lib.hid hl
    clear hl
    go_enter Tryd.func55, Tryd.ntmps55
    go_wp2
    go_ret
    refine ⟨?_, rfl⟩
    show Ending.returned (.int .i64 (wrap64 (8 + wrap64 (Lib.len8 ((x / 256 : Nat) : Int))))) = _
    rw [H.out]
    show Ending.returned (.int .i64 (wrap64 (8 + wrap64 (len8 (x / 256) : Nat)))) = _
    congr 2
    have := HL.out
    unfold wrap64
    omega
theorem len_any (x : Nat) (w : World) (h1 : 0 < x) (h2 : x < 65536) : Calls Tryd.prog 50 #[.int .u64 (x : Int)] w fun e w' => e = .returned (.int .i64 (x.log2 + 1 : Nat)) ∧ w = w' := by
  go_enter Tryd.func50, Tryd.ntmps50
  go_wp2_with (go_at_call 55; refine (len64_any _ _ h1 h2).mono ?_; rintro e w' ⟨rfl, rfl⟩)
  go_ret
  exact ⟨rfl, rfl⟩

set_option maxRecDepth 20000 in
theorem firstOf_any (n : Nat) (w : World) (h2 : 2 ≤ n) (hb : n ≤ 1000) :
    Calls Tryd.prog 40 #[.int .i64 (n : Int)] w fun e w' => e = .returned (.int .i64 (half n : Nat)) ∧ w = w' := by
  have hx : IntKind.u64.wrap ((n : Int) - 1) = ((n - 1 : Nat) : Int) := by rw [IntKind.wrap_u64]; omega
  have HL := Lib.hid (len_any (n - 1) w (by omega) (by omega))
  have hlg : (n - 1).log2 < 10 := (Nat.log2_lt (by omega)).2 (by omega)
  obtain ⟨q, hq⟩ : ∃ q, q = (n - 1).log2 := ⟨_, rfl⟩
  have hh : half n = 2 ^ q := by rw [hq]; rfl
  rw [← hq] at HL hlg
  rw [hh]
  have HQ := Lib.hid hq
  clear hq hh
  go_enter Tryd.func40, Tryd.ntmps40
  go_wp2_with (go_at_call 50; refine HL.out.mono ?_; rintro e w' ⟨rfl, rfl⟩)
  go_ret
  refine ⟨?_, rfl⟩
  have h9 : 2 ^ q ≤ 2 ^ 9 := Nat.pow_le_pow_right (by omega) (by omega)
  have e : wrap64 ((2 : Int) ^ q) = ((2 ^ q : Nat) : Int) := by
    rw [show ((2 : Int) ^ q) = ((2 ^ q : Nat) : Int) by simp]
    generalize 2 ^ q = z at h9
    unfold wrap64
    omega
  show Ending.returned (.int .i64 (wrap64 ((2 : Int) ^ q))) = _
  rw [e]
theorem bytesEqual_any {own own' : Bool} {w : World} {lo hi lo' hi' : Nat} {A B : Option Addr} {m n c c' : Nat} {xs ys : List UInt8} (hd : Dat own w lo hi A xs) (hd' : Dat own' w lo' hi' B ys) (hm : xs.length = m) (hn : ys.length = n) :
    Calls Tryd.prog 41 #[.slice A m c, .slice B n c'] w fun e w' => e = .returned (.bool (decide (xs = ys))) ∧ w = w' := by
  have h1 := run_str (P := Tryd.prog) w 23 Tryd.underlying23 Tryd.underlying5 (c := c) hd hm 9 Tryd.underlying9
  have h2 := run_str (P := Tryd.prog) w 23 Tryd.underlying23 Tryd.underlying5 (c := c') hd' hn 9 Tryd.underlying9
  have he : ((str xs).toList == (str ys).toList) = decide (xs = ys) := by
    rw [Bool.eq_iff_iff, decide_eq_true_iff, ByteArray.toList_eq, ByteArray.toList_eq, beq_iff_eq]
    rfl
  have HE := Lib.hid he
  clear hd hd' he
  go_enter Tryd.func41, Tryd.ntmps41
  go_wp2_with fail
  go_ret
  exact ⟨by rw [← HE.out]; rfl, rfl⟩
end Go.Proofs.YtieepdhajjibpaaDoor
