
/- The contracts of the program's small functions: how many bits a number has, what weights are worth, is it a power of 2. -/
import Derived.Test.YtafdfjacfodbnaaWtMax
import Derived.Test.YtafdfjacfodbnaaWtPlain
namespace Go.Proofs.Ytafdfjacfodbnaa
open Go.RowKit

theorem len8_of {x : Nat} (h : 0 < x) : len8 x = x.log2 + 1 := by unfold len8; rw [if_neg (by omega)]
set_option maxRecDepth 100000 in
theorem lenW64_any (x : Nat) (w : World) (h2 : x < 16777216) : Calls Try.prog 39 #[.int .u64 (x : Int)] w fun e w' => e = .returned (.int .i64 (len8 x : Nat)) ∧ w = w' := by
  by_cases h0 : x < 65536
  · by_cases h1 : 0 < x
    · rw [len8_of h1]
      exact len64_any x w h1 h0
    · obtain rfl : x = 0 := by omega
      have H := Lib.hid (len_tab ⟨0, by omega⟩)
      go_enter Try.func39, Try.ntmps39
      go_wp2
      go_ret
      refine ⟨?_, rfl⟩
      show Ending.returned (.int .i64 (wrap64 (wrap64 (Lib.len8 ((0 : Nat) : Int))))) = _
      rw [H.out]
      have hb := len8_le (x := 0) (by omega)
      congr 2
      unfold wrap64
      omega
  · have h32 : decide (4294967296 ≤ (x : Int)) = false := by simp; omega
    have h16 : (65536 : Int) ≤ (x : Int) := by omega
    have h8' : decide (256 ≤ (x : Int) / 65536) = false := by simp; omega
    have hx5 : (x : Int) / 65536 ≤ 255 := by omega
    have hx0 : 0 ≤ (x : Int) / 65536 := by omega
    have hd : x / 65536 < 256 := by omega
    have H := Lib.hid (len_tab ⟨x / 65536, hd⟩)
    have hl : len8 (x / 65536) + 16 = len8 x := by
      have e1 := log2_div x (by omega)
      have e2 := log2_div (x / 256) (by omega)
      rw [Nat.div_div_eq_div_mul, show 256 * 256 = 65536 by decide] at e2
      rw [len8_of (by omega), len8_of (by omega)]
      omega
    have hb := len8_le hd
    have HL := Lib.hid hl
    clear hl
    go_enter Try.func39, Try.ntmps39
    go_wp2
    go_ret
    refine ⟨?_, rfl⟩
    show Ending.returned (.int .i64 (wrap64 (16 + wrap64 (Lib.len8 ((x / 65536 : Nat) : Int))))) = _
    rw [H.out]
    show Ending.returned (.int .i64 (wrap64 (16 + wrap64 (len8 (x / 65536) : Nat)))) = _
    congr 2
    have := HL.out
    unfold wrap64
    omega
theorem lenW_any (x : Nat) (w : World) (h2 : x < 16777216) : Calls Try.prog 23 #[.int .u64 (x : Int)] w fun e w' => e = .returned (.int .i64 (len8 x : Nat)) ∧ w = w' := by
  go_enter Try.func23, Try.ntmps23
  go_wp2_with (go_at_call 39; refine (lenW64_any _ _ h2).mono ?_; rintro e w' ⟨rfl, rfl⟩)
  go_ret
  exact ⟨rfl, rfl⟩

/-- Is it a power of 2? -/
theorem and_pred (x : Nat) (h : 0 < x) : (x &&& (x - 1) = 0) ↔ ∃ d, x = 2 ^ d := by
  constructor
  · intro ha
    refine ⟨x.log2, ?_⟩
    have h1 := Nat.log2_self_le (n := x) (by omega)
    have h2 : x < 2 ^ (x.log2 + 1) := Nat.lt_log2_self
    rcases Nat.lt_or_ge (2 ^ x.log2) x with q | q
    · exfalso
      have b1 : x / 2 ^ x.log2 = 1 := by
        apply Nat.div_eq_of_lt_le
        · omega
        · rw [Nat.pow_succ] at h2; omega
      have b2 : (x - 1) / 2 ^ x.log2 = 1 := by
        apply Nat.div_eq_of_lt_le
        · omega
        · rw [Nat.pow_succ] at h2; omega
      have t : (x &&& (x - 1)).testBit x.log2 = true := by
        rw [Nat.testBit_and, Nat.testBit_eq_decide_div_mod_eq, Nat.testBit_eq_decide_div_mod_eq, b1, b2]
        rfl
      rw [ha] at t
      simp at t
    · omega
  · rintro ⟨d, rfl⟩
    apply Nat.eq_of_testBit_eq
    intro i
    rw [Nat.testBit_and, Nat.testBit_two_pow, Nat.zero_testBit, Nat.testBit_two_pow_sub_one]
    by_cases hi : d = i
    · subst hi; simp
    · simp [hi]
theorem isPower_any (x : Nat) (w : World) (h : 0 < x) (h2 : x < 16777216) : Calls Try.prog 24 #[.int .u64 (x : Int)] w fun e w' => ∃ b : Bool, e = .returned (.bool b) ∧ (b = true ↔ ∃ d, x = 2 ^ d) ∧ w' = w := by
  have e1 : (x : Int) - 1 = ((x - 1 : Nat) : Int) := by omega
  have e2 := u64_and_nat x (x - 1) (by omega) (by omega)
  have HP := Lib.hid (and_pred x h)
  go_enter Try.func24, Try.ntmps24
  go_wp2_with fail
  go_ret
  refine ⟨_, rfl, ?_, rfl⟩
  rw [← HP.out]
  simp only [beq_iff_eq]
  omega
/-- What a weight is worth, as it is reckoned. -/
theorem wor_shift (x : Nat) (h : x ≤ 11) : IntKind.u64.wrap ((2 : Int) ^ x) / 2 = (wor x : Nat) := by
  have e : (2 : Int) ^ x = ((2 ^ x : Nat) : Int) := by simp
  have hp : 2 ^ x ≤ 2 ^ 11 := Nat.pow_le_pow_right (by omega) h
  rw [e]
  by_cases h0 : x = 0
  · subst h0
    rw [IntKind.wrap_u64, wor_zero]
    decide
  · obtain ⟨y, rfl⟩ : ∃ y, x = y + 1 := ⟨x - 1, by omega⟩
    rw [wor_succ]
    rw [Nat.pow_succ] at hp ⊢
    generalize 2 ^ y = P at *
    rw [IntKind.wrap_u64]
    omega

section
variable {w : World}
set_option maxRecDepth 100000 in
theorem worth_any {lo hi n c : Nat} {A : Option Addr} {l : List Nat} (hd : DatE u8cel w lo hi A l) (hn : l.length = n) (hm : n ≤ 1000) (hb : ∀ x ∈ l, x ≤ 11) :
    Calls Try.prog 22 #[.slice A n c] w fun e w' => e = .returned (.int .u64 (totW l : Nat)) ∧ w' = w := by
  have HD := Lib.hid (And.intro hd (And.intro hn hb))
  clear hd hn hb
  go_enter Try.func22, Try.ntmps22
  go_wp2_with fail
  go_loopg [3, 8] n (fun g1 vs vi wx => ∃ k : Nat, vi = .int .i64 (k : Int) ∧ k + g1 = n ∧ vs = .int .u64 (totW (l.take k) : Nat) ∧ wx = w)
  case atStart => exact ⟨0, rfl, by omega, rfl, rfl⟩
  case round =>
    obtain ⟨k, rfl, hk, rfl, rfl⟩ := hrel
    by_cases hlt : k < n
    · have hltz : (k : Int) < (n : Int) := by omega
      have hkl : k < l.length := by rw [HD.out.2.1]; exact hlt
      obtain ⟨d, o, rfl, -, -, hc⟩ := HD.out.1 (by omega)
      have hck := hc k hkl
      unfold u8cel at hck
      have hx := HD.out.2.2 l[k] (List.getElem_mem hkl)
      have HT := Lib.hid (totW_take l k hkl)
      have ht := totW_le (l.take k) fun x hx => HD.out.2.2 x (List.mem_of_mem_take hx)
      have htl : (l.take k).length ≤ 1000 := by simp; omega
      have ht2 : totW (l.take k) ≤ 1024000 := by omega
      clear hc ht htl
      generalize totW (l.take k) = S at *
      generalize l[k] = x at *
      have hw := wor_le x hx
      have HW := Lib.hid (wor_shift x hx)
      go_wp2_with fail
      go_roundg (n - (k + 1))
      case measure => omega
      case rel => exact ⟨k + 1, by go_num, by omega, by rw [HW.out, HT.out, IntKind.wrap_u64]; congr 1; omega, rfl⟩
    · obtain rfl : k = n := by omega
      have hltz : ¬ (k : Int) < (k : Int) := by omega
      have ht : l.take k = l := List.take_of_length_le (by rw [HD.out.2.1]; omega)
      rw [ht]
      go_wp2_with fail
      go_ret
      exact ⟨rfl, rfl⟩
end
end Go.Proofs.Ytafdfjacfodbnaa
