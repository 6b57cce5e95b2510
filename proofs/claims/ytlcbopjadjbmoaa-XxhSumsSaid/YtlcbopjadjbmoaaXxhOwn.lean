/- The program's words: turned, round, spread, number. -/
import Derived.Test.YtlcbopjadjbmoaaXxhPlain
import Derived.Test.YtlcbopjadjbmoaaRows
import Derived.WalkKit
import Derived.WalkSpells
import Derived.WalkLawsBesides
import Derived.Lib.Hide
import Derived.Deep.QuietTactic
import Derived.BigQuiet
import Derived.Outline
namespace Go.Proofs.Ytlcbopjadjbmoaa
open Go.RowKit

theorem rotate_any (x : UInt64) (N : Int) (w : World) (h0 : 0 < N) (h1 : N < 64) :
    Calls Try.prog 25 #[.int .u64 (x.toNat : Int), .int .i64 N] w fun e w' => e = .returned (.int .u64 ((rotl x N.toNat).toNat : Int)) ∧ w = w' := by
  obtain ⟨n, rfl⟩ := Int.eq_ofNat_of_zero_le (show 0 ≤ N by omega)
  have hr := rotl_nat x n
  have e2 := and63 n (by omega)
  have e1 : IntKind.u64.wrap (n : Int) = (n : Int) := by rw [IntKind.wrap_u64]; omega
  obtain ⟨m, hm⟩ : ∃ m, m = 64 - n := ⟨_, rfl⟩
  have hs : IntKind.u64.wrap (64 - (n : Int)) = (m : Int) := by
    rw [IntKind.wrap_u64]
    omega
  rw [← hm] at hr
  have hm64 : (m : Int) < 64 := by omega
  have hm64' : m < 64 := by omega
  have hn64 : n < 64 := by omega
  rw [Int.toNat_natCast]
  have HR := Lib.hid hr
  clear hm hr
  go_enter Try.func25, Try.ntmps25
  go_wp2
  go_ret
  exact ⟨congrArg (fun z => Ending.returned (.int .u64 z)) HR.out, rfl⟩

theorem turned_any (x : UInt64) (N : Int) (w : World) (h0 : 0 < N) (h1 : N < 64) :
    Calls Try.prog 23 #[.int .u64 (x.toNat : Int), .int .i64 N] w fun e w' => e = .returned (.int .u64 ((rotl x N.toNat).toNat : Int)) ∧ w = w' := by
  obtain ⟨r, hr⟩ : ∃ r, r = ((rotl x N.toNat).toNat : Int) := ⟨_, rfl⟩
  have ht := Lib.hid (fun W => rotate_any x N W h0 h1)
  rw [← hr] at ht ⊢
  clear hr
  go_enter Try.func23, Try.ntmps23
  go_wp2_with (go_at_call 25; refine (ht.out _).mono ?_; rintro e' w' ⟨rfl, rfl⟩)
  go_ret
  exact ⟨rfl, rfl⟩

attribute [local go_sem high] q_xor q_or q_add q_mul q_mul1 q_mul2 q_mul3 q_mul5 q_add3 q_add4

theorem round_any (v x : UInt64) (w : World) :
    Calls Try.prog 21 #[.int .u64 (v.toNat : Int), .int .u64 (x.toNat : Int)] w fun e w' => e = .returned (.int .u64 ((rnd v x).toNat : Int)) ∧ w = w' := by
  go_enter Try.func21, Try.ntmps21
  go_wp2_with (go_at_call 23; refine (turned_any _ _ _ (by decide) (by decide)).mono ?_; rintro e' w' ⟨rfl, rfl⟩)
  go_ret
  exact ⟨rfl, rfl⟩

theorem q_shr33 (x : UInt64) : (x.toNat : Int) / 8589934592 = ((shr x 33).toNat : Int) := by rw [shr_nat]; rfl
theorem q_shr29 (x : UInt64) : (x.toNat : Int) / 536870912 = ((shr x 29).toNat : Int) := by rw [shr_nat]; rfl
theorem q_shr32 (x : UInt64) : (x.toNat : Int) / 4294967296 = ((shr x 32).toNat : Int) := by rw [shr_nat]; rfl
attribute [local go_sem high] q_shr33 q_shr29 q_shr32

theorem spread_any (x : UInt64) (w : World) :
    Calls Try.prog 16 #[.int .u64 (x.toNat : Int)] w fun e w' => e = .returned (.int .u64 ((fins x).toNat : Int)) ∧ w = w' := by
  go_enter Try.func16, Try.ntmps16
  go_wp2_with fail
  go_ret
  exact ⟨rfl, rfl⟩

theorem number_any {own : Bool} {w : World} {lo hi : Nat} {A : Option Addr} {m c : Nat} {xs : List UInt8} (hd : Dat own w lo hi A xs) (hm : xs.length = m) (h8 : m ≤ 8) :
    Calls Try.prog 22 #[.slice A m c] w fun e w' => e = .returned (.int .u64 ((qn xs).toNat : Int)) ∧ w = w' := by
  have Hd := Lib.hid hd
  have HM := Lib.hid hm
  have HQ := Lib.hid (qn_nat xs (by omega))
  rw [← HQ.out]
  clear hd hm HQ
  go_enter Try.func22, Try.ntmps22
  go_wp2_with fail
  go_loop [3, 8] (fun x i => ∃ k : Nat, k ≤ m ∧ i = .int .i64 k ∧ x = .int .u64 (le (xs.take k) : Nat)) (fun _ i => m - (intOf i).toNat)
  case atStart => exact ⟨0, Nat.zero_le _, rfl, rfl⟩
  case round =>
    obtain ⟨k, hk, rfl, rfl⟩ := hrel
    by_cases hlt : k < m
    · obtain ⟨d, o, rfl, _, _, hc, _⟩ := Hd.out (by have := HM.out; omega)
      have hck := hc k (by have := HM.out; omega)
      have hb := (xs.getD k 0).toNat_lt
      have hX := le_lt (xs.take k)
      unfold cel at hck
      have HX := Lib.hid hX
      obtain ⟨y, hy⟩ : ∃ y, y = xs.getD k 0 := ⟨_, rfl⟩
      rw [← hy] at hck hb
      have HY := Lib.hid hy
      clear hc Hd hX hy
      go_wp2_with fail
      go_round
      case rel =>
        have hlx : k < xs.length := by have := HM.out; omega
        have hlen : (xs.take k).length = k := by simp; omega
        have hX := HX.out
        refine ⟨k + 1, by omega, by go_num, ?_⟩
        rw [hlen] at hX
        have hy : y = xs[k] := by rw [HY.out]; simp [List.getD, hlx]
        rw [List.take_succ_eq_append_getElem hlx, le_snoc, hlen, ← hy]
        have hs := or_step _ _ k hX (y.toNat_lt) (by omega)
        have hw : IntKind.u64.wrap (y.toNat : Int) = (y.toNat : Int) := by rw [IntKind.wrap_u64]; omega
        rw [hw] at hs
        rw [hs]
      case measure => simp [intOf]; omega
    · go_wp2_with fail
      go_ret
      exact ⟨by rw [List.take_of_length_le (by have := HM.out; omega)]; rfl, rfl⟩
end Go.Proofs.Ytlcbopjadjbmoaa
