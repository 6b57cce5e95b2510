
/- The program's words: a word that goes right, three ways at once; chosen, most. -/
import Derived.Test.YtieepdhajjibpaaDoorShaRef
namespace Go.Proofs.YtieepdhajjibpaaDoor
open Go.RowKit

theorem wO_comm (a b : UInt32) : wO a b = wO b a := by unfold wO; exact UInt32.or_comm a b

theorem neg_wrap (n : Nat) (h0 : 0 < n) (h1 : n < 32) : IntKind.u64.wrap (IntKind.i64.wrap (-(n : Int))) = ((18446744073709551616 - n : Nat) : Int) := by
  rw [IntWalk.i64_in _ (by omega), IntKind.wrap_u64]
  omega
theorem and31 (n : Nat) (h0 : 0 < n) (h1 : n < 32) : bits .and .u64 ((18446744073709551616 - n : Nat) : Int) 31 = ((32 - n : Nat) : Int) := by
  have h := u64_and_nat (18446744073709551616 - n) 31 (by omega) (by omega)
  have e : (18446744073709551616 - n) &&& 31 = 32 - n := by
    rw [show (31 : Nat) = 2 ^ 5 - 1 by rfl, Nat.and_two_pow_sub_one_eq_mod]
    omega
  rw [e] at h
  exact h

theorem turn_any (x : UInt32) (N : Int) (w : World) (h0 : 0 < N) (h1 : N < 32) :
    Calls Tryd.prog 61 #[.int .u32 (x.toNat : Int), .int .i64 (IntKind.i64.wrap (-N))] w fun e w' => e = .returned (.int .u32 ((rot x N.toNat).toNat : Int)) ∧ w = w' := by
  obtain ⟨n, rfl⟩ := Int.eq_ofNat_of_zero_le (show 0 ≤ N by omega)
  have e1 := neg_wrap n (by omega) (by omega)
  have e2 := and31 n (by omega) (by omega)
  obtain ⟨K, hK⟩ : ∃ K, K = IntKind.i64.wrap (-(n : Int)) := ⟨_, rfl⟩
  rw [← hK] at e1 ⊢
  clear hK
  obtain ⟨M, hM⟩ : ∃ M : Nat, M = 18446744073709551616 - n := ⟨_, rfl⟩
  rw [← hM] at e1 e2
  clear hM
  obtain ⟨m, hm⟩ : ∃ m, m = 32 - n := ⟨_, rfl⟩
  rw [← hm] at e2
  have hn : n = 32 - m := by omega
  have hr : bits .or .u32 (IntKind.u32.wrap ((x.toNat : Int) * 2 ^ m)) ((x.toNat : Int) / 2 ^ n) = ((rot x n).toNat : Int) := by
    rw [up_nat, ← down_nat, w_or, wO_comm, hm]
    rfl
  have hs : IntKind.u64.wrap (32 - (m : Int)) = (n : Int) := by
    rw [IntKind.wrap_u64]
    omega
  have hm32 : (m : Int) < 32 := by omega
  have hm32' : m < 32 := by omega
  have hn32 : n < 32 := by omega
  rw [Int.toNat_natCast]
  clear hm hn h0 h1
  go_enter Tryd.func61, Tryd.ntmps61
  go_wp2
  go_ret
  rw [IntKind.wrap_u32'] at hr
  exact ⟨congrArg (fun z => Ending.returned (.int .u32 z)) hr, rfl⟩

theorem goes_any (x : UInt32) (N : Int) (w : World) (h0 : 0 < N) (h1 : N < 32) :
    Calls Tryd.prog 60 #[.int .u32 (x.toNat : Int), .int .i64 N] w fun e w' => e = .returned (.int .u32 ((rot x N.toNat).toNat : Int)) ∧ w = w' := by
  have ht := fun W => turn_any x N W h0 h1
  obtain ⟨K, hK⟩ : ∃ K, K = IntKind.i64.wrap (-N) := ⟨_, rfl⟩
  rw [← hK] at ht
  obtain ⟨r, hr⟩ : ∃ r, r = ((rot x N.toNat).toNat : Int) := ⟨_, rfl⟩
  rw [← hr] at ht ⊢
  have hK' := hK.symm
  clear hr hK
  go_enter Tryd.func60, Tryd.ntmps60
  go_wp2_with (go_at_call 61; refine (ht _).mono ?_; rintro e' w' ⟨rfl, rfl⟩)
  go_ret
  exact ⟨rfl, rfl⟩

attribute [local go_sem high] w_xor w_or w_and w_not
theorem turned_any (x : UInt32) (I J K : Int) (w : World) (i0 : 0 < I) (i1 : I < 32) (j0 : 0 < J) (j1 : J < 32) (k0 : 0 < K) (k1 : K < 32) :
    Calls Tryd.prog 57 #[.int .u32 (x.toNat : Int), .int .i64 I, .int .i64 J, .int .i64 K] w fun e w' =>
      e = .returned (.int .u32 ((wX (wX (rot x I.toNat) (rot x J.toNat)) (rot x K.toNat)).toNat : Int)) ∧ w = w' := by
  go_enter Tryd.func57, Tryd.ntmps57
  go_wp2_with (go_at_call 60; refine (goes_any _ _ _ (by assumption) (by assumption)).mono ?_; rintro e' w' ⟨rfl, rfl⟩)
  go_ret
  exact ⟨rfl, rfl⟩
theorem chosen_any (x y z : UInt32) (w : World) :
    Calls Tryd.prog 58 #[.int .u32 (x.toNat : Int), .int .u32 (y.toNat : Int), .int .u32 (z.toNat : Int)] w fun e w' =>
      e = .returned (.int .u32 ((wX (wN x y) (wN (wC x) z)).toNat : Int)) ∧ w = w' := by
  go_enter Tryd.func58, Tryd.ntmps58
  go_wp2
  go_ret
  exact ⟨rfl, rfl⟩
theorem most_any (x y z : UInt32) (w : World) :
    Calls Tryd.prog 59 #[.int .u32 (x.toNat : Int), .int .u32 (y.toNat : Int), .int .u32 (z.toNat : Int)] w fun e w' =>
      e = .returned (.int .u32 ((wX (wX (wN x y) (wN x z)) (wN y z)).toNat : Int)) ∧ w = w' := by
  go_enter Tryd.func59, Tryd.ntmps59
  go_wp2
  go_ret
  exact ⟨rfl, rfl⟩
end Go.Proofs.YtieepdhajjibpaaDoor
