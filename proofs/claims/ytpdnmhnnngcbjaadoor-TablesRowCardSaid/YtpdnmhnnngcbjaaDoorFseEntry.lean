
/- The contract of the program's entry. -/
import Derived.Test.YtpdnmhnnngcbjaaDoorFseSmall
import Derived.RegionTactic
import Derived.ChangeAlike
namespace Go.Proofs.YtpdnmhnnngcbjaaDoor
open Go.RowKit

set_option maxRecDepth 100000 in
set_option maxHeartbeats 1000000 in
theorem entry_any (s k l : Nat) (w : World) (hl : l ≤ 15) (h1 : 1 ≤ k) (h2 : k < 2 * 2 ^ l) :
    Calls Tryd.prog 71 #[.int .u8 (s : Int), .int .i64 (k : Int), .int .i64 (l : Int)] w fun r w' =>
      r = .returned (.agg #[.int .u8 (entN l s k).s, .int .i64 (entN l s k).b, .int .i64 (entN l s k).e]) ∧ Below w.heap.size w w' := by
  obtain ⟨b1, b2, b3⟩ := log_bd h1 h2
  have hp : 2 ^ l ≤ 2 ^ 15 := Nat.pow_le_pow_right (by omega) hl
  have HC := Lib.hid (len_any k (w.alloc (.cells #[.int .u8 0, .int .i64 0, .int .i64 0] 41)) (by omega) (by omega))
  have hk : k < 65536 := by omega
  unfold entN
  generalize k.log2 = g at *
  obtain ⟨b, rfl⟩ : ∃ b, l = b + g := ⟨l - g, by omega⟩
  simp only [Nat.add_sub_cancel] at *
  have hb15 : b ≤ 15 := by omega
  obtain ⟨P, hP⟩ : ∃ P : Nat, P = k * 2 ^ b := ⟨_, rfl⟩
  obtain ⟨Q, hQ⟩ : ∃ Q : Nat, Q = 2 ^ (b + g) := ⟨_, rfl⟩
  have e1 : (k : Int) * 2 ^ b = (P : Int) := by rw [hP]; simp
  have e2 : (2 : Int) ^ (b + g) = (Q : Int) := by rw [hQ]; simp
  rw [← hP, ← hQ] at b2 b3 ⊢
  rw [← hQ] at hp
  have hpb := Nat.two_pow_pos b
  have hPb : P ≤ 65536 := by omega
  clear hpb
  have e3 : ((P - Q : Nat) : Int) = (P : Int) - (Q : Int) := by omega
  rw [e3]
  clear hP hQ e3 h2 b3
  have hbg : ((b + g : Nat) : Int) + 1 - ((g + 1 : Nat) : Int) = (b : Int) := by omega
  clear hbg
  have E1 := Lib.hid e1
  have E2 := Lib.hid e2
  clear e1 e2
  go_enter Tryd.func71, Tryd.ntmps71
  go_wp2_with fail
  refine HC.out.mono ?_
  rintro e w1 ⟨rfl, rfl⟩
  go_wp2_with fail
  rw [show (b : Int) + (g : Int) + 1 - ((g : Int) + 1) = (b : Int) by omega]
  have e1 := E1.out
  have e2 := E2.out
  go_region
  all_goals
    go_wp2_with fail
    refine bodyPost_ret (v := .agg #[.int .u8 (s : Int), .int .i64 (b : Int), .int .i64 ((P : Int) - (Q : Int))]) (by simp [results, Tryd.results71, go_sem]) rfl ⟨rfl, ?_⟩
    exact ((Below.refl _ _).alloc (Nat.le_refl _) _).drew
end Go.Proofs.YtpdnmhnnngcbjaaDoor
