/- The contracts of the document's turn, round, at. -/
import Derived.Test.YtlcbopjadjbmoaaXxhOwn
import Derived.Test.YtlcbopjadjbmoaaXxhCells
import Derived.Test.YtlcbopjadjbmoaaRefNum
namespace Go.Proofs.Ytlcbopjadjbmoaa
open Go.RowKit

theorem turn_any (x : UInt64) (N : Int) (w : World) (h0 : 0 < N) (h1 : N < 64) :
    Calls Try.prog 20 #[.int .u64 (x.toNat : Int), .int .u64 N] w fun e w' => e = .returned (.int .u64 ((rotl x N.toNat).toNat : Int)) ∧ w = w' := by
  obtain ⟨n, rfl⟩ := Int.eq_ofNat_of_zero_le (show 0 ≤ N by omega)
  have hr := rotl_nat x n
  obtain ⟨m, hm⟩ : ∃ m, m = 64 - n := ⟨_, rfl⟩
  have hs : IntKind.u64.wrap (64 - (n : Int)) = (m : Int) := by
    rw [IntKind.wrap_u64]
    omega
  rw [← hm] at hr
  have hm64 : (m : Int) < 64 := by omega
  have hm64' : m < 64 := by omega
  have hn64 : n < 64 := by omega
  rw [Int.toNat_natCast]
  have HR := Lib.hid hr
  clear hm hr
  go_enter Try.func20, Try.ntmps20
  go_wp2
  go_ret
  exact ⟨congrArg (fun z => Ending.returned (.int .u64 z)) HR.out, rfl⟩

attribute [local go_sem high] q_xor q_or q_add q_mul q_mul1 q_mul2 q_mul3 q_mul5 q_add3 q_add4

theorem rround_any (v x : UInt64) (w : World) :
    Calls Try.prog 18 #[.int .u64 (v.toNat : Int), .int .u64 (x.toNat : Int)] w fun e w' => e = .returned (.int .u64 ((rnd v x).toNat : Int)) ∧ w = w' := by
  go_enter Try.func18, Try.ntmps18
  go_wp2_with (go_at_call 20; refine (turn_any _ _ _ (by decide) (by decide)).mono ?_; rintro e' w' ⟨rfl, rfl⟩)
  go_ret
  exact ⟨rfl, rfl⟩
theorem rround0_any (x : UInt64) (w : World) :
    Calls Try.prog 18 #[.int .u64 0, .int .u64 (x.toNat : Int)] w fun e w' => e = .returned (.int .u64 ((rnd 0 x).toNat : Int)) ∧ w = w' := rround_any 0 x w

set_option maxRecDepth 100000 in
theorem at_any (S : ByteArray) (i n : Nat) (h1 : 1 ≤ n) (h8 : n ≤ 8) (hi : i + n ≤ S.size) (w : World) :
    Calls Try.prog 19 #[.string S, .int .i64 (i : Int), .int .i64 (n : Int)] w fun e w' => e = .returned (.int .u64 ((num S.data.toList i n).toNat : Int)) ∧ Below w.heap.size w w' := by
  obtain ⟨T, hT⟩ : ∃ T, T = S.extract i S.size := ⟨_, rfl⟩
  have hTl : T.data.toList = S.data.toList.drop i := by rw [hT, extract_from]
  have hTs : T.size = S.size - i := by
    have : T.data.toList.length = S.size - i := by rw [hTl, List.length_drop]; simp
    simpa using this
  have HN := Lib.hid (fun W => refNumber_ok T n h1 h8 (by omega) W)
  rw [hTl, qn_nat _ (by rw [List.length_take]; omega)] at HN
  obtain ⟨z, hz⟩ : ∃ z, z = num S.data.toList i n := ⟨_, rfl⟩
  rw [show qn ((S.data.toList.drop i).take n) = num S.data.toList i n by rfl, ← hz] at HN
  rw [← hz]
  obtain ⟨T2, hT2⟩ : ∃ T2, T2 = T.extract n T.size := ⟨_, rfl⟩
  rw [← hT2] at HN
  have HT := Lib.hid hT
  have hi2 : i ≤ S.size := by omega
  clear hTl hTs hz hT2
  rw [hT] at HN
  clear hT
  go_enter Try.func19, Try.ntmps19
  go_wp2_with (go_at_call 24; refine (HN.out _).mono ?_; rintro e' w5 ⟨rfl, hB5⟩; have HB5 := Lib.hid hB5; clear hB5)
  go_ret
  refine ⟨rfl, ?_⟩
  exact HB5.out.alloc HB5.out.size _
end Go.Proofs.Ytlcbopjadjbmoaa
