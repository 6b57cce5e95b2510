
/- The contract of the program's tally. -/
import Derived.Test.YtafdfjacfodbnaaPileC
import Derived.Test.YtafdfjacfodbnaaWtCmp
namespace Go.Proofs.Ytafdfjacfodbnaa
open Go.RowKit

set_option maxRecDepth 100000 in
set_option maxHeartbeats 800000 in
theorem tallyW_any {w : World} {lo hi : Nat} {A : Option Addr} {n c : Nat} {os : List Nat} (hd : DatE ucel w lo hi A os) (hn : os.length = n) (hm : n ≤ 1000000) (hb : ∀ o ∈ os, o ≤ 4294967295) :
    Calls Try.prog 35 #[.slice A n c] w fun e w' => e = .returned (.tuple #[.int .u64 (os.sum : Nat), .int .i64 (cnt os : Nat), .int .i64 (ends os : Nat)]) ∧ w = w' := by
  have HD := Lib.hid hd
  have HN := Lib.hid hn
  have HB := Lib.hid hb
  clear hd hn hb
  go_enter Try.func35, Try.ntmps35
  go_wp2_with fail
  go_loop [2, 3, 4, 9] (fun s t f i => ∃ k : Nat, k ≤ n ∧ i = .int .i64 k ∧ s = .int .u64 ((os.take k).sum : Nat) ∧ t = .int .i64 (cnt (os.take k) : Nat) ∧ f = .int .i64 (ends (os.take k) : Nat)) (fun _ _ _ i => n - (intOf i).toNat)
  case atStart => exact ⟨0, Nat.zero_le _, rfl, rfl, rfl, rfl⟩
  case round =>
    obtain ⟨k, hk, rfl, rfl, rfl, rfl⟩ := hrel
    have h1 := sum_le (os.take k) 4294967295 fun o ho => HB.out o (List.mem_of_mem_take ho)
    have h2 := cnt_le (os.take k)
    have h3 := ends_le (os.take k)
    have hlen : (os.take k).length = k := by rw [List.length_take]; have := HN.out; omega
    rw [hlen] at h1 h2 h3
    have h1' : (os.take k).sum ≤ 4294967295000000 := by omega
    by_cases hlt : k < n
    · have hkl : k < os.length := by have := HN.out; omega
      obtain ⟨d, o, rfl, _, _, hc⟩ := HD.out (by omega)
      have hc0 := hc k hkl
      unfold ucel at hc0
      have HS := Lib.hid (sum_snoc (os.take k) os[k])
      have HC := Lib.hid (cnt_snoc (os.take k) os[k])
      have HE := Lib.hid (ends_snoc (os.take k) os[k])
      rw [← take_snoc' os k hkl] at HS HC HE
      rw [hlen] at HE
      have hob := HB.out os[k] (List.getElem_mem hkl)
      have hki : (k : Int) < (n : Int) := by omega
      clear hc hlen h1
      generalize os[k] = x at *
      generalize (os.take k).sum = S at *
      generalize cnt (os.take k) = C at *
      generalize ends (os.take k) = E at *
      by_cases hx : 0 < x
      · have hxi : (0 : Int) < (x : Int) := by omega
        have hC2 := HC.out
        have hE2 := HE.out
        rw [if_pos hx] at hC2 hE2
        have HC2 := Lib.hid hC2
        have HE2 := Lib.hid hE2
        clear hC2 hE2
        go_wp2_with fail
        go_round
        case rel => exact ⟨k + 1, by omega, by go_num, by rw [HS.out]; go_num, by rw [HC2.out]; go_num, by rw [HE2.out]; go_num⟩
        case measure => simp [intOf]; omega
      · obtain rfl : x = 0 := by omega
        have hC2 := HC.out
        have hE2 := HE.out
        rw [if_neg hx] at hC2 hE2
        have HC2 := Lib.hid hC2
        have HE2 := Lib.hid hE2
        clear hC2 hE2
        go_wp2_with fail
        go_round
        case rel => exact ⟨k + 1, by omega, by go_num, by rw [HS.out]; rfl, by rw [HC2.out]; rfl, by rw [HE2.out]⟩
        case measure => simp [intOf]; omega
    · obtain rfl : k = n := by omega
      have hki : ¬ (k : Int) < (k : Int) := by omega
      have HT : Hid (os.take k = os) := List.take_of_length_le (by have := HN.out; omega)
      clear hlen
      go_wp2_with fail
      go_ret3
      rw [HT.out]
      exact ⟨rfl, rfl⟩

end Go.Proofs.Ytafdfjacfodbnaa
