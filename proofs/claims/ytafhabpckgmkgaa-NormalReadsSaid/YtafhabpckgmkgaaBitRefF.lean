
/- The contracts of the document's Read, Back and Used (from the front). -/
import Derived.Test.YtafhabpckgmkgaaBitRefB
import Derived.Test.YtafhabpckgmkgaaBitFwd
namespace Go.Proofs.Ytafhabpckgmkgaa
open Go.RowKit

theorem refUsed_any (A : Option Addr) (n c at_ : Nat) (w : World) (h : at_ ≤ 1000000000) :
    Calls Try.prog 26 #[.agg #[.slice A n c, .int .i64 (at_ : Int)]] w fun e w' => e = .returned (.int .i64 ((at_ + 7) / 8 : Nat)) ∧ Below w.heap.size w w' := by
  go_enter Try.func26, Try.ntmps26
  go_wp2
  go_ret
  refine ⟨?_, (Below.refl _ _).alloc (Nat.le_refl _) _⟩
  show Ending.returned (.int .i64 _) = _
  congr 2

theorem refRead_any {xs : List UInt8} {w : World} {lo hi : Nat} {A : Option Addr} {n c at_ : Nat} (k : Int) (hd : DatE Value.bool w lo hi A (bitsOf xs)) (hn : 8 * xs.length = n) (hc : n ≤ c) (hb : n ≤ 1000000000) (hhi : hi ≤ w.heap.size) (ha : at_ ≤ n) :
    Calls Try.prog 24 #[.agg #[.slice A n c, .int .i64 (at_ : Int)], .int .i64 k] w fun e w' =>
      e = .returned (.tuple #[.agg #[.slice A n c, .int .i64 ((fread xs at_ k).2.2 : Nat)], .int .u64 ((fread xs at_ k).1 : Nat), .int .i64 (fread xs at_ k).2.1]) ∧ Below w.heap.size w w' := by
  have HD := Lib.hid hd
  have HN := Lib.hid hn
  clear hd hn
  by_cases hw : k < 0 ∨ 32 < k
  · have hf : fread xs at_ k = (0, 1, at_) := by simp [fread, hw]
    rw [hf]
    clear hf
    rcases hw with hw | hw
    · go_enter Try.func24, Try.ntmps24
      go_wp2
      exact bodyPost_ret (v := .tuple #[.agg #[.slice A n c, .int .i64 (at_ : Int)], .int .u64 0, .int .i64 1]) (by simp [results, Try.results24, go_sem]) rfl ⟨rfl, by repeat (first | exact Below.refl _ _ | refine Below.alloc ?_ (by simp) _ | refine Below.setCell ?_ (by simp) _)⟩
    · have hd0 : decide (k < 0) = false := by simp; omega
      go_enter Try.func24, Try.ntmps24
      go_wp2
      exact bodyPost_ret (v := .tuple #[.agg #[.slice A n c, .int .i64 (at_ : Int)], .int .u64 0, .int .i64 1]) (by simp [results, Try.results24, go_sem]) rfl ⟨rfl, by repeat (first | exact Below.refl _ _ | refine Below.alloc ?_ (by simp) _ | refine Below.setCell ?_ (by simp) _)⟩
  · have hd0 : decide (k < 0) = false := by simp; omega
    have hd1 : decide (32 < k) = false := by simp; omega
    by_cases hs : (n : Int) - at_ < k
    · have hf : fread xs at_ k = (0, 10, at_) := by rw [fread, if_neg hw, if_pos (by have := HN.out; omega)]
      rw [hf]
      clear hf
      go_enter Try.func24, Try.ntmps24
      go_wp2
      exact bodyPost_ret (v := .tuple #[.agg #[.slice A n c, .int .i64 (at_ : Int)], .int .u64 0, .int .i64 10]) (by simp [results, Try.results24, go_sem]) rfl ⟨rfl, by repeat (first | exact Below.refl _ _ | refine Below.alloc ?_ (by simp) _ | refine Below.setCell ?_ (by simp) _)⟩
    · obtain ⟨m, rfl⟩ := Int.eq_ofNat_of_zero_le (show 0 ≤ k by omega)
      have hf : fread xs at_ m = (num (((bitsOf xs).drop at_).take m), 0, at_ + m) := by rw [fread, if_neg hw, if_neg (by have := HN.out; omega)]; rfl
      rw [hf]
      have hm32 : m ≤ 60 := by omega
      clear hf hw
      have hs' : ¬ (n : Int) - at_ < m := hs
      have hmn : at_ + m ≤ n := by omega
      have hlen : (((bitsOf xs).drop at_).take m).length = m := by
        rw [List.length_take, List.length_drop, bitsOf_length, HN.out]
        omega
      have hcut := (HD.out.cut (k := at_) (c := c) (by rw [bitsOf_length, HN.out]; exact hc)).take m
      have HL := Lib.hid hlen
      clear hlen
      by_cases hca : c = at_
      · rw [if_pos hca] at hcut
        subst hca
        have HC := Lib.hid ((hcut.alloc hhi (.cells #[.slice A n c, .int .i64 (c : Int)] 63)).alloc (by simp; omega) (.cells #[.slice none 0 0, .int .i64 0] 63))
        clear hcut
        go_enter Try.func24, Try.ntmps24
        go_wp2_with ((go_at_call 43; refine (refNum_any HC.out HL.out hm32).mono ?_; rintro e w' ⟨rfl, rfl⟩))
        exact bodyPost_ret (v := .tuple #[.agg #[.slice A n c, .int .i64 ((c : Int) + (m : Int))], .int .u64 (num (((bitsOf xs).drop c).take m) : Nat), .int .i64 0]) (by simp [results, Try.results24, go_sem]) rfl ⟨rfl, by repeat (first | exact Below.refl _ _ | refine Below.alloc ?_ (by simp) _ | refine Below.setCell ?_ (by simp) _)⟩
      · rw [if_neg hca] at hcut
        have HC := Lib.hid ((hcut.alloc hhi (.cells #[.slice A n c, .int .i64 (at_ : Int)] 63)).alloc (by simp; omega) (.cells #[.slice none 0 0, .int .i64 0] 63))
        clear hcut
        go_enter Try.func24, Try.ntmps24
        go_wp2_with ((go_at_call 43; refine (refNum_any HC.out HL.out hm32).mono ?_; rintro e w' ⟨rfl, rfl⟩))
        exact bodyPost_ret (v := .tuple #[.agg #[.slice A n c, .int .i64 ((at_ : Int) + (m : Int))], .int .u64 (num (((bitsOf xs).drop at_).take m) : Nat), .int .i64 0]) (by simp [results, Try.results24, go_sem]) rfl ⟨rfl, by repeat (first | exact Below.refl _ _ | refine Below.alloc ?_ (by simp) _ | refine Below.setCell ?_ (by simp) _)⟩
end Go.Proofs.Ytafhabpckgmkgaa
