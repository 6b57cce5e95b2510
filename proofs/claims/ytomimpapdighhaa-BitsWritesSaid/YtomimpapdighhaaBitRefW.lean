/- The contract of the document's Write. -/
import Derived.Test.YtomimpapdighhaaBitRefB
import Derived.Test.YtomimpapdighhaaBitWr
namespace Go.Proofs.Ytomimpapdighhaa
open Go.RowKit

set_option maxRecDepth 100000 in
set_option maxHeartbeats 1000000 in
theorem refWrite_any {w : World} {lo hi : Nat} {A : Option Addr} {n c : Nat} {l : List Bool} (x : Nat) (k : Int) (hd : DatE Value.bool w lo hi A l) (hn : l.length = n) (hs : n ≤ 1000000000) (hx : x < 18446744073709551616) :
    Calls Try.prog 27 #[.slice A n c, .int .u64 (x : Int), .int .i64 k] w fun e w' => ∃ v, e = .returned v ∧ OwE Value.bool w' 4 w.heap.size v (l ++ lows x k) ∧ Below w.heap.size w w' := by
  obtain ⟨i0, hi0, hz0, hz1, hz2⟩ := info_parts bool_info
  have HD := Lib.hid hd
  have HN := Lib.hid hn
  have HO0 := Lib.hid (OwE.nil Value.bool w 4 w.heap.size)
  clear hd hn
  by_cases hk : 56 < k
  · have hl : Hid (lows x k = []) := by
      unfold Hid lows
      rw [if_neg (by simp [wid]; omega)]
    go_enter Try.func27, Try.ntmps27
    go_wp2_with (at_builtin; refine list_appE bool_one _ rfl _ _ 27 rfl i0 (.bool false) 1 Try.underlying27 hi0 hz0 hz1 hz2 rfl (by decide) rfl HO0.out rfl HD.out HN.out ?_ ?_ ?_)
    · simp; omega
    · simp
    intro v1 w1 ho1 hg1 _
    have HG := Lib.hid ((Below.refl w.heap.size w).grown hg1 (Nat.le_refl _) (by intro k hk; simp [Value.ownBlock] at hk))
    have HO3 := Lib.hid ho1
    clear ho1 hg1
    go_wp2_with fail
    go_ret
    exact ⟨_, rfl, by rw [hl.out, List.append_nil]; exact HO3.out, HG.out⟩
  · obtain ⟨m, hm⟩ : ∃ m, m = k.toNat := ⟨_, rfl⟩
    have hl : Hid (lows x k = low x m) := by
      unfold Hid lows wid
      split
      · rw [hm]
      · next h => simp at h; rw [show m = 0 by omega]; rfl
    have hkm : (m : Int) = k ∨ (m = 0 ∧ k ≤ 0) := by omega
    have hm56 : m ≤ 56 := by omega
    clear hm
    go_enter Try.func27, Try.ntmps27
    go_wp2_with (at_builtin; refine list_appE bool_one _ rfl _ _ 27 rfl i0 (.bool false) 1 Try.underlying27 hi0 hz0 hz1 hz2 rfl (by decide) rfl HO0.out rfl HD.out HN.out ?_ ?_ ?_)
    · omega
    intro v1 w1 ho1 hg1 _
    have HG := Lib.hid ((Below.refl w.heap.size w).grown hg1 (Nat.le_refl _) (by intro k hk; simp [Value.ownBlock] at hk))
    have HO3 := Lib.hid ho1
    clear ho1 hg1
    go_wp2_with fail
    go_loopg [1, 7, 8] m (fun gh y v i wx => ∃ j : Nat, j + gh = m ∧ i = .int .i64 j ∧ y = .int .u64 (x / 2 ^ j : Nat) ∧ OwE Value.bool wx 4 w.heap.size v (l ++ low x j) ∧ Below w.heap.size w wx)
    case atStart => exact ⟨0, by omega, rfl, by simp, by simpa [low] using HO3.out, HG.out⟩
    case round =>
      obtain ⟨j, hj, rfl, rfl, ho, hB⟩ := hrel
      have HJ := Lib.hid hj
      have hjm : j ≤ m := by omega
      clear hj
      by_cases hjl : j < m
      · have hji : (j : Int) < k := by omega
        have HM := Lib.hid (low_more x j)
        have HDv := Lib.hid (div_more x j)
        have hz8 : x / 2 ^ j < 18446744073709551616 := Nat.lt_of_le_of_lt (Nat.div_le_self _ _) hx
        generalize x / 2 ^ j = z at *
        have hw2 := hB.size
        have HLn : Hid ((l ++ low x j).length ≤ 1900000000) := by
          show (l ++ low x j).length ≤ 1900000000
          rw [List.length_append, low_length, HN.out]
          omega
        by_cases ho1 : z % 2 = 1
        · have hoi : (z : Int) % 2 = 1 := by omega
          have hot : (z : Int).tmod 2 = 1 := by rw [Int.tmod_eq_emod_of_nonneg (by omega)]; exact hoi
          rw [show decide (z % 2 = 1) = true by simp [ho1]] at HM
          have HA := Lib.hid (ho.alloc (.cells #[.bool true] 4))
          have HD1 := Lib.hid (datE_one Value.bool wr true 4 _ rfl)
          have HO2 := Lib.hid ho
          have HB2 := Lib.hid hB
          clear ho hB ho1
          go_wp2_with (at_builtin; refine list_appE bool_one _ rfl _ _ 27 rfl i0 (.bool false) 1 Try.underlying27 hi0 hz0 hz1 hz2 rfl (by decide) rfl HA.out rfl HD1.out rfl ?_ ?_ ?_)
          · have := HLn.out; omega
          · simp; omega
          intro v1 w1 ho1 hg1 _
          have HG := Lib.hid (grow_below HB2.out ((Below.refl _ _).alloc (Nat.le_refl _) _) hw2 HO2.out hg1)
          have HO3 := Lib.hid ho1
          clear ho1 hg1
          go_wp2_with fail
          go_roundg (m - (j + 1))
          case measure => have := HJ.out; omega
          case rel => exact ⟨j + 1, by omega, by go_num, by rw [← HDv.out]; simp, by rw [HM.out]; exact HO3.out, HG.out⟩
        · have hoi : (z : Int) % 2 = 0 := by omega
          have hot : (z : Int).tmod 2 = 0 := by rw [Int.tmod_eq_emod_of_nonneg (by omega)]; exact hoi
          rw [show decide (z % 2 = 1) = false by simp [ho1]] at HM
          have HA := Lib.hid (ho.alloc (.cells #[.bool false] 4))
          have HD1 := Lib.hid (datE_one Value.bool wr false 4 _ rfl)
          have HO2 := Lib.hid ho
          have HB2 := Lib.hid hB
          clear ho hB ho1
          go_wp2_with (at_builtin; refine list_appE bool_one _ rfl _ _ 27 rfl i0 (.bool false) 1 Try.underlying27 hi0 hz0 hz1 hz2 rfl (by decide) rfl HA.out rfl HD1.out rfl ?_ ?_ ?_)
          · have := HLn.out; omega
          · simp; omega
          intro v1 w1 ho1 hg1 _
          have HG := Lib.hid (grow_below HB2.out ((Below.refl _ _).alloc (Nat.le_refl _) _) hw2 HO2.out hg1)
          have HO3 := Lib.hid ho1
          clear ho1 hg1
          go_wp2_with fail
          go_roundg (m - (j + 1))
          case measure => have := HJ.out; omega
          case rel => exact ⟨j + 1, by omega, by go_num, by rw [← HDv.out]; simp, by rw [HM.out]; exact HO3.out, HG.out⟩
      · have hjm' : j = m := by omega
        subst hjm'
        have hnk : ¬ (j : Int) < k := by omega
        have HO2 := Lib.hid ho
        have HB2 := Lib.hid hB
        clear ho hB
        go_wp2_with fail
        go_ret
        exact ⟨_, rfl, by rw [hl.out]; exact HO2.out, HB2.out⟩
end Go.Proofs.Ytomimpapdighhaa
