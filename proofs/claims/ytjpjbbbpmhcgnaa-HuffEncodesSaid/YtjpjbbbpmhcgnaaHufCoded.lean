
/- The contract of the law's coded: has each symbol a weight. -/
import Derived.Test.YtjpjbbbpmhcgnaaHufCode
import Derived.Deep.LoopGhost
namespace Go.Proofs.Ytjpjbbbpmhcgnaa
open Go.RowKit

section
variable {w : World}
set_option maxRecDepth 100000 in
set_option maxHeartbeats 2000000 in
theorem coded_any {own own2 : Bool} {lo hi lo2 hi2 m c n c2 : Nat} {A A2 : Option Addr} {ws ls : List UInt8} (hd : Dat own w lo hi A ws) (hm : ws.length = m) (hl : Dat own2 w lo2 hi2 A2 ls) (hn : ls.length = n) (hnb : n ≤ 100000000) :
    Calls Try.prog 16 #[.slice A m c, .slice A2 n c2] w fun e w' => w = w' ∧ ((Coded (nat ws) (nat ls) ∧ e = .returned (.bool true)) ∨ (¬ Coded (nat ws) (nat ls) ∧ e = .returned (.bool false))) := by
  have HW := Lib.hid (And.intro hd hm)
  have HL := Lib.hid (And.intro hl hn)
  clear hd hm hl hn
  go_enter Try.func16, Try.ntmps16
  go_wp2_with fail
  go_loopg [5] n (fun gh vi wx => ∃ j : Nat, vi = .int .i64 (j : Int) ∧ j + gh = n ∧ wx = w ∧ Coded (nat ws) ((nat ls).take j))
  case atStart => exact ⟨0, rfl, by omega, rfl, fun s hs => by simp at hs⟩
  case round =>
    obtain ⟨j, rfl, hj, rfl, hCd⟩ := hrel
    have HJ := Lib.hid (And.intro hj hCd)
    have hjn : j ≤ n := by omega
    clear hj hCd
    by_cases hlt : j < n
    · obtain ⟨g', rfl⟩ : ∃ g', gk = g' + 1 := ⟨gk - 1, by have := HJ.out.1; omega⟩
      have hjz : (j : Int) < (n : Int) := by omega
      have hjl : j < ls.length := by have := HL.out.2; omega
      obtain ⟨d2, o2, rfl, _, hd2, hc2, _⟩ := HL.out.1 (by omega)
      have hx := hc2 j hjl
      have hjn2 : j < (nat ls).length := by rw [nat_len]; exact hjl
      have htk : (nat ls).take (j + 1) = (nat ls).take j ++ [(ls.getD j 0).toNat] := by
        rw [List.take_succ_eq_append_getElem hjn2]
        simp [nat, List.getD, hjl]
      have hmem : (ls.getD j 0).toNat ∈ nat ls := by
        rw [show (ls.getD j 0).toNat = (nat ls)[j] by simp [nat, List.getD, hjl]]
        exact List.getElem_mem _
      unfold cel at hx
      have HT := Lib.hid (And.intro htk hmem)
      clear hc2 htk hmem hjl hjn2
      have hx8 := (ls.getD j 0).toNat_lt
      generalize (ls.getD j 0).toNat = x at *
      by_cases hxk : x < m
      · have hxz : (x : Int) < (m : Int) := by omega
        have hxz2 : ¬ (m : Int) ≤ (x : Int) := by omega
        have hxl : x < ws.length := by have := HW.out.2; omega
        obtain ⟨d1, o1, rfl, _, hd1, hc1, _⟩ := HW.out.1 (by omega)
        have hy := hc1 x hxl
        unfold cel at hy
        have hyg := nat_getD ws x
        have HY := Lib.hid hyg
        clear hc1 hxl hyg
        have hy8 := (ws.getD x 0).toNat_lt
        generalize (ws.getD x 0).toNat = y at *
        by_cases hp : 0 < y
        · have hb0 : ((y : Int) == 0) = false := by rw [beq_eq_false_iff_ne]; omega
          go_wp2_with fail
          go_roundg g'
          case measure => omega
          case rel =>
            refine ⟨j + 1, by go_num, by have := HJ.out.1; omega, rfl, ?_⟩
            rw [HT.out.1]
            intro s hs
            rcases List.mem_append.1 hs with h | h
            · exact HJ.out.2 s h
            · obtain rfl : s = x := by simpa using h
              exact ⟨by rw [nat_len, HW.out.2]; exact hxk, by rw [HY.out]; exact hp⟩
        · obtain rfl : y = 0 := by omega
          go_wp2_with fail
          go_ret
          exact ⟨rfl, .inr ⟨fun hc => hp (by have := (hc x HT.out.2).2; rw [HY.out] at this; exact this), rfl⟩⟩
      · have hxz : (m : Int) ≤ (x : Int) := by omega
        go_wp2_with fail
        go_ret
        exact ⟨rfl, .inr ⟨fun hc => hxk (by have := (hc x HT.out.2).1; rw [nat_len, HW.out.2] at this; exact this), rfl⟩⟩
    · obtain rfl : j = n := by omega
      have hjz : ¬ (j : Int) < (j : Int) := by omega
      go_wp2_with fail
      go_ret
      have := HJ.out.2
      rw [List.take_of_length_le (by rw [nat_len, HL.out.2]; exact Nat.le_refl _)] at this
      exact ⟨rfl, .inl ⟨this, rfl⟩⟩
end
end Go.Proofs.Ytjpjbbbpmhcgnaa
