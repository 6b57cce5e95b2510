
/- The contract of the program's join: four streams one behind the other, ahead of them how many bytes the first three have. -/
import Derived.Test.YtjpjbbbpmhcgnaaHufFourQ
import Derived.Test.YtjpjbbbpmhcgnaaPileA
import Derived.Deep.LoopGhost
namespace Go.Proofs.Ytjpjbbbpmhcgnaa
open Go.RowKit

theorem info_sl4 : (Try.prog.info? 22).map (·.size) = some 1 := by kernel_rfl
theorem idx4s_any (PA : Nat → Option Addr) (L PC : Nat → Nat) (i : Nat) (hi : i < 4) (W : World) : (Instr.index 48 (.agg #[.slice (PA 0) (L 0) (PC 0), .slice (PA 1) (L 1) (PC 1), .slice (PA 2) (L 2) (PC 2), .slice (PA 3) (L 3) (PC 3)]) (.int .i64 (i : Int))).run Try.prog W = .ok (.slice (PA i) (L i) (PC i)) W := by
  obtain ⟨i0, hi0, hi1⟩ := Option.map_eq_some_iff.1 info_sl4
  rcases (show i = 0 ∨ i = 1 ∨ i = 2 ∨ i = 3 by omega) with rfl | rfl | rfl | rfl
  all_goals simp [Instr.index, run_underlying Try.underlying48, asIntOf, sizeOf, typeInfo, hi0, hi1, part, go_sem]

section
variable {w : World}
set_option maxRecDepth 100000 in
set_option maxHeartbeats 400000 in
theorem join_any {own : Bool} {lo hi : Nat} {ps : Nat → List UInt8} (PA : Nat → Option Addr) (L PC : Nat → Nat) (hd : ∀ i, i < 4 → Dat own w lo hi (PA i) (ps i)) (hL : ∀ i, i < 4 → (ps i).length = L i) (hs : ∀ i, i < 3 → L i ≤ 65535) (h3 : L 3 ≤ 10000000) (hhi : hi ≤ w.heap.size) :
    Calls Try.prog 31 #[.agg #[.slice (PA 0) (L 0) (PC 0), .slice (PA 1) (L 1) (PC 1), .slice (PA 2) (L 2) (PC 2), .slice (PA 3) (L 3) (PC 3)]] w (OPost w (joinF ps, 0)) := by
  have HD := Lib.hid (And.intro hd (And.intro hL (And.intro hs h3)))
  have HIx := Lib.hid (idx4s_any PA L PC)
  have hbx := Box.new w 48 #[.slice (PA 0) (L 0) (PC 0), .slice (PA 1) (L 1) (PC 1), .slice (PA 2) (L 2) (PC 2), .slice (PA 3) (L 3) (PC 3)]
  have hB0 := (Below.refl w.heap.size w).alloc (Nat.le_refl _) (.cells #[.slice (PA 0) (L 0) (PC 0), .slice (PA 1) (L 1) (PC 1), .slice (PA 2) (L 2) (PC 2), .slice (PA 3) (L 3) (PC 3)] 48)
  have hz0 : (w.alloc (.cells #[.slice (PA 0) (L 0) (PC 0), .slice (PA 1) (L 1) (PC 1), .slice (PA 2) (L 2) (PC 2), .slice (PA 3) (L 3) (PC 3)] 48)).heap.size = w.heap.size + 1 := by simp
  obtain ⟨w1, hw1⟩ : ∃ w1, w1 = w.alloc (.cells #[.slice (PA 0) (L 0) (PC 0), .slice (PA 1) (L 1) (PC 1), .slice (PA 2) (L 2) (PC 2), .slice (PA 3) (L 3) (PC 3)] 48) := ⟨_, rfl⟩
  rw [← hw1] at hbx hB0 hz0
  have HW1 := Lib.hid hw1
  clear hd hL hs h3 hw1
  go_enter Try.func31, Try.ntmps31
  have HN := Lib.hid (cu.newWriter_any w1)
  have HB0 := Lib.hid hB0
  have hbxl := hbx.lt
  clear hB0
  go_wp2_with fail
  rw [← HW1.out]
  refine HN.out.mono ?_
  rintro e w2 ⟨rfl, hW, hB2⟩
  have hs2 := hB2.size
  have hb2 := hbx.below hB2 hbxl
  have HB2 := Lib.hid (HB0.out.trans (hB2.mono (by omega)))
  obtain ⟨g, hg⟩ : ∃ g, g = w1.heap.size := ⟨_, rfl⟩
  rw [← hg] at hW hs2 hbxl hz0 ⊢
  have hgw : w.heap.size < g := by omega
  have HZ0 := Lib.hid hz0
  have H2 := Lib.hid (And.intro hW hb2)
  have hwg := hW.lt
  have HD2 : Hid (∀ i, i < 4 → Dat own w2 lo hi (PA i) (ps i)) := fun i hi => (HD.out.1 i hi).below HB2.out hhi
  clear hW hb2 hB2 HN hbx hg hz0
  go_wp2_with fail
  go_loopg [12] 3 (fun gh vi wx => ∃ i : Nat, vi = .int .i64 (i : Int) ∧ i + gh = 3 ∧ cu.Wtr wx g g (headN ps i) ∧ Below g w2 wx)
  case atStart => exact ⟨0, rfl, rfl, H2.out.1, Below.refl _ _⟩
  case round =>
    obtain ⟨i, rfl, hgk, hW, hB⟩ := hrel
    have hbk := H2.out.2.keep (hB.block w.heap.size (by omega))
    have hW' := Lib.hid (And.intro hW hB)
    have hBs := hB.size
    by_cases hlt : i < 3
    · obtain ⟨g', rfl⟩ : ∃ g', gk = g' + 1 := ⟨gk - 1, by omega⟩
      have hiz : (i : Int) < 3 := by omega
      have hc : wr.cell? ⟨w.heap.size, i, none⟩ = some (.slice (PA i) (L i) (PC i)) := by
        rcases (show i = 0 ∨ i = 1 ∨ i = 2 by omega) with rfl | rfl | rfl
        · exact hbk.cell 0
        · exact hbk.cell 1
        · exact hbk.cell 2
      have hli := HD.out.2.2.1 i hlt
      have hll := HD.out.2.1 i (by omega)
      have HNu := Lib.hid (cu.wnumber_yes (L i) 2 hW (by omega) (by omega) (by rw [headN_len]; omega))
      have hwr : IntKind.u64.wrap (L i : Int) = (L i : Int) := by rw [IntKind.wrap_u64]; omega
      have hnb : ¬ (65535 : Int) < (L i : Int) := by omega
      have HLl := Lib.hid hll
      clear hbk hW hB hll
      generalize L i = l at *
      go_wp2_with fail
      refine HNu.out.mono ?_
      rintro e w3 ⟨rfl, hW3, hB3⟩
      have H3 := Lib.hid (And.intro hW3 hB3)
      clear hW3 hB3 HNu hc
      go_wp2_with fail
      go_roundg g'
      case measure => omega
      case rel => exact ⟨i + 1, by go_num, by omega, by rw [headN, HLl.out]; exact H3.out.1, hW'.out.2.trans H3.out.2⟩
    · obtain rfl : i = 3 := by omega
      have hiz : ¬ ((3 : Nat) : Int) < 3 := by decide
      have c0 : wr.cell? ⟨w.heap.size, 0, none⟩ = some (.slice (PA 0) (L 0) (PC 0)) := hbk.cell 0
      have c1 : wr.cell? ⟨w.heap.size, 1, none⟩ = some (.slice (PA 1) (L 1) (PC 1)) := hbk.cell 1
      have c2 : wr.cell? ⟨w.heap.size, 2, none⟩ = some (.slice (PA 2) (L 2) (PC 2)) := hbk.cell 2
      have c3 : wr.cell? ⟨w.heap.size, 3, none⟩ = some (.slice (PA 3) (L 3) (PC 3)) := hbk.cell 3
      have HD3 : Hid (∀ i, i < 4 → Dat own wr lo hi (PA i) (ps i)) := fun k hk => (HD2.out k hk).below hB (by omega)
      clear hW hB hbk
      go_wp2_with fail
      clear c0 c1 c2 c3
      have hl3 := hW'.out.1.lt
      go_loopg [8, 26, 28] 4 (fun gh v8 vi v28 wx => ∃ i : Nat, vi = .int .i64 (i : Int) ∧ i + gh = 4 ∧ cu.Wtr wx g g (headN ps 3 ++ catN ps i) ∧ Below g wr wx)
      case atStart => exact ⟨0, rfl, rfl, by rw [catN, List.append_nil]; exact hW'.out.1, Below.refl _ _⟩
      case round =>
        obtain ⟨i, rfl, hgk2, hX, hBx⟩ := hrel
        have hsm : sumN ps 4 ≤ 10196605 := by
          have h0 := HD.out.2.1 0 (by omega)
          have h1 := HD.out.2.1 1 (by omega)
          have h2 := HD.out.2.1 2 (by omega)
          have h3 := HD.out.2.1 3 (by omega)
          have k0 := HD.out.2.2.1 0 (by omega)
          have k1 := HD.out.2.2.1 1 (by omega)
          have k2 := HD.out.2.2.1 2 (by omega)
          have k3 := HD.out.2.2.2
          simp only [sumN]
          omega
        have hsi := catN_len (ps := ps) i
        have HX := Lib.hid (And.intro hX hBx)
        have hBxs := hBx.size
        by_cases hlt2 : i < 4
        · obtain ⟨g', rfl⟩ : ∃ g', gk = g' + 1 := ⟨gk - 1, by omega⟩
          have hiz2 : (i : Int) < 4 := by omega
          have hidx := HIx.out i hlt2
          have hll := HD.out.2.1 i hlt2
          have hsi4 : sumN ps i ≤ sumN ps 4 := sumN_le (by omega)
          have hL4 : L i ≤ 10000000 := by
            have := HD.out.2.2.2
            by_cases h : i < 3
            · have := HD.out.2.2.1 i h; omega
            · obtain rfl : i = 3 := by omega
              exact this
          have HBy := Lib.hid (cu.wbytes_any (c := PC i) hX ((HD3.out i hlt2).below hBx (by omega)) hll (by rw [List.length_append, headN_len, hsi]; omega))
          clear hX hBx hll hsi hsm
          generalize L i = l at *
          go_wp2_with fail
          refine HBy.out.mono ?_
          rintro e w3 ⟨rfl, hW3, hB3⟩
          have H3 := Lib.hid (And.intro hW3 hB3)
          clear hW3 hB3 HBy hidx
          go_wp2_with fail
          go_roundg g'
          case measure => omega
          case rel => exact ⟨i + 1, by go_num, by omega, by rw [catN, ← List.append_assoc]; exact H3.out.1, HX.out.2.trans H3.out.2⟩
        · obtain rfl : i = 4 := by omega
          have hiz2 : ¬ ((4 : Nat) : Int) < 4 := by decide
          have HOu := Lib.hid (cu.out_any hX (by rw [List.length_append, headN_len, hsi]; omega))
          have HBw := Lib.hid (HB2.out.trans ((hW'.out.2.trans hBx).mono (by omega)))
          have hwl : w.heap.size ≤ wr.heap.size := by omega
          clear hX hBx hsi hsm
          go_wp2_with fail
          refine HOu.out.mono ?_
          rintro e w3 ⟨v, rfl, hO, hB3⟩
          obtain ⟨A', n', c', rfl⟩ := hO.slice
          have H3 := Lib.hid (And.intro (hO.mono hwl) (HBw.out.trans (hB3.mono hwl)))
          clear hO hB3 HOu
          go_wp2_with fail
          go_ret2
          exact ⟨H3.out.2, _, rfl, H3.out.1⟩
end
end Go.Proofs.Ytjpjbbbpmhcgnaa
