/- The contract of the program's withRest: what is left of the bytes goes in. -/
import Derived.Test.YtlcbopjadjbmoaaXxhOwn
import Derived.Deep.LoopGhost
import Derived.Deep.CutRange
import Derived.Deep.DeepCutAuto
namespace Go.Proofs.Ytlcbopjadjbmoaa
open Go.RowKit

attribute [local go_sem high] q_xor q_or q_add q_mul q_mul1 q_mul2 q_mul3 q_mul5 q_add3 q_add4

theorem round0_any (x : UInt64) (w : World) :
    Calls Try.prog 21 #[.int .u64 0, .int .u64 (x.toNat : Int)] w fun e w' => e = .returned (.int .u64 ((rnd 0 x).toNat : Int)) ∧ w = w' := round_any 0 x w

set_option maxRecDepth 100000 in
set_option maxHeartbeats 1000000 in
theorem withRest_any {own : Bool} {w : World} {lo hi : Nat} {A : Option Addr} {m c : Nat} {xs : List UInt8} (x : UInt64) (hd : Dat own w lo hi A xs) (hm : xs.length = m) (hmc : m ≤ c) :
    Calls Try.prog 17 #[.int .u64 (x.toNat : Int), .slice A m c] w fun e w' => e = .returned (.int .u64 ((rests x xs).toNat : Int)) ∧ w = w' := by
  have HD := Lib.hid hd
  have HM := Lib.hid hm
  clear hd hm
  go_enter Try.func17, Try.ntmps17
  go_wp2_with fail
  go_loopg [0, 1] m (fun gh y b wx => ∃ (n : Nat) (A' : Option Addr) (c' : Nat), w = wx ∧ gh + 8 * n = m ∧ gh ≤ c' ∧ b = .slice A' gh c' ∧ y = .int .u64 ((eights xs x n).toNat : Int) ∧ Dat own w lo hi A' (xs.drop (8 * n)))
  case atStart => exact ⟨0, A, c, rfl, by omega, hmc, rfl, rfl, by simpa using HD.out⟩
  case round =>
    obtain ⟨n, A', c', rfl, hgm, hgc, rfl, rfl, hdr⟩ := hrel
    have HDr := Lib.hid hdr
    have hlr : (xs.drop (8 * n)).length = gk := by rw [List.length_drop, HM.out]; omega
    have HLr := Lib.hid hlr
    have HGM := Lib.hid hgm
    clear hdr hlr hgm
    obtain ⟨y, hy⟩ : ∃ y, y = eights xs x n := ⟨_, rfl⟩
    rw [← hy]
    have HY := Lib.hid hy
    clear hy
    by_cases h8 : 8 ≤ gk
    · have h8i : (8 : Int) ≤ (gk : Int) := by omega
      have h8c : (8 : Int) ≤ (c' : Int) := by omega
      have h8c' : 8 ≤ c' := by omega
      obtain ⟨z, hz⟩ : ∃ z, z = num xs (8 * n) 8 := ⟨_, rfl⟩
      have HN : Hid (Calls Try.prog 22 #[.slice A' 8 c'] w fun e w' => e = .returned (.int .u64 (z.toNat : Int)) ∧ w = w') := by
        rw [hz]
        exact number_any (HDr.out.take 8) (by rw [List.length_take, HLr.out]; omega) (Nat.le_refl _)
      have HE : Hid (eights xs x (n + 1) = eight y z) := by rw [hz, HY.out]; rfl
      clear hz
      by_cases hcap : c' = 8
      · subst hcap
        go_wp2_with (first
          | (go_at_call 22; refine HN.out.mono ?_; rintro e' w' ⟨rfl, rfl⟩)
          | (go_at_call 21; refine (round0_any _ _).mono ?_; rintro e' w' ⟨rfl, rfl⟩)
          | (go_at_call 23; refine (turned_any _ _ _ (by decide) (by decide)).mono ?_; rintro e' w' ⟨rfl, rfl⟩))
        go_roundg 0
        case measure => omega
        case rel => exact ⟨n + 1, A', 0, rfl, by have := HGM.out; omega, by omega, rfl, by rw [HE.out]; rfl, by rw [List.drop_of_length_le (by have := HGM.out; have := HM.out; omega)]; exact Dat.nil _ _ _ _ _⟩
      · go_wp2_with (first
          | (go_at_call 22; refine HN.out.mono ?_; rintro e' w' ⟨rfl, rfl⟩)
          | (go_at_call 21; refine (round0_any _ _).mono ?_; rintro e' w' ⟨rfl, rfl⟩)
          | (go_at_call 23; refine (turned_any _ _ _ (by decide) (by decide)).mono ?_; rintro e' w' ⟨rfl, rfl⟩))
        go_roundg (gk - 8)
        case measure => omega
        case rel => exact ⟨n + 1, _, c' - 8, rfl, by have := HGM.out; omega, by omega, rfl, by rw [HE.out]; rfl, by have := HDr.out.drop 8; rw [List.drop_drop] at this; exact this⟩
    · have h8i : ¬ (8 : Int) ≤ (gk : Int) := by omega
      have hnm : m / 8 = n := by have := HGM.out; omega
      obtain ⟨rs, hrs⟩ : ∃ rs, rs = xs.drop (8 * n) := ⟨_, rfl⟩
      rw [← hrs] at HDr HLr
      have HRS : Hid (rests x xs = ones (aft rs) (fours y rs)) := by
        unfold Hid rests
        rw [HM.out, hnm, ← hrs, ← HY.out]
      clear hrs HY hnm HD HGM
      go_upto_if 23 with fail
      go_cut [0, 1] (fun u b wx => ∃ (A2 : Option Addr) (n2 c2 : Nat), w = wx ∧ n2 ≤ c2 ∧ n2 < 8 ∧ b = .slice A2 n2 c2 ∧ u = .int .u64 ((fours y rs).toNat : Int) ∧ (aft rs).length = n2 ∧ Dat own w lo hi A2 (aft rs))
      case first =>
        by_cases h4 : 4 ≤ gk
        · have h4i : (4 : Int) ≤ (gk : Int) := by omega
          have h4c : (4 : Int) ≤ (c' : Int) := by omega
          have h4c' : 4 ≤ c' := by omega
          obtain ⟨z, hz⟩ : ∃ z, z = num rs 0 4 := ⟨_, rfl⟩
          have HN : Hid (Calls Try.prog 22 #[.slice A' 4 c'] w fun e w' => e = .returned (.int .u64 (z.toNat : Int)) ∧ w = w') := by
            rw [hz]
            exact number_any (HDr.out.take 4) (by rw [List.drop_zero, List.length_take, HLr.out]; omega) (by omega)
          have HF : Hid (fours y rs = four y z) := by
            unfold Hid fours
            rw [if_pos (by rw [HLr.out]; exact h4), hz]
          have HA : Hid (aft rs = rs.drop 4) := by
            unfold Hid aft
            rw [if_pos (by rw [HLr.out]; exact h4)]
          clear hz
          by_cases hcap : c' = 4
          · subst hcap
            have hg4 : gk = 4 := by omega
            subst hg4
            go_wp2_with (first
              | (go_at_call 22; refine HN.out.mono ?_; rintro e' w' ⟨rfl, rfl⟩)
              | (go_at_call 23; refine (turned_any _ _ _ (by decide) (by decide)).mono ?_; rintro e' w' ⟨rfl, rfl⟩))
            go_meet
            rw [HF.out, HA.out]
            exact ⟨A', 0, 0, rfl, by omega, by omega, rfl, rfl, by rw [List.length_drop, HLr.out], by rw [List.drop_of_length_le (by rw [HLr.out]; omega)]; exact Dat.nil _ _ _ _ _⟩
          · go_wp2_with (first
              | (go_at_call 22; refine HN.out.mono ?_; rintro e' w' ⟨rfl, rfl⟩)
              | (go_at_call 23; refine (turned_any _ _ _ (by decide) (by decide)).mono ?_; rintro e' w' ⟨rfl, rfl⟩))
            go_meet
            rw [HF.out, HA.out]
            exact ⟨_, gk - 4, c' - 4, rfl, by omega, by omega, rfl, rfl, by rw [List.length_drop, HLr.out], HDr.out.drop 4⟩
        · have h4i : ¬ (4 : Int) ≤ (gk : Int) := by omega
          have HF : Hid (fours y rs = y) := by
            unfold Hid fours
            rw [if_neg (by rw [HLr.out]; exact h4)]
          have HA : Hid (aft rs = rs) := by
            unfold Hid aft
            rw [if_neg (by rw [HLr.out]; exact h4)]
          go_wp2_with fail
          go_meet
          rw [HF.out, HA.out]
          exact ⟨A', gk, c', rfl, by omega, by omega, rfl, rfl, HLr.out, HDr.out⟩
      case rest =>
        obtain ⟨A2, n2, c2, rfl, hn2, hn8, rfl, rfl, hl2, hd2⟩ := hcut
        obtain ⟨ts, hts⟩ : ∃ ts, ts = aft rs := ⟨_, rfl⟩
        obtain ⟨u, hu⟩ : ∃ u, u = fours y rs := ⟨_, rfl⟩
        rw [← hts] at hl2 hd2 HRS
        rw [← hu] at HRS ⊢
        have HL2 := Lib.hid hl2
        have HD2 := Lib.hid hd2
        clear hts hu hl2 hd2 HDr HLr
        go_wp2_with fail
        go_loopg [0, 37] n2 (fun gh v i wx => ∃ k : Nat, w = wx ∧ k + gh = n2 ∧ i = .int .i64 k ∧ v = .int .u64 ((ones (ts.take k) u).toNat : Int))
        case atStart => exact ⟨0, rfl, by omega, rfl, rfl⟩
        case round =>
          obtain ⟨k, rfl, hk, rfl, rfl⟩ := hrel
          have HK := Lib.hid hk
          have hk8 : k ≤ n2 := by omega
          clear hk
          obtain ⟨v, hv⟩ : ∃ v, v = ones (ts.take k) u := ⟨_, rfl⟩
          rw [← hv]
          have HV := Lib.hid hv
          clear hv
          by_cases hlt : k < n2
          · have hkt : k < ts.length := by rw [HL2.out]; exact hlt
            have HS : Hid (ones (ts.take (k + 1)) u = one1 v (ts.getD k 0)) := by rw [HV.out]; exact ones_snoc ts u k hkt
            obtain ⟨d, o, rfl, _, _, hc, _⟩ := HD2.out (by omega)
            have hck := hc k hkt
            unfold cel at hck
            obtain ⟨t, ht⟩ : ∃ t, t = ts.getD k 0 := ⟨_, rfl⟩
            rw [← ht] at hck HS
            have h8t := q8_nat t
            rw [h8t] at hck
            have hwr : IntKind.u64.wrap ((q8 t).toNat : Int) = ((q8 t).toNat : Int) := by rw [← h8t, IntKind.wrap_u64]; have := t.toNat_lt; omega
            clear hc ht h8t HD2 hkt
            go_wp2_with (go_at_call 23; refine (turned_any _ _ _ (by decide) (by decide)).mono ?_; rintro e' w' ⟨rfl, rfl⟩)
            go_roundg (n2 - (k + 1))
            case measure => have := HK.out; omega
            case rel => exact ⟨k + 1, rfl, by omega, by go_num, by rw [HS.out]; rfl⟩
          · have hkn : k = n2 := by omega
            go_wp2_with fail
            go_ret
            exact ⟨by rw [HRS.out, HV.out, hkn, List.take_of_length_le (by rw [HL2.out]; omega)]; rfl, rfl⟩
end Go.Proofs.Ytlcbopjadjbmoaa
