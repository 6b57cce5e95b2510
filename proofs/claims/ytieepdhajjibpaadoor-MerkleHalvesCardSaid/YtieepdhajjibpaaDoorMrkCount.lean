
/- The contracts of Count and Span, the program's and the document's. -/
import Derived.Test.YtieepdhajjibpaaDoorMrkRow
import Derived.Deep.LoopGhost
import Derived.Deep.CutRange
import Derived.Lib.Hide
namespace Go.Proofs.YtieepdhajjibpaaDoor
open Go.RowKit

/-- How many parts of p bytes s bytes have. -/
def cntN (s p : Nat) : Nat := s / p + (if s % p = 0 then 0 else 1)
theorem cntN_le {s p n : Nat} (hp : 0 < p) : s ≤ n * p ↔ cntN s p ≤ n := by
  have hd := Nat.div_add_mod s p
  have hm := Nat.mod_lt s hp
  unfold cntN
  split
  · next h =>
    rw [Nat.add_zero]
    constructor
    · intro hle
      have : s / p * p ≤ n * p := Nat.le_trans (Nat.div_mul_le_self s p) hle
      exact Nat.le_of_mul_le_mul_right this hp
    · intro hle
      have : s / p * p ≤ n * p := Nat.mul_le_mul_right p hle
      rw [Nat.mul_comm] at hd
      omega
  · next h =>
    constructor
    · intro hle
      have h1 : s / p * p < n * p := by rw [Nat.mul_comm] at hd; omega
      have := Nat.lt_of_mul_lt_mul_right h1
      omega
    · intro hle
      have h1 : (s / p + 1) * p ≤ n * p := Nat.mul_le_mul_right p hle
      rw [Nat.add_mul, Nat.one_mul] at h1
      rw [Nat.mul_comm] at hd
      omega
def cntE (s : Nat) (part : Int) : Int × Int := if part < 1 ∨ 65536 < part then (0, 1) else if 1024 < cntN s part.toNat then (0, 12) else ((cntN s part.toNat : Nat), 0)

set_option maxRecDepth 20000 in
theorem count_any (s : Nat) (part : Int) (hs : s < 18446744073709551616) (w : World) :
    Calls Tryd.prog 34 #[.int .u64 (s : Int), .int .i64 part] w fun e w' => e = .returned (.tuple #[.int .i64 (cntE s part).1, .int .i64 (cntE s part).2]) ∧ w = w' := by
  by_cases h1 : part < 1
  · have hc : cntE s part = (0, 1) := by unfold cntE; rw [if_pos (.inl h1)]
    rw [hc]
    go_enter Tryd.func34, Tryd.ntmps34
    go_wp2_with fail
    go_ret2
    exact ⟨rfl, rfl⟩
  · by_cases h2 : 65536 < part
    · have hc : cntE s part = (0, 1) := by unfold cntE; rw [if_pos (.inr h2)]
      rw [hc]
      go_enter Tryd.func34, Tryd.ntmps34
      go_wp2_with fail
      go_ret2
      exact ⟨rfl, rfl⟩
    · obtain ⟨p, hp⟩ : ∃ p : Nat, part = (p : Int) := ⟨part.toNat, by omega⟩
      subst hp
      have hp0 : 0 < p := by omega
      have hpb : p ≤ 65536 := by omega
      have hc : cntE s (p : Int) = if 1024 < cntN s p then ((0 : Int), (12 : Int)) else (((cntN s p : Nat) : Int), 0) := by unfold cntE; rw [if_neg (by omega)]; rfl
      have hpw : IntKind.u64.wrap (p : Int) = (p : Int) := by rw [IntKind.wrap_u64]; omega
      have hpz : ((p : Int) == 0) = false := by simp; omega
      obtain ⟨q, hq⟩ : ∃ q, q = s / p := ⟨_, rfl⟩
      obtain ⟨r, hr⟩ : ∃ r, r = s % p := ⟨_, rfl⟩
      have hqs : q ≤ s := by rw [hq]; exact Nat.div_le_self _ _
      have hqi : (s : Int) / (p : Int) = (q : Int) := by rw [hq]; simp
      have hri : (s : Int) % (p : Int) = (r : Int) := by rw [hr]; simp
      have hqw : IntKind.u64.wrap (q : Int) = (q : Int) := by rw [IntKind.wrap_u64]; omega
      have hcn : cntN s p = q + (if r = 0 then 0 else 1) := by rw [hq, hr]; rfl
      have hdm : q * p + r = s := by rw [hq, hr, Nat.mul_comm]; exact Nat.div_add_mod s p
      have hrs : r < 65536 := by have := Nat.mod_lt s hp0; omega
      rw [hc, hcn]
      clear hc hcn hq hr
      by_cases hr0 : r = 0
      · have g1 : decide ((0 : Int) < (r : Int)) = false := by simp; omega
        rw [if_pos hr0, Nat.add_zero]
        by_cases hbig : 1024 < q
        · rw [if_pos hbig]
          have g2 : decide ((1024 : Int) < (q : Int)) = true := by simp; omega
          go_enter Tryd.func34, Tryd.ntmps34
          go_wp2_with fail
          go_ret2
          exact ⟨rfl, rfl⟩
        · rw [if_neg hbig]
          have g2 : decide ((1024 : Int) < (q : Int)) = false := by simp; omega
          have hqi6 : IntKind.i64.wrap (q : Int) = (q : Int) := IntWalk.i64_in _ (by omega)
          go_enter Tryd.func34, Tryd.ntmps34
          go_wp2_with fail
          go_ret2
          exact ⟨rfl, rfl⟩
      · have g1 : decide ((0 : Int) < (r : Int)) = true := by simp; omega
        have hq1 : q + 1 < 18446744073709551616 := by
          have := Nat.mul_le_mul_left q (show 1 ≤ p from hp0)
          omega
        have hqw1 : IntKind.u64.wrap ((q : Int) + 1) = (q : Int) + 1 := by rw [IntKind.wrap_u64]; omega
        rw [if_neg hr0]
        by_cases hbig : 1024 < q + 1
        · rw [if_pos hbig]
          have g2 : decide ((1024 : Int) < (q : Int) + 1) = true := by simp; omega
          go_enter Tryd.func34, Tryd.ntmps34
          go_wp2_with fail
          go_ret2
          exact ⟨rfl, rfl⟩
        · rw [if_neg hbig]
          have g2 : decide ((1024 : Int) < (q : Int) + 1) = false := by simp; omega
          have hqi6 : IntKind.i64.wrap ((q : Int) + 1) = (q : Int) + 1 := IntWalk.i64_in _ (by omega)
          go_enter Tryd.func34, Tryd.ntmps34
          go_wp2_with fail
          go_ret2
          exact ⟨rfl, rfl⟩

set_option maxRecDepth 20000 in
theorem refCount_any (s : Nat) (part : Int) (w : World) :
    Calls Tryd.prog 36 #[.int .u64 (s : Int), .int .i64 part] w fun e w' => e = .returned (.tuple #[.int .i64 (cntE s part).1, .int .i64 (cntE s part).2]) ∧ w = w' := by
  by_cases h1 : part < 1
  · have hc : cntE s part = (0, 1) := by unfold cntE; rw [if_pos (.inl h1)]
    rw [hc]
    go_enter Tryd.func36, Tryd.ntmps36
    go_wp2_with fail
    go_ret2
    exact ⟨rfl, rfl⟩
  · by_cases h2 : 65536 < part
    · have hc : cntE s part = (0, 1) := by unfold cntE; rw [if_pos (.inr h2)]
      rw [hc]
      go_enter Tryd.func36, Tryd.ntmps36
      go_wp2_with fail
      go_ret2
      exact ⟨rfl, rfl⟩
    · obtain ⟨p, hp⟩ : ∃ p : Nat, part = (p : Int) := ⟨part.toNat, by omega⟩
      subst hp
      have hp0 : 0 < p := by omega
      have hpb : p ≤ 65536 := by omega
      have hc : cntE s (p : Int) = if 1024 < cntN s p then ((0 : Int), (12 : Int)) else (((cntN s p : Nat) : Int), 0) := by unfold cntE; rw [if_neg (by omega)]; rfl
      have hpw : IntKind.u64.wrap (p : Int) = (p : Int) := by rw [IntKind.wrap_u64]; omega
      have HL := Lib.hid (fun n => cntN_le (s := s) (n := n) hp0)
      have HC := Lib.hid hc
      obtain ⟨ra, hra⟩ : ∃ r, r = (cntE s (p : Int)).1 := ⟨_, rfl⟩
      obtain ⟨rb, hrb⟩ : ∃ r, r = (cntE s (p : Int)).2 := ⟨_, rfl⟩
      rw [← hra, ← hrb]
      have HRA := Lib.hid hra
      have HRB := Lib.hid hrb
      clear hc hra hrb
      go_enter Tryd.func36, Tryd.ntmps36
      go_wp2_with fail
      go_loopg [6] 1025 (fun gh v wx => ∃ k : Nat, k + gh = 1025 ∧ v = .int .u64 (k : Int) ∧ k ≤ cntN s p ∧ wx = w)
      case atStart => exact ⟨0, rfl, rfl, Nat.zero_le _, rfl⟩
      case round =>
        obtain ⟨k, hk, rfl, hle, rfl⟩ := hrel
        have HLE := Lib.hid hle
        clear hle
        by_cases hk1 : k ≤ 1024
        · have g1 : decide ((k : Int) ≤ 1024) = true := by simp; omega
          have hkp : k * p ≤ 1024 * 65536 := Nat.mul_le_mul hk1 hpb
          obtain ⟨z, hz⟩ : ∃ z, z = k * p := ⟨_, rfl⟩
          have hzi : (k : Int) * (p : Int) = (z : Int) := by rw [hz]; simp
          rw [← hz] at hkp
          have hzw : IntKind.u64.wrap (z : Int) = (z : Int) := by rw [IntKind.wrap_u64]; omega
          have HZ := Lib.hid hz
          clear hz
          by_cases hge : s ≤ z
          · have g2 : decide ((s : Int) ≤ (z : Int)) = true := by simp; omega
            have hck : cntN s p = k := by
              have h1 := (HL.out k).1 (by rw [← HZ.out]; exact hge)
              have h2 := HLE.out
              omega
            have hki6 : IntKind.i64.wrap (k : Int) = (k : Int) := IntWalk.i64_in _ (by omega)
            have HRA2 : Hid (ra = (k : Int)) := by unfold Hid; rw [HRA.out, HC.out, hck, if_neg (by omega)]
            have HRB2 : Hid (rb = 0) := by unfold Hid; rw [HRB.out, HC.out, hck, if_neg (by omega)]
            clear hck
            go_wp2_with fail
            go_ret2
            exact ⟨by rw [HRA2.out, HRB2.out]; rfl, rfl⟩
          · have g2 : decide ((s : Int) ≤ (z : Int)) = false := by simp; omega
            have hnx : k + 1 ≤ cntN s p := by
              rcases Nat.lt_or_ge k (cntN s p) with h | h
              · exact h
              · exact absurd ((HL.out k).2 h) (by rw [← HZ.out]; exact hge)
            have HNX := Lib.hid hnx
            clear hnx
            have hkw1 : IntKind.u64.wrap ((k : Int) + 1) = (k : Int) + 1 := by rw [IntKind.wrap_u64]; omega
            go_wp2_with fail
            go_roundg (1025 - (k + 1))
            case measure => omega
            case rel => exact ⟨k + 1, by omega, by go_num, HNX.out, rfl⟩
        · have g1 : decide ((k : Int) ≤ 1024) = false := by simp; omega
          have HRA2 : Hid (ra = 0) := by unfold Hid; rw [HRA.out, HC.out, if_pos (by have := HLE.out; omega)]
          have HRB2 : Hid (rb = 12) := by unfold Hid; rw [HRB.out, HC.out, if_pos (by have := HLE.out; omega)]
          go_wp2_with fail
          go_ret2
          exact ⟨by rw [HRA2.out, HRB2.out]; rfl, rfl⟩

/-- Where part i begins, and how many bytes it has. -/
def longN (s p i : Nat) : Nat := min (s - p * i) p
theorem cnt_ok {s p n : Nat} (h : cntE s (p : Int) = ((n : Int), 0)) (hn : 0 < n) : 1 ≤ p ∧ p ≤ 65536 ∧ n = cntN s p ∧ n ≤ 1024 := by
  unfold cntE at h
  split at h
  · injection h with h1 h2; omega
  · split at h
    · injection h with h1 h2; omega
    · injection h with h1 h2
      have : ((p : Int)).toNat = p := by omega
      rw [this] at h1
      refine ⟨by omega, by omega, by omega, ?_⟩
      next hh => rw [this] at hh; omega
theorem span_in {s p n i : Nat} (hp : 0 < p) (hn : n = cntN s p) (hi : i < n) : p * i < s := by
  rcases Nat.lt_or_ge (p * i) s with h | h
  · exact h
  · have := (cntN_le (n := i) hp).1 (by rw [Nat.mul_comm]; exact h)
    omega

set_option maxRecDepth 20000 in
theorem span_any (s p n i : Nat) (hs : s < 18446744073709551616) (hc : cntE s (p : Int) = ((n : Int), 0)) (hi : i < n) (w : World) :
    Calls Tryd.prog 35 #[.int .u64 (s : Int), .int .i64 (p : Int), .int .i64 (i : Int)] w fun e w' => e = .returned (.tuple #[.int .u64 ((p * i : Nat) : Int), .int .i64 ((longN s p i : Nat) : Int), .int .i64 0]) ∧ w = w' := by
  obtain ⟨hp0, hpb, hn, hn1⟩ := cnt_ok hc (by omega)
  have hin := span_in hp0 hn hi
  have HCT := Lib.hid (count_any s (p : Int) hs w)
  rw [hc] at HCT
  have hpi : p * i ≤ 65536 * 1024 := Nat.mul_le_mul hpb (by omega)
  obtain ⟨z, hz⟩ : ∃ z, z = p * i := ⟨_, rfl⟩
  have hzi : (p : Int) * (i : Int) = (z : Int) := by rw [hz]; simp
  rw [← hz] at hin hpi
  unfold longN
  rw [← hz]
  have hpw : IntKind.u64.wrap (p : Int) = (p : Int) := by rw [IntKind.wrap_u64]; omega
  have hiw : IntKind.u64.wrap (i : Int) = (i : Int) := by rw [IntKind.wrap_u64]; omega
  have hzw : IntKind.u64.wrap (z : Int) = (z : Int) := by rw [IntKind.wrap_u64]; omega
  have hni : decide ((n : Int) ≤ (i : Int)) = false := by simp; omega
  have hi0 : decide ((i : Int) < 0) = false := by simp
  have hsw : IntKind.u64.wrap ((s : Int) - (z : Int)) = ((s - z : Nat) : Int) := by rw [IntKind.wrap_u64]; omega
  have hmn : min ((s - z : Nat) : Int) (p : Int) = ((min (s - z) p : Nat) : Int) := by omega
  have hmw : IntKind.i64.wrap ((min (s - z) p : Nat) : Int) = ((min (s - z) p : Nat) : Int) := IntWalk.i64_in _ (by omega)
  clear hc hn hz
  go_enter Tryd.func35, Tryd.ntmps35
  go_wp2_with (first | (go_at_call 34; refine HCT.out.mono ?_; rintro e w1 ⟨rfl, rfl⟩))
  all_goals (go_ret3; refine ⟨?_, rfl⟩)
  · rw [Nat.min_eq_right (by omega)]; rfl
  · rw [Nat.min_eq_left (by omega)]; rfl

set_option maxRecDepth 20000 in
theorem refSpan_any (s p n i : Nat) (hs : s < 18446744073709551616) (hc : cntE s (p : Int) = ((n : Int), 0)) (hi : i < n) (w : World) :
    Calls Tryd.prog 37 #[.int .u64 (s : Int), .int .i64 (p : Int), .int .i64 (i : Int)] w fun e w' => e = .returned (.tuple #[.int .u64 ((p * i : Nat) : Int), .int .i64 ((longN s p i : Nat) : Int), .int .i64 0]) ∧ w = w' := by
  obtain ⟨hp0, hpb, hn, hn1⟩ := cnt_ok hc (by omega)
  have hin := span_in hp0 hn hi
  have HCT := Lib.hid (refCount_any s (p : Int) w)
  rw [hc] at HCT
  have hpi : p * i ≤ 65536 * 1024 := Nat.mul_le_mul hpb (by omega)
  obtain ⟨z, hz⟩ : ∃ z, z = p * i := ⟨_, rfl⟩
  have hzi : (p : Int) * (i : Int) = (z : Int) := by rw [hz]; simp
  rw [← hz] at hin hpi
  unfold longN
  rw [← hz]
  have hpw : IntKind.u64.wrap (p : Int) = (p : Int) := by rw [IntKind.wrap_u64]; omega
  have hiw : IntKind.u64.wrap (i : Int) = (i : Int) := by rw [IntKind.wrap_u64]; omega
  have hzw : IntKind.u64.wrap (z : Int) = (z : Int) := by rw [IntKind.wrap_u64]; omega
  have hni : decide ((n : Int) ≤ (i : Int)) = false := by simp; omega
  have hi0 : decide ((i : Int) < 0) = false := by simp
  have hsw : IntKind.u64.wrap ((s : Int) - (z : Int)) = ((s - z : Nat) : Int) := by rw [IntKind.wrap_u64]; omega
  clear hc hn hz
  by_cases hlt : s - z < p
  · have g1 : decide (((s - z : Nat) : Int) < (p : Int)) = true := by simp; omega
    have hsi : IntKind.i64.wrap ((s - z : Nat) : Int) = ((s - z : Nat) : Int) := IntWalk.i64_in _ (by omega)
    rw [Nat.min_eq_left (by omega)]
    go_enter Tryd.func37, Tryd.ntmps37
    go_wp2_with (first | (go_at_call 36; refine HCT.out.mono ?_; rintro e w1 ⟨rfl, rfl⟩))
    go_ret3
    exact ⟨rfl, rfl⟩
  · have g1 : decide (((s - z : Nat) : Int) < (p : Int)) = false := by simp; omega
    rw [Nat.min_eq_right (by omega)]
    go_enter Tryd.func37, Tryd.ntmps37
    go_wp2_with (first | (go_at_call 36; refine HCT.out.mono ?_; rintro e w1 ⟨rfl, rfl⟩))
    go_ret3
    exact ⟨rfl, rfl⟩
end Go.Proofs.YtieepdhajjibpaaDoor
