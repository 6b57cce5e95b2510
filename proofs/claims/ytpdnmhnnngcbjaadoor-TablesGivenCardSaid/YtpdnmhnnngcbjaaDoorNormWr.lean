
/- The contracts of the program's writers: writePart, writeRow, noughtsAhead. -/
import Derived.Test.YtpdnmhnnngcbjaaDoorNormMay
namespace Go.Proofs.YtpdnmhnnngcbjaaDoor
open Go.RowKit

theorem nz_zero (ps : List Int) (k : Nat) (h : k < nz ps) : ps[k]? = some 0 := by
  have hs := nz_split ps
  have hk : ps[k]? = (List.replicate (nz ps) 0 ++ ps.drop (nz ps))[k]? := by rw [← hs]
  rw [List.getElem?_append_left (by simpa using h), List.getElem?_replicate, if_pos h] at hk
  exact hk
theorem nz_stop : ∀ (ps : List Int), ps[nz ps]? ≠ some 0
  | [] => by simp
  | p :: r => by
    by_cases hp : p = 0
    · subst hp
      have e : nz (0 :: r) = nz r + 1 := by simp [nz]
      rw [e, List.getElem?_cons_succ]
      exact nz_stop r
    · have e : nz (p :: r) = 0 := by simp [nz, hp]
      rw [e, List.getElem?_cons_zero]
      simpa using hp

set_option maxRecDepth 100000 in
theorem noughts_any {w : World} {lo hi : Nat} {A : Option Addr} {n c : Nat} {ps : List Int} (hd : DatE icel w lo hi A ps) (hn : ps.length = n) (hm : n ≤ 256) :
    Calls Tryd.prog 65 #[.slice A n c] w fun e w' => e = .returned (.int .i64 (nz ps : Nat)) ∧ w = w' := by
  have HD := Lib.hid hd
  have HN := Lib.hid hn
  have HZ := Lib.hid (nz_zero ps)
  have HS := Lib.hid (nz_stop ps)
  have hle := nz_le ps
  have hle2 : nz ps ≤ n := by omega
  clear hd hn hle
  generalize nz ps = z at *
  go_enter Tryd.func65, Tryd.ntmps65
  go_wp2_with fail
  go_loop [3] (fun i => ∃ k : Nat, k ≤ z ∧ i = .int .i64 k) (fun i => n - (intOf i).toNat)
  case atStart => exact ⟨0, Nat.zero_le _, rfl⟩
  case round =>
    obtain ⟨k, hk, rfl⟩ := hrel
    by_cases hlt : k < z
    · have hkl : k < ps.length := by have := HN.out; omega
      obtain ⟨d, o, rfl, _, _, hc⟩ := HD.out (by omega)
      have hc0 := hc k hkl
      have hz0 : ps[k] = 0 := by
        have h1 := HZ.out k hlt
        rw [List.getElem?_eq_getElem hkl] at h1
        injection h1
      rw [hz0] at hc0
      unfold icel at hc0
      clear hc hz0
      have hki : (k : Int) < (n : Int) := by omega
      go_wp2_with fail
      go_round
      case rel => exact ⟨k + 1, by omega, by go_num⟩
      case measure => simp [intOf]; omega
    · obtain rfl : k = z := by omega
      by_cases hln : k < n
      · have hkl : k < ps.length := by have := HN.out; omega
        obtain ⟨d, o, rfl, _, _, hc⟩ := HD.out (by omega)
        have hc0 := hc k hkl
        have hz0 : ps[k] ≠ 0 := by
          have h1 := HS.out
          rw [List.getElem?_eq_getElem hkl] at h1
          intro e
          exact h1 (by rw [e])
        unfold icel at hc0
        generalize ps[k] = p at *
        have hp0 : (p == 0) = false := by simp [hz0]
        have hki : (k : Int) < (n : Int) := by omega
        clear hc
        go_wp2_with fail
        go_ret
        exact ⟨rfl, rfl⟩
      · obtain rfl : k = n := by omega
        have hki : decide ((k : Int) < (k : Int)) = false := by simp
        go_wp2_with fail
        go_ret
        exact ⟨rfl, rfl⟩

section
variable {w : World} {base g : Nat} {v : Value} {l : List Bool}
/-- What a Writer's method leaves when it has written the bits b. -/
def Wrote (w : World) (base g : Nat) (v : Value) (l b : List Bool) (e : Ending) (w' : World) : Prop :=
  e = .returned (.tuple #[]) ∧ ∃ v', WR w' base g v' (l ++ b) ∧ Foot w w' g v.ownBlock ∧ Near w v.ownBlock v'.ownBlock

theorem Foot.drawn {w w' : World} {g : Nat} {r : Option Nat} (n : Nat) (h : Foot (w.drewN n) w' g r) : Foot w w' g r := ⟨h.os, h.tape, h.output, h.size, h.block⟩
theorem Near.drawn {w : World} {r r' : Option Nat} (n : Nat) (h : Near (w.drewN n) r r') : Near w r r' := h
theorem WR.drawn (h : WR w base g v l) (n : Nat) : WR (w.drewN n) base g v l := h

set_option maxRecDepth 100000 in
theorem writePart_any (p : Int) (left : Nat) (h : WR w base g v l) (hl : l.length ≤ 1000000000) (h0 : 0 < left) (h1 : left ≤ 32768) (hp : -1 ≤ p) (hpl : p ≤ left) :
    Calls Tryd.prog 63 #[.pointer (some ⟨g, 0, none⟩), .int .i64 p, .int .i64 (left : Int)] w (Wrote w base g v l (partBits p left)) := by
  have hln : ln left < 16 := ln_lt (by omega)
  have hlp := ln_pos h0
  have ha := hf_le left
  have hb := lt_hf left
  have hfr : fr left = 2 * hf left - 2 - left := rfl
  have hfr2 : fr left ≤ 65536 := by omega
  have hpow : (2 : Int) ^ ln left = (hf left : Nat) := by unfold hf; simp
  have HPow := Lib.hid hpow
  obtain ⟨q, hq⟩ : ∃ q : Nat, p + 1 = (q : Int) := ⟨(p + 1).toNat, by omega⟩
  obtain rfl : p = (q : Int) - 1 := by omega
  have hql : q ≤ left + 1 := by omega
  have HD := Lib.hid (width_any left w h0 h1)
  have HW := Lib.hid h
  have hpt : ((q : Int) - 1 + 1).toNat = q := by omega
  have HPT := Lib.hid hpt
  clear hpt hq hpow hp hpl h hfr
  have HFr : Hid (fr left = 2 * hf left - 2 - left) := rfl
  by_cases c1 : q < fr left
  · have HB : Hid (partBits ((q : Int) - 1) left = low q (ln left)) := by unfold Hid partBits; rw [HPT.out, if_pos c1]
    have c1i : (q : Int) < (fr left : Int) := by omega
    go_enter Tryd.func63, Tryd.ntmps63
    go_wp2_with fail
    refine HD.out.mono ?_
    rintro e w1 ⟨rfl, n, rfl⟩
    go_wp2_with fail
    refine (write_yes q (ln left) (HW.out.drawn n) hlp (by omega) (by omega) (by omega)).mono ?_
    rintro e w2 ⟨rfl, v', hw, hF, hN⟩
    have HR : Hid (Wrote w base g v l (partBits ((q : Int) - 1) left) (.returned (.tuple #[])) w2) := by
      rw [HB.out]
      exact ⟨rfl, v', hw, hF.drawn n, hN.drawn n⟩
    clear hw hF hN
    go_wp2_with fail
    go_end0
    exact HR.out
  · have c1i : decide ((q : Int) < (fr left : Int)) = false := by simp; omega
    by_cases c2 : q < hf left
    · have HB : Hid (partBits ((q : Int) - 1) left = low q (ln left + 1)) := by unfold Hid partBits; rw [HPT.out, if_neg c1, if_pos c2]
      have c2i : (q : Int) < (hf left : Int) := by omega
      go_enter Tryd.func63, Tryd.ntmps63
      go_wp2_with fail
      refine HD.out.mono ?_
      rintro e w1 ⟨rfl, n, rfl⟩
      have hpow := HPow.out
      go_wp2_with fail
      refine (write_yes q (ln left + 1) (HW.out.drawn n) (by omega) (by omega) (by omega) (by omega)).mono ?_
      rintro e w2 ⟨rfl, v', hw, hF, hN⟩
      have HR : Hid (Wrote w base g v l (partBits ((q : Int) - 1) left) (.returned (.tuple #[])) w2) := by
        rw [HB.out]
        exact ⟨rfl, v', hw, hF.drawn n, hN.drawn n⟩
      clear hw hF hN
      go_wp2_with fail
      go_end0
      exact HR.out
    · have HB : Hid (partBits ((q : Int) - 1) left = low (q + fr left) (ln left + 1)) := by unfold Hid partBits; rw [HPT.out, if_neg c1, if_neg c2]
      have c2i : decide ((q : Int) < (hf left : Int)) = false := by simp; omega
      go_enter Tryd.func63, Tryd.ntmps63
      go_wp2_with fail
      refine HD.out.mono ?_
      rintro e w1 ⟨rfl, n, rfl⟩
      have hpow := HPow.out
      go_wp2_with fail
      refine (write_yes (q + fr left) (ln left + 1) (HW.out.drawn n) (by omega) (by omega) (by omega) (by omega)).mono ?_
      rintro e w2 ⟨rfl, v', hw, hF, hN⟩
      have HR : Hid (Wrote w base g v l (partBits ((q : Int) - 1) left) (.returned (.tuple #[])) w2) := by
        rw [HB.out]
        exact ⟨rfl, v', hw, hF.drawn n, hN.drawn n⟩
      clear hw hF hN
      go_wp2_with fail
      go_end0
      exact HR.out

theorem rowBits_three (r : Nat) : rowBits (r + 3) = low 3 2 ++ rowBits r := rfl
theorem rowBits_less {r : Nat} (h : r < 3) : rowBits r = low r 2 := by
  match r, h with
  | 0, _ => rfl
  | 1, _ => rfl
  | 2, _ => rfl
  | s + 3, h => omega
theorem rowBits_len (r : Nat) : (rowBits r).length ≤ r + 2 := by
  induction r using Nat.strongRecOn with
  | ind r ih =>
    by_cases h : r < 3
    · rw [rowBits_less h, low_length]; omega
    · obtain ⟨s, rfl⟩ : ∃ s, r = s + 3 := ⟨r - 3, by omega⟩
      have := ih s (by omega)
      rw [rowBits_three, List.length_append, low_length]
      omega
theorem partBits_len (p : Int) (left : Nat) (h : left ≤ 32768) : (partBits p left).length ≤ 16 := by
  have : ln left < 16 := ln_lt (by omega)
  unfold partBits
  split
  · rw [low_length]; omega
  · split <;> rw [low_length] <;> omega

set_option maxRecDepth 100000 in
set_option maxHeartbeats 800000 in
theorem writeRow_any (r : Nat) (h : WR w base g v l) (hl : l.length ≤ 1000000000) (hr : r ≤ 1000000000) :
    Calls Tryd.prog 66 #[.pointer (some ⟨g, 0, none⟩), .int .i64 (r : Int)] w (Wrote w base g v l (rowBits r)) := by
  have HW := Lib.hid h
  have hlen : (l ++ rowBits r).length ≤ 3000000000 := by
    have := rowBits_len r
    rw [List.length_append]
    omega
  clear h
  go_enter Tryd.func66, Tryd.ntmps66
  go_wp2_with fail
  go_loopg [1] r (fun gh x wx => ∃ (r1 : Nat) (lc : List Bool) (v1 : Value), x = .int .i64 r1 ∧ r1 ≤ gh ∧ r1 ≤ 1000000000 ∧ lc ++ rowBits r1 = l ++ rowBits r ∧ WR wx base g v1 lc ∧ Foot w wx g v.ownBlock ∧ Near w v.ownBlock v1.ownBlock)
  case atStart => exact ⟨r, l, v, rfl, Nat.le_refl _, hr, rfl, HW.out, Foot.refl _ _ _, Near.refl _ _⟩
  case round =>
    obtain ⟨r1, lc, v1, rfl, hgh, hr1, heq, hw, hF, hN⟩ := hrel
    have hlc : lc.length ≤ 3000000000 := by
      have := congrArg List.length heq
      simp only [List.length_append] at this hlen
      omega
    have HE := Lib.hid heq
    have HF := Lib.hid hF
    have HN := Lib.hid hN
    have HW1 := Lib.hid hw
    clear heq hF hN hw
    by_cases h3 : 3 ≤ r1
    · obtain ⟨s, rfl⟩ : ∃ s, r1 = s + 3 := ⟨r1 - 3, by omega⟩
      have hs : (3 : Int) ≤ ((s + 3 : Nat) : Int) := by omega
      have HC := Lib.hid (write_yes 3 2 HW1.out (by decide) (by decide) (by decide) (by omega))
      go_wp2_with fail
      refine HC.out.mono ?_
      rintro e w2 ⟨rfl, v2, hw, hF, hN⟩
      have HW2 := Lib.hid hw
      have HF2 := Lib.hid (HF.out.trans HN.out hF)
      have HN2 := Lib.hid (HN.out.trans hN HF.out.size)
      clear hw hF hN
      go_wp2_with fail
      go_roundg s
      case rel => exact ⟨s, _, v2, by go_num, Nat.le_refl _, by omega, by rw [← HE.out, rowBits_three, List.append_assoc], HW2.out, HF2.out, HN2.out⟩
      case measure => omega
    · have h3i : ¬ (3 : Int) ≤ (r1 : Int) := by omega
      have HC := Lib.hid (write_yes r1 2 HW1.out (by decide) (by decide) (by omega) (by omega))
      have HR := Lib.hid (rowBits_less (r := r1) (by omega))
      go_wp2_with fail
      refine HC.out.mono ?_
      rintro e w2 ⟨rfl, v2, hw, hF, hN⟩
      have HQ : Hid (Wrote w base g v l (rowBits r) (.returned (.tuple #[])) w2) := by
        refine ⟨rfl, v2, ?_, HF.out.trans HN.out hF, HN.out.trans hN HF.out.size⟩
        rw [← HE.out, HR.out]
        exact hw
      clear hw hF hN
      go_wp2_with fail
      go_end0
      exact HQ.out
end
end Go.Proofs.YtpdnmhnnngcbjaaDoor
