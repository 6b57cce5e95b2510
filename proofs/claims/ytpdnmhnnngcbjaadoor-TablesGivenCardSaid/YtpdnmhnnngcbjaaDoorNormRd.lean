
/- The contracts of the program's readers: readLog, readPart, readRow. -/
import Derived.Test.YtpdnmhnnngcbjaaDoorNormNum
import Derived.Deep.LoopGhost
import Derived.Deep.CutRange
import Derived.Deep.DeepCutAuto
import Derived.Outline
namespace Go.Proofs.YtpdnmhnnngcbjaaDoor
open Go.RowKit

theorem fread_rd (xs : List UInt8) (a n : Nat) (h : n ≤ 32) : fread xs a (n : Int) = match rd (bitsOf xs) a n with | none => (0, 10, a) | some x => (x, 0, a + n) := by
  unfold fread rd
  rw [if_neg (by omega), bitsOf_length]
  by_cases c : a + n ≤ 8 * xs.length
  · rw [if_neg (by omega), if_pos c]
    rfl
  · rw [if_pos (by omega), if_neg c]
theorem fread_some {xs : List UInt8} {a n x : Nat} (h : n ≤ 32) (hr : rd (bitsOf xs) a n = some x) : fread xs a (n : Int) = (x, 0, a + n) := by rw [fread_rd xs a n h, hr]
theorem fread_none {xs : List UInt8} {a n : Nat} (h : n ≤ 32) (hr : rd (bitsOf xs) a n = none) : fread xs a (n : Int) = (0, 10, a) := by rw [fread_rd xs a n h, hr]

set_option maxRecDepth 100000 in
theorem readLog_yes {w : World} {lo g : Nat} {xs : List UInt8} (most : Int) {x : Nat} (hw : FW w lo g xs 0) (hr : rd (bitsOf xs) 0 4 = some x) (h1 : ((x + 5 : Nat) : Int) ≤ most) (h2 : x + 5 ≤ 15) :
    Calls Tryd.prog 73 #[.pointer (some ⟨g, 0, none⟩), .int .i64 most] w fun e w' => e = .returned (.tuple #[.int .i64 (x + 5 : Nat), .int .i64 0]) ∧ FW w' lo g xs 4 ∧ Stp w w' g := by
  have hf := fread_some (xs := xs) (by omega) hr
  have HF := Lib.hid (fread_any 4 hw)
  have HE := Lib.hid hf
  have hx := (rd_lt hr).1
  have hm : ¬ most < (x : Int) + 5 := by omega
  clear hw hr hf
  go_enter Tryd.func73, Tryd.ntmps73
  go_wp2_with fail
  refine HF.out.mono ?_
  rintro e w1 ⟨rfl, hw, hs⟩
  rw [show fread xs 0 4 = (x, 0, 4) from HE.out] at hw ⊢
  have HW := Lib.hid hw
  have HS := Lib.hid hs
  clear hw hs
  go_wp2_with fail
  all_goals
    go_ret2
    exact ⟨rfl, HW.out, HS.out⟩
set_option maxRecDepth 100000 in
theorem readLog_no {w : World} {lo g : Nat} {xs : List UInt8} (most : Int) (hw : FW w lo g xs 0) (hr : rd (bitsOf xs) 0 4 = none) :
    Calls Tryd.prog 73 #[.pointer (some ⟨g, 0, none⟩), .int .i64 most] w fun e w' => e = .returned (.tuple #[.int .i64 0, .int .i64 10]) ∧ Stp w w' g := by
  have hf := fread_none (xs := xs) (by omega) hr
  have HF := Lib.hid (fread_any 4 hw)
  have HE := Lib.hid hf
  clear hw hr hf
  go_enter Tryd.func73, Tryd.ntmps73
  go_wp2_with fail
  refine HF.out.mono ?_
  rintro e w1 ⟨rfl, hw, hs⟩
  rw [show fread xs 0 4 = (0, 10, 0) from HE.out] at hw ⊢
  have HS := Lib.hid hs
  clear hw hs
  go_wp2_with fail
  go_ret2
  exact ⟨rfl, HS.out⟩
set_option maxRecDepth 100000 in
theorem readLog_big {w : World} {lo g : Nat} {xs : List UInt8} (most : Int) {x : Nat} (hw : FW w lo g xs 0) (hr : rd (bitsOf xs) 0 4 = some x) (h : most < ((x + 5 : Nat) : Int) ∨ 15 < x + 5) :
    Calls Tryd.prog 73 #[.pointer (some ⟨g, 0, none⟩), .int .i64 most] w fun e w' => e = .returned (.tuple #[.int .i64 0, .int .i64 12]) ∧ Stp w w' g := by
  have hf := fread_some (xs := xs) (by omega) hr
  have HF := Lib.hid (fread_any 4 hw)
  have HE := Lib.hid hf
  have hx := (rd_lt hr).1
  have H := Lib.hid h
  clear hw hr hf h
  go_enter Tryd.func73, Tryd.ntmps73
  go_wp2_with fail
  refine HF.out.mono ?_
  rintro e w1 ⟨rfl, hw, hs⟩
  rw [show fread xs 0 4 = (x, 0, 4) from HE.out] at hw ⊢
  have HS := Lib.hid hs
  clear hw hs
  by_cases hm : most ≤ 15
  · have h1 : most < (x : Int) + 5 := by have := H.out; omega
    go_wp2_with fail
    go_ret2
    exact ⟨rfl, HS.out⟩
  · have h1 : (15 : Int) < (x : Int) + 5 := by have := H.out; omega
    have h2 : (15 : Int) < most := by omega
    go_wp2_with fail
    go_ret2
    exact ⟨rfl, HS.out⟩

theorem Stp.trans {w w' w'' : World} {g : Nat} (h : Stp w w' g) (h' : Stp w' w'' g) : Stp w w'' g :=
  ⟨⟨h'.1.os.trans h.1.os, h'.1.tape.trans h.1.tape, h'.1.output.trans h.1.output, by rw [h'.2, h.2]; exact Nat.le_refl _, fun k hk hg => (h'.1.block k (by rw [h.2]; exact hk) hg).trans (h.1.block k hk hg)⟩, h'.2.trans h.2⟩
set_option maxRecDepth 100000 in
theorem readPart_a {w : World} {lo g at_ : Nat} {xs : List UInt8} {left x : Nat} (hw : FW w lo g xs at_) (h1 : 0 < left) (h2 : left ≤ 32768) (hr : rd (bitsOf xs) at_ (ln left) = some x) (hlt : x < fr left) :
    Calls Tryd.prog 83 #[.pointer (some ⟨g, 0, none⟩), .int .i64 (left : Int)] w fun e w' => e = .returned (.tuple #[.int .i64 ((x : Int) - 1), .int .i64 0]) ∧ FW w' lo g xs (at_ + ln left) ∧ Stp w w' g := by
  have hln : ln left < 16 := ln_lt (by omega)
  have ha := hf_le left
  have hb := lt_hf left
  have hfr : fr left = 2 * hf left - 2 - left := rfl
  have hfr2 : fr left ≤ 65536 := by omega
  have HPow : Hid ((2 : Int) ^ ln left = (hf left : Nat)) := by unfold Hid hf; simp
  have HW := Lib.hid hw
  have HD := Lib.hid (width_any left w h1 h2)
  have HE := Lib.hid (fread_some (xs := xs) (by omega) hr)
  have hx := (rd_lt hr).1
  have hh : 2 ^ ln left = hf left := rfl
  rw [hh] at hx
  clear hh hr
  clear hw hfr
  go_enter Tryd.func83, Tryd.ntmps83
  go_wp2_with fail
  refine HD.out.mono ?_
  rintro e w1 ⟨rfl, n, rfl⟩
  have HR := Lib.hid (fread_any (ln left : Nat) (HW.out.drawn n))
  go_wp2_with fail
  refine HR.out.mono ?_
  rintro e w2 ⟨rfl, hw, hs⟩
  rw [HE.out] at hw ⊢
  have HW2 := Lib.hid hw
  have HS2 := Lib.hid hs.drawn
  clear hw hs
  go_wp2_with fail
  go_ret2
  exact ⟨rfl, HW2.out, HS2.out⟩
set_option maxRecDepth 100000 in
theorem readPart_b {w : World} {lo g at_ : Nat} {xs : List UInt8} {left x y : Nat} (hw : FW w lo g xs at_) (h1 : 0 < left) (h2 : left ≤ 32768) (hr : rd (bitsOf xs) at_ (ln left) = some x) (hge : fr left ≤ x) (hr2 : rd (bitsOf xs) (at_ + ln left) 1 = some y) (hy : y = 1) :
    Calls Tryd.prog 83 #[.pointer (some ⟨g, 0, none⟩), .int .i64 (left : Int)] w fun e w' => e = .returned (.tuple #[.int .i64 (((x + hf left - fr left : Nat) : Int) - 1), .int .i64 0]) ∧ FW w' lo g xs (at_ + ln left + 1) ∧ Stp w w' g := by
  have hln : ln left < 16 := ln_lt (by omega)
  have ha := hf_le left
  have hb := lt_hf left
  have hfr : fr left = 2 * hf left - 2 - left := rfl
  have hfr2 : fr left ≤ 65536 := by omega
  have HPow : Hid ((2 : Int) ^ ln left = (hf left : Nat)) := by unfold Hid hf; simp
  have HW := Lib.hid hw
  have HD := Lib.hid (width_any left w h1 h2)
  have HE := Lib.hid (fread_some (xs := xs) (by omega) hr)
  have hx := (rd_lt hr).1
  have hh : 2 ^ ln left = hf left := rfl
  rw [hh] at hx
  clear hh hr
  have HE2 := Lib.hid (show fread xs (at_ + ln left) 1 = (y, 0, at_ + ln left + 1) from fread_some (xs := xs) (n := 1) (by omega) hr2)
  clear hr2
  clear hw hfr
  go_enter Tryd.func83, Tryd.ntmps83
  go_wp2_with fail
  refine HD.out.mono ?_
  rintro e w1 ⟨rfl, n, rfl⟩
  have HR := Lib.hid (fread_any (ln left : Nat) (HW.out.drawn n))
  go_wp2_with fail
  refine HR.out.mono ?_
  rintro e w2 ⟨rfl, hw, hs⟩
  rw [HE.out] at hw ⊢
  have HW2 := Lib.hid hw
  have HS2 := Lib.hid hs.drawn
  clear hw hs
  subst hy
  have HR2 := Lib.hid (fread_any 1 HW2.out)
  go_wp2_with fail
  refine HR2.out.mono ?_
  rintro e w3 ⟨rfl, hw, hs⟩
  rw [HE2.out] at hw ⊢
  have HW3 := Lib.hid hw
  have HS3 := Lib.hid (HS2.out.trans hs)
  clear hw hs
  have hpow := HPow.out
  go_wp2_with fail
  go_ret2
  refine ⟨?_, HW3.out, HS3.out⟩
  have e : ((x + hf left - fr left : Nat) : Int) - 1 = (x : Int) + ((hf left : Int) - (fr left : Int)) - 1 := by omega
  rw [e]
  rfl
set_option maxRecDepth 100000 in
theorem readPart_c {w : World} {lo g at_ : Nat} {xs : List UInt8} {left x y : Nat} (hw : FW w lo g xs at_) (h1 : 0 < left) (h2 : left ≤ 32768) (hr : rd (bitsOf xs) at_ (ln left) = some x) (hge : fr left ≤ x) (hr2 : rd (bitsOf xs) (at_ + ln left) 1 = some y) (hy : y ≠ 1) :
    Calls Tryd.prog 83 #[.pointer (some ⟨g, 0, none⟩), .int .i64 (left : Int)] w fun e w' => e = .returned (.tuple #[.int .i64 ((x : Int) - 1), .int .i64 0]) ∧ FW w' lo g xs (at_ + ln left + 1) ∧ Stp w w' g := by
  have hln : ln left < 16 := ln_lt (by omega)
  have ha := hf_le left
  have hb := lt_hf left
  have hfr : fr left = 2 * hf left - 2 - left := rfl
  have hfr2 : fr left ≤ 65536 := by omega
  have HPow : Hid ((2 : Int) ^ ln left = (hf left : Nat)) := by unfold Hid hf; simp
  have HW := Lib.hid hw
  have HD := Lib.hid (width_any left w h1 h2)
  have HE := Lib.hid (fread_some (xs := xs) (by omega) hr)
  have hx := (rd_lt hr).1
  have hh : 2 ^ ln left = hf left := rfl
  rw [hh] at hx
  clear hh hr
  have hy0 : y = 0 := by have := (rd_lt hr2).1; omega
  have HE2 := Lib.hid (show fread xs (at_ + ln left) 1 = (y, 0, at_ + ln left + 1) from fread_some (xs := xs) (n := 1) (by omega) hr2)
  clear hr2
  clear hw hfr
  go_enter Tryd.func83, Tryd.ntmps83
  go_wp2_with fail
  refine HD.out.mono ?_
  rintro e w1 ⟨rfl, n, rfl⟩
  have HR := Lib.hid (fread_any (ln left : Nat) (HW.out.drawn n))
  go_wp2_with fail
  refine HR.out.mono ?_
  rintro e w2 ⟨rfl, hw, hs⟩
  rw [HE.out] at hw ⊢
  have HW2 := Lib.hid hw
  have HS2 := Lib.hid hs.drawn
  clear hw hs
  subst hy0
  have HR2 := Lib.hid (fread_any 1 HW2.out)
  go_wp2_with fail
  refine HR2.out.mono ?_
  rintro e w3 ⟨rfl, hw, hs⟩
  rw [HE2.out] at hw ⊢
  have HW3 := Lib.hid hw
  have HS3 := Lib.hid (HS2.out.trans hs)
  clear hw hs
  go_wp2_with fail
  go_ret2
  exact ⟨rfl, HW3.out, HS3.out⟩
set_option maxRecDepth 100000 in
theorem readPart_d {w : World} {lo g at_ : Nat} {xs : List UInt8} {left : Nat} (hw : FW w lo g xs at_) (h1 : 0 < left) (h2 : left ≤ 32768) (hr : rd (bitsOf xs) at_ (ln left) = none) :
    Calls Tryd.prog 83 #[.pointer (some ⟨g, 0, none⟩), .int .i64 (left : Int)] w fun e w' => e = .returned (.tuple #[.int .i64 0, .int .i64 10]) ∧ Stp w w' g := by
  have hln : ln left < 16 := ln_lt (by omega)
  have ha := hf_le left
  have hb := lt_hf left
  have hfr : fr left = 2 * hf left - 2 - left := rfl
  have hfr2 : fr left ≤ 65536 := by omega
  have HPow : Hid ((2 : Int) ^ ln left = (hf left : Nat)) := by unfold Hid hf; simp
  have HW := Lib.hid hw
  have HD := Lib.hid (width_any left w h1 h2)
  have HE := Lib.hid (fread_none (xs := xs) (by omega) hr)
  clear hr
  clear hw hfr
  go_enter Tryd.func83, Tryd.ntmps83
  go_wp2_with fail
  refine HD.out.mono ?_
  rintro e w1 ⟨rfl, n, rfl⟩
  have HR := Lib.hid (fread_any (ln left : Nat) (HW.out.drawn n))
  go_wp2_with fail
  refine HR.out.mono ?_
  rintro e w2 ⟨rfl, hw, hs⟩
  rw [HE.out] at hw ⊢
  have HW2 := Lib.hid hw
  have HS2 := Lib.hid hs.drawn
  clear hw hs
  go_wp2_with fail
  go_ret2
  exact ⟨rfl, HS2.out⟩
set_option maxRecDepth 100000 in
theorem readPart_e {w : World} {lo g at_ : Nat} {xs : List UInt8} {left x : Nat} (hw : FW w lo g xs at_) (h1 : 0 < left) (h2 : left ≤ 32768) (hr : rd (bitsOf xs) at_ (ln left) = some x) (hge : fr left ≤ x) (hr2 : rd (bitsOf xs) (at_ + ln left) 1 = none) :
    Calls Tryd.prog 83 #[.pointer (some ⟨g, 0, none⟩), .int .i64 (left : Int)] w fun e w' => e = .returned (.tuple #[.int .i64 0, .int .i64 10]) ∧ Stp w w' g := by
  have hln : ln left < 16 := ln_lt (by omega)
  have ha := hf_le left
  have hb := lt_hf left
  have hfr : fr left = 2 * hf left - 2 - left := rfl
  have hfr2 : fr left ≤ 65536 := by omega
  have HPow : Hid ((2 : Int) ^ ln left = (hf left : Nat)) := by unfold Hid hf; simp
  have HW := Lib.hid hw
  have HD := Lib.hid (width_any left w h1 h2)
  have HE := Lib.hid (fread_some (xs := xs) (by omega) hr)
  have hx := (rd_lt hr).1
  have hh : 2 ^ ln left = hf left := rfl
  rw [hh] at hx
  clear hh hr
  have HE2 := Lib.hid (show fread xs (at_ + ln left) 1 = (0, 10, at_ + ln left) from fread_none (xs := xs) (n := 1) (by omega) hr2)
  clear hr2
  clear hw hfr
  go_enter Tryd.func83, Tryd.ntmps83
  go_wp2_with fail
  refine HD.out.mono ?_
  rintro e w1 ⟨rfl, n, rfl⟩
  have HR := Lib.hid (fread_any (ln left : Nat) (HW.out.drawn n))
  go_wp2_with fail
  refine HR.out.mono ?_
  rintro e w2 ⟨rfl, hw, hs⟩
  rw [HE.out] at hw ⊢
  have HW2 := Lib.hid hw
  have HS2 := Lib.hid hs.drawn
  clear hw hs
  have HR2 := Lib.hid (fread_any 1 HW2.out)
  go_wp2_with fail
  refine HR2.out.mono ?_
  rintro e w3 ⟨rfl, hw, hs⟩
  rw [HE2.out] at hw ⊢
  have HW3 := Lib.hid hw
  have HS3 := Lib.hid (HS2.out.trans hs)
  clear hw hs
  go_wp2_with fail
  go_ret2
  exact ⟨rfl, HS3.out⟩
theorem readPart_yes {w : World} {lo g at_ : Nat} {xs : List UInt8} {left v a1 : Nat} (hw : FW w lo g xs at_) (h1 : 0 < left) (h2 : left ≤ 32768) (hv : nextV (bitsOf xs) at_ left = some (v, a1)) :
    Calls Tryd.prog 83 #[.pointer (some ⟨g, 0, none⟩), .int .i64 (left : Int)] w fun e w' => e = .returned (.tuple #[.int .i64 ((v : Int) - 1), .int .i64 0]) ∧ FW w' lo g xs a1 ∧ Stp w w' g := by
  unfold nextV at hv
  split at hv
  · cases hv
  · next x hx =>
    split at hv
    · next hlt =>
      simp only [Option.some.injEq, Prod.mk.injEq] at hv
      obtain ⟨rfl, rfl⟩ := hv
      exact readPart_a hw h1 h2 hx hlt
    · next hge =>
      split at hv
      · cases hv
      · next y hy =>
        simp only [Option.some.injEq, Prod.mk.injEq] at hv
        obtain ⟨rfl, rfl⟩ := hv
        by_cases hy1 : y = 1
        · rw [if_pos hy1]
          exact readPart_b hw h1 h2 hx (by omega) hy hy1
        · rw [if_neg hy1]
          exact readPart_c hw h1 h2 hx (by omega) hy hy1
theorem readPart_no {w : World} {lo g at_ : Nat} {xs : List UInt8} {left : Nat} (hw : FW w lo g xs at_) (h1 : 0 < left) (h2 : left ≤ 32768) (hv : nextV (bitsOf xs) at_ left = none) :
    Calls Tryd.prog 83 #[.pointer (some ⟨g, 0, none⟩), .int .i64 (left : Int)] w fun e w' => e = .returned (.tuple #[.int .i64 0, .int .i64 10]) ∧ Stp w w' g := by
  unfold nextV at hv
  split at hv
  · next hx => exact readPart_d hw h1 h2 hx
  · next x hx =>
    split at hv
    · cases hv
    · next hge =>
      split at hv
      · next hy => exact readPart_e hw h1 h2 hx (by omega) hy
      · cases hv

set_option maxRecDepth 100000 in
set_option maxHeartbeats 800000 in
theorem readRow_yes {w : World} {lo g at_ : Nat} {xs : List UInt8} {f r a2 : Nat} (hw : FW w lo g xs at_) (hr : rowA f (bitsOf xs) at_ 0 = some (r, a2)) :
    Calls Tryd.prog 84 #[.pointer (some ⟨g, 0, none⟩)] w fun e w' => e = .returned (.tuple #[.int .i64 (r : Int), .int .i64 0]) ∧ FW w' lo g xs a2 ∧ Stp w w' g := by
  have HW := Lib.hid hw
  have HR := Lib.hid hr
  clear hw hr
  go_enter Tryd.func84, Tryd.ntmps84
  go_wp2_with fail
  go_step3
  go_wp2_with fail
  go_step3
  go_wp2_with fail

  go_loopg [4] f (fun gh x wx => ∃ acc at1 : Nat, x = .int .i64 acc ∧ acc ≤ 2 * at1 ∧ FW wx lo g xs at1 ∧ Stp w wx g ∧ rowA gh (bitsOf xs) at1 acc = some (r, a2))
  case atStart => exact ⟨0, at_, rfl, by omega, HW.out, ⟨World.grownBy.refl _ _, rfl⟩, HR.out⟩
  case round =>
    obtain ⟨acc, at1, rfl, hacc, hw, hs, hr⟩ := hrel
    have HW := Lib.hid hw
    have HS := Lib.hid hs
    have hat := hw.2.1
    have hxl := hw.2.2.1
    have HF := Lib.hid (fread_any 2 hw)
    clear hw hs
    cases gk with
    | zero => cases hr
    | succ f' =>
      rw [rowA] at hr
      split at hr
      · cases hr
      · next x hx =>
        have hxl := rd_lt hx
        have HE := Lib.hid (show fread xs at1 2 = (x, 0, at1 + 2) from fread_some (n := 2) (by omega) hx)
        clear hx
        by_cases h3 : x < 3
        · rw [if_pos h3] at hr
          simp only [Option.some.injEq, Prod.mk.injEq] at hr
          obtain ⟨rfl, rfl⟩ := hr
          go_wp2_with fail
          refine HF.out.mono ?_
          rintro e w2 ⟨rfl, hw, hs⟩
          rw [HE.out] at hw ⊢
          have HW2 := Lib.hid hw
          have HS2 := Lib.hid (HS.out.trans hs)
          clear hw hs
          go_wp2_with fail
          rw [Exit.noGoto_ret]
          go_ret2
          exact ⟨rfl, HW2.out, HS2.out⟩
        · rw [if_neg h3] at hr
          have HR := Lib.hid hr
          clear hr
          go_wp2_with fail
          refine HF.out.mono ?_
          rintro e w2 ⟨rfl, hw, hs⟩
          rw [HE.out] at hw ⊢
          have HW2 := Lib.hid hw
          have HS2 := Lib.hid (HS.out.trans hs)
          clear hw hs
          go_wp2_with fail
          go_roundg f'
          case rel => exact ⟨acc + 3, at1 + 2, by go_num, by omega, HW2.out, HS2.out, HR.out⟩
          case measure => omega
set_option maxRecDepth 100000 in
set_option maxHeartbeats 800000 in
theorem readRow_no {w : World} {lo g at_ : Nat} {xs : List UInt8} {f : Nat} (hw : FW w lo g xs at_) (hr : rowA f (bitsOf xs) at_ 0 = none) (hf : 8 * xs.length < f + at_) :
    Calls Tryd.prog 84 #[.pointer (some ⟨g, 0, none⟩)] w fun e w' => e = .returned (.tuple #[.int .i64 0, .int .i64 10]) ∧ Stp w w' g := by
  have HW := Lib.hid hw
  have HR := Lib.hid hr
  clear hw hr
  go_enter Tryd.func84, Tryd.ntmps84
  go_wp2_with fail
  go_step3
  go_wp2_with fail
  go_step3
  go_wp2_with fail

  go_loopg [4] f (fun gh x wx => ∃ acc at1 : Nat, x = .int .i64 acc ∧ acc ≤ 2 * at1 ∧ FW wx lo g xs at1 ∧ Stp w wx g ∧ rowA gh (bitsOf xs) at1 acc = none ∧ 8 * xs.length < gh + at1)
  case atStart => exact ⟨0, at_, rfl, by omega, HW.out, ⟨World.grownBy.refl _ _, rfl⟩, HR.out, hf⟩
  case round =>
    obtain ⟨acc, at1, rfl, hacc, hw, hs, hr, hfu⟩ := hrel
    have HW := Lib.hid hw
    have HS := Lib.hid hs
    have hat := hw.2.1
    have hxl := hw.2.2.1
    have HF := Lib.hid (fread_any 2 hw)
    clear hw hs
    cases gk with
    | zero => omega
    | succ f' =>
      rw [rowA] at hr
      split at hr
      · next hx =>
        have HE := Lib.hid (show fread xs at1 2 = (0, 10, at1) from fread_none (n := 2) (by omega) hx)
        clear hx
        go_wp2_with fail
        refine HF.out.mono ?_
        rintro e w2 ⟨rfl, hw, hs⟩
        rw [HE.out] at hw ⊢
        have HS2 := Lib.hid (HS.out.trans hs)
        clear hw hs
        go_wp2_with fail
        rw [Exit.noGoto_ret]
        go_ret2
        exact ⟨rfl, HS2.out⟩
      · next x hx =>
        have hxl := rd_lt hx
        have HE := Lib.hid (show fread xs at1 2 = (x, 0, at1 + 2) from fread_some (n := 2) (by omega) hx)
        clear hx
        by_cases h3 : x < 3
        · rw [if_pos h3] at hr
          cases hr
        · rw [if_neg h3] at hr
          have HR := Lib.hid hr
          clear hr
          go_wp2_with fail
          refine HF.out.mono ?_
          rintro e w2 ⟨rfl, hw, hs⟩
          rw [HE.out] at hw ⊢
          have HW2 := Lib.hid hw
          have HS2 := Lib.hid (HS.out.trans hs)
          clear hw hs
          go_wp2_with fail
          go_roundg f'
          case rel => exact ⟨acc + 3, at1 + 2, by go_num, by omega, HW2.out, HS2.out, HR.out, by omega⟩
          case measure => omega
end Go.Proofs.YtpdnmhnnngcbjaaDoor
