
/- The contracts of the document's width and next. -/
import Derived.Test.YtafhabpckgmkgaaNormRefM
import Derived.Test.YtafhabpckgmkgaaBitRefF
namespace Go.Proofs.Ytafhabpckgmkgaa
open Go.RowKit

theorem len_half {q : Nat} (h : 0 < q) : len8 q = len8 (q / 2) + 1 := by
  unfold len8
  rw [if_neg (by omega)]
  by_cases h2 : 2 ≤ q
  · rw [if_neg (by omega), Nat.log2_def, if_pos h2]
  · obtain rfl : q = 1 := by omega
    decide
theorem len_le {x : Nat} (h : x < 2 ^ 40) : len8 x ≤ 40 := by
  unfold len8
  split
  · omega
  · next h0 => have := (Nat.log2_lt h0).2 h; omega

set_option maxRecDepth 100000 in
theorem refWidth_any (x : Nat) (w : World) (h : x < 2 ^ 40) : Calls Try.prog 44 #[.int .i64 (x : Int)] w fun e w' => e = .returned (.int .i64 (len8 x : Nat)) ∧ w = w' := by
  have hl := len_le h
  obtain ⟨L, hL⟩ : ∃ L, L = len8 x := ⟨_, rfl⟩
  rw [← hL] at hl ⊢
  have HL := Lib.hid hL
  have hx : x ≤ 1099511627776 := by omega
  clear hL
  go_enter Try.func44, Try.ntmps44
  go_wp2_with fail
  go_loopg [0, 3] L (fun gh y m wx => ∃ q k : Nat, wx = w ∧ y = .int .i64 q ∧ m = .int .i64 k ∧ q ≤ 1099511627776 ∧ k + gh = L ∧ gh = len8 q)
  case atStart => exact ⟨x, 0, rfl, rfl, rfl, hx, by omega, HL.out⟩
  case round =>
    obtain ⟨q, k, rfl, rfl, rfl, hq, hk, hg⟩ := hrel
    have HG := Lib.hid hg
    have HK := Lib.hid hk
    have hkL : k ≤ L := by omega
    clear hg hk
    by_cases h0 : 0 < q
    · have hs := len_half h0
      have h0i : (0 : Int) < (q : Int) := by omega
      have HS := Lib.hid hs
      clear hs
      obtain ⟨g', rfl⟩ : ∃ g', gk = g' + 1 := ⟨gk - 1, by have := HG.out; have := HS.out; omega⟩
      go_wp2_with fail
      go_roundg g'
      case rel => exact ⟨q / 2, k + 1, rfl, by go_num, by go_num, by omega, by have := HK.out; omega, by have := HG.out; have := HS.out; omega⟩
      case measure => omega
    · obtain rfl : q = 0 := by omega
      have hz : gk = 0 := HG.out.trans (by decide)
      obtain rfl : k = L := by have := HK.out; omega
      go_wp2_with fail
      go_ret
      exact ⟨rfl, rfl⟩

/-- Two boxes of two cells each, in a world in which nothing below has turned. -/
theorem two_boxes {w w2 : World} {t : TypeId} {x v y u : Value} (hB : Below ((w.alloc (.cells #[x, v] t)).alloc (.cells #[y, u] t)).heap.size ((w.alloc (.cells #[x, v] t)).alloc (.cells #[y, u] t)) w2) :
    Box w2 w.heap.size t #[x, v] ∧ Box w2 (w.heap.size + 1) t #[y, u] ∧ w.heap.size + 2 ≤ w2.heap.size := by
  refine ⟨((Box.new w t #[x, v]).alloc _).below hB (by simp; omega), ?_, ?_⟩
  · have := (Box.new (w.alloc (.cells #[x, v] t)) t #[y, u]).below hB (by simp)
    simpa using this
  · have := hB.size
    simpa using this

section
variable {w : World} {lo hi n c at_ : Nat} {A : Option Addr} {xs : List UInt8} {left : Nat}
set_option maxRecDepth 100000 in
set_option maxHeartbeats 1000000 in
theorem next_a {x : Nat} (hd : DatE Value.bool w lo hi A (bitsOf xs)) (hn : 8 * xs.length = n) (hc : n ≤ c) (hb : n ≤ 1000000000) (hhi : hi ≤ w.heap.size) (ha : at_ ≤ n) (h1 : 0 < left) (h2 : left ≤ 32768)
    (hr : rd (bitsOf xs) at_ (ln left) = some x) (hlt : x < fr left) :
    Calls Try.prog 25 #[.agg #[.slice A n c, .int .i64 (at_ : Int)], .int .i64 (left : Int)] w fun e w' => e = .returned (.tuple #[.agg #[.slice A n c, .int .i64 (at_ + ln left : Nat)], .int .i64 (x : Int), .int .i64 0]) ∧ Below w.heap.size w w' := by
  have hln : ln left < 16 := ln_lt (by omega)
  have hla := hf_le left
  have hlb := lt_hf left
  have hfr : fr left = 2 * hf left - 2 - left := rfl
  have hh : 2 ^ ln left = hf left := rfl
  have HPw : Hid (∀ wz, Calls Try.prog 17 #[.int .i64 (ln left : Int)] wz fun e w' => e = .returned (.int .i64 (hf left : Int)) ∧ wz = w') := fun wz => refPower_any (ln left) wz (by omega)
  have HWd : Hid (∀ wz, Calls Try.prog 44 #[.int .i64 ((left : Int) + 1)] wz fun e w' => e = .returned (.int .i64 ((ln left : Int) + 1)) ∧ wz = w') := fun wz => by
    have h9 := refWidth_any (left + 1) wz (by omega)
    rw [show len8 (left + 1) = ln left + 1 by unfold len8 ln; rw [if_neg (by omega)]] at h9
    exact h9
  have HD := Lib.hid ((hd.alloc hhi (.cells #[.slice A n c, .int .i64 (at_ : Int)] 63)).alloc (by simp; omega) (.cells #[.slice none 0 0, .int .i64 0] 63))
  have HN := Lib.hid hn
  have h2n : 2 * hf left ≤ 65536 * 2 := by omega
  have HF := Lib.hid (fread_some (xs := xs) (by omega) hr)
  have hx := (rd_lt hr).1
  have hal := (rd_lt hr).2
  rw [hh] at hx
  rw [bitsOf_length] at hal
  clear hr
  have hfi : (x : Int) < 2 * (hf left : Int) - 2 - (left : Int) := by omega
  clear hd hn hh
  have HR := Lib.hid (refRead_any (ln left : Nat) HD.out HN.out hc hb (by simp; omega) ha)
  go_enter Try.func25, Try.ntmps25
  go_wp2_with (go_at_call 44; refine (HWd.out _).mono ?_; rintro e w' ⟨rfl, rfl⟩)
  refine HR.out.mono ?_
  rintro e w2 ⟨rfl, hB⟩
  rw [HF.out]
  obtain ⟨hx1, hx2, hsz⟩ := two_boxes hB
  have HB := Lib.hid ((((Below.refl _ _).alloc (Nat.le_refl _) _).alloc (by simp) _).trans (hB.mono (by simp; omega)))
  have HX1 := Lib.hid hx1
  have HX2 := Lib.hid hx2
  have HD2 := Lib.hid (HD.out.below hB (by simp; omega))
  obtain ⟨c0, c1, f0, f1⟩ := box2 hx1
  obtain ⟨d0, d1, g0, g1⟩ := box2 hx2
  clear hB hx1 hx2
  go_wp2_with (go_at_call 17; refine (HPw.out _).mono ?_; rintro e w' ⟨rfl, rfl⟩)
  have HBf := HB
  refine bodyPost_ret (v := .tuple #[.agg #[.slice A n c, .int .i64 ((at_ : Int) + (ln left : Int))], .int .i64 (x : Int), .int .i64 0]) (by simp [results, Try.results25, go_sem, d0, d1]) rfl ⟨?_, ?_⟩
  · first | rfl | (congr 4; omega) | (rw [show ((x + hf left - fr left : Nat) : Int) = (x : Int) + (hf left : Int) - (2 * (hf left : Int) - 2 - (left : Int)) by omega]; rfl)
  · repeat (first | exact HBf.out | refine Below.setCell ?_ (by simp) _)
set_option maxRecDepth 100000 in
set_option maxHeartbeats 1000000 in
theorem next_d (hd : DatE Value.bool w lo hi A (bitsOf xs)) (hn : 8 * xs.length = n) (hc : n ≤ c) (hb : n ≤ 1000000000) (hhi : hi ≤ w.heap.size) (ha : at_ ≤ n) (h1 : 0 < left) (h2 : left ≤ 32768)
    (hr : rd (bitsOf xs) at_ (ln left) = none) :
    Calls Try.prog 25 #[.agg #[.slice A n c, .int .i64 (at_ : Int)], .int .i64 (left : Int)] w fun e w' => e = .returned (.tuple #[.agg #[.slice A n c, .int .i64 (at_ : Int)], .int .i64 0, .int .i64 10]) ∧ Below w.heap.size w w' := by
  have hln : ln left < 16 := ln_lt (by omega)
  have hla := hf_le left
  have hlb := lt_hf left
  have hfr : fr left = 2 * hf left - 2 - left := rfl
  have hh : 2 ^ ln left = hf left := rfl
  have HPw : Hid (∀ wz, Calls Try.prog 17 #[.int .i64 (ln left : Int)] wz fun e w' => e = .returned (.int .i64 (hf left : Int)) ∧ wz = w') := fun wz => refPower_any (ln left) wz (by omega)
  have HWd : Hid (∀ wz, Calls Try.prog 44 #[.int .i64 ((left : Int) + 1)] wz fun e w' => e = .returned (.int .i64 ((ln left : Int) + 1)) ∧ wz = w') := fun wz => by
    have h9 := refWidth_any (left + 1) wz (by omega)
    rw [show len8 (left + 1) = ln left + 1 by unfold len8 ln; rw [if_neg (by omega)]] at h9
    exact h9
  have HD := Lib.hid ((hd.alloc hhi (.cells #[.slice A n c, .int .i64 (at_ : Int)] 63)).alloc (by simp; omega) (.cells #[.slice none 0 0, .int .i64 0] 63))
  have HN := Lib.hid hn
  have h2n : 2 * hf left ≤ 65536 * 2 := by omega
  have HF := Lib.hid (fread_none (xs := xs) (by omega) hr)
  clear hr
  clear hd hn hh
  have HR := Lib.hid (refRead_any (ln left : Nat) HD.out HN.out hc hb (by simp; omega) ha)
  go_enter Try.func25, Try.ntmps25
  go_wp2_with (go_at_call 44; refine (HWd.out _).mono ?_; rintro e w' ⟨rfl, rfl⟩)
  refine HR.out.mono ?_
  rintro e w2 ⟨rfl, hB⟩
  rw [HF.out]
  obtain ⟨hx1, hx2, hsz⟩ := two_boxes hB
  have HB := Lib.hid ((((Below.refl _ _).alloc (Nat.le_refl _) _).alloc (by simp) _).trans (hB.mono (by simp; omega)))
  have HX1 := Lib.hid hx1
  have HX2 := Lib.hid hx2
  have HD2 := Lib.hid (HD.out.below hB (by simp; omega))
  obtain ⟨c0, c1, f0, f1⟩ := box2 hx1
  obtain ⟨d0, d1, g0, g1⟩ := box2 hx2
  clear hB hx1 hx2
  go_wp2_with fail
  have HBf := HB
  refine bodyPost_ret (v := .tuple #[.agg #[.slice A n c, .int .i64 (at_ : Int)], .int .i64 0, .int .i64 10]) (by simp [results, Try.results25, go_sem, d0, d1]) rfl ⟨?_, ?_⟩
  · first | rfl | (congr 4; omega) | (rw [show ((x + hf left - fr left : Nat) : Int) = (x : Int) + (hf left : Int) - (2 * (hf left : Int) - 2 - (left : Int)) by omega]; rfl)
  · repeat (first | exact HBf.out | refine Below.setCell ?_ (by simp) _)
set_option maxRecDepth 100000 in
set_option maxHeartbeats 1000000 in
theorem next_b {x y : Nat} (hd : DatE Value.bool w lo hi A (bitsOf xs)) (hn : 8 * xs.length = n) (hc : n ≤ c) (hb : n ≤ 1000000000) (hhi : hi ≤ w.heap.size) (ha : at_ ≤ n) (h1 : 0 < left) (h2 : left ≤ 32768)
    (hr : rd (bitsOf xs) at_ (ln left) = some x) (hge : fr left ≤ x) (hr2 : rd (bitsOf xs) (at_ + ln left) 1 = some y) (hy : y = 1) :
    Calls Try.prog 25 #[.agg #[.slice A n c, .int .i64 (at_ : Int)], .int .i64 (left : Int)] w fun e w' => e = .returned (.tuple #[.agg #[.slice A n c, .int .i64 (at_ + ln left + 1 : Nat)], .int .i64 (x + hf left - fr left : Nat), .int .i64 0]) ∧ Below w.heap.size w w' := by
  have hln : ln left < 16 := ln_lt (by omega)
  have hla := hf_le left
  have hlb := lt_hf left
  have hfr : fr left = 2 * hf left - 2 - left := rfl
  have hh : 2 ^ ln left = hf left := rfl
  have HPw : Hid (∀ wz, Calls Try.prog 17 #[.int .i64 (ln left : Int)] wz fun e w' => e = .returned (.int .i64 (hf left : Int)) ∧ wz = w') := fun wz => refPower_any (ln left) wz (by omega)
  have HWd : Hid (∀ wz, Calls Try.prog 44 #[.int .i64 ((left : Int) + 1)] wz fun e w' => e = .returned (.int .i64 ((ln left : Int) + 1)) ∧ wz = w') := fun wz => by
    have h9 := refWidth_any (left + 1) wz (by omega)
    rw [show len8 (left + 1) = ln left + 1 by unfold len8 ln; rw [if_neg (by omega)]] at h9
    exact h9
  have HD := Lib.hid ((hd.alloc hhi (.cells #[.slice A n c, .int .i64 (at_ : Int)] 63)).alloc (by simp; omega) (.cells #[.slice none 0 0, .int .i64 0] 63))
  have HN := Lib.hid hn
  have h2n : 2 * hf left ≤ 65536 * 2 := by omega
  have HF := Lib.hid (fread_some (xs := xs) (by omega) hr)
  have hx := (rd_lt hr).1
  have hal := (rd_lt hr).2
  rw [hh] at hx
  rw [bitsOf_length] at hal
  clear hr
  have HG := Lib.hid (show fread xs (at_ + ln left) 1 = (y, 0, at_ + ln left + 1) from fread_some (xs := xs) (n := 1) (by omega) hr2)
  have hfi : decide ((x : Int) < 2 * (hf left : Int) - 2 - (left : Int)) = false := by simp; omega
  clear hr2
  subst hy
  clear hd hn hh
  have HR := Lib.hid (refRead_any (ln left : Nat) HD.out HN.out hc hb (by simp; omega) ha)
  go_enter Try.func25, Try.ntmps25
  go_wp2_with (go_at_call 44; refine (HWd.out _).mono ?_; rintro e w' ⟨rfl, rfl⟩)
  refine HR.out.mono ?_
  rintro e w2 ⟨rfl, hB⟩
  rw [HF.out]
  obtain ⟨hx1, hx2, hsz⟩ := two_boxes hB
  have HB := Lib.hid ((((Below.refl _ _).alloc (Nat.le_refl _) _).alloc (by simp) _).trans (hB.mono (by simp; omega)))
  have HX1 := Lib.hid hx1
  have HX2 := Lib.hid hx2
  have HD2 := Lib.hid (HD.out.below hB (by simp; omega))
  obtain ⟨c0, c1, f0, f1⟩ := box2 hx1
  obtain ⟨d0, d1, g0, g1⟩ := box2 hx2
  clear hB hx1 hx2
  go_wp2_with (go_at_call 17; refine (HPw.out _).mono ?_; rintro e w' ⟨rfl, rfl⟩)
  have hy1 : Box ((w2.setCell ⟨w.heap.size, 0, none⟩ (.slice A n c)).setCell ⟨w.heap.size, 1, none⟩ (.int .i64 ((at_ : Int) + (ln left : Int)))) w.heap.size 63 #[.slice A n c, .int .i64 ((at_ : Int) + (ln left : Int))] := by
    have h9 := (HX1.out.put 0 (.slice A n c)).put 1 (.int .i64 ((at_ : Int) + (ln left : Int)))
    simpa using h9
  have hy2 : Box ((w2.setCell ⟨w.heap.size, 0, none⟩ (.slice A n c)).setCell ⟨w.heap.size, 1, none⟩ (.int .i64 ((at_ : Int) + (ln left : Int)))) (w.heap.size + 1) 63 #[.slice none 0 0, .int .i64 0] := (HX2.out.far (by simp) _).far (by simp) _
  have hD3 : DatE Value.bool ((w2.setCell ⟨w.heap.size, 0, none⟩ (.slice A n c)).setCell ⟨w.heap.size, 1, none⟩ (.int .i64 ((at_ : Int) + (ln left : Int)))) lo hi A (bitsOf xs) := (HD2.out.far (.inr (by exact hhi)) _).far (.inr (by exact hhi)) _
  have HR2 := Lib.hid (refRead_any (at_ := at_ + ln left) 1 hD3 HN.out hc hb (by simp; omega) (by have := HN.out; omega))
  have HB2 : Hid (Below w.heap.size w ((w2.setCell ⟨w.heap.size, 0, none⟩ (.slice A n c)).setCell ⟨w.heap.size, 1, none⟩ (.int .i64 ((at_ : Int) + (ln left : Int))))) := (HB.out.setCell (by simp) _).setCell (by simp) _
  have HY1 := Lib.hid hy1
  have HY2 := Lib.hid hy2
  have hs3 : w.heap.size + 2 ≤ ((w2.setCell ⟨w.heap.size, 0, none⟩ (.slice A n c)).setCell ⟨w.heap.size, 1, none⟩ (.int .i64 ((at_ : Int) + (ln left : Int)))).heap.size := by simpa using hsz
  clear hy1 hy2 hD3
  rw [show ((at_ + ln left : Nat) : Int) = (at_ : Int) + (ln left : Int) by omega] at HR2
  generalize (w2.setCell ⟨w.heap.size, 0, none⟩ (.slice A n c)).setCell ⟨w.heap.size, 1, none⟩ (.int .i64 ((at_ : Int) + (ln left : Int))) = w3 at *
  clear c0 c1 f0 f1 d0 d1 g0 g1
  refine HR2.out.mono ?_
  rintro e w4 ⟨rfl, hB⟩
  rw [HG.out]
  obtain ⟨c0, c1, f0, f1⟩ := box2 (HY1.out.below hB (by omega))
  obtain ⟨d0, d1, g0, g1⟩ := box2 (HY2.out.below hB (by omega))
  have HBf := Lib.hid (HB2.out.trans (hB.mono (by omega)))
  clear hB
  go_wp2_with fail
  refine bodyPost_ret (v := .tuple #[.agg #[.slice A n c, .int .i64 ((at_ : Int) + (ln left : Int) + 1)], .int .i64 ((x : Int) + (hf left : Int) - (2 * (hf left : Int) - 2 - (left : Int))), .int .i64 0]) (by simp [results, Try.results25, go_sem, d0, d1]) rfl ⟨?_, ?_⟩
  · first | rfl | (congr 4; omega) | (rw [show ((x + hf left - fr left : Nat) : Int) = (x : Int) + (hf left : Int) - (2 * (hf left : Int) - 2 - (left : Int)) by omega]; rfl)
  · repeat (first | exact HBf.out | refine Below.setCell ?_ (by simp) _)
set_option maxRecDepth 100000 in
set_option maxHeartbeats 1000000 in
theorem next_c {x y : Nat} (hd : DatE Value.bool w lo hi A (bitsOf xs)) (hn : 8 * xs.length = n) (hc : n ≤ c) (hb : n ≤ 1000000000) (hhi : hi ≤ w.heap.size) (ha : at_ ≤ n) (h1 : 0 < left) (h2 : left ≤ 32768)
    (hr : rd (bitsOf xs) at_ (ln left) = some x) (hge : fr left ≤ x) (hr2 : rd (bitsOf xs) (at_ + ln left) 1 = some y) (hy : y ≠ 1) :
    Calls Try.prog 25 #[.agg #[.slice A n c, .int .i64 (at_ : Int)], .int .i64 (left : Int)] w fun e w' => e = .returned (.tuple #[.agg #[.slice A n c, .int .i64 (at_ + ln left + 1 : Nat)], .int .i64 (x : Int), .int .i64 0]) ∧ Below w.heap.size w w' := by
  have hln : ln left < 16 := ln_lt (by omega)
  have hla := hf_le left
  have hlb := lt_hf left
  have hfr : fr left = 2 * hf left - 2 - left := rfl
  have hh : 2 ^ ln left = hf left := rfl
  have HPw : Hid (∀ wz, Calls Try.prog 17 #[.int .i64 (ln left : Int)] wz fun e w' => e = .returned (.int .i64 (hf left : Int)) ∧ wz = w') := fun wz => refPower_any (ln left) wz (by omega)
  have HWd : Hid (∀ wz, Calls Try.prog 44 #[.int .i64 ((left : Int) + 1)] wz fun e w' => e = .returned (.int .i64 ((ln left : Int) + 1)) ∧ wz = w') := fun wz => by
    have h9 := refWidth_any (left + 1) wz (by omega)
    rw [show len8 (left + 1) = ln left + 1 by unfold len8 ln; rw [if_neg (by omega)]] at h9
    exact h9
  have HD := Lib.hid ((hd.alloc hhi (.cells #[.slice A n c, .int .i64 (at_ : Int)] 63)).alloc (by simp; omega) (.cells #[.slice none 0 0, .int .i64 0] 63))
  have HN := Lib.hid hn
  have h2n : 2 * hf left ≤ 65536 * 2 := by omega
  have HF := Lib.hid (fread_some (xs := xs) (by omega) hr)
  have hx := (rd_lt hr).1
  have hal := (rd_lt hr).2
  rw [hh] at hx
  rw [bitsOf_length] at hal
  clear hr
  have HG := Lib.hid (show fread xs (at_ + ln left) 1 = (y, 0, at_ + ln left + 1) from fread_some (xs := xs) (n := 1) (by omega) hr2)
  have hfi : decide ((x : Int) < 2 * (hf left : Int) - 2 - (left : Int)) = false := by simp; omega
  have hy0 : y = 0 := by have := (rd_lt hr2).1; omega
  clear hr2
  subst hy0
  clear hd hn hh
  have HR := Lib.hid (refRead_any (ln left : Nat) HD.out HN.out hc hb (by simp; omega) ha)
  go_enter Try.func25, Try.ntmps25
  go_wp2_with (go_at_call 44; refine (HWd.out _).mono ?_; rintro e w' ⟨rfl, rfl⟩)
  refine HR.out.mono ?_
  rintro e w2 ⟨rfl, hB⟩
  rw [HF.out]
  obtain ⟨hx1, hx2, hsz⟩ := two_boxes hB
  have HB := Lib.hid ((((Below.refl _ _).alloc (Nat.le_refl _) _).alloc (by simp) _).trans (hB.mono (by simp; omega)))
  have HX1 := Lib.hid hx1
  have HX2 := Lib.hid hx2
  have HD2 := Lib.hid (HD.out.below hB (by simp; omega))
  obtain ⟨c0, c1, f0, f1⟩ := box2 hx1
  obtain ⟨d0, d1, g0, g1⟩ := box2 hx2
  clear hB hx1 hx2
  go_wp2_with (go_at_call 17; refine (HPw.out _).mono ?_; rintro e w' ⟨rfl, rfl⟩)
  have hy1 : Box ((w2.setCell ⟨w.heap.size, 0, none⟩ (.slice A n c)).setCell ⟨w.heap.size, 1, none⟩ (.int .i64 ((at_ : Int) + (ln left : Int)))) w.heap.size 63 #[.slice A n c, .int .i64 ((at_ : Int) + (ln left : Int))] := by
    have h9 := (HX1.out.put 0 (.slice A n c)).put 1 (.int .i64 ((at_ : Int) + (ln left : Int)))
    simpa using h9
  have hy2 : Box ((w2.setCell ⟨w.heap.size, 0, none⟩ (.slice A n c)).setCell ⟨w.heap.size, 1, none⟩ (.int .i64 ((at_ : Int) + (ln left : Int)))) (w.heap.size + 1) 63 #[.slice none 0 0, .int .i64 0] := (HX2.out.far (by simp) _).far (by simp) _
  have hD3 : DatE Value.bool ((w2.setCell ⟨w.heap.size, 0, none⟩ (.slice A n c)).setCell ⟨w.heap.size, 1, none⟩ (.int .i64 ((at_ : Int) + (ln left : Int)))) lo hi A (bitsOf xs) := (HD2.out.far (.inr (by exact hhi)) _).far (.inr (by exact hhi)) _
  have HR2 := Lib.hid (refRead_any (at_ := at_ + ln left) 1 hD3 HN.out hc hb (by simp; omega) (by have := HN.out; omega))
  have HB2 : Hid (Below w.heap.size w ((w2.setCell ⟨w.heap.size, 0, none⟩ (.slice A n c)).setCell ⟨w.heap.size, 1, none⟩ (.int .i64 ((at_ : Int) + (ln left : Int))))) := (HB.out.setCell (by simp) _).setCell (by simp) _
  have HY1 := Lib.hid hy1
  have HY2 := Lib.hid hy2
  have hs3 : w.heap.size + 2 ≤ ((w2.setCell ⟨w.heap.size, 0, none⟩ (.slice A n c)).setCell ⟨w.heap.size, 1, none⟩ (.int .i64 ((at_ : Int) + (ln left : Int)))).heap.size := by simpa using hsz
  clear hy1 hy2 hD3
  rw [show ((at_ + ln left : Nat) : Int) = (at_ : Int) + (ln left : Int) by omega] at HR2
  generalize (w2.setCell ⟨w.heap.size, 0, none⟩ (.slice A n c)).setCell ⟨w.heap.size, 1, none⟩ (.int .i64 ((at_ : Int) + (ln left : Int))) = w3 at *
  clear c0 c1 f0 f1 d0 d1 g0 g1
  refine HR2.out.mono ?_
  rintro e w4 ⟨rfl, hB⟩
  rw [HG.out]
  obtain ⟨c0, c1, f0, f1⟩ := box2 (HY1.out.below hB (by omega))
  obtain ⟨d0, d1, g0, g1⟩ := box2 (HY2.out.below hB (by omega))
  have HBf := Lib.hid (HB2.out.trans (hB.mono (by omega)))
  clear hB
  go_wp2_with fail
  refine bodyPost_ret (v := .tuple #[.agg #[.slice A n c, .int .i64 ((at_ : Int) + (ln left : Int) + 1)], .int .i64 (x : Int), .int .i64 0]) (by simp [results, Try.results25, go_sem, d0, d1]) rfl ⟨?_, ?_⟩
  · first | rfl | (congr 4; omega) | (rw [show ((x + hf left - fr left : Nat) : Int) = (x : Int) + (hf left : Int) - (2 * (hf left : Int) - 2 - (left : Int)) by omega]; rfl)
  · repeat (first | exact HBf.out | refine Below.setCell ?_ (by simp) _)
set_option maxRecDepth 100000 in
set_option maxHeartbeats 1000000 in
theorem next_e {x : Nat} (hd : DatE Value.bool w lo hi A (bitsOf xs)) (hn : 8 * xs.length = n) (hc : n ≤ c) (hb : n ≤ 1000000000) (hhi : hi ≤ w.heap.size) (ha : at_ ≤ n) (h1 : 0 < left) (h2 : left ≤ 32768)
    (hr : rd (bitsOf xs) at_ (ln left) = some x) (hge : fr left ≤ x) (hr2 : rd (bitsOf xs) (at_ + ln left) 1 = none) :
    Calls Try.prog 25 #[.agg #[.slice A n c, .int .i64 (at_ : Int)], .int .i64 (left : Int)] w fun e w' => e = .returned (.tuple #[.agg #[.slice A n c, .int .i64 (at_ + ln left : Nat)], .int .i64 0, .int .i64 10]) ∧ Below w.heap.size w w' := by
  have hln : ln left < 16 := ln_lt (by omega)
  have hla := hf_le left
  have hlb := lt_hf left
  have hfr : fr left = 2 * hf left - 2 - left := rfl
  have hh : 2 ^ ln left = hf left := rfl
  have HPw : Hid (∀ wz, Calls Try.prog 17 #[.int .i64 (ln left : Int)] wz fun e w' => e = .returned (.int .i64 (hf left : Int)) ∧ wz = w') := fun wz => refPower_any (ln left) wz (by omega)
  have HWd : Hid (∀ wz, Calls Try.prog 44 #[.int .i64 ((left : Int) + 1)] wz fun e w' => e = .returned (.int .i64 ((ln left : Int) + 1)) ∧ wz = w') := fun wz => by
    have h9 := refWidth_any (left + 1) wz (by omega)
    rw [show len8 (left + 1) = ln left + 1 by unfold len8 ln; rw [if_neg (by omega)]] at h9
    exact h9
  have HD := Lib.hid ((hd.alloc hhi (.cells #[.slice A n c, .int .i64 (at_ : Int)] 63)).alloc (by simp; omega) (.cells #[.slice none 0 0, .int .i64 0] 63))
  have HN := Lib.hid hn
  have h2n : 2 * hf left ≤ 65536 * 2 := by omega
  have HF := Lib.hid (fread_some (xs := xs) (by omega) hr)
  have hx := (rd_lt hr).1
  have hal := (rd_lt hr).2
  rw [hh] at hx
  rw [bitsOf_length] at hal
  clear hr
  have HG := Lib.hid (show fread xs (at_ + ln left) 1 = (0, 10, at_ + ln left) from fread_none (xs := xs) (n := 1) (by omega) hr2)
  have hfi : decide ((x : Int) < 2 * (hf left : Int) - 2 - (left : Int)) = false := by simp; omega
  clear hr2
  clear hd hn hh
  have HR := Lib.hid (refRead_any (ln left : Nat) HD.out HN.out hc hb (by simp; omega) ha)
  go_enter Try.func25, Try.ntmps25
  go_wp2_with (go_at_call 44; refine (HWd.out _).mono ?_; rintro e w' ⟨rfl, rfl⟩)
  refine HR.out.mono ?_
  rintro e w2 ⟨rfl, hB⟩
  rw [HF.out]
  obtain ⟨hx1, hx2, hsz⟩ := two_boxes hB
  have HB := Lib.hid ((((Below.refl _ _).alloc (Nat.le_refl _) _).alloc (by simp) _).trans (hB.mono (by simp; omega)))
  have HX1 := Lib.hid hx1
  have HX2 := Lib.hid hx2
  have HD2 := Lib.hid (HD.out.below hB (by simp; omega))
  obtain ⟨c0, c1, f0, f1⟩ := box2 hx1
  obtain ⟨d0, d1, g0, g1⟩ := box2 hx2
  clear hB hx1 hx2
  go_wp2_with (go_at_call 17; refine (HPw.out _).mono ?_; rintro e w' ⟨rfl, rfl⟩)
  have hy1 : Box ((w2.setCell ⟨w.heap.size, 0, none⟩ (.slice A n c)).setCell ⟨w.heap.size, 1, none⟩ (.int .i64 ((at_ : Int) + (ln left : Int)))) w.heap.size 63 #[.slice A n c, .int .i64 ((at_ : Int) + (ln left : Int))] := by
    have h9 := (HX1.out.put 0 (.slice A n c)).put 1 (.int .i64 ((at_ : Int) + (ln left : Int)))
    simpa using h9
  have hy2 : Box ((w2.setCell ⟨w.heap.size, 0, none⟩ (.slice A n c)).setCell ⟨w.heap.size, 1, none⟩ (.int .i64 ((at_ : Int) + (ln left : Int)))) (w.heap.size + 1) 63 #[.slice none 0 0, .int .i64 0] := (HX2.out.far (by simp) _).far (by simp) _
  have hD3 : DatE Value.bool ((w2.setCell ⟨w.heap.size, 0, none⟩ (.slice A n c)).setCell ⟨w.heap.size, 1, none⟩ (.int .i64 ((at_ : Int) + (ln left : Int)))) lo hi A (bitsOf xs) := (HD2.out.far (.inr (by exact hhi)) _).far (.inr (by exact hhi)) _
  have HR2 := Lib.hid (refRead_any (at_ := at_ + ln left) 1 hD3 HN.out hc hb (by simp; omega) (by have := HN.out; omega))
  have HB2 : Hid (Below w.heap.size w ((w2.setCell ⟨w.heap.size, 0, none⟩ (.slice A n c)).setCell ⟨w.heap.size, 1, none⟩ (.int .i64 ((at_ : Int) + (ln left : Int))))) := (HB.out.setCell (by simp) _).setCell (by simp) _
  have HY1 := Lib.hid hy1
  have HY2 := Lib.hid hy2
  have hs3 : w.heap.size + 2 ≤ ((w2.setCell ⟨w.heap.size, 0, none⟩ (.slice A n c)).setCell ⟨w.heap.size, 1, none⟩ (.int .i64 ((at_ : Int) + (ln left : Int)))).heap.size := by simpa using hsz
  clear hy1 hy2 hD3
  rw [show ((at_ + ln left : Nat) : Int) = (at_ : Int) + (ln left : Int) by omega] at HR2
  generalize (w2.setCell ⟨w.heap.size, 0, none⟩ (.slice A n c)).setCell ⟨w.heap.size, 1, none⟩ (.int .i64 ((at_ : Int) + (ln left : Int))) = w3 at *
  clear c0 c1 f0 f1 d0 d1 g0 g1
  refine HR2.out.mono ?_
  rintro e w4 ⟨rfl, hB⟩
  rw [HG.out]
  obtain ⟨c0, c1, f0, f1⟩ := box2 (HY1.out.below hB (by omega))
  obtain ⟨d0, d1, g0, g1⟩ := box2 (HY2.out.below hB (by omega))
  have HBf := Lib.hid (HB2.out.trans (hB.mono (by omega)))
  clear hB
  go_wp2_with fail
  refine bodyPost_ret (v := .tuple #[.agg #[.slice A n c, .int .i64 ((at_ : Int) + (ln left : Int))], .int .i64 0, .int .i64 10]) (by simp [results, Try.results25, go_sem, d0, d1]) rfl ⟨?_, ?_⟩
  · first | rfl | (congr 4; omega) | (rw [show ((x + hf left - fr left : Nat) : Int) = (x : Int) + (hf left : Int) - (2 * (hf left : Int) - 2 - (left : Int)) by omega]; rfl)
  · repeat (first | exact HBf.out | refine Below.setCell ?_ (by simp) _)
theorem next_yes {v a1 : Nat} (hd : DatE Value.bool w lo hi A (bitsOf xs)) (hn : 8 * xs.length = n) (hc : n ≤ c) (hb : n ≤ 1000000000) (hhi : hi ≤ w.heap.size) (ha : at_ ≤ n) (h1 : 0 < left) (h2 : left ≤ 32768) (hv : nextV (bitsOf xs) at_ left = some (v, a1)) :
    Calls Try.prog 25 #[.agg #[.slice A n c, .int .i64 (at_ : Int)], .int .i64 (left : Int)] w fun e w' => e = .returned (.tuple #[.agg #[.slice A n c, .int .i64 (a1 : Nat)], .int .i64 (v : Nat), .int .i64 0]) ∧ Below w.heap.size w w' := by
  unfold nextV at hv
  split at hv
  · cases hv
  · next x hx =>
    split at hv
    · next hlt =>
      simp only [Option.some.injEq, Prod.mk.injEq] at hv
      obtain ⟨rfl, rfl⟩ := hv
      exact next_a hd hn hc hb hhi ha h1 h2 hx hlt
    · next hge =>
      split at hv
      · cases hv
      · next y hy =>
        simp only [Option.some.injEq, Prod.mk.injEq] at hv
        obtain ⟨rfl, rfl⟩ := hv
        by_cases hy1 : y = 1
        · rw [if_pos hy1]
          exact next_b hd hn hc hb hhi ha h1 h2 hx (by omega) hy hy1
        · rw [if_neg hy1]
          exact next_c hd hn hc hb hhi ha h1 h2 hx (by omega) hy hy1
theorem next_no (hd : DatE Value.bool w lo hi A (bitsOf xs)) (hn : 8 * xs.length = n) (hc : n ≤ c) (hb : n ≤ 1000000000) (hhi : hi ≤ w.heap.size) (ha : at_ ≤ n) (h1 : 0 < left) (h2 : left ≤ 32768) (hv : nextV (bitsOf xs) at_ left = none) :
    Calls Try.prog 25 #[.agg #[.slice A n c, .int .i64 (at_ : Int)], .int .i64 (left : Int)] w fun e w' => ∃ a1 : Nat, e = .returned (.tuple #[.agg #[.slice A n c, .int .i64 (a1 : Nat)], .int .i64 0, .int .i64 10]) ∧ Below w.heap.size w w' := by
  unfold nextV at hv
  split at hv
  · next hx => exact (next_d hd hn hc hb hhi ha h1 h2 hx).mono fun e w' h => ⟨_, h⟩
  · next x hx =>
    split at hv
    · cases hv
    · next hge =>
      split at hv
      · next hy => exact (next_e hd hn hc hb hhi ha h1 h2 hx (by omega) hy).mono fun e w' h => ⟨_, h⟩
      · cases hv
end
end Go.Proofs.Ytafhabpckgmkgaa
