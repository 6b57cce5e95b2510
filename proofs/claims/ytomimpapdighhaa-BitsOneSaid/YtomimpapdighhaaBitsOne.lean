/- BitsOne holds: for every slice of bytes and every two bytes the law returns true, and the slice reads behind the call as it read before. No condition. -/
import Derived.Test.YtomimpapdighhaaBitAwake
import Derived.Test.YtomimpapdighhaaArgs
import Derived.Deep.LoopGhost
namespace Go.Proofs.Ytomimpapdighhaa.bitsOne
open Go.ChangeShapes Go.WideShapes Go.ChangeAt Go.RowKit

theorem fread_ok (xs : List UInt8) (at_ m : Nat) (h32 : m ≤ 32) (h : at_ + m ≤ 8 * xs.length) : fread xs at_ (m : Int) = (num (((bitsOf xs).drop at_).take m), 0, at_ + m) := by
  rw [fread, if_neg (by omega), if_neg (by omega)]
  rfl
theorem fread_short (xs : List UInt8) (at_ m : Nat) (h32 : m ≤ 32) (h : ¬ at_ + m ≤ 8 * xs.length) : fread xs at_ (m : Int) = (0, 10, at_) := by
  rw [fread, if_neg (by omega), if_pos (by omega)]
theorem fread_one (xs : List UInt8) (i : Nat) (h : i + 1 ≤ 8 * xs.length) : fread xs i 1 = ((bitAt xs i).toNat, 0, i + 1) := by
  have h1 := fread_ok xs i 1 (by omega) h
  rw [show ((1 : Nat) : Int) = 1 by rfl] at h1
  rw [h1, show (1 : Nat) = 0 + 1 by rfl, num_more xs i 0 (by omega)]
  simp [num]
/-- A bit is laid above those that are there. -/
theorem one_step (xs : List UInt8) (i : Nat) (h : i + 1 ≤ 8 * xs.length) (hi : i < 32) :
    bits .or .u64 (num ((bitsOf xs).take i) : Nat) (IntKind.u64.wrap (((bitAt xs i).toNat : Int) * 2 ^ i)) = (num ((bitsOf xs).take (i + 1)) : Nat) := by
  have hX : num ((bitsOf xs).take i) < 2 ^ i := Nat.lt_of_lt_of_le (num_lt _) (Nat.pow_le_pow_right (by omega) (by simp; omega))
  have hm := num_more xs 0 i (by omega)
  simp only [List.drop_zero, Nat.zero_add] at hm
  rw [hm]
  generalize hb : (bitAt xs i).toNat = b
  have hb2 : b < 2 := by rw [← hb]; exact toNat_lt2 _
  generalize num ((bitsOf xs).take i) = X at *
  have hp : 2 ^ i ≤ 2 ^ 31 := Nat.pow_le_pow_right (by omega) (by omega)
  have hmm : b * 2 ^ i ≤ 1 * 2 ^ 31 := Nat.mul_le_mul (by omega) hp
  have h2 : (b : Int) * 2 ^ i = ((b * 2 ^ i : Nat) : Int) := by simp
  have h3 : IntKind.u64.wrap ((b * 2 ^ i : Nat) : Int) = ((b * 2 ^ i : Nat) : Int) := by rw [IntKind.wrap_u64]; omega
  rw [h2, h3, u64_or_nat _ _ (by omega) (by omega), or_above X b i hX]

/-- What i bits from the back are. -/
def bval (xs : List UInt8) (T i : Nat) : Nat := num (((bitsOf xs).drop (T - min i T)).take (min i T)) * 2 ^ (i - min i T)
theorem bval_lt (xs : List UInt8) (T i : Nat) : bval xs T i < 2 ^ i := by
  unfold bval
  have h1 : num (((bitsOf xs).drop (T - min i T)).take (min i T)) < 2 ^ min i T := Nat.lt_of_lt_of_le (num_lt _) (Nat.pow_le_pow_right (by omega) (by simp; omega))
  have h2 := Nat.mul_lt_mul_of_pos_right h1 (Nat.two_pow_pos (i - min i T))
  rw [← Nat.pow_add, show min i T + (i - min i T) = i by omega] at h2
  exact h2
theorem bread_val (xs : List UInt8) (T i : Nat) (h1 : 1 ≤ i) (h2 : i ≤ 56) : bread xs (T : Int) (i : Int) = (bval xs T i, (T : Int) - i) := by
  unfold bread
  rw [if_pos (by simp [wid]; omega)]
  unfold bval there
  simp
theorem bval_step (xs : List UInt8) (T i : Nat) (hT : T ≤ 8 * xs.length) : bval xs T (i + 1) = bval xs T i * 2 + (bread xs ((T : Int) - i) 1).1 := by
  unfold bread
  rw [if_pos (by decide)]
  by_cases h : i < T
  · unfold bval there
    rw [show min (i + 1) T = i + 1 by omega, show min i T = i by omega, show ((T : Int) - i).toNat = T - i by omega, show min (1 : Int).toNat (T - i) = 1 by simp; omega]
    have hl : T - i - 1 < (bitsOf xs).length := by rw [bitsOf_length]; omega
    have hd : (bitsOf xs).drop (T - (i + 1)) = (bitsOf xs)[T - i - 1] :: (bitsOf xs).drop (T - i) := by
      rw [show T - (i + 1) = T - i - 1 by omega, List.drop_eq_getElem_cons hl, show T - i - 1 + 1 = T - i by omega]
    rw [show T - i - 1 = T - (i + 1) by omega] at *
    rw [hd, List.take_succ_cons, List.take_succ_cons]
    simp [num]
    omega
  · unfold bval there
    rw [show min (i + 1) T = T by omega, show min i T = T by omega, show ((T : Int) - i).toNat = 0 by omega, Nat.min_zero]
    simp [num]
    rw [show i + 1 - T = (i - T) + 1 by omega, Nat.pow_succ, Nat.mul_assoc]

set_option maxRecDepth 100000 in
set_option maxHeartbeats 2000000 in
theorem walk (a0 : Option Addr) (xs : List UInt8) (cap0 : Nat) (n m : Int) (w : World) (hd : Dat false w 0 w.heap.size a0 xs) (hm : xs.length ≤ maxLen) (hn0 : 0 ≤ n ∧ n ≤ 255) (hm0 : 0 ≤ m ∧ m ≤ 255) :
    Calls Try.prog 9 #[.slice a0 xs.length cap0, .int .u8 n, .int .u8 m] w fun e w' => e = .returned (.bool true) ∧ Below w.heap.size w w' := by
  unfold maxLen at hm
  have HD := Lib.hid hd
  clear hd
  obtain ⟨hn1, hn2⟩ := hn0
  obtain ⟨hm1, hm2⟩ := hm0
  by_cases hlen : 200 < xs.length ∨ xs.length = 0
  · rcases hlen with hlen | hlen
    · have hlf : ((xs.length : Int) == 0) = false := by simpa using List.ne_nil_of_length_pos (show 0 < xs.length by omega)
      have hne : xs ≠ [] := List.ne_nil_of_length_pos (by omega)
      go_enter Try.func9, Try.ntmps9
      go_wp2_with fail
      refine (awake_any _).mono ?_
      rintro e w1 ⟨rfl, hB⟩
      have HB := Lib.hid hB
      clear hB
      go_wp2_with fail
      go_ret
      exact ⟨rfl, HB.out⟩
    · obtain rfl := List.eq_nil_of_length_eq_zero hlen
      simp only [List.length_nil]
      go_enter Try.func9, Try.ntmps9
      go_wp2_with fail
      refine (awake_any _).mono ?_
      rintro e w1 ⟨rfl, hB⟩
      have HB := Lib.hid hB
      clear hB
      go_wp2_with fail
      go_ret
      exact ⟨rfl, HB.out⟩
  · have hl : xs.length ≤ 200 := by omega
    have hxp : 0 < xs.length := by omega
    have hlf : ((xs.length : Int) == 0) = false := by simpa using List.ne_nil_of_length_pos (show 0 < xs.length by omega)
    have hne : xs ≠ [] := List.ne_nil_of_length_pos (by omega)
    have h200 : decide (200 < (xs.length : Int)) = false := by simp; omega
    obtain ⟨k, hk⟩ : ∃ k : Nat, n % 33 = (k : Int) := ⟨(n % 33).toNat, by omega⟩
    obtain ⟨j0, hj⟩ : ∃ j : Nat, m % 56 = (j : Int) := ⟨(m % 56).toNat, by omega⟩
    have hk32 : k ≤ 32 := by omega
    have hj56 : j0 + 1 ≤ 56 := by omega
    clear hlen
    go_enter Try.func9, Try.ntmps9
    go_wp2_with fail
    refine (awake_any _).mono ?_
    rintro e w1 ⟨rfl, hB⟩
    have HB1 := Lib.hid hB
    have hs1 := hB.size
    clear hB
    go_wp2_with fail
    refine (newForward_any (HD.out.below HB1.out (Nat.le_refl _)) rfl (by omega) hs1).mono ?_
    rintro e w2 ⟨g1, rfl, hr, hB⟩
    have hg1 := hr.1
    have HR2 := Lib.hid hr
    have HB2 := Lib.hid (HB1.out.trans (hB.mono hs1))
    have hs2 : w.heap.size ≤ w2.heap.size := HB2.out.size
    have hgl1 := hr.lt
    clear hr hB
    go_wp2_with fail
    refine (newForward_any (HD.out.below HB2.out (Nat.le_refl _)) rfl (by omega) hs2).mono ?_
    rintro e w3 ⟨g2, rfl, hr, hB⟩
    have hg2 := hr.1
    have HR3 := Lib.hid (HR2.out.below hB hgl1)
    have HS3 := Lib.hid hr
    have HB3 := Lib.hid (HB2.out.trans (hB.mono hs2))
    clear hr hB
    go_wp2_with fail
    refine (fread_any _ HR3.out).mono ?_
    rintro e w4 ⟨rfl, _, hs⟩
    have HS4 := Lib.hid (HS3.out.stp hs (by omega))
    have HB4 := Lib.hid (HB3.out.trans (hs.below HB3.out.size (by omega)))
    clear hs
    by_cases hks : 0 + k ≤ 8 * xs.length
    · rw [fread_ok xs 0 k hk32 hks, List.drop_zero]
      go_wp2_with fail
      go_loopg [13, 14] k (fun gh v i wx => ∃ q : Nat, q + gh = k ∧ i = .int .i64 q ∧ v = .int .u64 (num ((bitsOf xs).take q) : Nat) ∧ FW wx w2.heap.size g2 xs q ∧ Below w.heap.size w wx)
      case atStart => exact ⟨0, by omega, rfl, by simp [num], HS4.out, HB4.out⟩
      case round =>
        obtain ⟨q, hq, rfl, rfl, hS, hB⟩ := hrel
        have HQ := Lib.hid hq
        have hqk : q ≤ k := by omega
        have HS := Lib.hid hS
        have HBL := Lib.hid hB
        clear hq hS hB
        by_cases hlt : q < k
        · have HST := Lib.hid (one_step xs q (by omega) (by omega))
          go_wp2_with fail
          refine (fread_any 1 HS.out).mono ?_
          rintro e w8 ⟨rfl, hr, hs⟩
          rw [fread_one xs q (by omega)] at hr ⊢
          have HS8 := Lib.hid hr
          have HB8 := Lib.hid (HBL.out.trans (hs.below HBL.out.size (by omega)))
          clear hr hs
          generalize (bitAt xs q).toNat = z at *
          go_wp2_with fail
          go_roundg (k - (q + 1))
          case measure => have := HQ.out; omega
          case rel => exact ⟨q + 1, by omega, by go_num, by rw [← HST.out], HS8.out, HB8.out⟩
        · obtain rfl : q = k := by omega
          generalize num ((bitsOf xs).take q) = P at *
          cases hnb : noBack xs with
          | true =>
            have HN := Lib.hid hnb
            clear hnb
            go_wp2_with fail
            refine (newBack_no (HD.out.below HBL.out (Nat.le_refl _)) rfl (by omega) HN.out).mono ?_
            rintro e w' ⟨rfl, rfl⟩
            go_wp2_with fail
            refine (newBack_no (HD.out.below HBL.out (Nat.le_refl _)) rfl (by omega) HN.out).mono ?_
            rintro e w' ⟨rfl, rfl⟩
            go_wp2_with fail
            go_ret
            exact ⟨rfl, HBL.out⟩
          | false =>
            have HN := Lib.hid hnb
            have hTl := top_lt xs hxp
            have hsL := HBL.out.size
            clear hnb
            go_wp2_with fail
            refine (newBack_yes (HD.out.below HBL.out (Nat.le_refl _)) rfl (by omega) hsL HN.out).mono ?_
            rintro e w5 ⟨g3, rfl, hr, hB⟩
            have hg3 := hr.1
            have HR5 := Lib.hid hr
            have HB5 := Lib.hid (HBL.out.trans (hB.mono hsL))
            have hs5 : w.heap.size ≤ w5.heap.size := HB5.out.size
            have hgl3 := hr.lt
            clear hr hB
            go_wp2_with fail
            refine (newBack_yes (HD.out.below HB5.out (Nat.le_refl _)) rfl (by omega) hs5 HN.out).mono ?_
            rintro e w6 ⟨g4, rfl, hr, hB⟩
            have hg4 := hr.1
            have HS6 := Lib.hid hr
            have HR6 := Lib.hid (HR5.out.below hB hgl3)
            have HB6 := Lib.hid (HB5.out.trans (hB.mono hs5))
            clear hr hB
            have HVS := Lib.hid (fun i => bval_step xs (top xs) i (by omega))
            have HVL := Lib.hid (fun i => bval_lt xs (top xs) i)
            have HVR := Lib.hid (fun i => bread_val xs (top xs) i)
            generalize top xs = T at *
            go_wp2_with fail
            refine (bread_any ((j0 : Int) + 1) HR6.out (by omega)).mono ?_
            rintro e w7 ⟨rfl, hr, hs⟩
            rw [show (j0 : Int) + 1 = ((j0 + 1 : Nat) : Int) by omega, HVR.out (j0 + 1) (by omega) (by omega)] at hr ⊢
            have HR7 := Lib.hid hr
            have HS7 := Lib.hid (HS6.out.stp hs (by omega))
            have HB7 := Lib.hid (HB6.out.trans (hs.below HB6.out.size (by omega)))
            have hs7 := HB7.out.size
            clear hr hs
            go_wp2_with fail
            go_loopg [23, 24] (j0 + 1) (fun gh v i wx => ∃ q : Nat, q + gh = j0 + 1 ∧ i = .int .i64 q ∧ v = .int .u64 (bval xs T q : Nat) ∧ BW wx w5.heap.size g4 xs ((T : Int) - q) ∧ BW wx wr.heap.size g3 xs ((T : Int) - ((j0 + 1 : Nat) : Int)) ∧ Below w.heap.size w wx)
            case atStart => exact ⟨0, by omega, rfl, by simp [bval, num], by simpa using HS7.out, HR7.out, HB7.out⟩
            case round =>
              obtain ⟨q, hq, rfl, rfl, hS, hR, hB⟩ := hrel
              have HQ := Lib.hid hq
              have hqj : q ≤ j0 + 1 := by omega
              have HS := Lib.hid hS
              have HR := Lib.hid hR
              have HB := Lib.hid hB
              clear hq hS hR hB
              by_cases hlt : q < j0 + 1
              · have hlti : (q : Int) < (j0 : Int) + 1 := by omega
                have HST := Lib.hid (HVS.out q)
                have hV := HVL.out (q + 1)
                have hp : 2 ^ (q + 1) ≤ 2 ^ 56 := Nat.pow_le_pow_right (by omega) (by omega)
                rw [HST.out] at hV
                go_wp2_with fail
                refine (bread_any 1 HS.out (by omega)).mono ?_
                rintro e w8 ⟨rfl, hr, hs⟩
                rw [show (bread xs ((T : Int) - q) 1).2 = (T : Int) - (q + 1 : Nat) by unfold bread; rw [if_pos (by decide)]; show (T : Int) - q - 1 = _; omega] at hr
                have HS8 := Lib.hid hr
                have HR8 := Lib.hid (HR.out.stp hs (by omega))
                have HB8 := Lib.hid (HB.out.trans (hs.below HB.out.size (by omega)))
                clear hr hs
                generalize (bread xs ((T : Int) - q) 1).1 = z at *
                generalize bval xs T q = V at *
                go_wp2_with fail
                go_roundg (j0 + 1 - (q + 1))
                case measure => have := HQ.out; omega
                case rel => exact ⟨q + 1, by omega, by go_num, by rw [HST.out]; simp, HS8.out, HR8.out, HB8.out⟩
              · obtain rfl : q = j0 + 1 := by omega
                have hnl : ¬ ((j0 + 1 : Nat) : Int) < (j0 : Int) + 1 := by omega
                go_wp2_with fail
                refine (left_any HR.out).mono ?_
                rintro e w' ⟨rfl, rfl⟩
                go_wp2_with fail
                refine (left_any HS.out).mono ?_
                rintro e w' ⟨rfl, rfl⟩
                go_wp2_with fail
                go_ret
                exact ⟨rfl, HB.out⟩
    · rw [fread_short xs 0 k hk32 hks]
      have HBL := HB4
      go_wp2_with fail
      go_loop [13, 14] (fun v i => v = .int .u64 0 ∧ i = .int .i64 0) (fun _ _ => 0)
      case atStart => exact ⟨rfl, rfl⟩
      case round =>
        obtain ⟨rfl, rfl⟩ := hrel
        cases hnb : noBack xs with
        | true =>
          have HN := Lib.hid hnb
          clear hnb
          go_wp2_with fail
          refine (newBack_no (HD.out.below HBL.out (Nat.le_refl _)) rfl (by omega) HN.out).mono ?_
          rintro e w' ⟨rfl, rfl⟩
          go_wp2_with fail
          refine (newBack_no (HD.out.below HBL.out (Nat.le_refl _)) rfl (by omega) HN.out).mono ?_
          rintro e w' ⟨rfl, rfl⟩
          go_wp2_with fail
          go_ret
          exact ⟨rfl, HBL.out⟩
        | false =>
          have HN := Lib.hid hnb
          have hTl := top_lt xs hxp
          have hsL := HBL.out.size
          clear hnb
          go_wp2_with fail
          refine (newBack_yes (HD.out.below HBL.out (Nat.le_refl _)) rfl (by omega) hsL HN.out).mono ?_
          rintro e w5 ⟨g3, rfl, hr, hB⟩
          have hg3 := hr.1
          have HR5 := Lib.hid hr
          have HB5 := Lib.hid (HBL.out.trans (hB.mono hsL))
          have hs5 : w.heap.size ≤ w5.heap.size := HB5.out.size
          have hgl3 := hr.lt
          clear hr hB
          go_wp2_with fail
          refine (newBack_yes (HD.out.below HB5.out (Nat.le_refl _)) rfl (by omega) hs5 HN.out).mono ?_
          rintro e w6 ⟨g4, rfl, hr, hB⟩
          have hg4 := hr.1
          have HS6 := Lib.hid hr
          have HR6 := Lib.hid (HR5.out.below hB hgl3)
          have HB6 := Lib.hid (HB5.out.trans (hB.mono hs5))
          clear hr hB
          have HVS := Lib.hid (fun i => bval_step xs (top xs) i (by omega))
          have HVL := Lib.hid (fun i => bval_lt xs (top xs) i)
          have HVR := Lib.hid (fun i => bread_val xs (top xs) i)
          generalize top xs = T at *
          go_wp2_with fail
          refine (bread_any ((j0 : Int) + 1) HR6.out (by omega)).mono ?_
          rintro e w7 ⟨rfl, hr, hs⟩
          rw [show (j0 : Int) + 1 = ((j0 + 1 : Nat) : Int) by omega, HVR.out (j0 + 1) (by omega) (by omega)] at hr ⊢
          have HR7 := Lib.hid hr
          have HS7 := Lib.hid (HS6.out.stp hs (by omega))
          have HB7 := Lib.hid (HB6.out.trans (hs.below HB6.out.size (by omega)))
          have hs7 := HB7.out.size
          clear hr hs
          go_wp2_with fail
          go_loopg [23, 24] (j0 + 1) (fun gh v i wx => ∃ q : Nat, q + gh = j0 + 1 ∧ i = .int .i64 q ∧ v = .int .u64 (bval xs T q : Nat) ∧ BW wx w5.heap.size g4 xs ((T : Int) - q) ∧ BW wx w4.heap.size g3 xs ((T : Int) - ((j0 + 1 : Nat) : Int)) ∧ Below w.heap.size w wx)
          case atStart => exact ⟨0, by omega, rfl, by simp [bval, num], by simpa using HS7.out, HR7.out, HB7.out⟩
          case round =>
            obtain ⟨q, hq, rfl, rfl, hS, hR, hB⟩ := hrel
            have HQ := Lib.hid hq
            have hqj : q ≤ j0 + 1 := by omega
            have HS := Lib.hid hS
            have HR := Lib.hid hR
            have HB := Lib.hid hB
            clear hq hS hR hB
            by_cases hlt : q < j0 + 1
            · have hlti : (q : Int) < (j0 : Int) + 1 := by omega
              have HST := Lib.hid (HVS.out q)
              have hV := HVL.out (q + 1)
              have hp : 2 ^ (q + 1) ≤ 2 ^ 56 := Nat.pow_le_pow_right (by omega) (by omega)
              rw [HST.out] at hV
              go_wp2_with fail
              refine (bread_any 1 HS.out (by omega)).mono ?_
              rintro e w8 ⟨rfl, hr, hs⟩
              rw [show (bread xs ((T : Int) - q) 1).2 = (T : Int) - (q + 1 : Nat) by unfold bread; rw [if_pos (by decide)]; show (T : Int) - q - 1 = _; omega] at hr
              have HS8 := Lib.hid hr
              have HR8 := Lib.hid (HR.out.stp hs (by omega))
              have HB8 := Lib.hid (HB.out.trans (hs.below HB.out.size (by omega)))
              clear hr hs
              generalize (bread xs ((T : Int) - q) 1).1 = z at *
              generalize bval xs T q = V at *
              go_wp2_with fail
              go_roundg (j0 + 1 - (q + 1))
              case measure => have := HQ.out; omega
              case rel => exact ⟨q + 1, by omega, by go_num, by rw [HST.out]; simp, HS8.out, HR8.out, HB8.out⟩
            · obtain rfl : q = j0 + 1 := by omega
              have hnl : ¬ ((j0 + 1 : Nat) : Int) < (j0 : Int) + 1 := by omega
              go_wp2_with fail
              refine (left_any HR.out).mono ?_
              rintro e w' ⟨rfl, rfl⟩
              go_wp2_with fail
              refine (left_any HS.out).mono ?_
              rintro e w' ⟨rfl, rfl⟩
              go_wp2_with fail
              go_ret
              exact ⟨rfl, HB.out⟩

set_option maxRecDepth 100000 in
theorem lifted (os : Os) (started : os.Started) (H : Type) (enc : TypeId × Value → H) :
    ReturnsInHanded {} Try.checked os 9 .any (Rows.bitsOneSpec.pre6 enc Try.prog Try.f9 Rows.bitsOneRow.domain false) (Rows.bitsOneSpec.post enc Try.prog Try.f9 false true false false) := by
  refine returnsInHanded_of_change (C := Try.checked) own started (by kernel_rfl) Try.func9
    (ChangeSpec.witness6 (enc := enc) (C := Try.checked) false ⟨#[], #[.slice none 0 0, .int .u8 0, .int .u8 0], []⟩ 8 (by kernel_rfl) (by kernel_rfl) (by kernel_rfl) (by kernel_rfl)) ?_
  intro W base args ds gs before hval0 hW hcnd _
  have hval : ∀ (j : Nat) t v, Try.f9.params[j]? = some t → args[j]? = some v → Value.okWide Try.prog W .any base t v := hval0
  have hW' := hW
  obtain ⟨p, q, hA0, hV, rfl, hfz, hnd⟩ := hW
  have hA : DataW.TrodAll enc Try.prog W 0 (fun _ => true) true Try.f9.params.toList args.toList ds p := hA0
  rw [Try.params9] at hA hval
  obtain ⟨v0, vs0, d0, ds0, p0, q0, hargs, rfl, rfl, h0, r0⟩ := trodAll_cons hA
  obtain ⟨v1, vs1, d1, ds1, p1, q1, rfl, rfl, rfl, h1, r1⟩ := trodAll_cons r0
  obtain ⟨v2, vs2, d2, ds2, p2, q2, rfl, rfl, rfl, h2, r2⟩ := trodAll_cons r1
  obtain ⟨rfl, rfl, rfl⟩ := trodAll_nil r2
  obtain rfl : args = #[v0, v1, v2] := by cases args; simp_all
  obtain ⟨rfl, rfl⟩ := trodVars_none hV
  obtain ⟨a0, len0, cap0, rfl⟩ := okWide_slice Try.underlying22 (hval 0 22 v0 rfl rfl)
  have k0 := h0
  have lt0 : ∀ x ∈ p0, x.block < W.heap.size := by obtain ⟨m, hm⟩ := k0; exact DataW.trod_lt m _ _ _ hm
  obtain ⟨z0, w0⟩ := row_of_trod h0
  obtain ⟨xs0, rfl, hl0, hm0, hd0⟩ := row_dat w0
  obtain ⟨n1, rfl, rfl, rfl, w1⟩ := open_int Try.underlying5 (hval 1 5 v1 rfl rfl) h1
  obtain ⟨n2, rfl, rfl, rfl, w2⟩ := open_int Try.underlying5 (hval 2 5 v2 rfl rfl) h2
  clear hA0 hval0
  refine (walk a0 xs0 cap0 n1 n2 W hd0 (by omega) (u8_bounds w1) (u8_bounds w2)).mono fun e W' ⟨he, bel⟩ => ?_
  subst he
  exact ⟨_, rfl, _, _, _, [], _, [], hW', trodAll_mk1 (shut_bool Try.underlying4 _), (trodAll_cons_mk (Below.trod laidOut (by kernel_rfl) (of_decide_eq_true (by kernel_rfl)) k0 bel lt0) (trodAll_cons_mk (shut_int Try.underlying5 w1) (trodAll_cons_mk (shut_int Try.underlying5 w2) trodAll_mk0))), rfl, bel.frame _, fun h => by cases h⟩

theorem over : Rows.bitsOneRow.holds Try.pinned (OpenSpec.ofChange Rows.bitsOneSpec) :=
  OpenClaim.holds_of_wide 9 Try.f9 rfl rfl rfl rfl rfl rfl rfl ⟨rfl, rfl, rfl, rfl, rfl⟩ rfl rfl rfl rfl rfl (by kernel_rfl) Try.func9 (by kernel_rfl)
    (of_decide_eq_true (by kernel_rfl)) (by unfold Func.isWrapper; first | (rw [if_pos (by decide +kernel)]; kernel_rfl) | (rw [if_neg (by decide +kernel)]; exact ⟨rfl, rfl⟩))
    (fun os started H enc _ => lifted os started H enc)

theorem proved : Rows.BitsOneSaid := over
end Go.Proofs.Ytomimpapdighhaa.bitsOne
