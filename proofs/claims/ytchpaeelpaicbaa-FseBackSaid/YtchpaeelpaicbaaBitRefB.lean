
/- The contracts of the document's Number, Bits and Bytes. -/
import Derived.Test.YtchpaeelpaicbaaBitNum
import Derived.Test.YtchpaeelpaicbaaEls
import Derived.Deep.LoopGhost
import Derived.Deep.CutRange
import Derived.Deep.DeepCutAuto
namespace Go.Proofs.Ytchpaeelpaicbaa
open Go.RowKit

theorem bool_one : ∀ x : Bool, (Value.bool x).oneCell' = true := fun _ => rfl
theorem bool_info : (Try.prog.info? 4).map (fun i => (i.zero, i.size, i.bytes)) = some (some (.bool false), 1, 1) := by kernel_rfl

theorem num_drop (l : List Bool) (k : Nat) (h : k < l.length) : num (l.drop k) = l[k].toNat + 2 * num (l.drop (k + 1)) := by
  rw [List.drop_eq_getElem_cons h]; rfl
theorem num_drop_lt (l : List Bool) (k : Nat) (h : l.length ≤ 60) : num (l.drop k) < 2 ^ 60 :=
  Nat.lt_of_lt_of_le (num_lt _) (Nat.pow_le_pow_right (by omega) (by simp; omega))

set_option maxHeartbeats 400000 in
theorem refNum_any {w : World} {lo hi : Nat} {A : Option Addr} {n c : Nat} {l : List Bool} (hd : DatE Value.bool w lo hi A l) (hn : l.length = n) (h : n ≤ 60) :
    Calls Try.prog 47 #[.slice A n c] w fun e w' => e = .returned (.int .u64 (num l : Nat)) ∧ w = w' := by
  have HD := Lib.hid hd
  have HN := Lib.hid hn
  clear hd hn
  go_enter Try.func47, Try.ntmps47
  go_wp2
  go_loop [3, 4] (fun x i => ∃ k : Nat, k ≤ n ∧ i = .int .i64 ((k : Int) - 1) ∧ x = .int .u64 (num (l.drop k) : Nat)) (fun _ i => (intOf i + 1).toNat)
  case atStart => exact ⟨n, Nat.le_refl _, rfl, by rw [List.drop_of_length_le (by have := HN.out; omega)]; rfl⟩
  case round =>
    obtain ⟨k, hk, rfl, rfl⟩ := hrel
    by_cases hk0 : 0 < k
    · obtain ⟨j, rfl⟩ : ∃ j, k = j + 1 := ⟨k - 1, by omega⟩
      obtain ⟨d, o, rfl, _, _, hc⟩ := HD.out (by have := HN.out; omega)
      have hjl : j < l.length := by have := HN.out; omega
      have hcj := hc j hjl
      have hX := num_drop_lt l (j + 1) (by have := HN.out; omega)
      have HX := Lib.hid (num_drop l j hjl)
      clear hc
      have e1 : ((j + 1 : Nat) : Int) - 1 = (j : Int) := by omega
      generalize num (l.drop (j + 1)) = X at *
      rw [e1]
      cases hb : l[j] with
      | true =>
        rw [hb] at hcj HX
        clear hb
        go_wp2
        go_round
        case rel => exact ⟨j, by omega, by go_num, by rw [HX.out]; simp; omega⟩
        case measure => simp [intOf]
      | false =>
        rw [hb] at hcj HX
        clear hb
        go_wp2
        go_round
        case rel => exact ⟨j, by omega, by go_num, by rw [HX.out]; simp; omega⟩
        case measure => simp [intOf]
    · obtain rfl : k = 0 := by omega
      go_wp2
      go_ret
      exact ⟨rfl, rfl⟩

theorem low_more (y j : Nat) : low y (j + 1) = low y j ++ [decide (y / 2 ^ j % 2 = 1)] := by
  rw [low_succ, Nat.testBit_eq_decide_div_mod_eq]
theorem div_more (y j : Nat) : y / 2 ^ j / 2 = y / 2 ^ (j + 1) := by rw [Nat.div_div_eq_div_mul, Nat.pow_succ]
theorem bitsOf_take (xs : List UInt8) (k : Nat) (h : k < xs.length) : bitsOf (xs.take (k + 1)) = bitsOf (xs.take k) ++ low xs[k].toNat 8 := by
  rw [List.take_succ_eq_append_getElem h, bitsOf_snoc]

/-- Behind an append to a slice of the call's own. -/
theorem grow_below {w wr w0 w1 : World} {u base : Nat} {v : Value} {l : List Bool} (hB : Below base w wr) (h0 : Below wr.heap.size wr w0) (hb : base ≤ wr.heap.size) (ho : OwE Value.bool wr u base v l) (hg : w0.grownBy w1 v.ownBlock) : Below base w w1 :=
  (hB.trans (h0.mono hb)).grown hg (by have := h0.size; omega) (fun k hk => (ho.block k hk).1)

set_option maxRecDepth 100000 in
set_option maxHeartbeats 1000000 in
theorem refBits_any (S : ByteArray) (w : World) (hs : S.size ≤ 100000000) :
    Calls Try.prog 36 #[.string S] w fun e w' => ∃ v, e = .returned v ∧ OwE Value.bool w' 4 w.heap.size v (bitsOf S.data.toList) ∧ Below w.heap.size w w' := by
  obtain ⟨i0, hi0, hz0, hz1, hz2⟩ := info_parts bool_info
  obtain ⟨L, hL⟩ : ∃ L, L = S.size := ⟨_, rfl⟩
  obtain ⟨bs, hbs⟩ : ∃ bs, bs = S.data.toList := ⟨_, rfl⟩
  have hbl : bs.length = L := by rw [hbs, hL]; simp
  have HBS := Lib.hid hbs
  have HBL := Lib.hid hbl
  have hsz := hL.symm
  rw [← hbs]
  rw [← hL] at hs
  clear hL hbs hbl
  go_enter Try.func36, Try.ntmps36
  go_wp2_with fail
  go_loopg [3, 4] L (fun gh x i wx => ∃ k : Nat, k + gh = L ∧ i = .int .i64 k ∧ OwE Value.bool wx 4 w.heap.size x (bitsOf (bs.take k)) ∧ Below w.heap.size w wx)
  case atStart => exact ⟨0, by omega, rfl, by simpa [bitsOf] using OwE.nil _ _ _ _, Below.refl _ _⟩
  case round =>
    obtain ⟨k, hk, rfl, ho, hB⟩ := hrel
    have HK := Lib.hid hk
    have hkL : k ≤ L := by omega
    have hw1 := hB.size
    have HO1 := Lib.hid ho
    have HB1 := Lib.hid hB
    clear hk ho hB
    by_cases hlt : k < L
    · have hlS : k < S.size := by rw [hsz]; exact hlt
      have hkl : k < bs.length := by rw [HBL.out]; exact hlt
      obtain ⟨y, hy⟩ : ∃ y, y = S[k].toNat := ⟨_, rfl⟩
      have HT : Hid (bitsOf (bs.take (k + 1)) = bitsOf (bs.take k) ++ low y 8) := by
        unfold Hid
        rw [bitsOf_take bs k hkl, hy]
        congr 3
        simp only [HBS.out]
        rfl
      have h8 : y < 256 := by rw [hy]; exact UInt8.toNat_lt _
      have e5 : ((S[k]).toNat : Int) = (y : Int) := by rw [hy]
      clear hy
      go_wp2_with fail
      go_loopg [3, 5, 6] 8 (fun gh x c i wx => ∃ j : Nat, j + gh = 8 ∧ i = .int .i64 j ∧ c = .int .u8 (y / 2 ^ j : Nat) ∧ OwE Value.bool wx 4 w.heap.size x (bitsOf (bs.take k) ++ low y j) ∧ Below w.heap.size w wx)
      case atStart => exact ⟨0, by omega, rfl, by simp, by simpa [low] using HO1.out, HB1.out⟩
      case round =>
        obtain ⟨j, hj, rfl, rfl, ho, hB⟩ := hrel
        have HJ := Lib.hid hj
        have hj8 : j ≤ 8 := by omega
        clear hj
        by_cases hjl : j < 8
        · have hji : (j : Int) < 8 := by omega
          have HM := Lib.hid (low_more y j)
          have HD := Lib.hid (div_more y j)
          have hz8 : y / 2 ^ j < 256 := Nat.lt_of_le_of_lt (Nat.div_le_self _ _) h8
          generalize y / 2 ^ j = z at *
          have hw2 := hB.size
          have HLn : Hid ((bitsOf (bs.take k) ++ low y j).length ≤ 900000000) := by
            show (bitsOf (bs.take k) ++ low y j).length ≤ 900000000
            rw [List.length_append, bitsOf_length, low_length, List.length_take]
            have := HBL.out
            omega
          by_cases ho1 : z % 2 = 1
          · have hoi : (z : Int) % 2 = 1 := by omega
            have hot : (z : Int).tmod 2 = 1 := by rw [Int.tmod_eq_emod_of_nonneg (by omega)]; exact hoi
            rw [show decide (z % 2 = 1) = true by simp [ho1]] at HM
            have HA := Lib.hid (ho.alloc (.cells #[.bool true] 4))
            have HD1 := Lib.hid (datE_one Value.bool wr true 4 _ rfl)
            have HO2 := Lib.hid ho
            have HB2 := Lib.hid hB
            clear ho hB ho1
            go_wp2_with (at_builtin; refine list_appE bool_one _ rfl _ _ 47 rfl i0 (.bool false) 1 Try.underlying47 hi0 hz0 hz1 hz2 rfl (by decide) rfl HA.out rfl HD1.out rfl ?_ ?_ ?_)
            · have := HLn.out; omega
            · simp; omega
            intro v1 w1 ho1 hg1 _
            have HG := Lib.hid (grow_below HB2.out ((Below.refl _ _).alloc (Nat.le_refl _) _) hw2 HO2.out hg1)
            have HO3 := Lib.hid ho1
            clear ho1 hg1
            go_wp2_with fail
            go_roundg (8 - (j + 1))
            case measure => have := HJ.out; omega
            case rel => exact ⟨j + 1, by omega, by go_num, by rw [← HD.out]; simp, by rw [HM.out]; exact HO3.out, HG.out⟩
          · have hoi : (z : Int) % 2 = 0 := by omega
            have hot : (z : Int).tmod 2 = 0 := by rw [Int.tmod_eq_emod_of_nonneg (by omega)]; exact hoi
            rw [show decide (z % 2 = 1) = false by simp [ho1]] at HM
            have HA := Lib.hid (ho.alloc (.cells #[.bool false] 4))
            have HD1 := Lib.hid (datE_one Value.bool wr false 4 _ rfl)
            have HO2 := Lib.hid ho
            have HB2 := Lib.hid hB
            clear ho hB ho1
            go_wp2_with (at_builtin; refine list_appE bool_one _ rfl _ _ 47 rfl i0 (.bool false) 1 Try.underlying47 hi0 hz0 hz1 hz2 rfl (by decide) rfl HA.out rfl HD1.out rfl ?_ ?_ ?_)
            · have := HLn.out; omega
            · simp; omega
            intro v1 w1 ho1 hg1 _
            have HG := Lib.hid (grow_below HB2.out ((Below.refl _ _).alloc (Nat.le_refl _) _) hw2 HO2.out hg1)
            have HO3 := Lib.hid ho1
            clear ho1 hg1
            go_wp2_with fail
            go_roundg (8 - (j + 1))
            case measure => have := HJ.out; omega
            case rel => exact ⟨j + 1, by omega, by go_num, by rw [← HD.out]; simp, by rw [HM.out]; exact HO3.out, HG.out⟩
        · have hj8 : j = 8 := by omega
          subst hj8
          have HO2 := Lib.hid ho
          have HB2 := Lib.hid hB
          clear ho hB
          go_wp2_with fail
          go_roundg (L - (k + 1))
          case measure => have := HK.out; omega
          case rel => exact ⟨k + 1, by omega, by go_num, by rw [HT.out]; exact HO2.out, HB2.out⟩
    · have hkn : k = L := by omega
      have hti : ¬ (k : Int) < (L : Int) := by omega
      go_wp2_with fail
      go_ret
      exact ⟨_, rfl, by rw [← List.take_of_length_le (l := bs) (i := k) (by rw [HBL.out]; omega)]; exact HO1.out, HB1.out⟩

theorem num_grow (l : List Bool) (a n : Nat) : num ((l.drop a).take (n + 1)) = num ((l.drop a).take n) + (l.getD (a + n) false).toNat * 2 ^ n := by
  by_cases h : a + n < l.length
  · rw [take_more _ _ _ h, num_snoc, List.length_take, List.length_drop, Nat.min_eq_left (by omega)]
    simp [List.getD, h]
  · rw [List.take_of_length_le (by simp; omega), List.take_of_length_le (by simp; omega)]
    simp [List.getD, show l.length ≤ a + n by omega]
theorem bytesOf_take (l : List Bool) (q : Nat) (h : 8 * q < l.length) : (bytesOf l).take (q + 1) = (bytesOf l).take q ++ [UInt8.ofNat (num ((l.drop (8 * q)).take 8))] := by
  have hq : q < (bytesOf l).length := by rw [bytesOf_length]; omega
  rw [List.take_succ_eq_append_getElem hq, bytesOf_get]

theorem grow_belowB {w wr w0 w1 : World} {u base : Nat} {v : Value} {l : List UInt8} (hB : Below base w wr) (h0 : Below wr.heap.size wr w0) (hb : base ≤ wr.heap.size) (ho : OwB wr u base v l) (hg : w0.grownBy w1 v.ownBlock) : Below base w w1 :=
  (hB.trans (h0.mono hb)).grown hg (by have := h0.size; omega) (fun k hk => (ho.block k hk).1)

end Go.Proofs.Ytchpaeelpaicbaa
