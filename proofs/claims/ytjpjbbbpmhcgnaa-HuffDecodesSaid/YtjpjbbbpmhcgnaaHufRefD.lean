
/- The contract of the document's Decode4. -/
import Derived.Test.YtjpjbbbpmhcgnaaHufRefS
import Derived.Test.YtjpjbbbpmhcgnaaHufFourP
import Derived.Test.YtjpjbbbpmhcgnaaPileA
import Derived.Deep.LoopGhost
namespace Go.Proofs.Ytjpjbbbpmhcgnaa
open Go.RowKit

theorem str_app (a b : List UInt8) : str (a ++ b) = str a ++ str b := by
  apply ByteArray.ext
  simp [str]
theorem str_of (S : ByteArray) : ∃ xs, S = str xs ∧ S.data.toList = xs := ⟨S.data.toList, rfl, rfl⟩

section
variable {w : World}
theorem num_ref (xs : List UInt8) (i : Nat) (W : World) :
    Calls Try.prog 25 #[.agg #[.string (str (numS xs i).1), .int .i64 (numS xs i).2], .int .i64 2] W fun e w' =>
      e = .returned (.tuple #[.agg #[.string (str (numS xs (i + 1)).1), .int .i64 (numS xs (i + 1)).2], .int .u64 (numV xs i : Nat)]) ∧ Below W.heap.size W w' := cu.refNumber_any (numS xs i).1 (numS xs i).2 2 W
theorem tak_ref {xs : List UInt8} (h : SplitOk xs) (i : Nat) (hi : i < 3) (W : World) :
    Calls Try.prog 26 #[.agg #[.string (str ((xs.drop 6).drop (offF xs i))), .int .i64 0], .int .i64 (szF xs i : Nat)] W fun e w' =>
      e = .returned (.tuple #[.agg #[.string (str ((xs.drop 6).drop (offF xs (i + 1)))), .int .i64 0], .string (str (ptF xs i))]) ∧ Below W.heap.size W w' := by
  have hoff : offF xs (i + 1) ≤ offF xs 3 := offF_le hi
  have e := tk_ok ((xs.drop 6).drop (offF xs i)) (szF xs i) (by unfold SplitOk at h; rw [offF] at hoff; rw [List.length_drop, List.length_drop]; omega)
  have h2 := cu.refTake_any ((xs.drop 6).drop (offF xs i)) 0 (szF xs i : Nat) W
  rw [show decide ((0 : Int) ≤ ((szF xs i : Nat) : Int)) = true from decide_eq_true (by omega), e] at h2
  unfold ptF
  rw [if_pos hi, offF, ← List.drop_drop (i := szF xs i)]
  exact h2
theorem tak_last {xs : List UInt8} (W : World) (k : Nat) (hk : k = (str ((xs.drop 6).drop (offF xs 3))).size) :
    Calls Try.prog 26 #[.agg #[.string (str ((xs.drop 6).drop (offF xs 3))), .int .i64 0], .int .i64 (k : Int)] W fun e w' =>
      ∃ Z, e = .returned (.tuple #[.agg #[.string Z, .int .i64 0], .string (str (ptF xs 3))]) ∧ Below W.heap.size W w' := by
  rw [cu.str_size] at hk
  subst hk
  have e := tk_ok ((xs.drop 6).drop (offF xs 3)) ((xs.drop 6).drop (offF xs 3)).length (Nat.le_refl _)
  have h2 := cu.refTake_any ((xs.drop 6).drop (offF xs 3)) 0 (((xs.drop 6).drop (offF xs 3)).length : Nat) W
  rw [show decide ((0 : Int) ≤ ((((xs.drop 6).drop (offF xs 3)).length : Nat) : Int)) = true from decide_eq_true (by omega), e] at h2
  unfold ptF
  rw [if_neg (by omega)]
  rw [List.take_length] at h2
  exact h2.mono fun e w' h => ⟨_, h⟩
theorem cntF_le1 (n i : Nat) : cntF n i ≤ n + 1 := by unfold cntF kF; split <;> omega
/-- How many bytes are taken for stream i. -/
def longF (xs : List UInt8) (Z : ByteArray) (i : Nat) : Nat := if i < 3 then szF xs i else Z.size
theorem tak_all {xs : List UInt8} (h : SplitOk xs) (i : Nat) (hi : i < 4) (W : World) :
    Calls Try.prog 26 #[.agg #[.string (str ((xs.drop 6).drop (offF xs i))), .int .i64 0], .int .i64 (longF xs (str ((xs.drop 6).drop (offF xs i))) i : Nat)] W fun e w' =>
      ∃ Z', e = .returned (.tuple #[.agg #[.string Z', .int .i64 0], .string (str (ptF xs i))]) ∧ Below W.heap.size W w' ∧ (i < 3 → Z' = str ((xs.drop 6).drop (offF xs (i + 1)))) := by
  by_cases h3 : i < 3
  · unfold longF
    rw [if_pos h3]
    exact (tak_ref h i h3 W).mono fun e w' h => ⟨_, h.1, h.2, fun _ => rfl⟩
  · obtain rfl : i = 3 := by omega
    unfold longF
    rw [if_neg h3]
    exact (tak_last W _ rfl).mono fun e w' ⟨Z, h1, h2⟩ => ⟨Z, h1, h2, fun h => absurd h h3⟩
set_option maxRecDepth 100000 in
set_option maxHeartbeats 1000000 in
theorem refDecode4_any (n : Int) (V S : ByteArray) (hv : V.size ≤ 100000) (hs : S.size ≤ 100000000) :
    Calls Try.prog 13 #[.string V, .string S, .int .i64 n] w fun e w' => ∃ r, D4Res V.data.toList S.data.toList n r ∧ SPost w r e w' := by
  obtain ⟨xs, rfl, hxs⟩ := str_of S
  rw [hxs]
  clear hxs
  rw [cu.str_size] at hs
  have HC := Lib.hid (refCodes_any (w := w) V hv)
  go_enter Try.func13, Try.ntmps13
  generalize hSx : str xs = SX
  go_wp2_with fail
  refine HC.out.mono ?_
  rintro e w1 ⟨hB1, ⟨d, v, hM, rfl, hO⟩ | ⟨hno, rfl⟩⟩
  · obtain ⟨C, c, rfl, hc, hR⟩ := hO.form ccell_len
    have hcl : (codesOf d (nat V.data.toList)).length = (nat V.data.toList).length := by simp [codesOf]
    obtain ⟨q, hq⟩ : ∃ q, q = (codesOf d (nat V.data.toList)).length := ⟨_, rfl⟩
    rw [← hq]
    have HM := Lib.hid (And.intro hM (And.intro hB1 (And.intro hR (hcl.symm.trans hq.symm))))
    have hs1 := hB1.size
    clear hM hO hB1 hR hcl hc hq HC
    by_cases h1 : n < 0
    · go_wp2_with fail
      go_ret2
      exact ⟨_, .inr ⟨fun _ _ h => by have := h.1; omega, rfl⟩, HM.out.2.1, rfl⟩
    · by_cases h2 : 131072 < n
      · go_wp2_with fail
        go_ret2
        exact ⟨_, .inr ⟨fun _ _ h => by have := h.2; omega, rfl⟩, HM.out.2.1, rfl⟩
      · obtain ⟨m, rfl⟩ := Int.eq_ofNat_of_zero_le (show 0 ≤ n by omega)
        have hm2 : m ≤ 131072 := by omega
        have hfour : Hid (D4Res V.data.toList xs (m : Int) (four d (nat V.data.toList) xs m)) := .inl ⟨d, HM.out.1, ⟨by omega, by omega⟩, rfl⟩
        have HIx := Lib.hid (And.intro (show ∀ i, i < 3 → cntF m i = kF m from fun i hi => by unfold cntF; rw [if_pos hi]) (show cntF m 3 = m - 3 * kF m from rfl))
        have hdf : Hid (four d (nat V.data.toList) xs m = if m < 3 * kF m then ([], 11) else if SplitOk xs then manyD d (nat V.data.toList) xs m 4 else ([], 10)) := rfl
        have hqo : ((m : Int) + 3) / 4 = (kF m : Nat) := by unfold kF; omega
        have hkl : kF m ≤ m + 1 := by unfold kF; omega
        clear h1 h2
        generalize kF m = kk at *
        by_cases h3 : m < 3 * kk
        · have hf := hfour.out
          rw [hdf.out, if_pos h3] at hf
          have HF := Lib.hid hf
          have h3z : (m : Int) < 3 * (kk : Int) := by omega
          clear hf hfour hdf h3
          go_wp2_with fail
          go_ret2
          exact ⟨_, HF.out, HM.out.2.1, rfl⟩
        · have h3z : ¬ (m : Int) < 3 * (kk : Int) := by omega
          have HSx := Lib.hid hSx
          have hN0 : Hid (SX = str (numS xs 0).1 ∧ (numS xs 0).2 = 0) := ⟨hSx.symm, rfl⟩
          have HN := Lib.hid (num_ref xs)
          have hbx := Box.new w1 52 #[.string SX, .int .i64 0]
          have hB2 := (Below.refl w1.heap.size w1).alloc (Nat.le_refl _) (.cells #[.string SX, .int .i64 0] 52)
          obtain ⟨w2, hw2⟩ : ∃ w2, w2 = w1.alloc (.cells #[.string SX, .int .i64 0] 52) := ⟨_, rfl⟩
          rw [← hw2] at hbx hB2
          have HW2 := Lib.hid hw2
          have H2 := Lib.hid (And.intro hbx hB2)
          obtain ⟨g, hg⟩ : ∃ g, g = w1.heap.size := ⟨_, rfl⟩
          rw [← hg] at H2 hs1
          have HG := Lib.hid hg
          clear hbx hB2 hSx hw2 hg
          have HN0 := Lib.hid (HN.out 0 w2)
          rw [← hN0.out.1, hN0.out.2] at HN0
          have hv0 := numV_lt (xs := xs) 0
          have hv1 := numV_lt (xs := xs) 1
          have hv2 := numV_lt (xs := xs) 2
          obtain ⟨V0, hV0⟩ : ∃ x, x = numV xs 0 := ⟨_, rfl⟩
          obtain ⟨V1, hV1⟩ : ∃ x, x = numV xs 1 := ⟨_, rfl⟩
          obtain ⟨V2, hV2⟩ : ∃ x, x = numV xs 2 := ⟨_, rfl⟩
          have HN1 := Lib.hid (HN.out 1)
          have HN2 := Lib.hid (HN.out 2)
          rw [← hV0] at hv0 HN0
          rw [← hV1] at hv1 HN1
          rw [← hV2] at hv2 HN2
          have HV := Lib.hid (And.intro hV0 (And.intro hV1 hV2))
          clear hV0 hV1 hV2
          obtain ⟨Z1, hZ1⟩ : ∃ x, x = str (numS xs 1).1 := ⟨_, rfl⟩
          obtain ⟨E1, hE1⟩ : ∃ x, x = (numS xs 1).2 := ⟨_, rfl⟩
          rw [show 0 + 1 = 1 from rfl, ← hZ1, ← hE1] at HN0
          rw [← hZ1, ← hE1] at HN1
          obtain ⟨Z2, hZ2⟩ : ∃ x, x = str (numS xs 2).1 := ⟨_, rfl⟩
          obtain ⟨E2, hE2⟩ : ∃ x, x = (numS xs 2).2 := ⟨_, rfl⟩
          rw [show 1 + 1 = 2 from rfl, ← hZ2, ← hE2] at HN1
          rw [← hZ2, ← hE2] at HN2
          obtain ⟨Z3, hZ3⟩ : ∃ x, x = str (numS xs 3).1 := ⟨_, rfl⟩
          obtain ⟨E3, hE3⟩ : ∃ x, x = (numS xs 3).2 := ⟨_, rfl⟩
          rw [show 2 + 1 = 3 from rfl, ← hZ3, ← hE3] at HN2
          have HZ3 := Lib.hid (And.intro hZ3 hE3)
          clear hZ1 hZ2 hZ3 hE1 hE2 hE3 HN hN0
          go_wp2_with fail
          rw [hqo, ← HW2.out, ← HG.out]
          refine HN0.out.mono ?_
          rintro e w3 ⟨rfl, hBw3⟩
          have hsw3 := hBw3.size
          have hbxw3 := H2.out.1.below hBw3 H2.out.1.lt
          have hglw3 := hbxw3.lt
          obtain ⟨c0, c1, f0, f1⟩ := bbox hbxw3
          have hnw4 : Hid (Box ((w3.setCell ⟨g, 0, none⟩ (.string Z1)).setCell ⟨g, 1, none⟩ (.int .i64 E1)) g 52 #[.string Z1, .int .i64 E1] ∧ Below g w1 ((w3.setCell ⟨g, 0, none⟩ (.string Z1)).setCell ⟨g, 1, none⟩ (.int .i64 E1))) :=
            ⟨(hbxw3.put 0 _).put 1 _, (((H2.out.2.trans (hBw3.mono (Nat.le_of_lt H2.out.1.lt))).setCell (p := ⟨g, 0, none⟩) (Nat.le_refl _) _).setCell (p := ⟨g, 1, none⟩) (Nat.le_refl _) _)⟩
          obtain ⟨w4, hww4⟩ : ∃ w4, w4 = ((w3.setCell ⟨g, 0, none⟩ (.string Z1)).setCell ⟨g, 1, none⟩ (.int .i64 E1)) := ⟨_, rfl⟩
          rw [← hww4] at hnw4
          have H4 := hnw4
          have HW4 := Lib.hid hww4
          clear hBw3 hbxw3 hww4 hnw4
          go_wp2_with fail
          rw [← HW4.out]
          refine (HN1.out _).mono ?_
          rintro e w5 ⟨rfl, hBw5⟩
          have hsw5 := hBw5.size
          have hbxw5 := H4.out.1.below hBw5 H4.out.1.lt
          have hglw5 := hbxw5.lt
          obtain ⟨c0, c1, f0, f1⟩ := bbox hbxw5
          have hnw6 : Hid (Box ((w5.setCell ⟨g, 0, none⟩ (.string Z2)).setCell ⟨g, 1, none⟩ (.int .i64 E2)) g 52 #[.string Z2, .int .i64 E2] ∧ Below g w1 ((w5.setCell ⟨g, 0, none⟩ (.string Z2)).setCell ⟨g, 1, none⟩ (.int .i64 E2))) :=
            ⟨(hbxw5.put 0 _).put 1 _, (((H4.out.2.trans (hBw5.mono (Nat.le_of_lt H4.out.1.lt))).setCell (p := ⟨g, 0, none⟩) (Nat.le_refl _) _).setCell (p := ⟨g, 1, none⟩) (Nat.le_refl _) _)⟩
          obtain ⟨w6, hww6⟩ : ∃ w6, w6 = ((w5.setCell ⟨g, 0, none⟩ (.string Z2)).setCell ⟨g, 1, none⟩ (.int .i64 E2)) := ⟨_, rfl⟩
          rw [← hww6] at hnw6
          have H6 := hnw6
          have HW6 := Lib.hid hww6
          clear hBw5 hbxw5 hww6 hnw6
          go_wp2_with fail
          rw [← HW6.out]
          refine (HN2.out _).mono ?_
          rintro e w7 ⟨rfl, hBw7⟩
          have hsw7 := hBw7.size
          have hbxw7 := H6.out.1.below hBw7 H6.out.1.lt
          have hglw7 := hbxw7.lt
          obtain ⟨c0, c1, f0, f1⟩ := bbox hbxw7
          have hnw8 : Hid (Box ((w7.setCell ⟨g, 0, none⟩ (.string Z3)).setCell ⟨g, 1, none⟩ (.int .i64 E3)) g 52 #[.string Z3, .int .i64 E3] ∧ Below g w1 ((w7.setCell ⟨g, 0, none⟩ (.string Z3)).setCell ⟨g, 1, none⟩ (.int .i64 E3))) :=
            ⟨(hbxw7.put 0 _).put 1 _, (((H6.out.2.trans (hBw7.mono (Nat.le_of_lt H6.out.1.lt))).setCell (p := ⟨g, 0, none⟩) (Nat.le_refl _) _).setCell (p := ⟨g, 1, none⟩) (Nat.le_refl _) _)⟩
          obtain ⟨w8, hww8⟩ : ∃ w8, w8 = ((w7.setCell ⟨g, 0, none⟩ (.string Z3)).setCell ⟨g, 1, none⟩ (.int .i64 E3)) := ⟨_, rfl⟩
          rw [← hww8] at hnw8
          have H8 := hnw8
          have HW8 := Lib.hid hww8
          clear hBw7 hbxw7 hww8 hnw8
          have HB8 := Lib.hid (HM.out.2.1.trans (H8.out.2.mono hs1))
          have hgl8 := H8.out.1.lt
          have hw4 : IntKind.u64.wrap ((V0 : Int) + (V1 : Int)) = (V0 : Int) + (V1 : Int) := by rw [IntKind.wrap_u64]; omega
          have hw5 : IntKind.u64.wrap ((V0 : Int) + (V1 : Int) + (V2 : Int)) = (V0 : Int) + (V1 : Int) + (V2 : Int) := by rw [IntKind.wrap_u64]; omega
          have hf0 := hfour.out
          rw [hdf.out, if_neg h3] at hf0
          clear hfour hdf
          by_cases hok : SplitOk xs
          · have h6 : 6 ≤ xs.length := by unfold SplitOk at hok; omega
            have hZE : Z3 = str (xs.drop 6) ∧ E3 = 0 := by
              have := HZ3.out
              rw [numS_ok h6 3 (by omega)] at this
              exact this
            have hE3 := hZE.2
            have hV : V0 = szF xs 0 ∧ V1 = szF xs 1 ∧ V2 = szF xs 2 := ⟨HV.out.1.trans (numV_ok h6 0 (by omega)), HV.out.2.1.trans (numV_ok h6 1 (by omega)), HV.out.2.2.trans (numV_ok h6 2 (by omega))⟩
            have hzs : Z3.size = xs.length - 6 := by rw [hZE.1, cu.str_size, List.length_drop]
            have hle : V0 + V1 + V2 ≤ Z3.size := by
              have h := hok
              unfold SplitOk at h
              simp only [offF, ← hV.1, ← hV.2.1, ← hV.2.2] at h
              omega
            have hw3 : IntKind.u64.wrap (Z3.size : Int) = (Z3.size : Int) := by rw [IntKind.wrap_u64]; omega
            have hlez : ¬ (Z3.size : Int) < (V0 : Int) + (V1 : Int) + (V2 : Int) := by omega
            rw [if_pos hok] at hf0
            have HF := Lib.hid hf0
            have HZE := Lib.hid (And.intro hZE hV)
            subst hE3
            clear hf0 hZE hV HZ3
            go_wp2_with fail
            rw [← HW8.out]
            clear HW8 c0 c1 f0 f1 HW6 HW4 HW2 hw3 hw4 hw5 hlez
            go_loopg [15, 16] 4 (fun gh vo vi wx => ∃ i : Nat, vi = .int .i64 (i : Int) ∧ i + gh = 4 ∧ vo = .string (str (manyD d (nat V.data.toList) xs m i).1) ∧ (manyD d (nat V.data.toList) xs m i).2 = 0 ∧ Below g w1 wx ∧
              ∃ Z E, Box wx g 52 #[.string Z, .int .i64 E] ∧ (i ≤ 3 → Z = str ((xs.drop 6).drop (offF xs i)) ∧ E = 0))
            case atStart => exact ⟨0, rfl, rfl, rfl, rfl, H8.out.2, _, _, H8.out.1, fun _ => ⟨HZE.out.1.1, rfl⟩⟩
            case round =>
              obtain ⟨i, rfl, hgk, rfl, hz, hB, Z, E, hbx, hZ⟩ := hrel
              have hBs := hB.size
              have hgl := hbx.lt
              obtain ⟨O, hO⟩ : ∃ O, O = str (manyD d (nat V.data.toList) xs m i).1 := ⟨_, rfl⟩
              rw [← hO]
              have HO := Lib.hid (And.intro hO hz)
              have hOs : O.size ≤ 4 * 131073 := by
                rw [hO, cu.str_size]
                have h1 := manyD_len (d := d) (L := nat V.data.toList) (xs := xs) (n := m) i
                have h2 : i * (m + 1) ≤ 4 * 131073 := Nat.mul_le_mul (by omega) (by omega)
                omega
              have HB := Lib.hid (And.intro hbx hB)
              clear hO hz hB
              by_cases hlt : i < 4
              · obtain ⟨g', rfl⟩ : ∃ g', gk = g' + 1 := ⟨gk - 1, by omega⟩
                obtain ⟨hZe, hE0⟩ := hZ (by omega)
                clear hZ
                subst hE0
                have hbad := fun h => manyD_bad (d := d) (L := nat V.data.toList) (xs := xs) (n := m) hlt HO.out.2 h
                have hgood := fun h => manyD_good (d := d) (L := nat V.data.toList) (xs := xs) (n := m) (i := i) HO.out.2 h
                have HBG := Lib.hid (And.intro hbad hgood)
                have hcz := cntF_le1 m i
                have hptl : (ptF xs i).length ≤ xs.length := by
                  unfold ptF
                  split
                  · rw [List.length_take, List.length_drop, List.length_drop]; omega
                  · rw [List.length_drop, List.length_drop]; omega
                have hRj := fun W (h : Below g w1 W) => HM.out.2.2.1.below h (by rw [HG.out]; exact Nat.le_refl _)
                have HSt := Lib.hid (fun W (h : Below g w1 W) => refStreamH_any (w := W) (n := cntF m i) (cC := c) (str (ptF xs i)) HM.out.1 (hRj W h) HM.out.2.2.2 (by have := h.size; rw [← HG.out] at this ⊢; exact this) (by rw [cu.str_size]; omega) (by omega))
                rw [show (str (ptF xs i)).data.toList = ptF xs i from rfl] at HSt
                have hct0 : i < 3 → cntF m i = kk := HIx.out.1 i
                have hct3 := HIx.out.2
                clear hbad hgood hRj hptl
                obtain ⟨R, hR⟩ : ∃ R, R = strm d (nat V.data.toList) (ptF xs i) (cntF m i) := ⟨_, rfl⟩
                rw [← hR] at HBG HSt
                have hsl := strm_len (d := d) (l := nat V.data.toList) (xs := ptF xs i) (cntF m i)
                rw [← hR] at hsl
                clear hR
                obtain ⟨ys, er⟩ := R
                have HTk := Lib.hid (tak_all hok i hlt)
                rw [← hZe] at HTk
                obtain ⟨T, hT⟩ : ∃ T, T = str (ptF xs i) := ⟨_, rfl⟩
                rw [← hT] at HTk HSt
                obtain ⟨Y, hY⟩ : ∃ Y, Y = str ys := ⟨_, rfl⟩
                have hYs : Y.size ≤ 131073 := by
                  rw [hY, cu.str_size]
                  dsimp only at hsl
                  omega
                clear hsl
                have HY := Lib.hid hY
                have HZ := Lib.hid hZe
                clear hT hY hZe hs
                rcases (show i = 0 ∨ i = 1 ∨ i = 2 ∨ i = 3 by omega) with rfl | rfl | rfl | rfl
                · obtain ⟨c0, c1, f0, f1⟩ := bbox hbx
                  rw [hct0 (by omega)] at HSt hcz
                  rw [show longF xs Z 0 = szF xs 0 from rfl, ← HZE.out.2.1] at HTk
                  clear hct0 hct3 hbx hlt
                  go_wp2_with fail
                  refine (HTk.out _).mono ?_
                  rintro e w5 ⟨Z', rfl, hB5, hZ'⟩
                  have hs5 := hB5.size
                  rw [World.size_alloc] at hs5
                  have hb5 := (HB.out.1.alloc _).below hB5 (by rw [World.size_alloc]; omega)
                  have hB5b := (HB.out.2.alloc (by omega) _).trans (hB5.mono (by rw [World.size_alloc]; omega))
                  obtain ⟨c0, c1, f0, f1⟩ := bbox hb5
                  have H5 := Lib.hid (And.intro hb5 (And.intro hB5b hZ'))
                  have hg5 : g < w5.heap.size := by omega
                  clear hb5 hB5b hZ' hB5 HTk
                  go_wp2_with fail
                  have h6 : Box (((w5.setCell ⟨g, 0, none⟩ (.string Z')).setCell ⟨g, 1, none⟩ (.int .i64 0)).alloc (.cells #[.string Z', .int .i64 0] 52)) g 52 #[.string Z', .int .i64 0] ∧
                      Below g w1 (((w5.setCell ⟨g, 0, none⟩ (.string Z')).setCell ⟨g, 1, none⟩ (.int .i64 0)).alloc (.cells #[.string Z', .int .i64 0] 52)) := by
                    refine ⟨((H5.out.1.put 0 _).put 1 _).alloc _, ?_⟩
                    have hb := (H5.out.2.1.setCell (p := ⟨g, 0, none⟩) (Nat.le_refl _) (.string Z')).setCell (p := ⟨g, 1, none⟩) (Nat.le_refl _) (.int .i64 0)
                    exact hb.alloc (Nat.le_trans (Nat.le_of_eq HG.out) hb.size) _
                  generalize (((w5.setCell ⟨g, 0, none⟩ (.string Z')).setCell ⟨g, 1, none⟩ (.int .i64 0)).alloc (.cells #[.string Z', .int .i64 0] 52)) = w6 at *
                  have hg6 := h6.1.lt
                  have H6 := Lib.hid h6
                  clear c0 c1 f0 f1 h6
                  refine (HSt.out w6 H6.out.2).mono ?_
                  rintro e w7 ⟨hB7, rfl⟩
                  have hb7 := H6.out.1.below hB7 hg6
                  have H7 := Lib.hid (And.intro hb7 (H6.out.2.trans (hB7.mono (Nat.le_of_lt hg6))))
                  clear hb7 hB7 HSt
                  dsimp only at HBG ⊢
                  rw [← HY.out]
                  by_cases her : er = 0
                  · subst her
                    go_wp2_with fail
                    go_roundg g'
                    case measure => omega
                    case rel =>
                      have hgd := HBG.out.2 (by trivial)
                      refine ⟨0 + 1, by go_num, by omega, ?_, by rw [hgd], H7.out.2, _, _, H7.out.1, fun h => ⟨H5.out.2.2 (by omega), rfl⟩⟩
                      rw [hgd, HO.out.1, HY.out, str_app]
                  · have herb : (er != 0) = true := by simpa using her
                    have hbd := HBG.out.1 her
                    have hfr := HF.out
                    rw [hbd] at hfr
                    have HFr := Lib.hid hfr
                    clear hbd hfr
                    go_wp2_with fail
                    go_ret2
                    exact ⟨_, HFr.out, HM.out.2.1.trans (H7.out.2.mono hs1), rfl⟩
                · obtain ⟨c0, c1, f0, f1⟩ := bbox hbx
                  rw [hct0 (by omega)] at HSt hcz
                  rw [show longF xs Z 1 = szF xs 1 from rfl, ← HZE.out.2.2.1] at HTk
                  clear hct0 hct3 hbx hlt
                  go_wp2_with fail
                  refine (HTk.out _).mono ?_
                  rintro e w5 ⟨Z', rfl, hB5, hZ'⟩
                  have hs5 := hB5.size
                  rw [World.size_alloc] at hs5
                  have hb5 := (HB.out.1.alloc _).below hB5 (by rw [World.size_alloc]; omega)
                  have hB5b := (HB.out.2.alloc (by omega) _).trans (hB5.mono (by rw [World.size_alloc]; omega))
                  obtain ⟨c0, c1, f0, f1⟩ := bbox hb5
                  have H5 := Lib.hid (And.intro hb5 (And.intro hB5b hZ'))
                  have hg5 : g < w5.heap.size := by omega
                  clear hb5 hB5b hZ' hB5 HTk
                  go_wp2_with fail
                  have h6 : Box (((w5.setCell ⟨g, 0, none⟩ (.string Z')).setCell ⟨g, 1, none⟩ (.int .i64 0)).alloc (.cells #[.string Z', .int .i64 0] 52)) g 52 #[.string Z', .int .i64 0] ∧
                      Below g w1 (((w5.setCell ⟨g, 0, none⟩ (.string Z')).setCell ⟨g, 1, none⟩ (.int .i64 0)).alloc (.cells #[.string Z', .int .i64 0] 52)) := by
                    refine ⟨((H5.out.1.put 0 _).put 1 _).alloc _, ?_⟩
                    have hb := (H5.out.2.1.setCell (p := ⟨g, 0, none⟩) (Nat.le_refl _) (.string Z')).setCell (p := ⟨g, 1, none⟩) (Nat.le_refl _) (.int .i64 0)
                    exact hb.alloc (Nat.le_trans (Nat.le_of_eq HG.out) hb.size) _
                  generalize (((w5.setCell ⟨g, 0, none⟩ (.string Z')).setCell ⟨g, 1, none⟩ (.int .i64 0)).alloc (.cells #[.string Z', .int .i64 0] 52)) = w6 at *
                  have hg6 := h6.1.lt
                  have H6 := Lib.hid h6
                  clear c0 c1 f0 f1 h6
                  refine (HSt.out w6 H6.out.2).mono ?_
                  rintro e w7 ⟨hB7, rfl⟩
                  have hb7 := H6.out.1.below hB7 hg6
                  have H7 := Lib.hid (And.intro hb7 (H6.out.2.trans (hB7.mono (Nat.le_of_lt hg6))))
                  clear hb7 hB7 HSt
                  dsimp only at HBG ⊢
                  rw [← HY.out]
                  by_cases her : er = 0
                  · subst her
                    go_wp2_with fail
                    go_roundg g'
                    case measure => omega
                    case rel =>
                      have hgd := HBG.out.2 (by trivial)
                      refine ⟨1 + 1, by go_num, by omega, ?_, by rw [hgd], H7.out.2, _, _, H7.out.1, fun h => ⟨H5.out.2.2 (by omega), rfl⟩⟩
                      rw [hgd, HO.out.1, HY.out, str_app]
                  · have herb : (er != 0) = true := by simpa using her
                    have hbd := HBG.out.1 her
                    have hfr := HF.out
                    rw [hbd] at hfr
                    have HFr := Lib.hid hfr
                    clear hbd hfr
                    go_wp2_with fail
                    go_ret2
                    exact ⟨_, HFr.out, HM.out.2.1.trans (H7.out.2.mono hs1), rfl⟩
                · obtain ⟨c0, c1, f0, f1⟩ := bbox hbx
                  rw [hct0 (by omega)] at HSt hcz
                  rw [show longF xs Z 2 = szF xs 2 from rfl, ← HZE.out.2.2.2] at HTk
                  clear hct0 hct3 hbx hlt
                  go_wp2_with fail
                  refine (HTk.out _).mono ?_
                  rintro e w5 ⟨Z', rfl, hB5, hZ'⟩
                  have hs5 := hB5.size
                  rw [World.size_alloc] at hs5
                  have hb5 := (HB.out.1.alloc _).below hB5 (by rw [World.size_alloc]; omega)
                  have hB5b := (HB.out.2.alloc (by omega) _).trans (hB5.mono (by rw [World.size_alloc]; omega))
                  obtain ⟨c0, c1, f0, f1⟩ := bbox hb5
                  have H5 := Lib.hid (And.intro hb5 (And.intro hB5b hZ'))
                  have hg5 : g < w5.heap.size := by omega
                  clear hb5 hB5b hZ' hB5 HTk
                  go_wp2_with fail
                  have h6 : Box (((w5.setCell ⟨g, 0, none⟩ (.string Z')).setCell ⟨g, 1, none⟩ (.int .i64 0)).alloc (.cells #[.string Z', .int .i64 0] 52)) g 52 #[.string Z', .int .i64 0] ∧
                      Below g w1 (((w5.setCell ⟨g, 0, none⟩ (.string Z')).setCell ⟨g, 1, none⟩ (.int .i64 0)).alloc (.cells #[.string Z', .int .i64 0] 52)) := by
                    refine ⟨((H5.out.1.put 0 _).put 1 _).alloc _, ?_⟩
                    have hb := (H5.out.2.1.setCell (p := ⟨g, 0, none⟩) (Nat.le_refl _) (.string Z')).setCell (p := ⟨g, 1, none⟩) (Nat.le_refl _) (.int .i64 0)
                    exact hb.alloc (Nat.le_trans (Nat.le_of_eq HG.out) hb.size) _
                  generalize (((w5.setCell ⟨g, 0, none⟩ (.string Z')).setCell ⟨g, 1, none⟩ (.int .i64 0)).alloc (.cells #[.string Z', .int .i64 0] 52)) = w6 at *
                  have hg6 := h6.1.lt
                  have H6 := Lib.hid h6
                  clear c0 c1 f0 f1 h6
                  refine (HSt.out w6 H6.out.2).mono ?_
                  rintro e w7 ⟨hB7, rfl⟩
                  have hb7 := H6.out.1.below hB7 hg6
                  have H7 := Lib.hid (And.intro hb7 (H6.out.2.trans (hB7.mono (Nat.le_of_lt hg6))))
                  clear hb7 hB7 HSt
                  dsimp only at HBG ⊢
                  rw [← HY.out]
                  by_cases her : er = 0
                  · subst her
                    go_wp2_with fail
                    go_roundg g'
                    case measure => omega
                    case rel =>
                      have hgd := HBG.out.2 (by trivial)
                      refine ⟨2 + 1, by go_num, by omega, ?_, by rw [hgd], H7.out.2, _, _, H7.out.1, fun h => ⟨H5.out.2.2 (by omega), rfl⟩⟩
                      rw [hgd, HO.out.1, HY.out, str_app]
                  · have herb : (er != 0) = true := by simpa using her
                    have hbd := HBG.out.1 her
                    have hfr := HF.out
                    rw [hbd] at hfr
                    have HFr := Lib.hid hfr
                    clear hbd hfr
                    go_wp2_with fail
                    go_ret2
                    exact ⟨_, HFr.out, HM.out.2.1.trans (H7.out.2.mono hs1), rfl⟩
                · obtain ⟨c0, c1, f0, f1⟩ := bbox hbx
                  rw [hct3] at HSt hcz
                  rw [show longF xs Z 3 = Z.size from rfl] at HTk
                  have hll : (m : Int) - 3 * (kk : Int) = ((m - 3 * kk : Nat) : Int) := by omega
                  clear hct0 hct3 hbx hlt
                  go_wp2_with fail
                  refine (HTk.out _).mono ?_
                  rintro e w5 ⟨Z', rfl, hB5, hZ'⟩
                  have hs5 := hB5.size
                  rw [World.size_alloc] at hs5
                  have hb5 := (HB.out.1.alloc _).below hB5 (by rw [World.size_alloc]; omega)
                  have hB5b := (HB.out.2.alloc (by omega) _).trans (hB5.mono (by rw [World.size_alloc]; omega))
                  obtain ⟨c0, c1, f0, f1⟩ := bbox hb5
                  have H5 := Lib.hid (And.intro hb5 (And.intro hB5b hZ'))
                  have hg5 : g < w5.heap.size := by omega
                  clear hb5 hB5b hZ' hB5 HTk
                  go_wp2_with fail
                  have h6 : Box (((w5.setCell ⟨g, 0, none⟩ (.string Z')).setCell ⟨g, 1, none⟩ (.int .i64 0)).alloc (.cells #[.string Z', .int .i64 0] 52)) g 52 #[.string Z', .int .i64 0] ∧
                      Below g w1 (((w5.setCell ⟨g, 0, none⟩ (.string Z')).setCell ⟨g, 1, none⟩ (.int .i64 0)).alloc (.cells #[.string Z', .int .i64 0] 52)) := by
                    refine ⟨((H5.out.1.put 0 _).put 1 _).alloc _, ?_⟩
                    have hb := (H5.out.2.1.setCell (p := ⟨g, 0, none⟩) (Nat.le_refl _) (.string Z')).setCell (p := ⟨g, 1, none⟩) (Nat.le_refl _) (.int .i64 0)
                    exact hb.alloc (Nat.le_trans (Nat.le_of_eq HG.out) hb.size) _
                  generalize (((w5.setCell ⟨g, 0, none⟩ (.string Z')).setCell ⟨g, 1, none⟩ (.int .i64 0)).alloc (.cells #[.string Z', .int .i64 0] 52)) = w6 at *
                  have hg6 := h6.1.lt
                  have H6 := Lib.hid h6
                  clear c0 c1 f0 f1 h6
                  refine (HSt.out w6 H6.out.2).mono ?_
                  rintro e w7 ⟨hB7, rfl⟩
                  have hb7 := H6.out.1.below hB7 hg6
                  have H7 := Lib.hid (And.intro hb7 (H6.out.2.trans (hB7.mono (Nat.le_of_lt hg6))))
                  clear hb7 hB7 HSt
                  dsimp only at HBG ⊢
                  rw [← HY.out]
                  by_cases her : er = 0
                  · subst her
                    go_wp2_with fail
                    go_roundg g'
                    case measure => omega
                    case rel =>
                      have hgd := HBG.out.2 (by trivial)
                      refine ⟨3 + 1, by go_num, by omega, ?_, by rw [hgd], H7.out.2, _, _, H7.out.1, fun h => ⟨H5.out.2.2 (by omega), rfl⟩⟩
                      rw [hgd, HO.out.1, HY.out, str_app]
                  · have herb : (er != 0) = true := by simpa using her
                    have hbd := HBG.out.1 her
                    have hfr := HF.out
                    rw [hbd] at hfr
                    have HFr := Lib.hid hfr
                    clear hbd hfr
                    go_wp2_with fail
                    go_ret2
                    exact ⟨_, HFr.out, HM.out.2.1.trans (H7.out.2.mono hs1), rfl⟩
              · obtain rfl : i = 4 := by omega
                have hiz : ¬ ((4 : Nat) : Int) < 4 := by decide
                have hres : manyD d (nat V.data.toList) xs m 4 = ((manyD d (nat V.data.toList) xs m 4).1, 0) := by rw [← HO.out.2]
                have hfr := HF.out
                rw [hres] at hfr
                have HFr := Lib.hid hfr
                clear hres hfr
                go_wp2_with fail
                go_ret2
                rw [HO.out.1]
                exact ⟨_, _, HFr.out, HM.out.2.1.trans (HB.out.2.mono hs1), rfl⟩
          · rw [if_neg hok] at hf0
            have HF := Lib.hid hf0
            by_cases h6 : xs.length < 6
            · have hE3 : E3 = 10 := HZ3.out.2.trans (numS_bad h6)
              subst hE3
              clear hf0
              go_wp2_with fail
              go_ret2
              exact ⟨_, HF.out, by rw [← HW8.out]; exact HB8.out, rfl⟩
            · have h6 : 6 ≤ xs.length := by omega
              have hZE : Z3 = str (xs.drop 6) ∧ E3 = 0 := by
                have := HZ3.out
                rw [numS_ok h6 3 (by omega)] at this
                exact this
              have hE3 := hZE.2
              have hV : V0 = szF xs 0 ∧ V1 = szF xs 1 ∧ V2 = szF xs 2 := ⟨HV.out.1.trans (numV_ok h6 0 (by omega)), HV.out.2.1.trans (numV_ok h6 1 (by omega)), HV.out.2.2.trans (numV_ok h6 2 (by omega))⟩
              have hzs : Z3.size = xs.length - 6 := by rw [hZE.1, cu.str_size, List.length_drop]
              have hle : Z3.size < V0 + V1 + V2 := by
                have h := hok
                unfold SplitOk at h
                simp only [offF, ← hV.1, ← hV.2.1, ← hV.2.2] at h
                omega
              have hw3 : IntKind.u64.wrap (Z3.size : Int) = (Z3.size : Int) := by rw [IntKind.wrap_u64]; omega
              have hlez : (Z3.size : Int) < (V0 : Int) + (V1 : Int) + (V2 : Int) := by omega
              subst hE3
              clear hf0 hZE hV HZ3
              go_wp2_with fail
              go_ret2
              exact ⟨_, HF.out, by rw [← HW8.out]; exact HB8.out, rfl⟩
  · go_wp2_with fail
    go_ret2
    exact ⟨_, .inr ⟨fun d h => absurd h (hno d), rfl⟩, hB1, rfl⟩
end
end Go.Proofs.Ytjpjbbbpmhcgnaa
