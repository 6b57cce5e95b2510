
/- The contract of the document's Codes. -/
import Derived.Test.YtafdfjacfodbnaaWtRef
import Derived.Test.YtafdfjacfodbnaaWtCodes
import Derived.Test.YtafdfjacfodbnaaPileA
namespace Go.Proofs.Ytafdfjacfodbnaa
open Go.RowKit

/-- The running code: that of the last symbol that has one, and its bits; none yet: noughts. -/
def RI (d : Nat) (l : List Nat) (w s B C : Nat) : Prop :=
  (posW l w s = 0 ∧ B = 0 ∧ C = 0) ∨ ∃ v, 1 ≤ v ∧ v ≤ w ∧ v ≤ d ∧ B + v = d + 1 ∧ (C + 1) * 2 ^ (v - 1) = posW l w s
theorem ri_start (d : Nat) (l : List Nat) : RI d l 1 0 0 0 := .inl ⟨by unfold posW; rw [bel_one]; simp [cnw], rfl, rfl⟩
theorem posW_skip {l : List Nat} {w s : Nat} (h : s < l.length) (hw : l.getD s 0 ≠ w) : posW l w (s + 1) = posW l w s := by
  unfold posW
  rw [cnw_take_succ w l s h, if_neg]
  · rfl
  · rw [List.getD_eq_getElem?_getD, List.getElem?_eq_getElem h, Option.getD_some] at hw
    exact hw
theorem posW_put {l : List Nat} {w s : Nat} (h : s < l.length) (hw : l.getD s 0 = w) : posW l w (s + 1) = posW l w s + 2 ^ (w - 1) := by
  unfold posW
  rw [cnw_take_succ w l s h, if_pos]
  · rw [Nat.add_mul, Nat.one_mul, Nat.add_assoc]
  · rw [List.getD_eq_getElem?_getD, List.getElem?_eq_getElem h, Option.getD_some] at hw
    exact hw
theorem ri_skip {d : Nat} {l : List Nat} {w s B C : Nat} (h : RI d l w s B C) (hs : s < l.length) (hw : l.getD s 0 ≠ w) : RI d l w (s + 1) B C := by
  unfold RI
  rw [posW_skip hs hw]
  exact h
theorem ri_next {d : Nat} {l : List Nat} {w B C : Nat} (h : RI d l w l.length B C) (hw : 0 < w) : RI d l (w + 1) 0 B C := by
  have e : posW l (w + 1) 0 = posW l w l.length := by
    unfold posW
    rw [bel_succ w hw l, List.take_length]
    simp [cnw]
  unfold RI
  rw [e]
  rcases h with h | ⟨v, h1, h2, h3⟩
  · exact .inl h
  · exact .inr ⟨v, h1, by omega, h3⟩
theorem posW_dvd {d : Nat} {l : List Nat} {w s : Nat} (hM : MayW d l) (hw : 0 < w) (hwd : w ≤ d) : posW l w s / 2 ^ (w - 1) * 2 ^ (w - 1) = posW l w s := by
  have e := bel_dvd hM.2.2.2.1 hw (show w ≤ d + 1 by omega)
  unfold posW
  rw [Nat.add_mul_div_right _ _ (Nat.two_pow_pos _), Nat.add_mul, ← e]
theorem ri_put {d : Nat} {l : List Nat} {w s : Nat} (hM : MayW d l) (hs : s < l.length) (hw : l.getD s 0 = w) (hw0 : 0 < w) (hwd : w ≤ d) : RI d l w (s + 1) (d + 1 - w) (codeW l s) := by
  refine .inr ⟨w, hw0, Nat.le_refl _, hwd, by omega, ?_⟩
  have hc : codeW l s = posW l w s / 2 ^ (w - 1) := by unfold codeW; rw [if_neg (by omega), hw]
  rw [posW_put hs hw, hc, Nat.add_mul, posW_dvd hM hw0 hwd, Nat.one_mul]
theorem ri_code {d : Nat} {l : List Nat} {w s B C : Nat} (h : RI d l w s B C) (hw : l.getD s 0 = w) (hw0 : 0 < w) (hwd : w ≤ d) : (if 0 < B then C + 1 else C) / 2 ^ (B - (d + 1 - w)) = codeW l s := by
  have hc : codeW l s = posW l w s / 2 ^ (w - 1) := by unfold codeW; rw [if_neg (by omega), hw]
  rw [hc]
  rcases h with ⟨h1, h2, h3⟩ | ⟨v, h1, h2, h3, h4, h5⟩
  · subst h2 h3
    rw [h1]
    simp
  · rw [if_pos (by omega), ← h5, show B - (d + 1 - w) = w - v by omega, show w - 1 = w - v + (v - 1) by omega, Nat.pow_add, Nat.mul_div_mul_right _ _ (Nat.two_pow_pos _)]
theorem ri_bits {d : Nat} {l : List Nat} {w s B C : Nat} (h : RI d l w s B C) (hM : MayW d l) (hwd : w ≤ d) : B ≤ d ∧ C ≤ 1000000 := by
  rcases h with ⟨h1, h2, h3⟩ | ⟨v, h1, h2, h3, h4, h5⟩
  · omega
  · have hp : posW l w s ≤ 2 ^ 11 + 256 * 2 ^ 10 := by
      have h1' := bel_mono (show w ≤ d + 1 by omega) l
      rw [bel_all l hM.2.2.2.2.2.2, hM.2.2.2.1] at h1'
      have h2' : 2 ^ d ≤ 2 ^ 11 := Nat.pow_le_pow_right (by omega) hM.2.2.2.2.2.1
      have h3' := cnw_le w (l.take s)
      have h6 : (l.take s).length ≤ l.length := by simp; omega
      have h4' : 2 ^ (w - 1) ≤ 2 ^ 10 := Nat.pow_le_pow_right (by omega) (by have := hM.2.2.2.2.2.1; omega)
      have h7 := hM.2.1
      have h5' : cnw w (l.take s) * 2 ^ (w - 1) ≤ 256 * 2 ^ 10 := Nat.mul_le_mul (by omega) h4'
      unfold posW
      omega
    have h6 : C + 1 ≤ (C + 1) * 2 ^ (v - 1) := Nat.le_mul_of_pos_right _ (Nat.two_pow_pos _)
    omega

/-- What the document's Codes answers. -/
def RCodesPost (l : List Nat) (w : World) (e : Ending) (w' : World) : Prop :=
  Below w.heap.size w w' ∧ ((∃ d v, MayW d l ∧ e = .returned (.tuple #[v, .int .i64 0]) ∧ OwR 2 ccell w' 37 w.heap.size v (codesOf d l)) ∨ ((∀ d, ¬ MayW d l) ∧ e = .returned (.tuple #[.slice none 0 0, .int .i64 1])))
theorem info_c : (Try.prog.info? 37).map (fun i => (i.zero, i.size, i.bytes)) = some (some (.agg #[.int .i64 0, .int .i64 0]), 2, 16) := by kernel_rfl

section
variable {w : World}
set_option maxRecDepth 100000 in
set_option maxHeartbeats 2000000 in
theorem refCodes_any (S : ByteArray) (hs : S.size ≤ 100000) :
    Calls Try.prog 14 #[.string S] w (RCodesPost (nat S.data.toList) w) := by
  have HDp := fun W => Lib.hid (refDepth_any (w := W) S hs)
  obtain ⟨L, hL⟩ : ∃ L, L = S.size := ⟨_, rfl⟩
  obtain ⟨bs, hbs⟩ : ∃ bs, bs = S.data.toList := ⟨_, rfl⟩
  have hbl : (nat bs).length = L := by rw [nat_len, hbs, hL]; simp
  have HBS := Lib.hid hbs
  have hsz := hL.symm
  rw [← hbs] at HDp ⊢
  rw [← hL] at hs
  have HBL := Lib.hid hbl
  clear hL hbs hbl
  go_enter Try.func14, Try.ntmps14
  go_wp2_with fail
  refine (HDp _).out.mono ?_
  rintro _ w1 ⟨hw1, ⟨d, hM, rfl⟩ | ⟨hno, rfl⟩⟩
  · subst hw1
    have hd0 : ((d : Int) == 0) = false := by rw [beq_eq_false_iff_ne]; have := hM.2.2.2.2.1; omega
    have hd1 := hM.2.2.2.2.1
    have hd11 := hM.2.2.2.2.2.1
    have hl2 := hM.1
    have hl256 := hM.2.1
    rw [HBL.out] at hl2 hl256
    have HM := Lib.hid hM
    obtain ⟨i0, hi0, hi1⟩ := Option.map_eq_some_iff.1 info_c
    simp only [Prod.mk.injEq] at hi1
    obtain ⟨hz0, hz1, hz2⟩ := hi1
    have HI := Lib.hid (And.intro hi0 (And.intro hz0 (And.intro hz1 hz2)))
    clear hi0 hz0 hz1 hz2 hM HDp
    obtain ⟨wo, hwo⟩ : ∃ wo : World, wo = w := ⟨_, rfl⟩
    subst hwo
    go_wp2_with fail
    go_loopg [5, 6] L (fun gh vl vi wx => ∃ i : Nat, vi = .int .i64 (i : Int) ∧ i + gh = L ∧ OwR 2 ccell wx 37 wo.heap.size vl (List.replicate i (0, 0)) ∧ Below wo.heap.size wo wx)
    case atStart => exact ⟨0, rfl, by omega, OwR.nil _ _ _ _ _, Below.refl _ _⟩
    case round =>
      obtain ⟨i, rfl, hi, hO, hB⟩ := hrel
      have HO := Lib.hid hO
      have HB := Lib.hid hB
      have hsB := hB.size
      have HGK := Lib.hid hi
      have hiL : i ≤ L := by omega
      clear hO hB hi
      by_cases hlt : i < L
      · have hltz : (i : Int) < (L : Int) := by omega
        obtain ⟨gk', rfl⟩ : ∃ g', gk = g' + 1 := ⟨gk - 1, by have := HGK.out; omega⟩
        have HA := Lib.hid (HO.out.alloc (.cells #[.int .i64 0, .int .i64 0] 37))
        have HD1 := Lib.hid (datR_one (f := ccell) (z := 2) wr ((0, 0) : Nat × Nat) 37 #[.int .i64 0, .int .i64 0] rfl)
        go_wp2_with (at_builtin; refine list_appR ccell_len (by decide) ccell_one _ rfl _ _ 32 rfl i0 (.agg #[.int .i64 0, .int .i64 0]) 16 Try.underlying32 HI.out.1 HI.out.2.1 HI.out.2.2.1 HI.out.2.2.2 rfl (by decide) rfl HA.out rfl HD1.out rfl ?_ ?_ ?_)
        · simp; omega
        · simp; omega
        intro v1 w4 ho1 hg1 hat1
        have HB4 := Lib.hid ((HB.out.alloc (by omega) (.cells #[.int .i64 0, .int .i64 0] 37)).grown hg1 (by simp; omega) (fun k hk => (HO.out.block k hk).1))
        rw [show List.replicate i ((0, 0) : Nat × Nat) ++ [(0, 0)] = List.replicate (i + 1) (0, 0) by rw [List.replicate_succ']] at ho1
        have HO1 := Lib.hid ho1
        clear ho1 hg1 hat1 HA HD1
        go_wp2_with fail
        go_roundg gk'
        case rel => exact ⟨i + 1, by go_num, by have := HGK.out; omega, HO1.out, HB4.out⟩
        case measure => omega
      · obtain rfl : i = L := by omega
        have hltz : ¬ (i : Int) < (i : Int) := by omega
        obtain ⟨g, c, rfl, hg1, hg2, hgc⟩ := HO.out.place (by simp; omega)
        rw [List.length_replicate] at HO hgc ⊢
        have hst := HO.out
        rw [← HBL.out, ← cds_zero d (nat bs), HBL.out] at hst
        have HST := Lib.hid hst
        clear hst HO
        go_wp2_with fail
        go_loopg [7, 8, 9] d (fun g1 vc vb vw wx => ∃ W B C : Nat, vw = .int .i64 (W : Int) ∧ 1 ≤ W ∧ W + g1 = d + 1 ∧ vc = .int .i64 (C : Int) ∧ vb = .int .i64 (B : Int) ∧ RI d (nat bs) W 0 B C ∧ OwR 2 ccell wx 37 wo.heap.size (.slice (some ⟨g, 0, none⟩) i c) (cds d (nat bs) (W - 1) 0) ∧ Below wo.heap.size wo wx)
        case atStart => exact ⟨1, 0, 0, rfl, Nat.le_refl _, by omega, rfl, rfl, ri_start _ _, HST.out, HB.out⟩
        case round =>
          clear HST HB hsB hgc hg2 hlt HGK hiL hltz
          obtain ⟨W, B, C, rfl, hW1, hWg, rfl, rfl, hR, hO, hB⟩ := hrel
          have HR := Lib.hid hR
          have HO := Lib.hid hO
          have HB := Lib.hid hB
          have HWG := Lib.hid hWg
          have hWd : W ≤ d + 1 := by omega
          clear hR hO hB hWg
          by_cases hlt : W ≤ d
          · have hltz : (W : Int) ≤ (d : Int) := by omega
            obtain ⟨gk', rfl⟩ : ∃ g', gk = g' + 1 := ⟨gk - 1, by have := HWG.out; omega⟩
            go_wp2_with fail
            go_loopg [7, 8, 10] i (fun g2 vc vb vs wy => ∃ j B C : Nat, vs = .int .i64 (j : Int) ∧ j + g2 = i ∧ vc = .int .i64 (C : Int) ∧ vb = .int .i64 (B : Int) ∧ RI d (nat bs) W j B C ∧ OwR 2 ccell wy 37 wo.heap.size (.slice (some ⟨g, 0, none⟩) i c) (cds d (nat bs) (W - 1) j) ∧ Below wo.heap.size wo wy)
            case atStart => exact ⟨0, B, C, rfl, by omega, rfl, rfl, HR.out, HO.out, HB.out⟩
            case round =>
              clear HR HO HB
              obtain ⟨j, B, C, rfl, hj, rfl, rfl, hR, hO, hB⟩ := hrel
              have HJ := Lib.hid hj
              obtain ⟨hBd, hC1⟩ := ri_bits hR HM.out hlt
              have hji : j ≤ i := by omega
              have HR := Lib.hid hR
              have HO := Lib.hid hO
              have HB := Lib.hid hB
              clear hj hR hO hB
              by_cases hlt2 : j < i
              · have hltz2 : (j : Int) < (i : Int) := by omega
                obtain ⟨gq, rfl⟩ : ∃ g', gk = g' + 1 := ⟨gk - 1, by have := HJ.out; omega⟩
                have hlS2 : j < S.size := by rw [hsz]; exact hlt2
                have hkl : j < (nat bs).length := by rw [HBL.out]; exact hlt2
                have e6 := str_nat HBS.out hlS2 hkl
                have e6z : ((S[j].toNat : Nat) : Int) = (((nat bs)[j] : Nat) : Int) := by rw [e6]
                have hgj : (nat bs).getD j 0 = (nat bs)[j] := getD_eq _ _ _ _
                have hx8 : (nat bs)[j] ≤ 11 := by have := HM.out.2.2.2.2.2.2 _ (List.getElem_mem hkl); omega
                have HG := Lib.hid hgj
                clear e6 hgj
                generalize (nat bs)[j] = x at *
                by_cases hxW : x = W
                · have hxz : ((x : Int) != (W : Int)) = false := by rw [bne_eq_false_iff_eq]; omega
                  obtain ⟨n, hn⟩ : ∃ n, n = d + 1 - W := ⟨_, rfl⟩
                  have hn1 : 1 ≤ n := by omega
                  have hn11 : n ≤ 11 := by omega
                  have eN : (d : Int) + 1 - (W : Int) = (n : Int) := by omega
                  have HN := Lib.hid hn
                  clear hn
                  have HCo := Lib.hid (ri_code HR.out (by rw [HG.out, hxW]) (by omega) hlt)
                  by_cases hB0 : 0 < B
                  · have hB0z : (0 : Int) < (B : Int) := by omega
                    have hB0d : decide (0 < B) = true := decide_eq_true hB0
                    obtain ⟨X, hX⟩ : ∃ X, X = C + 1 := ⟨_, rfl⟩
                    have hXz : (C : Int) + 1 = (X : Int) := by omega
                    have hXm : X ≤ 1000001 := by omega
                    have hco := HCo.out
                    rw [if_pos hB0, ← hX, ← HN.out] at hco
                    have HCo2 := Lib.hid hco
                    clear hX hco HCo
                    go_wp2_with fail
                    go_loopg [7, 8] (B - n) (fun g3 vc vb wz => ∃ t b x : Nat, t + g3 = B - n ∧ b + t = B ∧ x = X / 2 ^ t ∧ vb = .int .i64 (b : Int) ∧ vc = .int .i64 (x : Int) ∧ wz = wr)
                    case atStart => exact ⟨0, B, X, by omega, rfl, by simp, rfl, rfl, rfl⟩
                    case round =>
                      obtain ⟨t, b, x2, ht, hbt, hx2, rfl, rfl, rfl⟩ := hrel
                      have hxm : x2 ≤ 1000001 := by rw [hx2]; have := Nat.div_le_self X (2 ^ t); omega
                      have HT := Lib.hid (And.intro ht (And.intro hbt hx2))
                      have hbB : b ≤ B := by omega
                      clear ht hbt hx2
                      by_cases hlt3 : n < b
                      · have hnbz : (n : Int) < (b : Int) := by omega
                        obtain ⟨gz, rfl⟩ : ∃ g', gk = g' + 1 := ⟨gk - 1, by have := HT.out; omega⟩
                        obtain ⟨Y, hY⟩ : ∃ Y, Y = x2 / 2 := ⟨_, rfl⟩
                        have hYz : (x2 : Int) / 2 = (Y : Int) := by omega
                        have hYm : Y ≤ x2 := by omega
                        have HY := Lib.hid hY
                        clear hY
                        go_wp2_with fail
                        go_roundg gz
                        case measure => omega
                        case rel =>
                          obtain ⟨ht, hbt, hx2⟩ := HT.out
                          exact ⟨t + 1, b - 1, Y, by omega, by omega, by rw [HY.out, hx2, Nat.div_div_eq_div_mul, Nat.pow_succ], by go_num, rfl, rfl⟩
                      · have hnbz : ¬ (n : Int) < (b : Int) := by omega
                        obtain ⟨ht, hbt, hx2⟩ := HT.out
                        have htn : t = B - n := by omega
                        rw [htn, HCo2.out] at hx2
                        have HX2 := Lib.hid hx2
                        have hjc : j < (cds d (nat bs) (W - 1) j).length := by rw [cds_len]; exact hkl
                        have hq := HO.out.cellAt ccell_len j 0 hjc (by decide) _ rfl
                        have hq2 := HO.out.cellAt ccell_len j 1 hjc (by decide) _ rfl
                        obtain ⟨v0, hv0⟩ : ∃ v, v = Value.int .i64 (((cds d (nat bs) (W - 1) j)[j]'hjc).1 : Int) := ⟨_, rfl⟩
                        obtain ⟨v1, hv1⟩ : ∃ v, v = Value.int .i64 (((cds d (nat bs) (W - 1) j)[j]'hjc).2 : Int) := ⟨_, rfl⟩
                        rw [← hv0, Nat.add_zero] at hq
                        rw [← hv1] at hq2
                        obtain ⟨cq, fq⟩ := hq
                        obtain ⟨cq2, fq2⟩ := hq2
                        clear hv0 hv1 hx2 htn ht hbt HT
                        go_wp2_with fail
                        go_roundg gq
                        case measure => omega
                        case rel =>
                          have hgs : (nat bs).getD j 0 = W - 1 + 1 := by rw [HG.out]; omega
                          have hbw : bitsW d (nat bs) j = n := by unfold bitsW; rw [if_neg (by omega), hgs, HN.out]; omega
                          have p1 := HO.out.put ccell_len j 0 hjc (by decide) (.int .i64 (n : Int)) (n, ((cds d (nat bs) (W - 1) j)[j]'hjc).2) (by simp [ccell])
                          have p2 := p1.put ccell_len j 1 (by rw [List.length_set]; exact hjc) (by decide) (.int .i64 (x2 : Int)) (n, x2) (by simp [ccell])
                          rw [List.set_set, ← hbw, HX2.out, cds_set hgs, hbw, ← HX2.out] at p2
                          have hri : RI d (nat bs) W (j + 1) n x2 := by
                            rw [HN.out, HX2.out]
                            exact ri_put HM.out hkl (by rw [HG.out]; omega) (by omega) hlt
                          exact ⟨j + 1, n, x2, by go_num, by have := HJ.out; omega, rfl, rfl, hri, p2, (HB.out.setCell hg1 _).setCell hg1 _⟩
                  · obtain rfl : B = 0 := by omega
                    obtain ⟨X, hX⟩ : ∃ X, X = C := ⟨_, rfl⟩
                    have hco := HCo.out
                    rw [if_neg (by omega), ← hX, ← HN.out] at hco
                    have HCo2 := Lib.hid hco
                    have hXm : X ≤ 1000001 := by omega
                    subst hX
                    clear hco HCo
                    go_wp2_with fail
                    go_loopg [7, 8] (0 - n) (fun g3 vc vb wz => ∃ t b x : Nat, t + g3 = 0 - n ∧ b + t = 0 ∧ x = X / 2 ^ t ∧ vb = .int .i64 (b : Int) ∧ vc = .int .i64 (x : Int) ∧ wz = wr)
                    case atStart => exact ⟨0, 0, X, by omega, rfl, by simp, rfl, rfl, rfl⟩
                    case round =>
                      obtain ⟨t, b, x2, ht, hbt, hx2, rfl, rfl, rfl⟩ := hrel
                      have hxm : x2 ≤ 1000001 := by rw [hx2]; have := Nat.div_le_self X (2 ^ t); omega
                      have HT := Lib.hid (And.intro ht (And.intro hbt hx2))
                      have hbB : b ≤ 0 := by omega
                      clear ht hbt hx2
                      by_cases hlt3 : n < b
                      · have hnbz : (n : Int) < (b : Int) := by omega
                        obtain ⟨gz, rfl⟩ : ∃ g', gk = g' + 1 := ⟨gk - 1, by have := HT.out; omega⟩
                        obtain ⟨Y, hY⟩ : ∃ Y, Y = x2 / 2 := ⟨_, rfl⟩
                        have hYz : (x2 : Int) / 2 = (Y : Int) := by omega
                        have hYm : Y ≤ x2 := by omega
                        have HY := Lib.hid hY
                        clear hY
                        go_wp2_with fail
                        go_roundg gz
                        case measure => omega
                        case rel =>
                          obtain ⟨ht, hbt, hx2⟩ := HT.out
                          exact ⟨t + 1, b - 1, Y, by omega, by omega, by rw [HY.out, hx2, Nat.div_div_eq_div_mul, Nat.pow_succ], by go_num, rfl, rfl⟩
                      · have hnbz : ¬ (n : Int) < (b : Int) := by omega
                        obtain ⟨ht, hbt, hx2⟩ := HT.out
                        have htn : t = 0 - n := by omega
                        rw [htn, HCo2.out] at hx2
                        have HX2 := Lib.hid hx2
                        have hjc : j < (cds d (nat bs) (W - 1) j).length := by rw [cds_len]; exact hkl
                        have hq := HO.out.cellAt ccell_len j 0 hjc (by decide) _ rfl
                        have hq2 := HO.out.cellAt ccell_len j 1 hjc (by decide) _ rfl
                        obtain ⟨v0, hv0⟩ : ∃ v, v = Value.int .i64 (((cds d (nat bs) (W - 1) j)[j]'hjc).1 : Int) := ⟨_, rfl⟩
                        obtain ⟨v1, hv1⟩ : ∃ v, v = Value.int .i64 (((cds d (nat bs) (W - 1) j)[j]'hjc).2 : Int) := ⟨_, rfl⟩
                        rw [← hv0, Nat.add_zero] at hq
                        rw [← hv1] at hq2
                        obtain ⟨cq, fq⟩ := hq
                        obtain ⟨cq2, fq2⟩ := hq2
                        clear hv0 hv1 hx2 htn ht hbt HT
                        go_wp2_with fail
                        go_roundg gq
                        case measure => omega
                        case rel =>
                          have hgs : (nat bs).getD j 0 = W - 1 + 1 := by rw [HG.out]; omega
                          have hbw : bitsW d (nat bs) j = n := by unfold bitsW; rw [if_neg (by omega), hgs, HN.out]; omega
                          have p1 := HO.out.put ccell_len j 0 hjc (by decide) (.int .i64 (n : Int)) (n, ((cds d (nat bs) (W - 1) j)[j]'hjc).2) (by simp [ccell])
                          have p2 := p1.put ccell_len j 1 (by rw [List.length_set]; exact hjc) (by decide) (.int .i64 (x2 : Int)) (n, x2) (by simp [ccell])
                          rw [List.set_set, ← hbw, HX2.out, cds_set hgs, hbw, ← HX2.out] at p2
                          have hri : RI d (nat bs) W (j + 1) n x2 := by
                            rw [HN.out, HX2.out]
                            exact ri_put HM.out hkl (by rw [HG.out]; omega) (by omega) hlt
                          exact ⟨j + 1, n, x2, by go_num, by have := HJ.out; omega, rfl, rfl, hri, p2, (HB.out.setCell hg1 _).setCell hg1 _⟩
                · have hxz : ((x : Int) != (W : Int)) = true := by rw [bne_iff_ne]; omega
                  go_wp2_with fail
                  go_roundg gq
                  case measure => omega
                  case rel =>
                    refine ⟨j + 1, B, C, by go_num, by have := HJ.out; omega, rfl, rfl, ri_skip HR.out hkl (by rw [HG.out]; exact hxW), ?_, HB.out⟩
                    rw [cds_skip (by rw [HG.out]; omega)]
                    exact HO.out
              · obtain rfl : j = i := by omega
                have hltz2 : ¬ (j : Int) < (j : Int) := by omega
                go_wp2_with fail
                go_roundg gk'
                case measure => omega
                case rel =>
                  have hR := HR.out
                  have hO := HO.out
                  rw [← HBL.out] at hR hO
                  rw [cds_next, HBL.out] at hO
                  exact ⟨W + 1, B, C, by go_num, by omega, by have := HWG.out; omega, rfl, rfl, ri_next hR (by omega), by rw [show W + 1 - 1 = W - 1 + 1 by omega]; exact hO, HB.out⟩
          · obtain rfl : W = d + 1 := by omega
            have hltz : ¬ ((d + 1 : Nat) : Int) ≤ (d : Int) := by omega
            have hO := HO.out
            rw [show d + 1 - 1 = d by omega, cds_end HM.out] at hO
            have HO2 := Lib.hid hO
            clear hO
            go_wp2_with fail
            go_ret2
            exact ⟨HB.out, .inl ⟨d, _, HM.out, rfl, HO2.out⟩⟩
  · subst hw1
    have HN := Lib.hid hno
    clear hno HDp
    go_wp2_with fail
    go_ret2
    exact ⟨Below.refl _ _, .inr ⟨HN.out, rfl⟩⟩
end
end Go.Proofs.Ytafdfjacfodbnaa
