
/- The contract of the program's ways. -/
import Derived.Test.YtpdnmhnnngcbjaaDoorTabWaysP
import Derived.Test.YtpdnmhnnngcbjaaDoorPileA
namespace Go.Proofs.YtpdnmhnnngcbjaaDoor
open Go.RowKit

theorem way_info : (Tryd.prog.info? 54).map (fun i => (i.zero, i.size, i.bytes)) = some (some (.agg #[.int .i64 0, .slice none 0 0, .int .i64 0, .slice none 0 0]), 4, 64) := by kernel_rfl

/-- Where a slice of the call's own lies. -/
theorem OwB.where {w : World} {u base n c : Nat} {A : Option Addr} {xs : List UInt8} (h : OwB w u base (.slice A n c) xs) : ∀ d o s, A = some ⟨d, o, s⟩ → base ≤ d ∧ d < w.heap.size := fun d o s e => by
  subst e
  rcases h.2 with ⟨hv, _⟩ | ⟨g', cap, cur, hv, hb, hh, _⟩
  · cases hv
  · injection hv with h1 h2 h3
    injection h1 with h1
    injection h1 with h1 h4 h5
    subst h1
    exact ⟨hb, (Array.getElem?_eq_some_iff.1 hh).1⟩

set_option maxRecDepth 100000 in
set_option maxHeartbeats 2000000 in
theorem ways_any {B n : Nat} {w : World} (f : Nat → Nat) (hn : n < 3) (hgl : Glob B w) (hf : ∀ s, f s ≤ 1000) (hz : ∀ s, lastN n < s → f s = 0) (h2 : 2 ≤ cnt (osF f)) :
    Calls Tryd.prog 20 #[.int .i64 (n : Int), .agg (a53 .u32 f)] w fun e w' => ∃ v xs, e = .returned v ∧ WI n f w w' v xs (mostN n + 1) := by
  obtain ⟨i0, hi0, hz0, hz1, hz2⟩ := info_parts way_info
  have HI := Lib.hid (And.intro hi0 (And.intro hz0 (And.intro hz1 hz2)))
  have HF := Lib.hid hf
  have HZ := Lib.hid hz
  have H2 := Lib.hid h2
  have HG := Lib.hid hgl
  have hmo := most_le n hn
  have hmo8 := most_ge n hn
  have HGF := Lib.hid (givenF hn)
  have hla := last_le n hn
  have hsum : (osF f).sum ≤ 1000 * 53 := by
    have h := sum_le (osF f) 1000 (fun o ho => by
      simp only [osF, List.mem_map] at ho
      obtain ⟨s, _, rfl⟩ := ho
      exact hf s)
    rw [osF_len] at h
    exact h
  have HSm := Lib.hid hsum
  have HMost : Hid (∀ V, Glob B V → Calls Tryd.prog 14 #[.int .i64 (n : Int)] V fun e w' => e = .returned (.int .i64 (mostN n : Int)) ∧ V = w') := fun V hV => by
    have := most_any (n : Int) V hV
    rwa [mostZ_nat hn] at this
  have hb0 := Box.new w 51 (a53 .u32 f)
  have HB0 := Lib.hid (And.intro hb0 ((Below.refl w.heap.size w).alloc (Nat.le_refl _) (.cells (a53 .u32 f) 51)))
  have hs0 : (w.alloc (.cells (a53 .u32 f) 51)).heap.size = w.heap.size + 1 := by simp
  have HS0 := Lib.hid hs0
  have HGs := Lib.hid hgl.size
  clear hi0 hz0 hz1 hz2 hf hz h2 hgl hsum hb0 hs0
  obtain ⟨M, hM⟩ : ∃ M, M = mostN n := ⟨_, rfl⟩
  rw [← hM] at hmo hmo8 HMost ⊢
  have HM := Lib.hid hM
  clear hM
  go_enter Tryd.func20, Tryd.ntmps20
  go_wp2_with (refine Go.Great.wpList_boxTo rfl 51 _ rfl _ rfl w.heap.size rfl (a53 .u32 f) (a53_cells _ _) ?_)
  generalize w.alloc (.cells (a53 .u32 f) 51) = W at *
  refine (default_any n W (HG.out.below HB0.out.2 HGs.out) hn).mono ?_
  rintro e w1 ⟨v1, rfl, ho1, hB1⟩
  obtain ⟨d1, c1, rfl, hd1l, hd1, hc1⟩ := ho1.place (by rw [tabG_len hn]; exact Nat.two_pow_pos _)
  have HL1 := Lib.hid (tabG_len hn)
  have HO1 := Lib.hid ho1
  have HB1 := Lib.hid (HB0.out.2.trans (hB1.mono HB0.out.2.size))
  have HBx := Lib.hid (HB0.out.1.below hB1 HB0.out.1.lt)
  obtain ⟨N, hN⟩ : ∃ N, N = (tabG n).length := ⟨_, rfl⟩
  rw [← hN] at ho1 hc1 ⊢
  have HN := Lib.hid hN
  clear ho1 hB1 hN
  go_upto_region 3 with (fail)
  have hw2 : WI n f w ((w1.alloc (.cells #[.int .i64 (logN n : Int), .slice (some ⟨d1, 0, none⟩) N c1] 26)).alloc (.cells #[.int .i64 (logN n : Int), .slice (some ⟨d1, 0, none⟩) N c1, .int .i64 0, .slice none 0 0] 54))
      (.slice (some ⟨w1.heap.size + 1, 0, none⟩) 1 1) [(⟨(logN n : Int), some ⟨d1, 0, none⟩, N, c1, 0, none, 0, 0⟩, tabG n)] 5 := by
    have hB2 := (Below.refl w1.heap.size w1).alloc (Nat.le_refl _) (.cells #[.int .i64 (logN n : Int), .slice (some ⟨d1, 0, none⟩) N c1] 26)
    have hB3 := hB2.alloc hB2.size (.cells #[.int .i64 (logN n : Int), .slice (some ⟨d1, 0, none⟩) N c1, .int .i64 0, .slice none 0 0] 54)
    have hsz : ((w1.alloc (.cells #[.int .i64 (logN n : Int), .slice (some ⟨d1, 0, none⟩) N c1] 26)).alloc (.cells #[.int .i64 (logN n : Int), .slice (some ⟨d1, 0, none⟩) N c1, .int .i64 0, .slice none 0 0] 54)).heap.size = w1.heap.size + 2 := by simp
    have hs1 := HB1.out.size
    have hs0 := HS0.out
    have hsW : W.heap.size ≤ w1.heap.size := by omega
    refine ⟨?_, ?_, HBx.out.below hB3 HBx.out.lt, HB1.out.trans (hB3.mono HB1.out.size), ⟨by simp, by simp⟩, fun l h1 h2 _ => by omega, ?_⟩
    · refine ⟨rfl, .inr ⟨w1.heap.size + 1, 1, #[.int .i64 (logN n : Int), .slice (some ⟨d1, 0, none⟩) N c1, .int .i64 0, .slice none 0 0], rfl, by omega, ?_, Nat.le_refl _, by decide, rfl, rfl⟩⟩
      have h := heap_alloc_new (w1.alloc (.cells #[.int .i64 (logN n : Int), .slice (some ⟨d1, 0, none⟩) N c1] 26)) (.cells #[.int .i64 (logN n : Int), .slice (some ⟨d1, 0, none⟩) N c1, .int .i64 0, .slice none 0 0] 54)
      rw [World.size_alloc] at h
      exact h
    · intro p hp
      rw [List.mem_singleton.1 hp]
      refine ⟨⟨?_, HN.out.symm, ?_, ?_, ?_, by simp⟩, .inl ⟨rfl, rfl, rfl, rfl, rfl, rfl⟩, ?_, Apart.none _ _⟩
      · exact ((HO1.out.dat ecell_len).below hB3 (Nat.le_refl _)).mono (Nat.zero_le _) hB3.size
      · have h6 : 2 ^ logN n ≤ 2 ^ 6 := Nat.pow_le_pow_right (by omega) (log_le n hn)
        have := HL1.out
        have := HN.out
        show N ≤ 65536
        omega
      · exact small_tab HGF.out (by rw [parts_len n hn]; have := has_le n hn; omega)
      · have := log_le n hn
        show (0 : Int) ≤ (logN n : Int) ∧ (logN n : Int) ≤ 15
        omega
      · intro d o s e
        injection e with e
        injection e with e1 e2 e3
        subst e1
        refine ⟨by rw [hsz]; omega, fun q => ?_⟩
        have q' : w1.heap.size + 1 = d1 := by simpa [Value.ownBlock] using q
        omega
    · have hd1 := (HO1.out.block d1 rfl).1
      have hw1 : w.heap.size ≤ d1 := by omega
      clear hd1
      intro p hp
      rw [List.mem_singleton.1 hp]
      intro d o s e
      have e' : (some (⟨d1, 0, none⟩ : Addr)) = some ⟨d, o, s⟩ := e
      have e1 : d1 = d := congrArg Addr.block (Option.some.inj e')
      rw [← e1]
      exact hw1
  have HW := Lib.hid hw2
  clear hw2 HO1 HB1 HBx HB0 HL1 HN
  generalize (w1.alloc (.cells #[.int .i64 (logN n : Int), .slice (some ⟨d1, 0, none⟩) N c1] 26)).alloc (.cells #[.int .i64 (logN n : Int), .slice (some ⟨d1, 0, none⟩) N c1, .int .i64 0, .slice none 0 0] 54) = W2 at *
  go_wp2_with fail
  go_loopg [7, 8] (M - 4) (fun gh v7 v8 wx => ∃ (lg : Nat) (xs : List (Wy × List En)), lg + gh = M + 1 ∧ 5 ≤ lg ∧ v8 = .int .i64 (lg : Int) ∧ WI n f w wx v7 xs lg)
  case atStart => exact ⟨5, _, by omega, Nat.le_refl _, rfl, HW.out⟩
  case round =>
    clear HW
    obtain ⟨lg, xs, hgh, hl5, rfl, hwi⟩ := hrel
    have HW := Lib.hid hwi
    have HH := Lib.hid hgh
    have hlM : lg ≤ M + 1 := by omega
    have hgl := HG.out.below hwi.bel HGs.out
    have HW0 : Hid (w.heap.size ≤ wr.heap.size) := hwi.bel.size
    have HMr := Lib.hid (HMost.out _ hgl)
    clear hwi hgh hgl
    by_cases hlt : lg ≤ M
    · obtain ⟨g', rfl⟩ : ∃ g', gk = g' + 1 := ⟨gk - 1, by have := HH.out; omega⟩
      have hkz : (lg : Int) ≤ (M : Int) := by omega
      have HOf := Lib.hid (of_any (c := 53) (lg : Int) (osF_box HW.out.box) HW.out.box.lt (osF_len f) (by decide) (fun o ho => by
        simp only [osF, List.mem_map] at ho
        obtain ⟨s, _, rfl⟩ := ho
        have := HF.out s
        omega) (Nat.le_refl _))
      go_wp2_with fail
      refine HMr.out.mono ?_
      rintro e w' ⟨rfl, rfl⟩
      go_wp2_with fail
      refine HOf.out.mono ?_
      rintro e w4 ⟨hB4, hor⟩
      have HW4 := Lib.hid (HW.out.below hB4)
      have hs4 := hB4.size
      clear hB4
      rcases hor with ⟨hyes, ps, v4, rfl, ho4, hmay, hpl, hgood⟩ | ⟨hno, rfl⟩
      · have hE0 : 0 < ps.length := (mayB_iff.1 hmay).2.2.1
        obtain ⟨d4, c4, rfl, hd4l, hd4⟩ := ho4.place hE0
        obtain ⟨A', c', hv, hc4, hdd⟩ := ho4.form
        injection hv with hv1 hv2 hv3
        subst hv1 hv3
        have HD4 := Lib.hid (hdd.alloc (Nat.le_refl _) (.cells #[.int .i64 (lg : Int), .slice (some ⟨d4, 0, none⟩) ps.length c4] 70))
        have HMay := Lib.hid hmay
        have HF6 := Lib.hid (mayF hmay)
        have hE256 := HF6.out.len
        have HBd := Lib.hid (may_bounds hmay)
        have HGd := Lib.hid hgood
        have HPl := Lib.hid hpl
        obtain ⟨E, hE⟩ : ∃ E, E = ps.length := ⟨_, rfl⟩
        rw [← hE] at hE0 hc4 hE256 HD4 ⊢
        have HE := Lib.hid hE
        have HX5 := Lib.hid (Box.new w4 70 #[.int .i64 (lg : Int), .slice (some ⟨d4, 0, none⟩) E c4])
        have hb5 : Below w4.heap.size w4 (w4.alloc (.cells #[.int .i64 (lg : Int), .slice (some ⟨d4, 0, none⟩) E c4] 70)) := (Below.refl _ _).alloc (Nat.le_refl _) _
        have HW5 := Lib.hid (HW4.out.below hb5)
        have hs5 : (w4.alloc (.cells #[.int .i64 (lg : Int), .slice (some ⟨d4, 0, none⟩) E c4] 70)).heap.size = w4.heap.size + 1 := by simp
        have HS5 := Lib.hid hs5
        obtain ⟨q0, q1, _, _⟩ := box2 HX5.out
        have HRow : Hid (∀ k, Value.ownBlock u7 = some k → k < wr.heap.size) := fun k hk => (HW.out.ow.block k hk).2
        clear ho4 hmay hgood hpl hE hb5 hs5 HW4 hyes hdd hv2
        go_upto_region 8 with (fail)
        generalize w4.alloc (.cells #[.int .i64 (lg : Int), .slice (some ⟨d4, 0, none⟩) E c4] 70) = W5 at *
        have HBu := Lib.hid (build_yes (cp := c4) lg HMay.out HD4.out HE.out.symm hc4 (by unfold maxLen; omega) (by have := HS5.out; omega) HBd.out)
        go_wp2_with fail
        refine HBu.out.mono ?_
        rintro e' w6 ⟨v6, rfl, ho6, hB6⟩
        obtain ⟨d6, c6, rfl, hd6l, hd6, hc6⟩ := ho6.place (by rw [tab_length HF6.out]; exact Nat.two_pow_pos _)
        have HN6 := Lib.hid (tab_length HF6.out)
        have h2l : 2 ^ lg ≤ 2 ^ 9 := Nat.pow_le_pow_right (by omega) (by omega)
        have HO6 := Lib.hid (ho6.dat ecell_len)
        obtain ⟨N6, hN6⟩ : ∃ N6, N6 = (tab lg ps).length := ⟨_, rfl⟩
        rw [← hN6] at hc6 ⊢
        have HNe := Lib.hid hN6
        have hb7 : Below w6.heap.size w6 (w6.alloc (.cells #[.int .i64 (lg : Int), .slice (some ⟨d6, 0, none⟩) N6 c6] 26)) := (Below.refl _ _).alloc (Nat.le_refl _) _
        have HW7 := Lib.hid ((HW5.out.below hB6).below hb7)
        have HX7 := Lib.hid ((HX5.out.below hB6 HX5.out.lt).below hb7 (HX5.out.below hB6 HX5.out.lt).lt)
        have HY7 := Lib.hid (Box.new w6 26 #[.int .i64 (lg : Int), .slice (some ⟨d6, 0, none⟩) N6 c6])
        have HD7 := Lib.hid ((HD4.out.below hB6 (by have := HS5.out; omega)).below hb7 (by have := HS5.out; have := hB6.size; omega))
        have HO7 := Lib.hid (HO6.out.below hb7 (Nat.le_refl _))
        have hs7 : (w6.alloc (.cells #[.int .i64 (lg : Int), .slice (some ⟨d6, 0, none⟩) N6 c6] 26)).heap.size = w6.heap.size + 1 := by simp
        have HS7 := Lib.hid hs7
        have hs6 := hB6.size
        obtain ⟨t0, t1, _, _⟩ := box2 HX7.out
        clear ho6 hB6 hN6 hb7 hs7 q0 q1 HO6 HX5 HW5 HD4
        go_upto_region 9 with (fail)
        generalize w6.alloc (.cells #[.int .i64 (lg : Int), .slice (some ⟨d6, 0, none⟩) N6 c6] 26) = W7 at *
        have HWr := Lib.hid (write_told (c := c4) lg HMay.out HD7.out HE.out.symm hc4 (by unfold maxLen; omega) (by have := HS5.out; have := HS7.out; omega) HBd.out)
        go_wp2_with fail
        refine HWr.out.mono ?_
        rintro e' w8 ⟨v8, rfl, ho8, hB8⟩
        obtain ⟨A8, c8, rfl, hc8, hd8⟩ := ho8.form
        have HWh := Lib.hid ho8.where
        obtain ⟨K8, hK8⟩ : ∃ K8, K8 = (bytesOf (wrC lg ps)).length := ⟨_, rfl⟩
        rw [← hK8] at hc8 ⊢
        have HK8 := Lib.hid hK8
        have hs8 := hB8.size
        have hb9 : Below w8.heap.size w8 (w8.alloc (.cells #[.int .i64 (lg : Int), .slice (some ⟨d6, 0, none⟩) N6 c6, .int .i64 2, .slice A8 K8 c8] 54)) := (Below.refl _ _).alloc (Nat.le_refl _) _
        have HW9 := Lib.hid ((HW7.out.below hB8).below hb9)
        obtain ⟨y0, y1, _, _⟩ := box2 (HY7.out.below hB8 HY7.out.lt)
        have HO9 := Lib.hid (((HO7.out.below hB8 (by have := HS7.out; omega)).below hb9 (by have := HS7.out; omega)).mono (lo' := 0) (hi' := (w8.alloc (.cells #[.int .i64 (lg : Int), .slice (some ⟨d6, 0, none⟩) N6 c6, .int .i64 2, .slice A8 K8 c8] 54)).heap.size) (Nat.zero_le _) (by have := HS7.out; simp; omega))
        have HD9 := Lib.hid ((hd8.below hb9 (Nat.le_refl _)).mono (lo' := 0) (hi' := (w8.alloc (.cells #[.int .i64 (lg : Int), .slice (some ⟨d6, 0, none⟩) N6 c6, .int .i64 2, .slice A8 K8 c8] 54)).heap.size) (Nat.zero_le _) (by simp))
        have hs9 : (w8.alloc (.cells #[.int .i64 (lg : Int), .slice (some ⟨d6, 0, none⟩) N6 c6, .int .i64 2, .slice A8 K8 c8] 54)).heap.size = w8.heap.size + 1 := by simp
        have HS9 := Lib.hid hs9
        have HDn := Lib.hid (datR_one (f := wyc) (z := 4) w8 (⟨(lg : Int), some ⟨d6, 0, none⟩, N6, c6, 2, A8, K8, c8⟩, tab lg ps) 54 #[.int .i64 (lg : Int), .slice (some ⟨d6, 0, none⟩) N6 c6, .int .i64 2, .slice A8 K8 c8] rfl)
        clear ho8 hd8 hB8 hb9 hK8 hs9 t0 t1 HW7 HX7 HD7 HO7
        have hlen9 := HW9.out.len.2
        have hlt9 := HW9.out.box.lt
        have hp9 : At1 n (w8.alloc (.cells #[.int .i64 (lg : Int), .slice (some ⟨d6, 0, none⟩) N6 c6, .int .i64 2, .slice A8 K8 c8] 54)) (Value.ownBlock u7) (⟨(lg : Int), some ⟨d6, 0, none⟩, N6, c6, 2, A8, K8, c8⟩, tab lg ps) := by
          have e5 := HS5.out
          have e7 := HS7.out
          have e9 := HS9.out
          have hps : ps.length ≤ lastN n + 1 := by rw [HPl.out]; exact ends_last hla HZ.out
          refine ⟨⟨HO9.out, HNe.out.symm, ?_, small_tab HF6.out (by omega), ?_, ?_⟩, .inr ⟨rfl, lg, ps, HMay.out, rfl, by rw [← HM.out]; exact hlt, hps, rfl, HK8.out, hc8, HD9.out⟩, ?_, ?_⟩
          · show N6 ≤ 65536
            have := HN6.out
            have := HNe.out
            omega
          · show (0 : Int) ≤ (lg : Int) ∧ (lg : Int) ≤ 15
            omega
          · show K8 ≤ 1000000
            have h1 := wrC_bound HMay.out
            have h2 := wrC_len lg ps
            have h3 := HK8.out
            omega
          · intro d o s e
            injection e with e
            injection e with e1 e2 e3
            subst e1
            refine ⟨by omega, fun q => ?_⟩
            have := HRow.out d6 q
            omega
          · intro d o s e
            obtain ⟨h1, h2⟩ := HWh.out d o s e
            refine ⟨by omega, fun q => ?_⟩
            have := HRow.out d q
            omega
        have hd6 : w.heap.size ≤ d6 := by
          have e0 := HW0.out
          have e5 := HS5.out
          have e7 := HS7.out
          have e9 := HS9.out
          omega
        have hl9 : LowA w.heap.size (some (⟨d6, 0, none⟩ : Addr)) := fun d o s e => by
          have e1 : d6 = d := congrArg Addr.block (Option.some.inj e)
          rw [← e1]
          exact hd6
        have HL9 := Lib.hid hl9
        clear hl9 hd6
        have HP9 := Lib.hid (And.intro hp9 (hasAll_tab HF6.out (f := f) (fun s hs h0 => good_has HGd.out s hs h0)))
        clear hp9 h2l
        go_wp2_with (at_builtin; refine list_appR wyc_len (by decide) wyc_one _ rfl _ _ 57 rfl i0 (.agg #[.int .i64 0, .slice none 0 0, .int .i64 0, .slice none 0 0]) 64 Tryd.underlying57 HI.out.1 HI.out.2.1 HI.out.2.2.1 HI.out.2.2.2 rfl (by decide) rfl HW9.out.ow rfl HDn.out rfl ?_ ?_ ?_)
        · omega
        · omega
        intro v10 w10 ho10 hg10 hat10
        have HWx := Lib.hid (HW9.out.push HP9.out.1 HP9.out.2 HL9.out ho10 hg10 (by rw [HS9.out]; exact hat10))
        clear ho10 hg10 hat10 HW9 HP9 HDn HD9 HO9
        go_wp2_with fail
        go_roundg g'
        case rel => exact ⟨lg + 1, _, by have := HH.out; omega, by omega, by go_num, HWx.out⟩
        case measure => omega
      · have hnc : ¬ cnt (osF f) ≤ 2 ^ lg := fun hc => by
          have : mayOf (osF f) (lg : Int) = true := mayOf_iff.2 ⟨by omega, by omega, by rw [osF_len]; omega, H2.out, by simpa using hc, by have := HSm.out; omega⟩
          rw [this] at hno
          cases hno
        have HW5 := Lib.hid ((HW4.out.below ((Below.refl _ _).alloc (Nat.le_refl _) (.cells #[.int .i64 0, .slice none 0 0] 70))).skip hnc)
        clear hno hnc
        go_wp2_with fail
        go_roundg g'
        case rel => exact ⟨lg + 1, xs, by have := HH.out; omega, by omega, by go_num, HW5.out⟩
        case measure => omega
    · have hkz : decide (lg ≤ M) = false := decide_eq_false hlt
      have HLg : Hid (lg = M + 1) := by have := HH.out; unfold Hid; omega
      clear HH hlM hlt
      go_wp2_with fail
      refine HMr.out.mono ?_
      rintro e w' ⟨rfl, rfl⟩
      go_wp2_with fail
      go_ret
      refine ⟨_, xs, rfl, ?_⟩
      rw [← HLg.out]
      exact HW.out
end Go.Proofs.YtpdnmhnnngcbjaaDoor
