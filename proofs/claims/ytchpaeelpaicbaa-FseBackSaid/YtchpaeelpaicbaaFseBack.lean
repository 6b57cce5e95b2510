
/- FseBack holds: for all counts and every slice of numbers the law returns true, and both read behind the call as they read before. No condition. -/
import Derived.Test.YtchpaeelpaicbaaFseChain
import Derived.Test.YtchpaeelpaicbaaFseArgs
import Derived.Test.YtchpaeelpaicbaaNormCounts
import Derived.Deep.RegionWith
import Derived.Deep.RegionHeld3
import Derived.Deep.CutRange
import Derived.Deep.DeepCutAuto
import Derived.Deep.QuietTactic
import Derived.BigQuiet
import Derived.Test.YtchpaeelpaicbaaAppS
namespace Go.Proofs.Ytchpaeelpaicbaa.fseBack
open Go.ChangeShapes Go.WideShapes Go.ChangeAt Go.RowKit

section
variable {w : World} {lo hi n c : Nat} {A : Option Addr}
theorem first_some {es : List En} (L : Int) (y : Nat) (hd : DatR 3 ecell w lo hi A es) (hn : es.length = n) (hn2 : n ≤ 65536) (hhi : hi ≤ w.heap.size) (hy : ∃ i, ∃ h : i < es.length, es[i].s = (y : Int)) :
    Calls Try.prog 24 #[.agg #[.int .i64 L, .slice A n c], .int .u8 (y : Int)] w fun e w' => ∃ i, (∃ h : i < es.length, es[i].s = (y : Int)) ∧ e = .returned (.tuple #[.int .i64 (i : Int), .int .i64 0]) ∧ Below w.heap.size w w' :=
  (first_any L (y : Int) hd hn hn2 hhi).mono fun e w' ⟨hB, hor⟩ => by
    rcases hor with ⟨i, h, h1, h2, _⟩ | ⟨h1, _⟩
    · exact ⟨i, ⟨h, h2⟩, h1, hB⟩
    · obtain ⟨i, h, h2⟩ := hy
      exact absurd h2 (h1 i h)
/-- What Before answers of a symbol that there is. -/
def BefIs (es : List En) (st y : Nat) (w : World) (e : Ending) (w' : World) : Prop :=
  ∃ (p b ee : Nat) (h : p < es.length), es[p] = ⟨y, b, ee⟩ ∧ b ≤ 15 ∧ ee ≤ st ∧ st < ee + 2 ^ b ∧ e = .returned (.tuple #[.int .i64 (p : Int), .int .u64 ((st - ee : Nat) : Int), .int .i64 (b : Int), .int .i64 0]) ∧ Below w.heap.size w w'
theorem none_thr (es : List En) (y st : Int) (h : ∀ j (hj : j < es.length), matB es[j] y st = false) (m : Nat) : thr es y st m = 0 := by
  unfold thr
  rw [List.length_eq_zero_iff, List.filter_eq_nil_iff]
  intro x hx
  obtain ⟨j, hj, rfl⟩ := List.getElem_of_mem (List.mem_of_mem_take hx)
  rw [h j hj]
  simp
theorem before_some {l : Nat} {ps : List Int} (hF : MayF l ps) (L : Int) (y st : Nat) (hd : DatR 3 ecell w lo hi A (tab l ps)) (hn : (tab l ps).length = n) (hn2 : n ≤ 65536) (hhi : hi ≤ w.heap.size) (hst : st < n) (hy : ∃ i, ∃ h : i < (tab l ps).length, (tab l ps)[i].s = (y : Int)) :
    Calls Try.prog 23 #[.agg #[.int .i64 L, .slice A n c], .int .i64 (st : Int), .int .u8 (y : Int)] w (BefIs (tab l ps) st y w) :=
  (before_any L y st hd (tab_fine hF) hn hn2 hhi hst).mono fun e w' ⟨hB, hor⟩ => by
    rcases hor with ⟨i, h, h1, h2⟩ | ⟨h1, _⟩
    · obtain ⟨s, b, ee, hx, _, hb, _⟩ := tab_fine hF i h
      rw [hx] at h1 h2
      unfold matB at h2
      simp only [Bool.and_eq_true, decide_eq_true_eq] at h2
      obtain ⟨⟨q1, q2⟩, q3⟩ := h2
      rw [show ((b : Nat) : Int).toNat = b by omega, show (2 : Int) ^ b = ((2 ^ b : Nat) : Int) by simp] at q3
      have q1' : s = y := by omega
      subst q1'
      exact ⟨i, b, ee, h, hx, hb, by omega, by omega, by rw [h1, show ((st - ee : Nat) : Int) = (st : Int) - (ee : Int) by omega], hB⟩
    · have h2 := none_thr _ _ _ h1 (2 ^ l)
      have hw : 1 ≤ (wi (ps.getD y 0)).toNat := Classical.byContradiction fun q => by
        obtain ⟨i, h, h3⟩ := hy
        exact tab_hasnt hF y q i h h3
      rw [thr_one hF y st (by rw [← tab_length hF]; omega), if_pos hw] at h2
      cases h2
end

set_option maxRecDepth 100000 in
set_option maxHeartbeats 16000000 in
theorem walk (L : Int) (A : Option Addr) (ps : List Int) (cp : Nat) (a1 : Option Addr) (pks : List Nat) (cap1 : Nat) (w : World) (_hL : -9223372036854775808 ≤ L ∧ L ≤ 9223372036854775807) (hd : DatE icel w 0 w.heap.size A ps) (hc : ps.length ≤ cp) (hm : ps.length ≤ maxLen) (hb : ∀ p ∈ ps, -9223372036854775808 ≤ p ∧ p ≤ 9223372036854775807)
    (hdp : DatE hcel w 0 w.heap.size a1 pks) (_hpc : pks.length ≤ cap1) (hpm : pks.length ≤ maxLen) (hpb : ∀ o ∈ pks, o ≤ 65535) :
    Calls Try.prog 6 #[.agg #[.int .i64 L, .slice A ps.length cp], .slice a1 pks.length cap1] w fun e w' => e = .returned (.bool true) ∧ Below w.heap.size w w' := by
  have hx := Box.new w 24 #[.int .i64 L, .slice A ps.length cp]
  have HX := Lib.hid hx
  have HD := Lib.hid hd
  have HDP := Lib.hid hdp
  have HPB := Lib.hid hpb
  have HBd := Lib.hid hb
  have hmx := hm
  unfold maxLen at hmx hpm
  obtain ⟨m, hmm⟩ : ∃ m, m = ps.length := ⟨_, rfl⟩
  rw [← hmm] at hmx hc hm HX ⊢
  have HM := Lib.hid hmm.symm
  obtain ⟨np, hnp⟩ : ∃ np, np = pks.length := ⟨_, rfl⟩
  rw [← hnp] at hpm ⊢
  have HNP := Lib.hid hnp.symm
  clear hd hb hmm hx hdp hpb hnp
  by_cases h300 : 300 < m
  · have h3 : (300 : Int) < (m : Int) := by omega
    go_enter Try.func6, Try.ntmps6
    go_wp2_with fail
    refine (fse_awake _).mono ?_
    rintro e w1 ⟨rfl, hB⟩
    have HB := Lib.hid (((Below.refl _ _).alloc (Nat.le_refl _) (.cells #[.int .i64 L, .slice A m cp] 24)).trans (hB.mono (by simp)))
    obtain ⟨c0, c1, f0, f1⟩ := box2 (HX.out.below hB (by simp))
    clear hB
    go_wp2_with fail
    go_ret
    exact ⟨rfl, HB.out⟩
  · have h3 : decide ((300 : Int) < (m : Int)) = false := by simp; omega
    by_cases h10 : 10 < L
    · go_enter Try.func6, Try.ntmps6
      go_wp2_with fail
      refine (fse_awake _).mono ?_
      rintro e w1 ⟨rfl, hB⟩
      have HB := Lib.hid (((Below.refl _ _).alloc (Nat.le_refl _) (.cells #[.int .i64 L, .slice A m cp] 24)).trans (hB.mono (by simp)))
      obtain ⟨c0, c1, f0, f1⟩ := box2 (HX.out.below hB (by simp))
      clear hB
      go_wp2_with fail
      go_ret
      exact ⟨rfl, HB.out⟩
    · have h10' : decide (10 < L) = false := by simp; omega
      by_cases hp0 : np = 0
      · subst hp0
        go_enter Try.func6, Try.ntmps6
        go_wp2_with fail
        refine (fse_awake _).mono ?_
        rintro e w1 ⟨rfl, hB⟩
        have HB := Lib.hid (((Below.refl _ _).alloc (Nat.le_refl _) (.cells #[.int .i64 L, .slice A m cp] 24)).trans (hB.mono (by simp)))
        obtain ⟨c0, c1, f0, f1⟩ := box2 (HX.out.below hB (by simp))
        clear hB
        go_wp2_with fail
        go_ret
        exact ⟨rfl, HB.out⟩
      · have hp0i : ((np : Int) == 0) = false := by simp; omega
        by_cases h60 : 60 < np
        · have h60i : (60 : Int) < (np : Int) := by omega
          go_enter Try.func6, Try.ntmps6
          go_wp2_with fail
          refine (fse_awake _).mono ?_
          rintro e w1 ⟨rfl, hB⟩
          have HB := Lib.hid (((Below.refl _ _).alloc (Nat.le_refl _) (.cells #[.int .i64 L, .slice A m cp] 24)).trans (hB.mono (by simp)))
          obtain ⟨c0, c1, f0, f1⟩ := box2 (HX.out.below hB (by simp))
          clear hB
          go_wp2_with fail
          go_ret
          exact ⟨rfl, HB.out⟩
        · have h60i : decide ((60 : Int) < (np : Int)) = false := by simp; omega
          go_enter Try.func6, Try.ntmps6
          go_wp2_with fail
          refine (fse_awake _).mono ?_
          rintro e w1 ⟨rfl, hB⟩
          have HB := Lib.hid (((Below.refl _ _).alloc (Nat.le_refl _) (.cells #[.int .i64 L, .slice A m cp] 24)).trans (hB.mono (by simp)))
          have HX1 := Lib.hid (HX.out.below hB (by simp))
          have hs1 := hB.size
          simp only [World.size_alloc] at hs1
          obtain ⟨c0, c1, f0, f1⟩ := box2 HX1.out
          clear hB HX
          go_wp2_with fail
          refine (build_any (cp := cp) L (HD.out.below HB.out (Nat.le_refl _)) HM.out hc hm (by omega) HBd.out).mono ?_
          rintro e w2 ⟨hB, hor⟩
          have HB2 := Lib.hid (HB.out.trans (hB.mono (by omega)))
          have hs2 := hB.size
          clear hB HB HX1 c0 c1 f0 f1
          rcases hor with ⟨hmay, v, rfl, ho⟩ | ⟨hmay, rfl⟩
          · obtain ⟨l, rfl⟩ := Int.eq_ofNat_of_zero_le (show 0 ≤ L by have := (mayB_iff.1 hmay).1; omega)
            rw [show ((l : Nat) : Int).toNat = l by omega] at ho
            have HF := Lib.hid (mayF hmay)
            have hl10 : l ≤ 10 := by omega
            have hn0 : 0 < 2 ^ l := Nat.two_pow_pos _
            have hn10 : 2 ^ l ≤ 2 ^ 10 := Nat.pow_le_pow_right (by omega) hl10
            have htl := tab_length HF.out
            obtain ⟨d, c, rfl, hd1, hd2, hdc⟩ := ho.place (by omega)
            rw [htl] at ho hdc ⊢
            obtain ⟨n, hn⟩ : ∃ n, n = 2 ^ l := ⟨_, rfl⟩
            rw [← hn] at htl ho hdc hn0 hn10 ⊢
            have HN := Lib.hid hn
            have HT := Lib.hid htl
            have HTb := Lib.hid (Box.new w2 28 #[.int .i64 (l : Int), .slice (some ⟨d, 0, none⟩) n c])
            have HE := Lib.hid ((ho.mono (b := w.heap.size) (by omega)).alloc (.cells #[.int .i64 (l : Int), .slice (some ⟨d, 0, none⟩) n c] 28))
            have HB3 := Lib.hid (HB2.out.alloc (by omega) (.cells #[.int .i64 (l : Int), .slice (some ⟨d, 0, none⟩) n c] 28))
            have hsW : (w2.alloc (.cells #[.int .i64 (l : Int), .slice (some ⟨d, 0, none⟩) n c] 28)).heap.size = w2.heap.size + 1 := by simp
            obtain ⟨ys, hys⟩ : ∃ ys : List Nat, ys = pks.map fun p => (syms l ps).getD (p % n) 0 := ⟨_, rfl⟩
            have hyl : ys.length = np := by rw [hys, List.length_map]; exact HNP.out
            have HYl := Lib.hid hyl
            have HYs := Lib.hid hys
            have HYh : Hid (∀ i (hi : i < ys.length), ys[i] < 256 ∧ ∃ q, ∃ h : q < (tab l ps).length, (tab l ps)[q].s = (ys[i] : Int)) := by
              intro i hi
              have hip : i < pks.length := by rw [hys] at hi; simpa using hi
              have hq : pks[i] % n < n := Nat.mod_lt _ hn0
              have hqt : pks[i] % n < (tab l ps).length := by omega
              have e : ys[i] = (syms l ps).getD (pks[i] % n) 0 := by simp [hys]
              refine ⟨?_, pks[i] % n, hqt, by rw [tab_sym HF.out _ hqt, e]⟩
              rw [e]
              have h1 : pks[i] % n < (syms l ps).length := by rw [HF.out.syms_len]; omega
              rw [getD_of _ _ _ h1]
              have h2 := HF.out.syms_lt _ (List.getElem_mem h1)
              have h3 := HF.out.len
              omega
            clear hn htl ho hmay HB2 hys hyl
            go_wp2_with fail
            generalize w2.alloc (.cells #[.int .i64 (l : Int), .slice (some ⟨d, 0, none⟩) n c] 28) = W at *
            generalize w2.heap.size = q6 at *
            obtain ⟨i0, hi0, hz0, hz1, hz2⟩ := info_parts u8_info7
            go_loopg [8, 9] np (fun gh v i wx => ∃ k : Nat, k + gh = np ∧ i = .int .i64 (k : Int) ∧ OwE bcel wx 5 (q6 + 1) v (ys.take k) ∧ Below (q6 + 1) W wx)
            case atStart => exact ⟨0, by omega, rfl, OwE.nil _ _ _ _, Below.refl _ _⟩
            case round =>
              obtain ⟨k, hk, rfl, ho, hB⟩ := hrel
              have HK := Lib.hid hk
              have hkn : k ≤ np := by omega
              obtain ⟨Av, cv, hv, hcv, _⟩ := ho.form
              rw [List.length_take, Nat.min_eq_left (by have := HYl.out; omega)] at hv hcv
              subst hv
              have HO := Lib.hid ho
              have HBx := Lib.hid hB
              have hsx := hB.size
              clear hk ho hB
              by_cases hlt : k < np
              · obtain ⟨g', rfl⟩ : ∃ g', gk = g' + 1 := ⟨gk - 1, by have := HK.out; omega⟩
                have hki : (k : Int) < (np : Int) := by omega
                have hk0 : (0 : Int) ≤ (k : Int) := by omega
                have hkp : k < pks.length := by have := HNP.out; omega
                have hky : k < ys.length := by have := HYl.out; omega
                obtain ⟨da, oa, rfl, _, hda, hcp⟩ := HDP.out (by omega)
                have hcell := (HBx.out.cell (p := ⟨da, oa + k, none⟩) (by show da < q6 + 1; omega)).trans ((HB3.out.cell (p := ⟨da, oa + k, none⟩) hda).trans (hcp k hkp))
                unfold hcel at hcell
                have hpb := HPB.out pks[k] (List.getElem_mem hkp)
                obtain ⟨Sx, hSx⟩ : ∃ Sx, Sx = pks[k] % n := ⟨_, rfl⟩
                have hSn : Sx < n := by rw [hSx]; exact Nat.mod_lt _ hn0
                have hyk : ys[k] = (syms l ps).getD Sx 0 := by have := HYs.out; subst this; simp [hSx]
                have hSt : Sx < (tab l ps).length := by have := HT.out; omega
                have hce := (HE.out.cells3 Sx hSt).1.1
                rw [tab_sym HF.out Sx hSt, ← hyk] at hce
                have hce2 := (HBx.out.cell (p := ⟨d, Sx * 3, none⟩) (by show d < q6 + 1; omega)).trans hce
                have t0 := (HBx.out.cell (p := ⟨q6, 0, none⟩) (by show q6 < q6 + 1; omega)).trans (HTb.out.cell 0)
                have t1 := (HBx.out.cell (p := ⟨q6, 1, none⟩) (by show q6 < q6 + 1; omega)).trans (HTb.out.cell 1)
                simp at t0 t1
                have hrem : ((pks[k] : Nat) : Int).tmod (n : Int) = (Sx : Int) := by rw [hSx, Int.tmod_eq_emod_of_nonneg (by omega)]; exact (Int.natCast_emod _ _).symm
                have hrem2 : ((pks[k] : Nat) : Int) % (n : Int) = (Sx : Int) := by rw [hSx]; exact (Int.natCast_emod _ _).symm
                have hpw : IntKind.i64.wrap ((pks[k] : Nat) : Int) = ((pks[k] : Nat) : Int) := IntWalk.i64_in _ (by omega)
                have hSw : IntKind.i64.wrap (Sx : Int) = (Sx : Int) := IntWalk.i64_in _ (by omega)
                have hSi : (Sx : Int) < (n : Int) := by omega
                have hS0 : (0 : Int) ≤ (Sx : Int) := by omega
                have hn1 : (1 : Int) ≤ (n : Int) := by omega
                have hnz : ¬ n = 0 := by omega
                have HTk := Lib.hid (take_snoc' ys k hky)
                have HA : Hid (OwE bcel (wr.alloc (.cells #[.int .u8 ((ys[k] : Nat) : Int)] 5)).drew 5 (q6 + 1) (.slice Av k cv) (ys.take k)) := HO.out.alloc _
                have HD1 : Hid (DatE bcel (wr.alloc (.cells #[.int .u8 ((ys[k] : Nat) : Int)] 5)).drew wr.heap.size (wr.heap.size + 1) (some ⟨wr.heap.size, 0, none⟩) [ys[k]]) := datE_one bcel wr ys[k] 5 _ rfl
                have htk : (ys.take k).length ≤ 60 := by rw [List.length_take]; omega
                have hqs : q6 + 1 ≤ wr.heap.size := by omega
                clear hce hyk hSx hcp
                generalize ys[k] = yk at *
                generalize pks[k] = pk at *
                go_wp2_with fail
                go_region_law ((refine step_appE bcel_one _ rfl _ _ 41 rfl i0 (.int .u8 0) 1 Try.underlying41 hi0 hz0 hz1 hz2 rfl (by decide) rfl HA.out rfl HD1.out rfl (Nat.le_trans (Nat.add_le_add_right htk 1) (by decide)) (Nat.le_trans hqs (by simp)) ?_; intro v1 w4 ho1 hg1 hat1; obtain ⟨Av1, nv1, cv1, rfl⟩ := ho1.slice; have HO1 := Lib.hid ho1; have HG1 := Lib.hid hg1; clear ho1 hg1 hat1))
                all_goals
                  have HB1 : Hid (Below (q6 + 1) W w4) := HBx.out.trans ((((Below.refl _ _).alloc hqs _).drew).grown HG1.out (by simp; omega) (fun j hj => by have := (HO.out.block j hj).1; omega))
                  rw [← HTk.out] at HO1
                  go_wp2_with fail
                  go_roundg g'
                  case rel => exact ⟨k + 1, by have := HK.out; omega, by go_num, HO1.out, HB1.out⟩
                  case measure => omega
              · obtain rfl : k = np := by omega
                have hki : ¬ (k : Int) < (k : Int) := by omega
                rw [List.take_of_length_le (by have := HYl.out; omega)] at HO
                obtain ⟨dl, hdl1, hdl2, rfl⟩ : ∃ dl, q6 + 1 ≤ dl ∧ dl < wr.heap.size ∧ Av = some ⟨dl, 0, none⟩ := by
                  obtain ⟨dl, c', hv, h1, h2⟩ := HO.out.place (by have := HYl.out; omega)
                  injection hv with hv
                  exact ⟨dl, h1, h2, hv⟩
                have hwq : w.heap.size ≤ q6 + 1 := by have := HB3.out.size; omega
                have hqu : q6 + 1 ≤ wr.heap.size := by omega
                have HBU := Lib.hid (HB3.out.trans (HBx.out.mono hwq))
                have HTU := Lib.hid (HTb.out.below HBx.out (by omega))
                have HDU := Lib.hid ((HE.out.dat ecell_len).below HBx.out (by omega))
                have HLU := Lib.hid HO.out.dat
                have hwu := HBU.out.size
                clear HK HBx HO HB3 HTb HE hsx
                go_wp2_with fail
                refine (newWriter_any _).mono ?_
                rintro e w3 ⟨rfl, hw, hB⟩
                have HX3 := Lib.hid hB
                have HW3 := Lib.hid hw
                have hs3 := hB.size
                clear hw hB
                obtain ⟨j0, hj0⟩ : ∃ j0, j0 = k - 1 := ⟨_, rfl⟩
                have hj1 : (k : Int) - 1 = (j0 : Int) := by omega
                have HJ0 := Lib.hid hj0
                have hjk : (j0 : Int) < (k : Int) := by omega
                have hjkn : j0 < k := by omega
                have hjr : IntKind.i64.wrap ((k : Int) - 1) = (j0 : Int) := by rw [hj1]; exact IntWalk.i64_in _ (by omega)
                have hjy : j0 < ys.length := by have := HYl.out; omega
                obtain ⟨dx, ox, hdx, _, _, hlc⟩ := HLU.out (by omega)
                injection hdx with hdx
                injection hdx with hdx1 hdx2
                subst hdx1 hdx2
                have HLc := Lib.hid hlc
                have c0 := (HX3.out.cell (p := ⟨dl, 0 + j0, none⟩) hdl2).trans (hlc j0 hjy)
                rw [Nat.zero_add] at c0
                unfold bcel at c0
                obtain ⟨t0, t1, _, _⟩ := box2 (HTU.out.below HX3.out HTU.out.lt)
                have HF1 := Lib.hid (first_some (w := w3.drew) (lo := w.heap.size) (hi := W.heap.size) (c := c) (l : Int) ys[j0] (show DatR 3 ecell w3.drew w.heap.size W.heap.size (some ⟨d, 0, none⟩) (tab l ps) from HDU.out.below HX3.out.drew (by omega)) HT.out (by omega) (by show W.heap.size ≤ w3.heap.size; omega) (HYh.out j0 hjy).2)
                have hjw : IntKind.i64.wrap (j0 : Int) = (j0 : Int) := IntWalk.i64_in _ (by omega)
                have hj00 : (0 : Int) ≤ (j0 : Int) := by omega
                clear hlc hj0
                obtain ⟨y0, hy0⟩ : ∃ y0, y0 = ys[j0] := ⟨_, rfl⟩
                rw [← hy0] at c0 HF1
                have HY0 := Lib.hid hy0
                clear hy0
                go_upto_region 15 with (fail)
                go_cut [11, 12] (fun a b wx => ∃ fi : Nat, (∃ h : fi < (tab l ps).length, (tab l ps)[fi].s = (y0 : Int)) ∧ a = .int .i64 (fi : Int) ∧ b = .int .i64 0 ∧ Below w3.heap.size w3 wx)
                case first =>
                  have hq6 : q6 < w3.heap.size := by omega
                  have hdlw : dl < w3.heap.size := by omega
                  go_region_held3 (fun w' => w'.cell? ⟨q6, 0, none⟩ = some (.int .i64 (l : Int)) ∧ w'.cell? ⟨q6, 1, none⟩ = some (.slice (some ⟨d, 0, none⟩) n c) ∧ w'.cell? ⟨dl, j0, none⟩ = some (.int .u8 (y0 : Int))) (first | exact ⟨t0, t1, c0⟩ | exact ⟨k0, k1, k2⟩ | go_keep) ((go_at_call 24; refine HF1.out.mono ?_; rintro e' wn ⟨fi, hfi, rfl, hB⟩; have k0 := (hB.cell (p := ⟨q6, 0, none⟩) (by exact hq6)).trans t0; have k1 := (hB.cell (p := ⟨q6, 1, none⟩) (by exact hq6)).trans t1; have k2 := (hB.cell (p := ⟨dl, j0, none⟩) (by exact hdlw)).trans c0; have HBn : Hid (Below w3.heap.size w3 wn) := (⟨hB.os, hB.tape, hB.output, hB.size, hB.block⟩ : Below w3.heap.size w3 wn); have HFi := Lib.hid hfi; clear hB hfi))
                  all_goals go_wp2_with fail
                  all_goals go_meet
                  all_goals exact ⟨fi, HFi.out, rfl, rfl, HBn.out⟩
                case rest =>
                  obtain ⟨fi, hfi, rfl, rfl, hB⟩ := hcut
                  have HFi := Lib.hid hfi
                  have HX4 := Lib.hid (HX3.out.trans (hB.mono hs3))
                  have HW4 := Lib.hid (HW3.out.below hB (Nat.le_refl _))
                  have hs4 : wr.heap.size ≤ wc.heap.size := HX4.out.size
                  clear hB hfi HX3 HW3 HF1 t0 t1 c0 hj1 hjr hjw
                  go_wp2_with fail
                  obtain ⟨U, rfl⟩ : ∃ U : World, U = wr := ⟨_, rfl⟩
                  have hkys : k = ys.length := HYl.out.symm
                  have HKys := Lib.hid hkys
                  have HCh0 : Hid (Chain (tab l ps) (ys.drop j0) fi []) := by
                    have h1 : ys.drop j0 = [y0] := by
                      rw [List.drop_eq_getElem_cons hjy, List.drop_of_length_le (by have := HJ0.out; omega), ← HY0.out]
                    rw [Hid, h1]
                    exact ⟨HFi.out, rfl⟩
                  have hj59 : j0 ≤ 59 := by omega
                  clear hkys
                  go_loopg [11, 13] j0 (fun gh s i wx => ∃ (j sv : Nat) (v : Value) (bits : List Bool), j = gh ∧ j ≤ j0 ∧ s = .int .i64 (sv : Int) ∧ i = .int .i64 ((j : Int) - 1) ∧ Chain (tab l ps) (ys.drop j) sv bits ∧ bits.length + 15 * j ≤ 900 ∧ WR wx U.heap.size U.heap.size v bits ∧ Below U.heap.size U wx)
                  case atStart => exact ⟨j0, fi, _, [], rfl, Nat.le_refl _, rfl, by have := HJ0.out; congr 1; omega, HCh0.out, by simp; omega, HW4.out, HX4.out⟩
                  case round =>
                    clear HCh0 HW4 HX4 HFi hs4
                    obtain ⟨j, sv, v, bits, hgj, hj, rfl, rfl, hch, hbl, hw, hB⟩ := hrel
                    have HGJ := Lib.hid hgj
                    have HCh := Lib.hid hch
                    have HW := Lib.hid hw
                    have HXx := Lib.hid hB
                    have hsx := hB.size
                    clear hgj hch hw hB
                    have hjyl : j < ys.length := by omega
                    have hsvn : sv < n := by
                      have h1 := HCh.out
                      rw [List.drop_eq_getElem_cons hjyl] at h1
                      obtain ⟨h2, _⟩ := h1.head
                      have := HT.out
                      omega
                    obtain ⟨t0, t1, _, _⟩ := box2 (HTU.out.below HXx.out HTU.out.lt)
                    by_cases hj0' : 0 < j
                    · obtain ⟨i9, rfl⟩ : ∃ i9, j = i9 + 1 := ⟨j - 1, by omega⟩
                      have hi9y : i9 < ys.length := by omega
                      have e1 : ((i9 + 1 : Nat) : Int) - 1 = (i9 : Int) := by omega
                      rw [e1]
                      have c0 := (HXx.out.cell (p := ⟨dl, 0 + i9, none⟩) hdl2).trans (HLc.out i9 hi9y)
                      rw [Nat.zero_add] at c0
                      unfold bcel at c0
                      have HBf := Lib.hid (before_some (w := wr.drew) (lo := w.heap.size) (hi := W.heap.size) (c := c) HF.out (l : Int) ys[i9] sv (show DatR 3 ecell wr.drew w.heap.size W.heap.size (some ⟨d, 0, none⟩) (tab l ps) from HDU.out.below HXx.out.drew (by omega)) HT.out (by omega) (by show W.heap.size ≤ wr.heap.size; omega) hsvn (HYh.out i9 hi9y).2)
                      have hik : (i9 : Int) < (k : Int) := by omega
                      have hikn : i9 < k := by omega
                      have hi0 : (0 : Int) ≤ (i9 : Int) := by omega
                      have HDr : Hid (ys.drop i9 = ys[i9] :: ys.drop (i9 + 1)) := List.drop_eq_getElem_cons hi9y
                      have HDr1 : Hid (ys.drop (i9 + 1) = ys[i9 + 1]'hjyl :: ys.drop (i9 + 1 + 1)) := List.drop_eq_getElem_cons hjyl
                      generalize ys[i9] = y1 at *
                      go_upto_region 21 with (fail)
                      go_cut [14, 15, 16, 17] (fun a b x9 e9 wx => ∃ (p b' ee : Nat) (h : p < (tab l ps).length), (tab l ps)[p] = ⟨(y1 : Int), (b' : Int), (ee : Int)⟩ ∧ b' ≤ 15 ∧ ee ≤ sv ∧ sv < ee + 2 ^ b' ∧ a = .int .i64 (p : Int) ∧ b = .int .u64 ((sv - ee : Nat) : Int) ∧ x9 = .int .i64 (b' : Int) ∧ e9 = .int .i64 0 ∧ Below wr.heap.size wr wx)
                      case first =>
                        have hq6 : q6 < wr.heap.size := by omega
                        have hdlw : dl < wr.heap.size := by omega
                        go_region_held3 (fun w' => w'.cell? ⟨q6, 0, none⟩ = some (.int .i64 (l : Int)) ∧ w'.cell? ⟨q6, 1, none⟩ = some (.slice (some ⟨d, 0, none⟩) n c) ∧ w'.cell? ⟨dl, i9, none⟩ = some (.int .u8 (y1 : Int))) (first | exact ⟨t0, t1, c0⟩ | exact ⟨k0, k1, k2⟩ | go_keep) ((go_at_call 23; refine HBf.out.mono ?_; rintro e' wn ⟨p, b', ee, hp, hpx, hb15, he1, he2, rfl, hB⟩; have k0 := (hB.cell (p := ⟨q6, 0, none⟩) (by exact hq6)).trans t0; have k1 := (hB.cell (p := ⟨q6, 1, none⟩) (by exact hq6)).trans t1; have k2 := (hB.cell (p := ⟨dl, i9, none⟩) (by exact hdlw)).trans c0; have HBn : Hid (Below wr.heap.size wr wn) := (⟨hB.os, hB.tape, hB.output, hB.size, hB.block⟩ : Below wr.heap.size wr wn); have HP9 := Lib.hid (And.intro hpx (And.intro hb15 (And.intro he1 he2))); clear hB hpx hb15 he1 he2))
                        all_goals go_wp2_with fail
                        all_goals go_meet
                        all_goals exact ⟨p, b', ee, hp, HP9.out.1, HP9.out.2.1, HP9.out.2.2.1, HP9.out.2.2.2, rfl, rfl, rfl, rfl, HBn.out⟩
                      case rest =>
                        obtain ⟨p, b', ee, hp, hpx, hb15, he1, he2, rfl, rfl, rfl, rfl, hB⟩ := hcut
                        have HP9 := Lib.hid (And.intro hpx he2)
                        have HXc := Lib.hid (HXx.out.trans (hB.mono hsx))
                        have HWc := Lib.hid (HW.out.below hB (Nat.le_refl _))
                        have hsc : U.heap.size ≤ wc.heap.size := HXc.out.size
                        have HWr := Lib.hid (write_any (sv - ee) (b' : Int) HWc.out (by omega) (by omega))
                        have hxw : IntKind.u64.wrap ((sv - ee : Nat) : Int) = ((sv - ee : Nat) : Int) := by rw [IntKind.wrap_u64]; omega
                        clear hB hpx he2 HBf c0 t0 t1 HXx HW
                        generalize hxe : sv - ee = x9 at *
                        have HXe := Lib.hid hxe
                        clear hxe
                        go_wp2_with fail
                        refine HWr.out.mono ?_
                        rintro e' w7 ⟨rfl, v7, hw, hF, _⟩
                        rw [lows_low x9 b' hb15] at hw
                        have HW7 := Lib.hid hw
                        have HX7 := Lib.hid (HXc.out.trans (hF.below hsc (Nat.le_refl _) (fun q hq => (HWc.out.row q hq).1)))
                        clear hw hF hxw
                        go_wp2_with fail
                        go_roundg i9
                        case rel =>
                          refine ⟨i9, p, v7, bits ++ low x9 b', rfl, by omega, rfl, rfl, ?_, by rw [List.length_append, low_length]; omega, HW7.out, HX7.out⟩
                          have h1 := HCh.out
                          rw [HDr1.out] at h1
                          rw [HDr.out, HDr1.out, ← HXe.out]
                          exact h1.back hp HP9.out.1 hb15 he1 HP9.out.2
                        case measure => have := HGJ.out; omega
                    · obtain rfl : j = 0 := by omega
                      rw [show ((0 : Nat) : Int) - 1 = -1 by decide]
                      rw [List.drop_zero] at HCh
                      have hsw : IntKind.u64.wrap (sv : Int) = (sv : Int) := by rw [IntKind.wrap_u64]; omega
                      have HWr := Lib.hid (write_any sv (l : Int) HW.out (by omega) (by omega))
                      go_wp2_with fail
                      refine HWr.out.mono ?_
                      rintro e' w7 ⟨rfl, v7, hw, hF, _⟩
                      rw [lows_low sv l (by omega)] at hw
                      have HW7 := Lib.hid hw
                      have HX7 := Lib.hid (HXx.out.trans (hF.below hsx (Nat.le_refl _) (fun q hq => (HW.out.row q hq).1)))
                      clear hw hF hsw HWr HXx HW t0 t1
                      go_wp2_with fail
                      have htl : (bits ++ low sv l).length ≤ 1000 := by rw [List.length_append, low_length]; omega
                      refine (closed_any HW7.out (by omega)).mono ?_
                      rintro e' w8 ⟨v8, rfl, ho8, hB⟩
                      obtain ⟨A8, c8, rfl, _, hd8⟩ := ho8.form
                      have HX8 := Lib.hid (HX7.out.trans (hB.mono HX7.out.size))
                      have HD8 := Lib.hid hd8
                      have hs8 : U.heap.size ≤ w8.heap.size := HX8.out.size
                      obtain ⟨TT, hTT⟩ : ∃ TT, TT = bits ++ low sv l := ⟨_, rfl⟩
                      rw [← hTT] at HD8 htl ⊢
                      have hyl : (bytesOf (TT ++ [true])).length ≤ 1099511627776 := by rw [bytesOf_length]; simp; omega
                      have HTT := Lib.hid hTT
                      have HPre : Hid ((bitsOf (bytesOf (TT ++ [true]))).take TT.length = TT) := take_closed' TT
                      have HTop := Lib.hid (top_closed TT)
                      have HNoB := Lib.hid (closed_back' TT)
                      obtain ⟨xs, hxs⟩ : ∃ xs, xs = bytesOf (TT ++ [true]) := ⟨_, rfl⟩
                      rw [← hxs] at HD8 HPre HTop HNoB hyl ⊢
                      clear ho8 hB hd8 hTT hxs HW7 HX7
                      go_wp2_with fail
                      refine (newBack_yes HD8.out rfl hyl (Nat.le_refl _) HNoB.out).mono ?_
                      rintro e' w9 ⟨g9, rfl, hr, hB⟩
                      rw [HTop.out] at hr
                      have HR9 := Lib.hid hr
                      have HX9 := Lib.hid (HX8.out.trans (hB.mono hs8))
                      have hg9 := hr.1
                      have hs9 : U.heap.size ≤ w9.heap.size := HX9.out.size
                      obtain ⟨t0, t1, _, _⟩ := box2 (HTU.out.below HX9.out HTU.out.lt)
                      have HS := Lib.hid (start_any (A := some ⟨d, 0, none⟩) (n := n) (c := c) l HR9.out (by omega) (by omega))
                      obtain ⟨hbr, hpre⟩ := bread_last (x := sv) (b := l) HPre.out HTT.out (by have := HN.out; omega) (by omega)
                      rw [hbr] at HS
                      have HPr := Lib.hid hpre
                      clear hr hB hbr hpre HX8 HD8
                      dsimp only at HS
                      go_wp2_with fail
                      refine HS.out.mono ?_
                      rintro e' wa ⟨rfl, hbw, hgr⟩
                      have HBw := Lib.hid hbw
                      have HXa := Lib.hid (HX9.out.grown hgr hs9 (by intro q hq; injection hq with hq; omega))
                      clear hbw hgr HS t0 t1 HX9 HR9 HPre HTop HNoB HTT
                      go_wp2_with fail
                      generalize w8.heap.size = lo9 at *
                      go_loopg [11, 20] k (fun gh s i wx => ∃ (z sv : Nat) (bits : List Bool), z + gh = k ∧ i = .int .i64 (z : Int) ∧ s = .int .i64 (sv : Int) ∧ (z < k → Chain (tab l ps) (ys.drop z) sv bits) ∧ (z = k → bits = []) ∧ bits.length ≤ 900 ∧ (bitsOf xs).take bits.length = bits ∧ BW wx lo9 g9 xs (bits.length : Int) ∧ Below U.heap.size U wx)
                      case atStart => exact ⟨0, sv, bits, by omega, rfl, rfl, fun _ => by rw [List.drop_zero]; exact HCh.out, fun h => by omega, by omega, HPr.out, HBw.out, HXa.out⟩
                      case round =>
                        clear HCh HPr HBw HXa hsvn hbl
                        obtain ⟨z, sv, bits, hz, rfl, rfl, hch, hend, hbl, hpr, hbw, hB⟩ := hrel
                        have HZ := Lib.hid hz
                        have HCh := Lib.hid hch
                        have HEn := Lib.hid hend
                        have HPr := Lib.hid hpr
                        have HBw := Lib.hid hbw
                        have HXx := Lib.hid hB
                        have hsx : U.heap.size ≤ wr.heap.size := hB.size
                        have hzk : z ≤ k := by omega
                        clear hz hch hend hpr hbw hB
                        by_cases hzl : z < k
                        · have hzy : z < ys.length := by have := HKys.out; omega
                          have hch := HCh.out hzl
                          have HDr : Hid (ys.drop z = ys[z] :: ys.drop (z + 1)) := List.drop_eq_getElem_cons hzy
                          have HDx : Hid (DatR 3 ecell wr w.heap.size W.heap.size (some ⟨d, 0, none⟩) (tab l ps)) := HDU.out.below HXx.out (by omega)
                          rw [HDr.out] at hch
                          obtain ⟨hsvt, hsy⟩ := hch.head
                          have HCx := Lib.hid hch
                          obtain ⟨d', o', hd', _, _, hent⟩ := HDx.out.ent (by omega)
                          injection hd' with hd'
                          injection hd' with hd1' hd2'
                          subst hd1' hd2'
                          obtain ⟨e0, _, _⟩ := hent sv hsvt
                          rw [hsy, Nat.zero_add] at e0
                          have c0 := (HXx.out.cell (p := ⟨dl, 0 + z, none⟩) hdl2).trans (HLc.out z hzy)
                          rw [Nat.zero_add] at c0
                          unfold bcel at c0
                          obtain ⟨t0, t1, _, _⟩ := box2 (HTU.out.below HXx.out HTU.out.lt)
                          have hsvn : sv < n := by have := HT.out; omega
                          have hsvi : (sv : Int) < (n : Int) := by omega
                          have hsv0 : (0 : Int) ≤ (sv : Int) := by omega
                          have hd0 : decide ((sv : Int) < 0) = false := by simp
                          have hdn : decide ((n : Int) ≤ (sv : Int)) = false := by simp; omega
                          have hzi : (z : Int) < (k : Int) := by omega
                          clear hent hch hsy HCh HEn
                          generalize ys[z] = y1 at *
                          by_cases hz1 : z + 1 < k
                          · have hzi1 : (z : Int) < (k : Int) - 1 := by omega
                            have hz1y : z + 1 < ys.length := by have := HKys.out; omega
                            have HDr1 : Hid (ys.drop (z + 1) = ys[z + 1] :: ys.drop (z + 1 + 1)) := List.drop_eq_getElem_cons hz1y
                            have hcx := HCx.out
                            rw [HDr1.out] at hcx
                            obtain ⟨_, b, e, x, bits', hx, hxl, hb15, hbits, hch'⟩ := hcx
                            rw [← HDr1.out] at hch'
                            have HC1 := Lib.hid hch'
                            obtain ⟨_, b2, e2, hx2, _, _, he2⟩ := tab_fine HF.out sv hsvt
                            have he16 : e ≤ 65536 := by
                              rw [hx] at hx2
                              have q3 := congrArg En.e hx2
                              simp only at q3
                              have := Nat.two_pow_pos b2
                              omega
                            have HN1 := fun nq : Nat => Lib.hid (next_any (w := wr.drewN nq) (lo2 := w.heap.size) (hi2 := W.heap.size) (A := some ⟨d, 0, none⟩) (n := n) (c := c) (l : Int) sv (HBw.out.drawn nq) (by omega) (show DatR 3 ecell (wr.drewN nq) w.heap.size W.heap.size (some ⟨d, 0, none⟩) (tab l ps) from HDx.out) (by show W.heap.size ≤ wr.heap.size; omega) HT.out (by omega) hsvn hx hb15 he16)
                            obtain ⟨hbr, hpre⟩ := bread_last HPr.out hbits hxl hb15
                            simp only [hbr] at HN1
                            have hbl' : bits'.length ≤ 900 := by have := congrArg List.length hbits; rw [List.length_append] at this; omega
                            have HPr1 := Lib.hid hpre
                            have hp15 : 2 ^ b ≤ 2 ^ 15 := Nat.pow_le_pow_right (by omega) hb15
                            clear hbr hpre hch' hx hx2 he2 HPr hbits
                            go_wp2_with fail
                            go_quiet (fail)
                            go_wp2_with fail
                            refine (HN1 _).out.mono ?_
                            rintro e' wd ⟨rfl, hbw, hgr⟩
                            have HB1 := Lib.hid hbw
                            have HX1 := Lib.hid ((show Below U.heap.size U (wr.drewN _) from ⟨HXx.out.os, HXx.out.tape, HXx.out.output, HXx.out.size, HXx.out.block⟩).grown hgr hsx (by intro q hq; injection hq with hq; omega))
                            clear hbw hgr HN1 HBw HXx t0 t1
                            go_wp2_with fail
                            obtain ⟨g', rfl⟩ : ∃ g', gk = g' + 1 := ⟨gk - 1, by have := HZ.out; omega⟩
                            go_roundg g'
                            case rel => exact ⟨z + 1, e + x, bits', by have := HZ.out; omega, by go_num, by go_num, fun _ => HC1.out, fun h => by omega, hbl', HPr1.out, HB1.out, HX1.out⟩
                            case measure => omega
                          · have hzi1 : ¬ (z : Int) < (k : Int) - 1 := by omega
                            have hcx := HCx.out
                            rw [List.drop_of_length_le (by have := HKys.out; omega)] at hcx
                            obtain ⟨_, hb0⟩ := hcx
                            subst hb0
                            go_wp2_with fail
                            go_quiet (fail)
                            go_wp2_with fail
                            obtain ⟨g', rfl⟩ : ∃ g', gk = g' + 1 := ⟨gk - 1, by have := HZ.out; omega⟩
                            go_roundg g'
                            case rel => exact ⟨z + 1, sv, [], by have := HZ.out; omega, by go_num, rfl, fun h => by omega, fun _ => rfl, by simp, by simp, HBw.out, ⟨HXx.out.os, HXx.out.tape, HXx.out.output, HXx.out.size, HXx.out.block⟩⟩
                            case measure => omega
                        · obtain rfl : z = k := by omega
                          have hzi : ¬ (z : Int) < (z : Int) := by omega
                          have hb0 := HEn.out rfl
                          subst hb0
                          have HLf := Lib.hid (left_any HBw.out)
                          go_wp2_with fail
                          refine HLf.out.mono ?_
                          rintro e' w' ⟨rfl, rfl⟩
                          go_wp2_with fail
                          go_ret
                          exact ⟨rfl, HBU.out.trans (HXx.out.mono hwu)⟩
          · go_wp2_with fail
            go_ret
            exact ⟨rfl, HB2.out.alloc (by omega) _⟩

set_option maxRecDepth 100000 in
theorem lifted (os : Os) (started : os.Started) (H : Type) (enc : TypeId × Value → H) :
    ReturnsInHanded {} Try.checked os 6 .any (Rows.fseBackSpec.pre6 enc Try.prog Try.f6 Rows.fseBackRow.domain false) (Rows.fseBackSpec.post enc Try.prog Try.f6 false true false false) := by
  refine returnsInHanded_of_change (C := Try.checked) own started (by kernel_rfl) Try.func6
    (ChangeSpec.witness6 (enc := enc) (C := Try.checked) false ⟨#[], #[.agg #[.int .i64 0, .slice none 0 0], .slice none 0 0], []⟩ 8 (by kernel_rfl) (by kernel_rfl) (by kernel_rfl) (by kernel_rfl)) ?_
  intro W base args ds gs before hval0 hW hcnd _
  have hval : ∀ (j : Nat) t v, Try.f6.params[j]? = some t → args[j]? = some v → Value.okWide Try.prog W .any base t v := hval0
  have hW' := hW
  obtain ⟨p, q, hA0, hV, rfl, hfz, hnd⟩ := hW
  have hA : DataW.TrodAll enc Try.prog W 0 (fun _ => true) true Try.f6.params.toList args.toList ds p := hA0
  rw [Try.params6] at hA hval
  obtain ⟨v0, vs0, d0, ds0, p0, q0, hargs, rfl, rfl, h0, r0⟩ := trodAll_cons hA
  obtain ⟨v1, vs1, d1, ds1, p1, q1, rfl, rfl, rfl, h1, r1⟩ := trodAll_cons r0
  obtain ⟨rfl, rfl, rfl⟩ := trodAll_nil r1
  obtain rfl : args = #[v0, v1] := by cases args; simp_all
  obtain ⟨rfl, rfl⟩ := trodVars_none hV
  have k0 := h0
  have lt0 : ∀ x ∈ p0, x.block < W.heap.size := by obtain ⟨m, hm⟩ := k0; exact DataW.trod_lt m _ _ _ hm
  obtain ⟨l0, a0, ns0, cap0, rfl, wl0, hl0, hm0, hd0, hb0⟩ := counts_of (hval 0 24 v0 rfl rfl) h0
  obtain ⟨a1, len1, cap1, rfl⟩ := okWide_slice Try.underlying70 (hval 1 70 v1 rfl rfl)
  have k1 := h1
  have lt1 : ∀ x ∈ p1, x.block < W.heap.size := by obtain ⟨m, hm⟩ := k1; exact DataW.trod_lt m _ _ _ hm
  obtain ⟨ns1, rfl, hl1, hm1, hd1, hb1⟩ := u16s_of_trod h1
  clear hA0 hval0
  refine (walk l0 a0 ns0 cap0 a1 ns1 cap1 W wl0 hd0 hl0 (by omega) hb0 hd1 hl1 (by omega) hb1).mono fun e W' ⟨he, bel⟩ => ?_
  subst he
  exact ⟨_, rfl, _, _, _, [], _, [], hW', trodAll_mk1 (shut_bool Try.underlying4 _), (trodAll_cons_mk (Below.trod laidOut (by kernel_rfl) (of_decide_eq_true (by kernel_rfl)) k0 bel lt0) (trodAll_cons_mk (Below.trod laidOut (by kernel_rfl) (of_decide_eq_true (by kernel_rfl)) k1 bel lt1) trodAll_mk0)), rfl, bel.frame _, fun h => by cases h⟩

theorem over : Rows.fseBackRow.holds Try.pinned (OpenSpec.ofChange Rows.fseBackSpec) :=
  OpenClaim.holds_of_wide 6 Try.f6 rfl rfl rfl rfl rfl rfl rfl ⟨rfl, rfl, rfl, rfl, rfl⟩ rfl rfl rfl rfl rfl (by kernel_rfl) Try.func6 (by kernel_rfl)
    (of_decide_eq_true (by kernel_rfl)) (by unfold Func.isWrapper; first | (rw [if_pos (by decide +kernel)]; kernel_rfl) | (rw [if_neg (by decide +kernel)]; exact ⟨rfl, rfl⟩))
    (fun os started H enc _ => lifted os started H enc)

theorem proved : Rows.FseBackSaid := over
end Go.Proofs.Ytchpaeelpaicbaa.fseBack
