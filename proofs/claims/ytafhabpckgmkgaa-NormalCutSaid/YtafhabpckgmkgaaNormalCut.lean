
/- NormalCut holds: for every slice of numbers, every int, every number of 16 bits and every slice of bytes the law returns true, and both slices read behind the call as they read before. No condition. -/
import Derived.Test.YtafhabpckgmkgaaNormArgs
namespace Go.Proofs.Ytafhabpckgmkgaa.normalCut
open Go.ChangeShapes Go.WideShapes Go.ChangeAt Go.RowKit

set_option maxRecDepth 100000 in
set_option maxHeartbeats 4000000 in
theorem walk (a0 : Option Addr) (os : List Nat) (cap0 : Nat) (log at_ : Int) (a3 : Option Addr) (xs : List UInt8) (cap3 : Nat) (w : World) (hd : DatE ucel w 0 w.heap.size a0 os) (hl : os.length ≤ cap0) (hm : os.length ≤ maxLen) (hb : ∀ o ∈ os, o ≤ 4294967295)
    (hlog : -9223372036854775808 ≤ log ∧ log ≤ 9223372036854775807) (hat : 0 ≤ at_ ∧ at_ ≤ 65535) (hd3 : Dat false w 0 w.heap.size a3 xs) (hm3 : xs.length ≤ maxLen) :
    Calls Try.prog 6 #[.slice a0 os.length cap0, .int .i64 log, .int .u16 at_, .slice a3 xs.length cap3] w fun e w' => e = .returned (.bool true) ∧ Below w.heap.size w w' := by
  obtain ⟨i0, hi0, hz0, hz1, hz2⟩ := info_parts u8_info
  unfold maxLen at hm hm3
  obtain ⟨ht1, ht2⟩ := hat
  obtain ⟨hlo1, hlo2⟩ := hlog
  have HD := Lib.hid hd
  have HB := Lib.hid hb
  have HD3 := Lib.hid hd3
  clear hd hb hd3
  by_cases h1 : 300 < os.length
  · go_enter Try.func6, Try.ntmps6
    go_wp2_with fail
    refine (awake_any _).mono ?_
    rintro e w1 ⟨rfl, hB⟩
    have HB1 := Lib.hid hB
    clear hB
    go_wp2_with fail
    go_ret
    exact ⟨rfl, HB1.out⟩
  · by_cases h2 : 50 < xs.length
    · have h1' : decide (300 < os.length) = false := by simp; omega
      go_enter Try.func6, Try.ntmps6
      go_wp2_with fail
      refine (awake_any _).mono ?_
      rintro e w1 ⟨rfl, hB⟩
      have HB1 := Lib.hid hB
      clear hB
      go_wp2_with fail
      go_ret
      exact ⟨rfl, HB1.out⟩
    · have h1' : decide (300 < os.length) = false := by simp; omega
      have h2' : decide (50 < xs.length) = false := by simp; omega
      go_enter Try.func6, Try.ntmps6
      go_wp2_with fail
      refine (awake_any _).mono ?_
      rintro e w1 ⟨rfl, hB⟩
      have HB1 := Lib.hid hB
      have hs1 := hB.size
      clear hB
      go_wp2_with fail
      refine (of_any (c := cap0) log (HD.out.below HB1.out (Nat.le_refl _)) hs1 rfl (by omega) HB.out hl).mono ?_
      rintro e w2 ⟨hB, hor⟩
      have HB2 := Lib.hid (HB1.out.trans (hB.mono hs1))
      have hs2 := HB2.out.size
      clear hB
      rcases hor with ⟨_, ps, v, rfl, ho, hmay, _, _⟩ | ⟨_, rfl⟩
      · obtain ⟨Ap, cp, rfl, hcp, _⟩ := ho.form
        have HM := Lib.hid hmay
        have HO := Lib.hid ho
        obtain ⟨l, rfl⟩ := Int.eq_ofNat_of_zero_le (show 0 ≤ log by have := (mayB_iff.1 hmay).1; omega)
        have hpl := (mayB_iff.1 hmay).2.2.2.1
        have hl15 := (mayB_iff.1 hmay).2.1
        obtain ⟨np, hnp⟩ : ∃ np, np = ps.length := ⟨_, rfl⟩
        rw [← hnp] at hpl hcp ⊢
        have HNp := Lib.hid hnp.symm
        have HO2 : Hid (OwE icel w2 3 w1.heap.size (.slice Ap np cp) ps) := by unfold Hid; rw [hnp]; exact ho
        clear ho hmay hnp HO
        go_wp2_with fail
        have hmp : np ≤ maxLen := by unfold maxLen; omega
        have HX2 := Lib.hid (Box.new w2 26 #[.int .i64 (l : Int), .slice Ap np cp])
        have HOa := Lib.hid (HO2.out.alloc (.cells #[.int .i64 (l : Int), .slice Ap np cp] 26))
        refine (write_told (c := cp) l HM.out HOa.out.dat HNp.out hcp hmp (Nat.le_refl _) (may_bounds HM.out)).mono ?_
        rintro e wb ⟨vb, rfl, hob, hB⟩
        obtain ⟨Ab, cb, rfl, hcb, hdb⟩ := hob.form
        have hszb := hB.size
        simp only [World.size_alloc] at hszb
        have HXb := Lib.hid (HX2.out.below hB (by simp))
        have HOb := Lib.hid (HOa.out.below hB (Nat.le_refl _))
        have HBb := Lib.hid (HB2.out.trans (((Below.refl _ _).alloc (Nat.le_refl _) (.cells #[.int .i64 (l : Int), .slice Ap np cp] 26)).trans (hB.mono (by simp))|>.mono hs2))
        have hbl := wrC_bound HM.out
        have hLe := wrC_len l ps
        have HOB := Lib.hid hob
        have hLc : 4 ≤ (wrC l ps).length := by unfold wrC; rw [List.length_append, low_length]; omega
        have hR2 := rdC_back (log := (l : Int)) HM.out (most := 15) (sy := 256) (by omega) (by have := HNp.out; omega) (bitsOf xs)
        have hR0 := rdC_back (log := (l : Int)) HM.out (most := 15) (sy := 256) (by omega) (by have := HNp.out; omega) []
        rw [List.append_nil] at hR0
        rw [show ((l : Nat) : Int).toNat = l by omega] at hR0 hR2
        rw [← bitsOf_append] at hR2
        have HR2 := Lib.hid hR2
        have HR0 := Lib.hid hR0
        have HDb := Lib.hid hdb
        clear hob hdb hB hR0 hR2
        generalize bytesOf (wrC l ps) = X at *
        obtain ⟨Wl, hWl⟩ : ∃ Wl, Wl = (wrC l ps).length := ⟨_, rfl⟩
        rw [← hWl] at hbl hLe hLc HR2 HR0
        obtain ⟨L, hL⟩ : ∃ L, L = X.length := ⟨_, rfl⟩
        rw [← hL] at hcb hLe ⊢
        have HL := Lib.hid hL
        clear hWl hL
        have hL1 : (1 : Int) ≤ (L : Int) := by omega
        obtain ⟨mm, hmm⟩ : ∃ mm : Nat, at_ % (L : Int) = (mm : Int) := ⟨(at_ % (L : Int)).toNat, (Int.toNat_of_nonneg (Int.emod_nonneg at_ (show (L : Int) ≠ 0 by omega))).symm⟩
        have hmL : mm < L := by have := Int.emod_lt_of_pos at_ (show (0 : Int) < (L : Int) by omega); omega
        have hL0 : ((L : Int) == 0) = false := by rw [beq_eq_false_iff_ne]; omega
        have HR1 : Hid (rdC (bitsOf (X.take mm)) 15 256 = .error 10) := by
          have h9 := rdC_cut (m := 8 * mm) HR0.out (by omega)
          rw [← bitsOf_cut] at h9
          exact h9
        have HLe : Hid ((Wl + 7) / 8 = L) := hLe.symm
        have HC1 := Lib.hid (read_any (n := mm) (c := cb) 15 256 (HDb.out.take mm) (by rw [List.length_take, ← HL.out]; omega) (by rw [List.length_take, ← HL.out]; omega) (Nat.le_refl _) HR1.out)
        have hL5 : L ≤ 100000 := by omega
        clear hLe
        have hmc : (mm : Int) ≤ (cb : Int) := by omega
        have hm0 : (0 : Int) ≤ (mm : Int) := by omega
        go_wp2_with fail
        refine HC1.out.mono ?_
        rintro e wc ⟨hB, rfl⟩
        have hszc := hB.size
        have HXc := Lib.hid (HXb.out.below hB (by omega))
        have HOc := Lib.hid (HOb.out.below hB (Nat.le_refl _))
        have HOBc := Lib.hid (HOB.out.below hB (Nat.le_refl _))
        have HBc := Lib.hid (HBb.out.trans (hB.mono HBb.out.size))
        have hszw := HBc.out.size
        clear hB hmm hm0 hmc
        have HD3c := Lib.hid ((HD3.out.below HBc.out (Nat.le_refl _)).alloc hszw (.cells #[.int .i64 0, .slice none 0 0] 26))
        have HOBd := Lib.hid (HOBc.out.alloc (.cells #[.int .i64 0, .slice none 0 0] 26))
        have HXd := Lib.hid (HXc.out.alloc (.cells #[.int .i64 0, .slice none 0 0] 26))
        have HOd := Lib.hid (HOc.out.alloc (.cells #[.int .i64 0, .slice none 0 0] 26))
        rw [← HL.out] at HOBd
        go_wp2_with (at_builtin; refine list_app _ rfl _ _ 22 rfl i0 Try.underlying22 hi0 hz0 hz1 hz2 rfl HOBd.out rfl HD3c.out rfl ?_ ?_ ?_)
        · rw [← HL.out]; omega
        · simp; omega
        intro v1 wd ho1 hg1 hat1
        obtain ⟨Ad, cd, rfl, hcd, hdd⟩ := ho1.form
        have hne : w2.heap.size ≠ wc.heap.size := by omega
        have HXe := Lib.hid (HXd.out.grown hg1 (fun e => by have := (HOBd.out.block w2.heap.size e.symm).1; simp at this; omega))
        have HOe := Lib.hid (HOd.out.grown hg1 (by
          rcases hk : (Value.slice Ap np cp).ownBlock with _ | k
          · exact .inl rfl
          · right
            intro e
            have q1 := (HOBd.out.block k e.symm).1
            have q2 := (HO2.out.block k hk).2
            simp at q1
            omega))
        have HBe := Lib.hid ((HBc.out.alloc hszw (.cells #[.int .i64 0, .slice none 0 0] 26)).grown hg1 (by simp; omega) (fun k hk => by have := (HOBd.out.block k hk).1; simp at this; omega))
        have hsze := hg1.size
        simp only [World.size_alloc] at hsze
        have HC2 := Lib.hid (read_any (n := (X ++ xs).length) (c := cd) 15 256 hdd rfl (by rw [List.length_append, ← HL.out]; omega) (Nat.le_refl _) HR2.out)
        clear ho1 hg1 hat1 hdd hcd
        generalize (X ++ xs).length = Ln at *
        go_wp2_with fail
        refine HC2.out.mono ?_
        rintro e wf ⟨hB, vf, rfl, hof⟩
        rw [HLe.out]
        obtain ⟨Af, cf, rfl, hcf, hdf⟩ := hof.form
        rw [HNp.out] at hcf ⊢
        have hszf := hB.size
        have HXf := Lib.hid (HXe.out.below hB (by omega))
        have HOf := Lib.hid (HOe.out.below hB (Nat.le_refl _))
        have HBf := Lib.hid (HBe.out.trans (hB.mono HBe.out.size))
        have HDf := Lib.hid hdf
        have hszg := HBf.out.size
        clear hB hof hdf
        have HSame : Hid (∀ wz, Below (wf.heap.size + 1) (wf.alloc (.cells #[.int .i64 (l : Int), .slice Af np cf] 26)) wz → Calls Try.prog 11 #[.agg #[.int .i64 (l : Int), .slice Af np cf], .agg #[.int .i64 (l : Int), .slice Ap np cp]] wz fun e w' => e = .returned (.bool true) ∧ Below wz.heap.size wz w') := by
          intro wz hz
          have hzs := hz.size
          simp only [World.size_alloc] at hzs
          exact same_yes l ((HDf.out.alloc (Nat.le_refl _) _).below hz (by omega)) ((HOf.out.dat.alloc (Nat.le_refl _) _).below hz (by omega)) HNp.out (by omega) (by omega) (by omega)
        have HT : Hid ((wf.alloc (.cells #[.int .i64 (l : Int), .slice Af np cf] 26)).cell? ⟨w2.heap.size, 0, none⟩ = some (.int .i64 (l : Int)) ∧ (wf.alloc (.cells #[.int .i64 (l : Int), .slice Af np cf] 26)).cell? ⟨w2.heap.size, 1, none⟩ = some (.slice Ap np cp) ∧ (wf.alloc (.cells #[.int .i64 (l : Int), .slice Af np cf] 26)).cell? ⟨wf.heap.size, 0, none⟩ = some (.int .i64 (l : Int)) ∧ (wf.alloc (.cells #[.int .i64 (l : Int), .slice Af np cf] 26)).cell? ⟨wf.heap.size, 1, none⟩ = some (.slice Af np cf)) :=
          ⟨(HXf.out.alloc _).cell 0, (HXf.out.alloc _).cell 1, (Box.new wf _ _).cell 0, (Box.new wf _ _).cell 1⟩
        have HBd : Hid (Below w.heap.size w (wf.alloc (.cells #[.int .i64 (l : Int), .slice Af np cf] 26))) := HBf.out.alloc (by omega) _
        have hlt2 := HXf.out.lt
        have hb1 : w2.heap.size < wf.heap.size + 1 := by omega
        have hb2 : wf.heap.size < wf.heap.size + 1 := by omega
        have hs0 : w.heap.size ≤ wf.heap.size + 1 := by omega
        have hW0 : wf.heap.size + 1 ≤ (wf.alloc (.cells #[.int .i64 (l : Int), .slice Af np cf] 26)).heap.size := by simp
        obtain ⟨t0, t1, t2, t3⟩ := HT.out
        go_wp2_with fail
        generalize wf.alloc (.cells #[.int .i64 (l : Int), .slice Af np cf] 26) = W0 at *
        generalize wf.heap.size = b2 at *
        have HB : Hid (Below (b2 + 1) W0 W0.drew) := (Below.refl _ _).drew
        go_region_held3 (fun w' => w'.cell? ⟨w2.heap.size, 0, none⟩ = some (.int .i64 (l : Int)) ∧ w'.cell? ⟨w2.heap.size, 1, none⟩ = some (.slice Ap np cp) ∧ w'.cell? ⟨b2, 0, none⟩ = some (.int .i64 (l : Int)) ∧ w'.cell? ⟨b2, 1, none⟩ = some (.slice Af np cf)) (first | exact ⟨t0, t1, t2, t3⟩ | exact ⟨s0, s1, s2, s3⟩ | go_keep) (first | (go_at_call 12; refine (modelOf_any _ _ _ _ _).mono ?_; rintro e' wn ⟨rfl, hB⟩; have HB := Lib.hid (HB.out.trans (hB.mono (Nat.le_trans hW0 HB.out.size))); obtain ⟨s0, s1, s2, s3⟩ := cells4 HB.out hb1 hb2 HT.out; clear hB) | (go_at_call 11; refine (HSame.out _ HB.out).mono ?_; rintro e' wn ⟨rfl, hB⟩; have HB := Lib.hid (HB.out.trans (hB.mono (Nat.le_trans hW0 HB.out.size))); obtain ⟨s0, s1, s2, s3⟩ := cells4 HB.out hb1 hb2 HT.out; clear hB))
        all_goals
          go_wp2_with fail
          go_ret
          exact ⟨rfl, HBd.out.trans (HB.out.mono hs0)⟩
      · go_wp2_with fail
        go_ret
        exact ⟨rfl, HB2.out.alloc hs2 _⟩

set_option maxRecDepth 100000 in
theorem lifted (os : Os) (started : os.Started) (H : Type) (enc : TypeId × Value → H) :
    ReturnsInHanded {} Try.checked os 6 .any (Rows.normalCutSpec.pre6 enc Try.prog Try.f6 Rows.normalCutRow.domain false) (Rows.normalCutSpec.post enc Try.prog Try.f6 false true false false) := by
  refine returnsInHanded_of_change (C := Try.checked) own started (by kernel_rfl) Try.func6
    (ChangeSpec.witness6 (enc := enc) (C := Try.checked) false ⟨#[], #[.slice none 0 0, .int .i64 0, .int .u16 0, .slice none 0 0], []⟩ 8 (by kernel_rfl) (by kernel_rfl) (by kernel_rfl) (by kernel_rfl)) ?_
  intro W base args ds gs before hval0 hW hcnd _
  have hval : ∀ (j : Nat) t v, Try.f6.params[j]? = some t → args[j]? = some v → Value.okWide Try.prog W .any base t v := hval0
  have hW' := hW
  obtain ⟨p, q, hA0, hV, rfl, hfz, hnd⟩ := hW
  have hA : DataW.TrodAll enc Try.prog W 0 (fun _ => true) true Try.f6.params.toList args.toList ds p := hA0
  rw [Try.params6] at hA hval
  obtain ⟨v0, vs0, d0, ds0, p0, q0, hargs, rfl, rfl, h0, r0⟩ := trodAll_cons hA
  obtain ⟨v1, vs1, d1, ds1, p1, q1, rfl, rfl, rfl, h1, r1⟩ := trodAll_cons r0
  obtain ⟨v2, vs2, d2, ds2, p2, q2, rfl, rfl, rfl, h2, r2⟩ := trodAll_cons r1
  obtain ⟨v3, vs3, d3, ds3, p3, q3, rfl, rfl, rfl, h3, r3⟩ := trodAll_cons r2
  obtain ⟨rfl, rfl, rfl⟩ := trodAll_nil r3
  obtain rfl : args = #[v0, v1, v2, v3] := by cases args; simp_all
  obtain ⟨rfl, rfl⟩ := trodVars_none hV
  obtain ⟨a0, len0, cap0, rfl⟩ := okWide_slice Try.underlying42 (hval 0 42 v0 rfl rfl)
  have k0 := h0
  have lt0 : ∀ x ∈ p0, x.block < W.heap.size := by obtain ⟨m, hm⟩ := k0; exact DataW.trod_lt m _ _ _ hm
  obtain ⟨ns0, rfl, hl0, hm0, hd0, hb0⟩ := u32s_of_trod h0
  obtain ⟨n1, rfl, rfl, rfl, w1⟩ := open_int Try.underlying3 (hval 1 3 v1 rfl rfl) h1
  obtain ⟨n2, rfl, rfl, rfl, w2⟩ := open_int Try.underlying49 (hval 2 49 v2 rfl rfl) h2
  obtain ⟨a3, len3, cap3, rfl⟩ := okWide_slice Try.underlying22 (hval 3 22 v3 rfl rfl)
  have k3 := h3
  have lt3 : ∀ x ∈ p3, x.block < W.heap.size := by obtain ⟨m, hm⟩ := k3; exact DataW.trod_lt m _ _ _ hm
  obtain ⟨z3, w3⟩ := row_of_trod h3
  obtain ⟨xs3, rfl, hl3, hm3, hd3⟩ := row_dat w3
  clear hA0 hval0
  refine (walk a0 ns0 cap0 n1 n2 a3 xs3 cap3 W hd0 hl0 (by omega) hb0 (int_bounds w1) (u16_bounds w2) hd3 (by omega)).mono fun e W' ⟨he, bel⟩ => ?_
  subst he
  exact ⟨_, rfl, _, _, _, [], _, [], hW', trodAll_mk1 (shut_bool Try.underlying4 _), (trodAll_cons_mk (Below.trod laidOut (by kernel_rfl) (of_decide_eq_true (by kernel_rfl)) k0 bel lt0) (trodAll_cons_mk (shut_int Try.underlying3 w1) (trodAll_cons_mk (shut_int Try.underlying49 w2) (trodAll_cons_mk (Below.trod laidOut (by kernel_rfl) (of_decide_eq_true (by kernel_rfl)) k3 bel lt3) trodAll_mk0)))), rfl, bel.frame _, fun h => by cases h⟩

theorem over : Rows.normalCutRow.holds Try.pinned (OpenSpec.ofChange Rows.normalCutSpec) :=
  OpenClaim.holds_of_wide 6 Try.f6 rfl rfl rfl rfl rfl rfl rfl ⟨rfl, rfl, rfl, rfl, rfl⟩ rfl rfl rfl rfl rfl (by kernel_rfl) Try.func6 (by kernel_rfl)
    (of_decide_eq_true (by kernel_rfl)) (by unfold Func.isWrapper; first | (rw [if_pos (by decide +kernel)]; kernel_rfl) | (rw [if_neg (by decide +kernel)]; exact ⟨rfl, rfl⟩))
    (fun os started H enc _ => lifted os started H enc)

theorem proved : Rows.NormalCutSaid := over
end Go.Proofs.Ytafhabpckgmkgaa.normalCut
