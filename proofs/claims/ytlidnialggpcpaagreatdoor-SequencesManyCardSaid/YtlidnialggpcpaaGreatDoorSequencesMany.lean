
/- SequencesMany holds, tied to the program's text: for every bytes and every number the law returns true. No condition of ours; the row's own: the package's variables read as the text lays them. -/
import Derived.Test.YtlidnialggpcpaaGreatDoorSeqLawU
namespace Go.Proofs.YtlidnialggpcpaaGreatDoor.sequencesMany
open Go.ChangeShapes Go.WideShapes Go.ChangeAt Go.RowKit

set_option maxRecDepth 100000 in
set_option maxHeartbeats 4000000 in
theorem walk (a : Option Addr) (xs : List UInt8) (cp : Nat) (yi : Int) (w : World) (hgl : GS w.heap.size w) (hd : Dat false w 0 w.heap.size a xs) (_hm : xs.length ≤ maxLen) (hy : 0 ≤ yi ∧ yi ≤ 255) :
    Calls Tryz.prog 3 #[.slice a xs.length cp, .int .u8 yi] w fun e w' => e = .returned (.bool true) ∧ Below w.heap.size w w' := by
  obtain ⟨y, rfl⟩ := Int.eq_ofNat_of_zero_le hy.1
  have HG := Lib.hid hgl
  have HD := Lib.hid hd
  obtain ⟨m, hmm⟩ : ∃ m, m = xs.length := ⟨_, rfl⟩
  rw [← hmm]
  have HM := Lib.hid hmm
  have hy8 : y < 256 := by omega
  clear hgl hd hmm
  by_cases hlong : 4 < m
  · have h50 : (4 : Int) < (m : Int) := by omega
    go_enter Tryz.func3, Tryz.ntmps3
    go_wp2_with (go_at_call 7; refine (seq_awake _ HG.out).mono ?_; rintro e' w1 ⟨rfl, hB1⟩; have HB1 := Lib.hid hB1; clear hB1)
    go_ret
    exact ⟨rfl, HB1.out⟩
  · have h50 : decide ((4 : Int) < (m : Int)) = false := by simp; omega
    go_enter Tryz.func3, Tryz.ntmps3
    go_wp2_with fail
    refine (seq_awake _ HG.out).mono ?_
    rintro e w1 ⟨rfl, hB1⟩
    have HB1 := Lib.hid hB1
    clear hB1
    obtain ⟨i0, hi0, hz0, hz1, hz2⟩ := info_parts u8_info
    have HI := Lib.hid (And.intro hi0 (And.intro hz0 (And.intro hz1 hz2)))
    have hm5 : m ≤ 4 := by omega
    have HO0 := Lib.hid (ownB_empty w1 5 w.heap.size HB1.out.size)
    have HB1a := Lib.hid (HB1.out.alloc HB1.out.size (.cells #[] 5))
    have HD1 := Lib.hid (HD.out.below HB1a.out (Nat.le_refl _))
    clear hi0 hz0 hz1 hz2 hlong hy
    go_wp2_with (at_builtin; refine list_app _ rfl _ _ 22 rfl i0 Tryz.underlying22 HI.out.1 HI.out.2.1 HI.out.2.2.1 HI.out.2.2.2 rfl HO0.out rfl HD1.out HM.out.symm ?_ ?_ ?_)
    · simp; omega
    · exact HB1a.out.size
    intro v2 w2 ho2 hg2 _
    obtain ⟨A2, c2, rfl, _, _⟩ := ho2.form
    have HO2 : Hid (OwB w2 5 w.heap.size (.slice A2 m c2) xs) := by rw [HM.out]; exact ho2
    have HB2 := Lib.hid (HB1a.out.grown hg2 HB1a.out.size (fun k hk => (HO0.out.block k hk).1))
    rw [← HM.out]
    clear ho2 hg2 HO0 HB1a HD1
    go_upto_region 7 with (fail)
    obtain ⟨z, hz⟩ : ∃ z : UInt8, z = UInt8.ofNat y := ⟨_, rfl⟩
    have hzy : z.toNat = y := by rw [hz, UInt8.toNat_ofNat']; omega
    have hcz : cel z = .int .u8 (y : Int) := by unfold cel; rw [hzy]
    have hd3 := dat_one w2 z 5
    rw [hcz] at hd3
    have HD3 := Lib.hid hd3
    have HA3 := Lib.hid (HO2.out.alloc (.cells #[.int .u8 (y : Int)] 5))
    have HB3 := Lib.hid (HB2.out.alloc HB2.out.size (.cells #[.int .u8 (y : Int)] 5))
    clear hz hzy hcz hd3
    go_wp2_with (at_builtin; refine list_app _ rfl _ _ 22 rfl i0 Tryz.underlying22 HI.out.1 HI.out.2.1 HI.out.2.2.1 HI.out.2.2.2 rfl HA3.out rfl HD3.out rfl ?_ ?_ ?_)
    · have := HM.out; simp; omega
    · exact HB3.out.size
    intro v4 w4 ho4 hg4 _
    obtain ⟨zs, hzs⟩ : ∃ zs, zs = xs ++ [z] := ⟨_, rfl⟩
    have hzl : zs.length = m + 1 := by rw [hzs, List.length_append, List.length_singleton, ← HM.out]
    rw [← hzs] at ho4
    obtain ⟨A4, c4, rfl, hc4, hd4⟩ := ho4.form
    have HB4 := Lib.hid (HB3.out.grown hg4 HB3.out.size (fun k hk => (HA3.out.block k hk).1))
    have HD4 := Lib.hid hd4
    rw [hzl]
    have HZ := Lib.hid hzl
    clear ho4 hg4 hc4 hd4 hzs hzl HO2 HD3 HA3 HB3 HB2
    have HR := Lib.hid (readU_none (c := c4) (m := m + 1) (HG.out.below HB4.out (Nat.le_refl _)) HD4.out (Nat.le_refl _) HZ.out (by have := HZ.out; omega))
    have HQl := Lib.hid (resQ_len zs)
    go_wp2_with fail
    refine HR.out.mono ?_
    rintro e w5 ⟨A5, n5, c5, x5, rfl, hd5, hn5, hB5⟩
    have HB5 := Lib.hid (HB4.out.trans (hB5.mono HB4.out.size))
    have HD5 := Lib.hid (HD4.out.below hB5 (Nat.le_refl _))
    have HS5 := Lib.hid hd5
    have hs5 := hB5.size
    have hn5b : n5 ≤ 98047 := by have := HQl.out; omega
    have HN5 := Lib.hid hn5
    obtain ⟨W7, hW7⟩ : ∃ W7, W7 = (w5.alloc (.cells x5.cells 29)).alloc (.cells #[.int .i64 0, .slice none 0 0, .int .i64 0, .slice none 0 0, .int .i64 0, .slice none 0 0] 36) := ⟨_, rfl⟩
    have hb7 : Below w5.heap.size w5 W7 := by rw [hW7]; exact ((Below.refl _ _).alloc (Nat.le_refl _) _).alloc (by simp) _
    have hx7 : Box W7 (w5.heap.size + 1) 36 #[.int .i64 0, .slice none 0 0, .int .i64 0, .slice none 0 0, .int .i64 0, .slice none 0 0] := by
      rw [hW7]
      have := Box.new (w5.alloc (.cells x5.cells 29)) 36 #[.int .i64 0, .slice none 0 0, .int .i64 0, .slice none 0 0, .int .i64 0, .slice none 0 0]
      rw [World.size_alloc] at this
      exact this
    obtain ⟨⟨t0, t1, t2, t3, t4, t5⟩, _⟩ := box6 hx7
    have hstr := run_str (m := m + 1) (c := c4) W7 22 Tryz.underlying22 Tryz.underlying5 (HD5.out.below hb7 (by omega)) HZ.out 9 Tryz.underlying9
    have HB7 := Lib.hid (HB5.out.trans (hb7.mono HB5.out.size))
    have HS7 := Lib.hid ((HS5.out.below hb7 (Nat.le_refl _)).mono (Nat.le_refl _) hb7.size)
    have hs7 := hb7.size
    clear hd5 hn5 hB5 hb7 hx7 HR HD4 HD5 HS5 HB5 HB4
    go_upto_region 10 with (fail)
    change Code.wp _ _ _ _ ((w5.alloc (.cells x5.cells 29)).alloc (.cells #[.int .i64 0, .slice none 0 0, .int .i64 0, .slice none 0 0, .int .i64 0, .slice none 0 0] 36))
    rw [← hW7]
    clear hW7
    go_wp2_with fail
    refine (rreadU_none (by have := HZ.out; omega)).mono ?_
    rintro e w8 ⟨A8, n8, c8, x8, rfl, hd8, hn8, hB8⟩
    obtain rfl : n8 = n5 := by have := HN5.out; omega
    obtain ⟨W9, hW9⟩ : ∃ W9, W9 = w8.alloc (.cells x8.cells 36) := ⟨_, rfl⟩
    have hb9 : Below w8.heap.size w8 W9 := by rw [hW9]; exact (Below.refl _ _).alloc (Nat.le_refl _) _
    have hs8 := hB8.size
    have HSm := Lib.hid (same_yes13 (c1 := c5) (c2 := c8) ((HS7.out.below hB8 (Nat.le_refl _)).below hb9 hs8) (hd8.below hb9 (Nat.le_refl _)) hn8 (by omega) (by have := hb9.size; omega) hb9.size)
    have HB9 := Lib.hid ((HB7.out.trans (hB8.mono HB7.out.size)).trans (hb9.mono (by have := HB7.out.size; omega)))
    clear hd8 hn8 hB8 hb9 HS7 HB7 t0 t1 t2 t3 t4 t5 hstr
    generalize resE (readS zs) = E at *
    go_upto_region 11 with (fail)
    change Code.wp _ _ _ _ (w8.alloc (.cells x8.cells 36))
    rw [← hW9]
    clear hW9
    go_wp2_with (go_at_call 10; refine HSm.out.mono ?_; rintro e' w' ⟨rfl, hBs⟩; have HBs := Lib.hid (HB9.out.trans (hBs.mono HB9.out.size)); clear hBs)
    go_ret
    exact ⟨rfl, HBs.out⟩

set_option maxRecDepth 100000 in
theorem lifted (os : Os) (started : os.Started) (H : Type) (enc : TypeId × Value → H) :
    ReturnsInHanded {} Tryz.checked os 3 .any (fun w args => (Rows.sequencesManySpec.pre enc Tryz.prog Tryz.f3 [] false w args ∧ laidMetH Tryz.prog laidL w) ∧ sizedMet enc Tryz.prog Tryz.f3 (OpenSpec.ofChange Rows.sequencesManySpec) false w args)
      (Rows.sequencesManySpec.post enc Tryz.prog Tryz.f3 false true false false) := by
  refine returnsInHanded_of_change_and (C := Tryz.checked) (X := fun w _ => laidMetH Tryz.prog laidL w) (fun _ _ _ hh h => h.of_heap hh) own started (by kernel_rfl) Tryz.func3
    (ChangeSpec.witness_shaped (enc := enc) (C := Tryz.checked) (os := os) (X := fun w _ => laidMetH Tryz.prog laidL w) false (World.doorLaid Tryz.prog 400 os) #[.slice none 0 0, .int .u8 0] 8 rfl (World.shaped_of_RefB (by kernel_rfl) (by kernel_rfl)) (by kernel_rfl) (by kernel_rfl) (by kernel_rfl) (door_met os _)) ?_
  intro W base args ds gs before hval0 hW _ _ hL _
  have hval : ∀ (j : Nat) t v, Tryz.f3.params[j]? = some t → args[j]? = some v → Value.okWide Tryz.prog W .any base t v := hval0
  have hW' := hW
  obtain ⟨p, q, hA0, hV, rfl, hfz, hnd⟩ := hW
  have hA : DataW.TrodAll enc Tryz.prog W 0 (fun _ => true) true Tryz.f3.params.toList args.toList ds p := hA0
  rw [Tryz.params3] at hA hval
  obtain ⟨v0, vs0, d0, ds0, p0, q0, hargs, rfl, rfl, h0, r0⟩ := trodAll_cons hA
  obtain ⟨v1, vs1, d1, ds1, p1, q1, rfl, rfl, rfl, h1, r1⟩ := trodAll_cons r0
  obtain ⟨rfl, rfl, rfl⟩ := trodAll_nil r1
  obtain rfl : args = #[v0, v1] := by cases args; simp_all
  obtain ⟨rfl, rfl⟩ := trodVars_none hV
  obtain ⟨a0, len0, cap0, rfl⟩ := okWide_slice Tryz.underlying22 (hval 0 22 v0 rfl rfl)
  have k0 := h0
  have lt0 : ∀ x ∈ p0, x.block < W.heap.size := by obtain ⟨m, hm⟩ := k0; exact DataW.trod_lt m _ _ _ hm
  obtain ⟨z0, w0⟩ := row_of_trod h0
  obtain ⟨xs0, rfl, hl0, hm0, hd0⟩ := row_dat w0
  obtain ⟨n1, rfl, rfl, rfl, w1⟩ := open_int Tryz.underlying5 (hval 1 5 v1 rfl rfl) h1
  clear hA0 hval0
  refine (walk a0 xs0 cap0 n1 W (glob_of_laid hL) hd0 (by omega) (u8_bounds w1)).mono fun e W' ⟨he, bel⟩ => ?_
  subst he
  exact ⟨_, rfl, _, _, _, [], _, [], hW', trodAll_mk1 (shut_bool Tryz.underlying4 _), (trodAll_cons_mk (Below.trod laidOut (by kernel_rfl) (of_decide_eq_true (by kernel_rfl)) k0 bel lt0) (trodAll_cons_mk (shut_int Tryz.underlying5 w1) trodAll_mk0)), rfl, bel.frame _, fun h => by cases h⟩

theorem over : Rows.sequencesManyRow.holds Tryz.pinned (OpenSpec.ofChange Rows.sequencesManySpec) :=
  OpenClaim.holds_of_wide 3 Tryz.f3 rfl rfl rfl rfl rfl rfl rfl ⟨rfl, rfl, rfl, rfl, rfl⟩ rfl rfl rfl rfl rfl (by kernel_rfl) Tryz.func3 (by kernel_rfl)
    (of_decide_eq_true (by kernel_rfl)) (by unfold Func.isWrapper; first | (rw [if_pos (by decide +kernel)]; kernel_rfl) | (rw [if_neg (by decide +kernel)]; exact ⟨rfl, rfl⟩))
    (fun os started H enc _ => lifted os started H enc)

/-- ████ THE STATEMENT ████ -/
theorem proved : Rows.SequencesManyCardSaid :=
  Claim7.holds_tied_plain_at .later [] [.data, .data, .data, .data, .data, .data, .data, .data] true Rows.sequencesManyCard.stood.harness false
    over (fun _ h => by cases h) (by kernel_rfl) (fun _ h => by cases h) sequencesMany_row_tie rfl ⟨rfl, rfl⟩ (by kernel_rfl) rfl
    (fun f fn hf hfn => by
      obtain rfl : f = 3 := Option.some.inj ((show Tryz.prog.funcNamed Rows.sequencesManyRow.func = some 3 by kernel_rfl).symm.trans hf) |>.symm
      obtain rfl : fn = Tryz.f3 := (Option.some.inj (Tryz.func3.symm.trans hfn)).symm
      exact ⟨by kernel_rfl, fun j t ht => by
        rw [Tryz.params3] at ht
        have hm : t ∈ [22, 5] := by
          have := Array.mem_of_getElem? ht
          simp at this
          simpa using this
        have hall : ([22, 5].all fun u => !Tryz.prog.wantsStandIn u) = true := by kernel_rfl
        exact (show Tryz.prog.wantsStandIn t = false by simpa using List.all_eq_true.1 hall t hm)⟩)
    (by kernel_rfl)
#print axioms proved
end Go.Proofs.YtlidnialggpcpaaGreatDoor.sequencesMany
