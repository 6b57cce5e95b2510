
/- SequencesSame holds, tied to the program's text: for every sequence and every number the law returns true. No condition of ours; the row's own: the package's variables read as the text lays them. -/
import Derived.Test.YtlidnialggpcpaaGreatDoorSeqLawU
import Derived.Test.YtlidnialggpcpaaGreatDoorSeqSeqs
namespace Go.Proofs.YtlidnialggpcpaaGreatDoor.sequencesSame
open Go.ChangeShapes Go.WideShapes Go.ChangeAt Go.RowKit

theorem rep_ok (q : Sq) (k : Nat) : ∀ p ∈ List.replicate k (sqm q), okQ p = true := fun p hp => by
  rw [List.eq_of_mem_replicate hp]
  exact sqm_ok q
theorem rep_small (q : Sq) (h : q.Small) (k : Nat) : ∀ p ∈ List.replicate k (sqm q), p.Small := fun p hp => by
  rw [List.eq_of_mem_replicate hp]
  obtain ⟨h0, h1, h2⟩ := h
  exact small_of (by show q.l % 131072 < _; omega) (by show 3 + q.m % 131072 < _; omega) (by show 1 + q.o % 2147483648 < _; omega)
set_option maxRecDepth 100000 in
set_option maxHeartbeats 4000000 in
theorem walk (q : Sq) (yi : Int) (w : World) (hgl : GS w.heap.size w) (hq : q.Small) (hy : 0 ≤ yi ∧ yi ≤ 255) :
    Calls Tryz.prog 5 #[.agg #[.int .u32 (q.l : Int), .int .u32 (q.m : Int), .int .u32 (q.o : Int)], .int .u8 yi] w fun e w' => e = .returned (.bool true) ∧ Below w.heap.size w w' := by
  obtain ⟨y, rfl⟩ := Int.eq_ofNat_of_zero_le hy.1
  have hBw := hgl.size
  have HG := Lib.hid hgl
  have HQ := Lib.hid hq
  have hy8 : y < 256 := by omega
  obtain ⟨i0, hi0, hz0, hz1, hz2⟩ := info_parts seq_info
  have HI := Lib.hid (And.intro hi0 (And.intro hz0 (And.intro hz1 hz2)))
  obtain ⟨W0, hW0⟩ : ∃ W0, W0 = w.alloc (.cells #[.int .u32 (q.l : Int), .int .u32 (q.m : Int), .int .u32 (q.o : Int)] 47) := ⟨_, rfl⟩
  have hb0 : Below w.heap.size w W0 := by rw [hW0]; exact (Below.refl _ _).alloc (Nat.le_refl _) _
  have hx0 : Box W0 w.heap.size 47 #[.int .u32 (q.l : Int), .int .u32 (q.m : Int), .int .u32 (q.o : Int)] := by rw [hW0]; exact Box.new w _ _
  have hs0 : W0.heap.size = w.heap.size + 1 := by rw [hW0]; simp
  have HA := Lib.hid (seq_awake W0 (hgl.below hb0 hBw))
  have H0 := Lib.hid (And.intro hb0 (And.intro hx0 hs0))
  obtain ⟨kk, hkk⟩ : ∃ k, k = y % 100 := ⟨_, rfl⟩
  have hk100 : kk < 100 := by omega
  have hkm : (y : Int) % 100 = (kk : Int) := by omega
  have hkt : (y : Int).tmod 100 = (kk : Int) := by rw [Int.tmod_eq_emod_of_nonneg (by omega)]; omega
  have hw1 : IntKind.i64.wrap (kk : Int) = (kk : Int) := IntWalk.i64_in _ (by omega)
  have hw2 : IntKind.u8.wrap (kk : Int) = (kk : Int) := by rw [IntKind.wrap_u8]; omega
  clear hgl hq hi0 hz0 hz1 hz2 hb0 hx0 hs0 hkk hy
  go_enter Tryz.func5, Tryz.ntmps5
  go_upto_region 1 with (fail)
  rw [← hW0]
  clear hW0
  go_wp2_with fail
  refine HA.out.mono ?_
  rintro e w1 ⟨rfl, hB1⟩
  obtain ⟨hb0, hx0, hs0⟩ := H0.out
  have hx1 := hx0.below hB1 (by omega)
  have x0 := hx1.cell 0
  have x1 := hx1.cell 1
  have x2 := hx1.cell 2
  simp at x0 x1 x2
  have hs1 := hB1.size
  have HB1 := Lib.hid (hb0.trans (hB1.mono (by omega)))
  clear hb0 hx0 hs0 hx1 hB1 H0 HA
  go_upto_region 5 with (fail)
  have hd2 := datR_one (f := scell) (z := 3) w1 q 47 #[.int .u32 (q.l : Int), .int .u32 (q.m : Int), .int .u32 (q.o : Int)] rfl
  have HS := Lib.hid (seqsOf_any (c := 1) (n := 1) hd2 (by simp) rfl (by omega) (fun p hp => by simp at hp; rw [hp]; exact HQ.out))
  have HB2 := Lib.hid (HB1.out.alloc HB1.out.size (.cells #[.int .u32 (q.l : Int), .int .u32 (q.m : Int), .int .u32 (q.o : Int)] 47))
  clear hd2
  go_wp2_with fail
  refine HS.out.mono ?_
  rintro e w2 ⟨v2, rfl, ho2, hB2⟩
  obtain ⟨d2, c2, rfl, _, hd2, _⟩ := ho2.place (by simp)
  have hcl := (ho2.cellsS 0 (by simp)).1
  have HB3 := Lib.hid (HB2.out.trans (hB2.mono HB2.out.size))
  obtain ⟨q2, hq2⟩ : ∃ q2, q2 = sqm q := ⟨_, rfl⟩
  simp only [List.map_cons, List.map_nil, List.getElem_cons_zero, Nat.zero_mul, Nat.zero_add] at hcl
  rw [← hq2] at hcl
  have HC := Lib.hid (And.intro hcl hd2)
  have HQ2 := Lib.hid hq2
  clear ho2 hB2 hcl HS x0 x1 x2 hq2 HB1
  rw [show (List.map sqm [q]).length = 1 from rfl]
  go_wp2_with fail
  go_loopg [8, 9] (kk + 1) (fun gh i8 i wx => ∃ (j : Nat) (A n c : _), j + gh = kk + 1 ∧ i = .int .i64 (j : Int) ∧ i8 = .slice A n c ∧ Hid (OwR 3 scell wx 47 w2.heap.size (.slice A n c) (List.replicate j q2) ∧ Below w2.heap.size w2 wx))
  case atStart => exact ⟨0, none, 0, 0, by omega, rfl, rfl, OwR.nil _ _ _ _ _, Below.refl _ _⟩
  case round =>
    obtain ⟨j, A, n, c, hj, rfl, rfl, HE⟩ := hrel
    have HJ := Lib.hid hj
    have hjk : j ≤ kk + 1 := by omega
    clear hj
    by_cases hlt : j < kk + 1
    · obtain ⟨g', rfl⟩ : ∃ g', gk = g' + 1 := ⟨gk - 1, by have := HJ.out; omega⟩
      have hji : (j : Int) < (kk : Int) + 1 := by omega
      obtain ⟨⟨p0, p1, p2⟩, hd2⟩ := HC.out
      have y0 := (HE.out.2.cell (p := ⟨d2, 0, none⟩) hd2).trans p0
      have y1 := (HE.out.2.cell (p := ⟨d2, 1, none⟩) hd2).trans p1
      have y2 := (HE.out.2.cell (p := ⟨d2, 2, none⟩) hd2).trans p2
      have HD1 := Lib.hid (datR_one (f := scell) (z := 3) wr q2 47 #[.int .u32 (q2.l : Int), .int .u32 (q2.m : Int), .int .u32 (q2.o : Int)] rfl)
      have HA := Lib.hid (HE.out.1.alloc (.cells #[.int .u32 (q2.l : Int), .int .u32 (q2.m : Int), .int .u32 (q2.o : Int)] 47))
      have HBa := Lib.hid (HE.out.2.alloc HE.out.2.size (.cells #[.int .u32 (q2.l : Int), .int .u32 (q2.m : Int), .int .u32 (q2.o : Int)] 47))
      clear p0 p1 p2
      go_wp2_with (at_builtin; refine list_appR scell_len (by decide) scell_one _ rfl _ _ 24 rfl i0 (.agg #[.int .u32 0, .int .u32 0, .int .u32 0]) 12 Tryz.underlying24 HI.out.1 HI.out.2.1 HI.out.2.2.1 HI.out.2.2.2 rfl (by decide) rfl HA.out rfl HD1.out rfl ?_ ?_ ?_)
      · simp; omega
      · exact HBa.out.size
      intro v5 w5 ho5 hg5 _
      obtain ⟨A5, n5, c5, rfl⟩ := ho5.slice
      have HF : Hid (OwR 3 scell w5 47 w2.heap.size (.slice A5 n5 c5) (List.replicate (j + 1) q2) ∧ Below w2.heap.size w2 w5) := by
        rw [List.replicate_succ']
        exact ⟨ho5, HBa.out.grown hg5 HBa.out.size (fun k hk => (HE.out.1.block k hk).1)⟩
      clear ho5 hg5 HD1 HA HBa y0 y1 y2
      go_wp2_with fail
      go_roundg g'
      case rel => exact ⟨j + 1, A5, n5, c5, by have := HJ.out; omega, by go_num, rfl, HF⟩
      case measure => omega
    · obtain rfl : j = kk + 1 := by omega
      have hji : decide (((kk + 1 : Nat) : Int) < (kk : Int) + 1) = false := by simp
      obtain ⟨hol, hbw⟩ := HE.out
      obtain ⟨A', c', hv, hcc, hdl⟩ := hol.form scell_len
      rw [List.length_replicate] at hv hcc
      injection hv with hv1 hv2 hv3
      subst hv1 hv2 hv3
      have hsw := hbw.size
      have HB5 := Lib.hid (HB3.out.trans (hbw.mono HB3.out.size))
      have HDl := Lib.hid (hdl.mono (Nat.zero_le _) (Nat.le_refl _))
      have hall : ∀ p ∈ List.replicate (kk + 1) q2, okQ p = true := by rw [HQ2.out]; exact rep_ok q (kk + 1)
      have hsm : ∀ p ∈ List.replicate (kk + 1) q2, p.Small := by rw [HQ2.out]; exact rep_small q HQ.out (kk + 1)
      obtain ⟨qs, hqs⟩ : ∃ qs, qs = List.replicate (kk + 1) q2 := ⟨_, rfl⟩
      have hql : qs.length = kk + 1 := by rw [hqs, List.length_replicate]
      have hsame : ∀ p ∈ qs, ∀ p' ∈ qs, p = p' := fun p hp p' hp' => by
        rw [hqs] at hp hp'
        rw [List.eq_of_mem_replicate hp, List.eq_of_mem_replicate hp']
      rw [← hqs] at hall hsm HDl
      have HW := Lib.hid (write13_any (c := c) (HG.out.below HB5.out hBw) HDl.out (Nat.le_refl _) hql (by omega) hsm)
      have HP := Lib.hid (And.intro hall (And.intro hql hsame))
      clear hol hbw hdl hcc hqs hall hsm hql hsame HE HB3 HB2 HC
      obtain ⟨N, hN⟩ : ∃ N, N = kk + 1 := ⟨_, rfl⟩
      have hN1 : ((kk + 1 : Nat) : Int) = (N : Int) := by rw [hN]
      have hNi : (kk : Int) + 1 = (N : Int) := by omega
      have hNb : N ≤ 100 := by omega
      have hN0 : 0 < N := by omega
      rw [← hN] at HW HP hji ⊢
      rw [hNi] at hji ⊢
      clear hN1 hNi hN
      go_wp2_with fail
      refine HW.out.mono ?_
      rintro e w6 ⟨hB6, ⟨_, v6, bs, rfl, ho6, hl6, ⟨hne, _⟩ | ⟨_, _, T, hrd, hT, hone⟩⟩ | ⟨hno, _⟩⟩
      · exact absurd hne (fun e => by have := HP.out.2.1; rw [e] at this; simp at this; omega)
      · obtain ⟨A6, c6, rfl, hc6, hd6⟩ := ho6.form
        have HB6 := Lib.hid (HB5.out.trans (hB6.mono HB5.out.size))
        have HD6 := Lib.hid (HDl.out.below hB6 (Nat.le_refl _))
        have HR := Lib.hid (read_none (c := c6) (HG.out.below HB6.out hBw) hd6 (Nat.le_refl _) rfl (by omega))
        rw [hrd] at HR
        have hs6 := hB6.size
        have HOn := Lib.hid (hone HP.out.2.2)
        obtain ⟨n6, hn6⟩ : ∃ n6, n6 = bs.length := ⟨_, rfl⟩
        rw [← hn6] at HR ⊢
        clear ho6 hc6 hd6 hB6 hrd hone hl6 hn6 HW HDl HB5
        go_wp2_with fail
        refine HR.out.mono ?_
        rintro e w7 ⟨hB7, v7, x, rfl, ho7, hti⟩
        obtain ⟨hti, _⟩ := hti T rfl
        have e0 : x.n 0 = 1 := by rw [hti.n 0 (by omega)]; exact HOn.out 0 (by omega)
        have e1 : x.n 1 = 1 := by rw [hti.n 1 (by omega)]; exact HOn.out 1 (by omega)
        have e2 : x.n 2 = 1 := by rw [hti.n 2 (by omega)]; exact HOn.out 2 (by omega)
        obtain ⟨A7, c7, rfl, hc7, hd7⟩ := ho7.form scell_len
        rw [HP.out.2.1] at hc7 ⊢
        obtain ⟨W8, hW8⟩ : ∃ W8, W8 = w7.alloc (.cells x.cells 29) := ⟨_, rfl⟩
        have hb8 : Below w7.heap.size w7 W8 := by rw [hW8]; exact (Below.refl _ _).alloc (Nat.le_refl _) _
        have hx8 : Box W8 w7.heap.size 29 x.cells := by rw [hW8]; exact Box.new w7 _ _
        have hs7 := hB7.size
        have hs8 := hb8.size
        have hz8 : w7.heap.size < W8.heap.size := by rw [hW8, World.size_alloc]; omega
        have HSm := Lib.hid (same_yes13 (n := N) (c1 := c7) (c2 := c) (hd7.below hb8 (Nat.le_refl _)) ((HD6.out.below hB7 (by omega)).below hb8 (by omega)) HP.out.2.1 (by omega) (by omega) (by omega))
        have HB8 := Lib.hid ((HB6.out.trans (hB7.mono HB6.out.size)).trans (hb8.mono (by have := HB6.out.size; omega)))
        have HX8 := Lib.hid hx8
        have hcl8 : x.cells = #[.int .i64 (x.l 0 : Int), .slice (x.A 0) 1 (x.c 0), .int .i64 (x.l 1 : Int), .slice (x.A 1) 1 (x.c 1), .int .i64 (x.l 2 : Int), .slice (x.A 2) 1 (x.c 2)] := by unfold Ts.cells; rw [e0, e1, e2]
        rw [hcl8] at HX8 hW8
        unfold Ts.val
        clear hd7 hc7 ho7 hB7 hb8 hx8 hti HR HD6 HB6 hcl8
        go_upto_region 13 with (fail)
        rw [← hW8]
        clear hW8 e0 e1 e2
        obtain ⟨⟨t0, t1, t2, t3, t4, t5⟩, _⟩ := box6 HX8.out
        go_wp2_with (go_at_call 10; refine HSm.out.mono ?_; rintro e' w' ⟨rfl, hBs⟩; have HBs := Lib.hid (HB8.out.trans (hBs.mono HB8.out.size)); obtain ⟨⟨t0, t1, t2, t3, t4, t5⟩, _⟩ := box6 (HX8.out.below hBs hz8); clear hBs)
        go_ret
        exact ⟨rfl, HBs.out⟩
      · exact absurd HP.out.1 hno

set_option maxRecDepth 100000 in
theorem lifted (os : Os) (started : os.Started) (H : Type) (enc : TypeId × Value → H) :
    ReturnsInHanded {} Tryz.checked os 5 .any (fun w args => (Rows.sequencesSameSpec.pre enc Tryz.prog Tryz.f5 [] false w args ∧ laidMetH Tryz.prog laidL w) ∧ sizedMet enc Tryz.prog Tryz.f5 (OpenSpec.ofChange Rows.sequencesSameSpec) false w args)
      (Rows.sequencesSameSpec.post enc Tryz.prog Tryz.f5 false true false false) := by
  refine returnsInHanded_of_change_and (C := Tryz.checked) (X := fun w _ => laidMetH Tryz.prog laidL w) (fun _ _ _ hh h => h.of_heap hh) own started (by kernel_rfl) Tryz.func5
    (ChangeSpec.witness_shaped (enc := enc) (C := Tryz.checked) (os := os) (X := fun w _ => laidMetH Tryz.prog laidL w) false (World.doorLaid Tryz.prog 400 os) #[.agg #[.int .u32 0, .int .u32 0, .int .u32 0], .int .u8 0] 8 rfl (World.shaped_of_RefB (by kernel_rfl) (by kernel_rfl)) (by kernel_rfl) (by kernel_rfl) (by kernel_rfl) (door_met os _)) ?_
  intro W base args ds gs before hval0 hW _ _ hL _
  have hval : ∀ (j : Nat) t v, Tryz.f5.params[j]? = some t → args[j]? = some v → Value.okWide Tryz.prog W .any base t v := hval0
  have hW' := hW
  obtain ⟨p, q, hA0, hV, rfl, hfz, hnd⟩ := hW
  have hA : DataW.TrodAll enc Tryz.prog W 0 (fun _ => true) true Tryz.f5.params.toList args.toList ds p := hA0
  rw [Tryz.params5] at hA hval
  obtain ⟨v0, vs0, d0, ds0, p0, q0, hargs, rfl, rfl, h0, r0⟩ := trodAll_cons hA
  obtain ⟨v1, vs1, d1, ds1, p1, q1, rfl, rfl, rfl, h1, r1⟩ := trodAll_cons r0
  obtain ⟨rfl, rfl, rfl⟩ := trodAll_nil r1
  obtain rfl : args = #[v0, v1] := by cases args; simp_all
  obtain ⟨rfl, rfl⟩ := trodVars_none hV
  have k0 := h0
  have lt0 : ∀ x ∈ p0, x.block < W.heap.size := by obtain ⟨m, hm⟩ := k0; exact DataW.trod_lt m _ _ _ hm
  obtain ⟨q0x, rfl, hq0x⟩ := seq_of (hval 0 47 v0 rfl rfl) h0
  obtain ⟨n1, rfl, rfl, rfl, w1⟩ := open_int Tryz.underlying5 (hval 1 5 v1 rfl rfl) h1
  clear hA0 hval0
  refine (walk q0x n1 W (glob_of_laid hL) hq0x (u8_bounds w1)).mono fun e W' ⟨he, bel⟩ => ?_
  subst he
  exact ⟨_, rfl, _, _, _, [], _, [], hW', trodAll_mk1 (shut_bool Tryz.underlying4 _), (trodAll_cons_mk (Below.trod laidOut (by kernel_rfl) (of_decide_eq_true (by kernel_rfl)) k0 bel lt0) (trodAll_cons_mk (shut_int Tryz.underlying5 w1) trodAll_mk0)), rfl, bel.frame _, fun h => by cases h⟩

theorem over : Rows.sequencesSameRow.holds Tryz.pinned (OpenSpec.ofChange Rows.sequencesSameSpec) :=
  OpenClaim.holds_of_wide 5 Tryz.f5 rfl rfl rfl rfl rfl rfl rfl ⟨rfl, rfl, rfl, rfl, rfl⟩ rfl rfl rfl rfl rfl (by kernel_rfl) Tryz.func5 (by kernel_rfl)
    (of_decide_eq_true (by kernel_rfl)) (by unfold Func.isWrapper; first | (rw [if_pos (by decide +kernel)]; kernel_rfl) | (rw [if_neg (by decide +kernel)]; exact ⟨rfl, rfl⟩))
    (fun os started H enc _ => lifted os started H enc)

/-- ████ THE STATEMENT ████ -/
theorem proved : Rows.SequencesSameCardSaid :=
  Claim7.holds_tied_plain_at .later [] [.data, .data, .data, .data, .data, .data, .data, .data] true Rows.sequencesSameCard.stood.harness false
    over (fun _ h => by cases h) (by kernel_rfl) (fun _ h => by cases h) sequencesSame_row_tie rfl ⟨rfl, rfl⟩ (by kernel_rfl) rfl
    (fun f fn hf hfn => by
      obtain rfl : f = 5 := Option.some.inj ((show Tryz.prog.funcNamed Rows.sequencesSameRow.func = some 5 by kernel_rfl).symm.trans hf) |>.symm
      obtain rfl : fn = Tryz.f5 := (Option.some.inj (Tryz.func5.symm.trans hfn)).symm
      exact ⟨by kernel_rfl, fun j t ht => by
        rw [Tryz.params5] at ht
        have hm : t ∈ [47, 5] := by
          have := Array.mem_of_getElem? ht
          simp at this
          simpa using this
        have hall : ([47, 5].all fun u => !Tryz.prog.wantsStandIn u) = true := by kernel_rfl
        exact (show Tryz.prog.wantsStandIn t = false by simpa using List.all_eq_true.1 hall t hm)⟩)
    (by kernel_rfl)
#print axioms proved
end Go.Proofs.YtlidnialggpcpaaGreatDoor.sequencesSame
