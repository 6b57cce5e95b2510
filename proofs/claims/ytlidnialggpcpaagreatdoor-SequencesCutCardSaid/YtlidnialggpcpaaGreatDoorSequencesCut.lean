
/- SequencesCut holds, tied to the program's text: for every sequences and every two numbers the law returns true. No condition of ours; the row's own: the package's variables read as the text lays them. -/
import Derived.Test.YtlidnialggpcpaaGreatDoorSeqLawU
import Derived.Test.YtlidnialggpcpaaGreatDoorSeqSeqs
namespace Go.Proofs.YtlidnialggpcpaaGreatDoor.sequencesCut
open Go.ChangeShapes Go.WideShapes Go.ChangeAt Go.RowKit

theorem sqm_small (qs : List Sq) : ∀ p ∈ qs.map sqm, p.Small := fun p hp => by
  obtain ⟨q, _, rfl⟩ := List.mem_map.1 hp
  exact small_of (by show q.l % 131072 < _; omega) (by show 3 + q.m % 131072 < _; omega) (by show 1 + q.o % 2147483648 < _; omega)
set_option maxRecDepth 100000 in
set_option maxHeartbeats 8000000 in
theorem walk (a : Option Addr) (rs : List Sq) (cp : Nat) (ai : Int) (yi : Int) (w : World) (hgl : GS w.heap.size w) (hd : DatR 3 scell w 0 w.heap.size a rs ∧ ∀ q ∈ rs, q.Small) (_hm : rs.length ≤ maxLen) (ha : 0 ≤ ai ∧ ai ≤ 65535) (hy : 0 ≤ yi ∧ yi ≤ 255) :
    Calls Tryz.prog 6 #[.slice a rs.length cp, .int .u16 ai, .int .u8 yi] w fun e w' => e = .returned (.bool true) ∧ Below w.heap.size w w' := by
  obtain ⟨at_, rfl⟩ := Int.eq_ofNat_of_zero_le ha.1
  obtain ⟨y, rfl⟩ := Int.eq_ofNat_of_zero_le hy.1
  have hBw := hgl.size
  have HG := Lib.hid hgl
  have HD := Lib.hid hd
  obtain ⟨m, hmm⟩ : ∃ m, m = rs.length := ⟨_, rfl⟩
  rw [← hmm]
  have HM := Lib.hid hmm
  have hy8 : y < 256 := by omega
  have ha16 : at_ < 65536 := by omega
  have hmb : m ≤ maxLen := by omega
  unfold maxLen at hmb
  clear hgl hd hmm ha hy _hm
  by_cases hlong : 100 < m
  · have h50 : (100 : Int) < (m : Int) := by omega
    go_enter Tryz.func6, Tryz.ntmps6
    go_wp2_with (go_at_call 7; refine (seq_awake _ HG.out).mono ?_; rintro e' w1 ⟨rfl, hB1⟩; have HB1 := Lib.hid hB1; clear hB1)
    go_ret
    exact ⟨rfl, HB1.out⟩
  by_cases hnone : m = 0
  · subst hnone
    go_enter Tryz.func6, Tryz.ntmps6
    go_wp2_with (go_at_call 7; refine (seq_awake _ HG.out).mono ?_; rintro e' w1 ⟨rfl, hB1⟩; have HB1 := Lib.hid hB1; clear hB1)
    go_ret
    exact ⟨rfl, HB1.out⟩
  have h50 : decide ((100 : Int) < (m : Int)) = false := by simp; omega
  have h00 : ((m : Int) == 0) = false := by simp; omega
  have hm100 : m ≤ 100 := by omega
  have hm0 : 0 < m := by omega
  clear hlong hnone hmb
  go_enter Tryz.func6, Tryz.ntmps6
  go_wp2_with fail
  refine (seq_awake _ HG.out).mono ?_
  rintro e w1 ⟨rfl, hB1⟩
  have HB1 := Lib.hid hB1
  have HSq := Lib.hid (seqsOf_any (c := cp) (HD.out.1.below hB1 (Nat.le_refl _)) hB1.size HM.out.symm (by omega) HD.out.2)
  clear hB1
  go_wp2_with fail
  refine HSq.out.mono ?_
  rintro e w2 ⟨v2, rfl, ho2, hB2⟩
  obtain ⟨A2, c2, rfl, hc2, hd2⟩ := ho2.form scell_len
  have hl2 : (rs.map sqm).length = m := by rw [List.length_map]; exact HM.out.symm
  rw [hl2] at hc2 ⊢
  have HB2 := Lib.hid (HB1.out.trans (hB2.mono HB1.out.size))
  have HB2s := Lib.hid HB2.out.size
  have HW := Lib.hid (write13_any (c := c2) (HG.out.below HB2.out hBw) (hd2.mono (Nat.zero_le _) (Nat.le_refl _)) (Nat.le_refl _) hl2 (by omega) (sqm_small rs))
  have HL2 := Lib.hid hl2
  clear ho2 hc2 hd2 hl2 hB2 HSq HB1
  go_wp2_with fail
  refine HW.out.mono ?_
  rintro e w3 ⟨hB3, ⟨_, v3, bs, rfl, ho3, hl3, ⟨hne, _⟩ | ⟨_, _, T, hrd, hT, _⟩⟩ | ⟨hno, _⟩⟩
  · exact absurd hne (fun e => by have := HL2.out; rw [e] at this; simp at this; omega)
  · have hb0 : 0 < bs.length := by
      rcases bs with _ | ⟨z, r⟩
      · cases hrd
      · simp
    obtain ⟨d3, c3, rfl, hd3l, hd3⟩ := (show OwE cel w3 5 w2.heap.size v3 bs from ho3).place hb0
    obtain ⟨A', c', hv', hc3, hdat⟩ := ho3.form
    injection hv' with q1 q2 q3
    subst q1 q3
    have HB3 := Lib.hid (HB2.out.trans (hB3.mono HB2.out.size))
    obtain ⟨N, hN⟩ : ∃ N, N = bs.length := ⟨_, rfl⟩
    rw [← hN] at ho3 hc3 hl3 hb0 ⊢
    have HN := Lib.hid hN
    have HO3 := Lib.hid ho3
    obtain ⟨k, hk⟩ : ∃ k, k = at_ % N := ⟨_, rfl⟩
    have hkN : k < N := by rw [hk]; exact Nat.mod_lt _ hb0
    have hkm : (at_ : Int) % (N : Int) = (k : Int) := by rw [hk]; rfl
    have hkt : (at_ : Int).tmod (N : Int) = (k : Int) := by rw [Int.tmod_eq_emod_of_nonneg (by omega), hkm]
    have hN0 : (N : Int) ≠ 0 := by omega
    have hNb : ((N : Int) == 0) = false := by simp; omega
    have hkc : (k : Int) ≤ (c3 : Int) := by omega
    have hk0 : (0 : Int) ≤ (k : Int) := by omega
    have hta : (bs.take k).length = k := by rw [List.length_take, ← HN.out]; omega
    have HTa := Lib.hid hta
    obtain ⟨W4, hW4⟩ : ∃ W4, W4 = w3.alloc (.cells #[.int .i64 0, .slice none 0 0, .int .i64 0, .slice none 0 0, .int .i64 0, .slice none 0 0] 36) := ⟨_, rfl⟩
    have hb4 : Below w3.heap.size w3 W4 := by rw [hW4]; exact (Below.refl _ _).alloc (Nat.le_refl _) _
    have hx4 : Box W4 w3.heap.size 36 #[.int .i64 0, .slice none 0 0, .int .i64 0, .slice none 0 0, .int .i64 0, .slice none 0 0] := by rw [hW4]; exact Box.new w3 _ _
    have hs4 : W4.heap.size = w3.heap.size + 1 := by rw [hW4]; simp
    have hd4 := hdat.below hb4 (Nat.le_refl _)
    have HB4 := Lib.hid (HB3.out.trans (hb4.mono HB3.out.size))
    have HD4 := Lib.hid hd4
    have HX4 := Lib.hid hx4
    have HS4 := Lib.hid hs4
    have HB34 := Lib.hid hb4
    have HR := Lib.hid (readU_none (c := c3) (m := k) (HG.out.below HB4.out hBw) (hd4.take k) (by omega) hta (by omega))
    have HQl := Lib.hid (resQ_len (bs.take k))
    clear hk hN hb4 hx4 hs4 hd4 hdat hta HW hT hrd ho3 hB3 HB2
    go_wp2_with fail
    rw [← hW4]
    clear hW4
    refine HR.out.mono ?_
    rintro e w5 ⟨A5, n5, c5, x5, rfl, hd5, hn5, hB5⟩
    have HN5 := Lib.hid hn5
    have HB5 := Lib.hid hB5
    have hs5 := hB5.size
    have hs4' : w3.heap.size < W4.heap.size := by have := HS4.out; omega
    have hn5b : n5 ≤ 98047 := by have := HQl.out; omega
    obtain ⟨W6, hW6⟩ : ∃ W6, W6 = w5.alloc (.cells x5.cells 29) := ⟨_, rfl⟩
    have hb6 : Below w5.heap.size w5 W6 := by rw [hW6]; exact (Below.refl _ _).alloc (Nat.le_refl _) _
    have hb46 : Below W4.heap.size W4 W6 := hB5.trans (hb6.mono hs5)
    have hs6 := hb6.size
    obtain ⟨⟨t0, t1, t2, t3, t4, t5⟩, _⟩ := box6 (HX4.out.below hb46 hs4')
    have hstr := run_str (m := k) (c := c3) W6 22 Tryz.underlying22 Tryz.underlying5 ((HD4.out.take k).below hb46 (by omega)) HTa.out 9 Tryz.underlying9
    have HF6 := Lib.hid (And.intro hb46 (hd5.below hb6 (Nat.le_refl _)))
    clear hd5 hn5 hB5 hb6 hb46 HR
    go_upto_region 13 with (fail)
    change Code.wp _ _ _ _ (w5.alloc (.cells x5.cells 29))
    rw [← hW6]
    clear hW6
    go_wp2_with fail
    refine (rreadU_none (by have := HTa.out; omega)).mono ?_
    rintro e w7 ⟨A7, n7, c7, x7, rfl, hd7, hn7, hB7⟩
    obtain rfl : n7 = n5 := by have := HN5.out; omega
    obtain ⟨W8, hW8⟩ : ∃ W8, W8 = w7.alloc (.cells x7.cells 36) := ⟨_, rfl⟩
    have hb8 : Below w7.heap.size w7 W8 := by rw [hW8]; exact (Below.refl _ _).alloc (Nat.le_refl _) _
    have hs7 := hB7.size
    have hs8 := hb8.size
    obtain ⟨hb46, hd56⟩ := HF6.out
    have hb48 : Below W4.heap.size W4 W8 := (hb46.trans (hB7.mono (by omega))).trans (hb8.mono (by omega))
    have HB8 := Lib.hid (HB4.out.trans (hb48.mono HB4.out.size))
    have HX8 := Lib.hid (HX4.out.below hb48 hs4')
    have hb34 : Below w3.heap.size w3 W4 := HB34.out
    have HO8 := Lib.hid (OwB.below HO3.out (hb34.trans (hb48.mono (by omega))) (Nat.le_refl _))
    have HM8 := Lib.hid ((hd56.below hB7 (by omega)).below hb8 (by omega))
    have HN8 := Lib.hid (hd7.below hb8 (Nat.le_refl _))
    have HN7 := Lib.hid hn7
    clear hd7 hn7 hB7 hb8 hb46 hd56 hb48 hb34 HF6 HD4 HX4 hstr t0 t1 t2 t3 t4 t5
    obtain ⟨E1, hE1⟩ : ∃ E, E = resE (readS (bs.take k)) := ⟨_, rfl⟩
    rw [← hE1]
    clear hE1
    go_upto_region 14 with (fail)
    change Code.wp _ _ _ _ (w7.alloc (.cells x7.cells 36))
    rw [← hW8]
    clear hW8
    obtain ⟨i0, hi0, hz0, hz1, hz2⟩ := info_parts u8_info
    have HI := Lib.hid (And.intro hi0 (And.intro hz0 (And.intro hz1 hz2)))
    obtain ⟨z, hz⟩ : ∃ z : UInt8, z = UInt8.ofNat y := ⟨_, rfl⟩
    have hzy : z.toNat = y := by rw [hz, UInt8.toNat_ofNat']; omega
    have hcz : cel z = .int .u8 (y : Int) := by unfold cel; rw [hzy]
    have hd9 := dat_one W8 z 5
    rw [hcz] at hd9
    have HD9 := Lib.hid hd9
    have HA9 := Lib.hid (HO8.out.alloc (.cells #[.int .u8 (y : Int)] 5))
    have HB9 := Lib.hid (HB8.out.alloc HB8.out.size (.cells #[.int .u8 (y : Int)] 5))
    have hsz9 : (W8.alloc (.cells #[.int .u8 (y : Int)] 5)).heap.size = W8.heap.size + 1 := by simp
    have HSz9 := Lib.hid hsz9
    clear hz hzy hcz hd9 hi0 hz0 hz1 hz2 hsz9
    go_wp2_with (at_builtin; refine list_app _ rfl _ _ 22 rfl i0 Tryz.underlying22 HI.out.1 HI.out.2.1 HI.out.2.2.1 HI.out.2.2.2 rfl HA9.out rfl HD9.out rfl ?_ ?_ ?_)
    · have := HN.out; simp; omega
    · have := HB9.out.size; have := HB3.out.size; have := HSz9.out; omega
    intro v10 w10 ho10 hg10 _
    obtain ⟨zs, hzs⟩ : ∃ zs, zs = bs ++ [z] := ⟨_, rfl⟩
    have hzl : zs.length = N + 1 := by rw [hzs, List.length_append, List.length_singleton, ← HN.out]
    rw [← hzs] at ho10
    obtain ⟨A10, c10, rfl, hc10, hd10⟩ := ho10.form
    have hrow : ∀ j, (Value.slice (some ⟨d3, 0, none⟩) N c3).ownBlock = some j → j = d3 := fun j hj => by simp [Value.ownBlock] at hj; exact hj.symm
    have hs9 := HSz9.out
    have HB10 := Lib.hid (HB9.out.grown hg10 HB9.out.size (fun j hj => by rw [hrow j hj]; have := HB2s.out; omega))
    have HM10 := Lib.hid ((HM8.out.alloc (by omega) (.cells #[.int .u8 (y : Int)] 5)).grown hg10 (by omega) (fun j hj => by rw [hrow j hj]; omega))
    have HN10 := Lib.hid ((HN8.out.alloc (by omega) (.cells #[.int .u8 (y : Int)] 5)).grown hg10 (by omega) (fun j hj => by rw [hrow j hj]; omega))
    have HX10 := Lib.hid ((HX8.out.alloc (.cells #[.int .u8 (y : Int)] 5)).grown hg10 (fun e => by have := hrow _ e.symm; omega))
    have hs10 := hg10.size
    have HD10 := Lib.hid hd10
    have HZ := Lib.hid hzl
    rw [hzl]
    have HR2 := Lib.hid (readU_none (c := c10) (m := N + 1) (HG.out.below HB10.out hBw) hd10 (Nat.le_refl _) hzl (by omega))
    have HQl2 := Lib.hid (resQ_len zs)
    clear ho10 hg10 hc10 hd10 hzs hzl HO8 HD9 HA9 HB9 HM8 HN8 HX8
    go_wp2_with fail
    refine HR2.out.mono ?_
    rintro e w11 ⟨A11, n11, c11, x11, rfl, hd11, hn11, hB11⟩
    have hs11 := hB11.size
    have hn11b : n11 ≤ 98047 := by have := HQl2.out; omega
    have HN11 := Lib.hid hn11
    obtain ⟨W12, hW12⟩ : ∃ W12, W12 = w11.alloc (.cells x11.cells 29) := ⟨_, rfl⟩
    have hb12 : Below w11.heap.size w11 W12 := by rw [hW12]; exact (Below.refl _ _).alloc (Nat.le_refl _) _
    have hs12 := hb12.size
    have hb1012 : Below w10.heap.size w10 W12 := hB11.trans (hb12.mono hs11)
    obtain ⟨⟨t0, t1, t2, t3, t4, t5⟩, _⟩ := box6 (HX10.out.below hb1012 (by omega))
    have hstr := run_str (m := N + 1) (c := c10) W12 22 Tryz.underlying22 Tryz.underlying5 (HD10.out.below hb1012 (Nat.le_refl _)) HZ.out 9 Tryz.underlying9
    have HF12 := Lib.hid (And.intro hb1012 (hd11.below hb12 (Nat.le_refl _)))
    obtain ⟨E2, hE2⟩ : ∃ E, E = resE (readS zs) := ⟨_, rfl⟩
    rw [← hE2]
    have HE2 := Lib.hid hE2
    clear hd11 hn11 hB11 hb12 hb1012 HR2 hE2
    go_upto_region 16 with (fail)
    change Code.wp _ _ _ _ (w11.alloc (.cells x11.cells 29))
    rw [← hW12]
    clear hW12
    go_wp2_with fail
    refine (rreadU_none (by have := HZ.out; omega)).mono ?_
    rintro e w13 ⟨A13, n13, c13, x13, rfl, hd13, hn13, hB13⟩
    obtain rfl : n13 = n11 := by have := HN11.out; omega
    obtain ⟨W14, hW14⟩ : ∃ W14, W14 = w13.alloc (.cells x13.cells 36) := ⟨_, rfl⟩
    have hb14 : Below w13.heap.size w13 W14 := by rw [hW14]; exact (Below.refl _ _).alloc (Nat.le_refl _) _
    have hs13 := hB13.size
    have hs14 := hb14.size
    obtain ⟨hb1012, hd12⟩ := HF12.out
    have hb1214 : Below W12.heap.size W12 W14 := hB13.trans (hb14.mono hs13)
    have hb1014 : Below w10.heap.size w10 W14 := hb1012.trans (hb1214.mono (by omega))
    have HSm := Lib.hid (same_yes13 (c1 := c5) (c2 := c7) (HM10.out.below hb1014 (by omega)) (HN10.out.below hb1014 (by omega)) HN7.out (by omega) (by omega) (by omega))
    have HSp : Hid (∀ W', Below W14.heap.size W14 W' → Calls Tryz.prog 10 #[.slice A11 n13 c11, .slice A13 n13 c13] W' fun e w' => e = .returned (.bool true) ∧ Below W'.heap.size W' w') := fun W' hB' => by
      have := hB'.size
      exact same_yes13 (((hd12.below hb1214 (by omega))).below hB' (by omega)) ((hd13.below hb14 (Nat.le_refl _)).below hB' (by omega)) hn13 (by omega) (by omega) (by omega)
    have HB14 := Lib.hid (HB10.out.trans (hb1014.mono HB10.out.size))
    rw [← HE2.out]
    clear hd13 hn13 hB13 hb14 hb1012 hd12 hb1214 hb1014 HF12 HM10 HN10 HX10 HD10 hstr t0 t1 t2 t3 t4 t5
    go_upto_region 17 with (fail)
    change Code.wp _ _ _ _ (w13.alloc (.cells x13.cells 36))
    rw [← hW14]
    clear hW14
    go_wp2_with (first
      | (go_at_call 10; (with_reducible refine HSm.out.mono ?_); rintro e' w15 ⟨rfl, hBs⟩; have HBs := Lib.hid hBs; clear hBs)
      | (go_at_call 10; (with_reducible refine (HSp.out _ HBs.out).mono ?_); rintro e' w16 ⟨rfl, hBt⟩; have HBt := Lib.hid ((HB14.out.trans (HBs.out.mono HB14.out.size)).trans (hBt.mono (by have := HBs.out.size; have := HB14.out.size; omega))); clear hBt))
    go_ret
    exact ⟨rfl, HBt.out⟩
  · exact absurd (sqm_all rs) hno

set_option maxRecDepth 100000 in
theorem lifted (os : Os) (started : os.Started) (H : Type) (enc : TypeId × Value → H) :
    ReturnsInHanded {} Tryz.checked os 6 .any (fun w args => (Rows.sequencesCutSpec.pre enc Tryz.prog Tryz.f6 [] false w args ∧ laidMetH Tryz.prog laidL w) ∧ sizedMet enc Tryz.prog Tryz.f6 (OpenSpec.ofChange Rows.sequencesCutSpec) false w args)
      (Rows.sequencesCutSpec.post enc Tryz.prog Tryz.f6 false true false false) := by
  refine returnsInHanded_of_change_and (C := Tryz.checked) (X := fun w _ => laidMetH Tryz.prog laidL w) (fun _ _ _ hh h => h.of_heap hh) own started (by kernel_rfl) Tryz.func6
    (ChangeSpec.witness_shaped (enc := enc) (C := Tryz.checked) (os := os) (X := fun w _ => laidMetH Tryz.prog laidL w) false (World.doorLaid Tryz.prog 400 os) #[.slice none 0 0, .int .u16 0, .int .u8 0] 8 rfl (World.shaped_of_RefB (by kernel_rfl) (by kernel_rfl)) (by kernel_rfl) (by kernel_rfl) (by kernel_rfl) (door_met os _)) ?_
  intro W base args ds gs before hval0 hW _ _ hL _
  have hval : ∀ (j : Nat) t v, Tryz.f6.params[j]? = some t → args[j]? = some v → Value.okWide Tryz.prog W .any base t v := hval0
  have hW' := hW
  obtain ⟨p, q, hA0, hV, rfl, hfz, hnd⟩ := hW
  have hA : DataW.TrodAll enc Tryz.prog W 0 (fun _ => true) true Tryz.f6.params.toList args.toList ds p := hA0
  rw [Tryz.params6] at hA hval
  obtain ⟨v0, vs0, d0, ds0, p0, q0, hargs, rfl, rfl, h0, r0⟩ := trodAll_cons hA
  obtain ⟨v1, vs1, d1, ds1, p1, q1, rfl, rfl, rfl, h1, r1⟩ := trodAll_cons r0
  obtain ⟨v2, vs2, d2, ds2, p2, q2, rfl, rfl, rfl, h2, r2⟩ := trodAll_cons r1
  obtain ⟨rfl, rfl, rfl⟩ := trodAll_nil r2
  obtain rfl : args = #[v0, v1, v2] := by cases args; simp_all
  obtain ⟨rfl, rfl⟩ := trodVars_none hV
  obtain ⟨a0, len0, cap0, rfl⟩ := okWide_slice Tryz.underlying24 (hval 0 24 v0 rfl rfl)
  have k0 := h0
  have lt0 : ∀ x ∈ p0, x.block < W.heap.size := by obtain ⟨m, hm⟩ := k0; exact DataW.trod_lt m _ _ _ hm
  obtain ⟨rs0, rfl, hl0, hm0, hd0⟩ := seqs_of h0
  obtain ⟨n1, rfl, rfl, rfl, w1⟩ := open_int Tryz.underlying54 (hval 1 54 v1 rfl rfl) h1
  obtain ⟨n2, rfl, rfl, rfl, w2⟩ := open_int Tryz.underlying5 (hval 2 5 v2 rfl rfl) h2
  clear hA0 hval0
  refine (walk a0 rs0 cap0 n1 n2 W (glob_of_laid hL) hd0 (by omega) (u16_bounds w1) (u8_bounds w2)).mono fun e W' ⟨he, bel⟩ => ?_
  subst he
  exact ⟨_, rfl, _, _, _, [], _, [], hW', trodAll_mk1 (shut_bool Tryz.underlying4 _), (trodAll_cons_mk (Below.trod laidOut (by kernel_rfl) (of_decide_eq_true (by kernel_rfl)) k0 bel lt0) (trodAll_cons_mk (shut_int Tryz.underlying54 w1) (trodAll_cons_mk (shut_int Tryz.underlying5 w2) trodAll_mk0))), rfl, bel.frame _, fun h => by cases h⟩

theorem over : Rows.sequencesCutRow.holds Tryz.pinned (OpenSpec.ofChange Rows.sequencesCutSpec) :=
  OpenClaim.holds_of_wide 6 Tryz.f6 rfl rfl rfl rfl rfl rfl rfl ⟨rfl, rfl, rfl, rfl, rfl⟩ rfl rfl rfl rfl rfl (by kernel_rfl) Tryz.func6 (by kernel_rfl)
    (of_decide_eq_true (by kernel_rfl)) (by unfold Func.isWrapper; first | (rw [if_pos (by decide +kernel)]; kernel_rfl) | (rw [if_neg (by decide +kernel)]; exact ⟨rfl, rfl⟩))
    (fun os started H enc _ => lifted os started H enc)

/-- ████ THE STATEMENT ████ -/
theorem proved : Rows.SequencesCutCardSaid :=
  Claim7.holds_tied_plain_at .later [] [.data, .data, .data, .data, .data, .data, .data, .data] true Rows.sequencesCutCard.stood.harness false
    over (fun _ h => by cases h) (by kernel_rfl) (fun _ h => by cases h) sequencesCut_row_tie rfl ⟨rfl, rfl⟩ (by kernel_rfl) rfl
    (fun f fn hf hfn => by
      obtain rfl : f = 6 := Option.some.inj ((show Tryz.prog.funcNamed Rows.sequencesCutRow.func = some 6 by kernel_rfl).symm.trans hf) |>.symm
      obtain rfl : fn = Tryz.f6 := (Option.some.inj (Tryz.func6.symm.trans hfn)).symm
      exact ⟨by kernel_rfl, fun j t ht => by
        rw [Tryz.params6] at ht
        have hm : t ∈ [24, 54, 5] := by
          have := Array.mem_of_getElem? ht
          simp at this
          simpa using this
        have hall : ([24, 54, 5].all fun u => !Tryz.prog.wantsStandIn u) = true := by kernel_rfl
        exact (show Tryz.prog.wantsStandIn t = false by simpa using List.all_eq_true.1 hall t hm)⟩)
    (by kernel_rfl)
#print axioms proved
end Go.Proofs.YtlidnialggpcpaaGreatDoor.sequencesCut
