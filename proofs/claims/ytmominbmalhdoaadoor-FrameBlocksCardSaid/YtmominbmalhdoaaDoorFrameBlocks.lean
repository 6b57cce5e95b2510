
/- FrameBlocks holds, tied to the program's text: for every bytes, bool and two numbers the law returns true. No condition of ours; the row's own: the package's variables read as the text lays them. -/
import Derived.Test.YtmominbmalhdoaaDoorFrmArgs
import Derived.Test.YtmominbmalhdoaaDoorFrmAwake
import Derived.Test.YtmominbmalhdoaaDoorFrmRefB
import Derived.Test.YtmominbmalhdoaaDoorFrmLawP
namespace Go.Proofs.YtmominbmalhdoaaDoor.frameBlocks
open Go.ChangeShapes Go.WideShapes Go.ChangeAt Go.RowKit

set_option maxRecDepth 100000 in
set_option maxHeartbeats 4000000 in
theorem walk (a : Option Addr) (xs : List UInt8) (cp : Nat) (last : Bool) (ki si : Int) (w : World) (hgl : Glob w) (hd : Dat false w 0 w.heap.size a xs) (_hm : xs.length ≤ maxLen) (hcap : xs.length ≤ cp)
    (hkb : -9223372036854775808 ≤ ki ∧ ki ≤ 9223372036854775807) (hsb : -9223372036854775808 ≤ si ∧ si ≤ 9223372036854775807) :
    Calls Tryd.prog 5 #[.slice a xs.length cp, .bool last, .int .i64 ki, .int .i64 si] w fun e w' => e = .returned (.bool true) ∧ Below w.heap.size w w' := by
  have HG := Lib.hid hgl
  have HD := Lib.hid hd
  obtain ⟨m, hmm⟩ : ∃ m, m = xs.length := ⟨_, rfl⟩
  rw [← hmm] at hcap ⊢
  have HM := Lib.hid hmm
  clear hgl hd hmm
  by_cases hlong : 50 < m
  · have h50 : (50 : Int) < (m : Int) := by omega
    go_enter Tryd.func5, Tryd.ntmps5
    go_wp2_with (go_at_call 8; refine (awake_any _ HG.out).mono ?_; rintro e' w1 ⟨rfl, hB1⟩; have HB1 := Lib.hid hB1; clear hB1)
    go_ret
    exact ⟨rfl, HB1.out⟩
  · have h50 : decide ((50 : Int) < (m : Int)) = false := by simp; omega
    have hm2 : m ≤ 50 := by omega
    go_enter Tryd.func5, Tryd.ntmps5
    go_upto_region 6 with (go_at_call 8; refine (awake_any _ HG.out).mono ?_; rintro e' w1 ⟨rfl, hB1⟩; have HB1 := Lib.hid hB1; clear hB1)
    have hs1 := HB1.out.size
    have hR := Lib.hid (readBlock_any (c := cp) (HD.out.below HB1.out (Nat.le_refl _)) HM.out.symm hcap (by rw [← HM.out]; omega) hs1)
    have hF := Lib.hid (fun W => refBlock_any xs W)
    obtain ⟨⟨⟨h1, h2, h3⟩, e⟩, hr⟩ : ∃ r, r = blk xs := ⟨_, rfl⟩
    have hRe : ansB (blk xs) = .tuple #[.agg #[.bool h1, .int .i64 (h2 : Int), .int .i64 (h3 : Int)], .int .i64 e] := by rw [← hr]; rfl
    rw [hRe] at hR hF
    have hS := str_size xs
    clear hRe hr hlong
    go_upto_region 7 with (go_at_call 13; refine hR.out.mono ?_; rintro e' w2 ⟨rfl, hB2⟩; have HB2 := Lib.hid (HB1.out.trans (hB2.mono hs1)); clear hB2)
    have HX : Hid (Box (w2.alloc (.cells #[.bool h1, .int .i64 (h2 : Int), .int .i64 (h3 : Int)] 38)) w2.heap.size 38 #[.bool h1, .int .i64 (h2 : Int), .int .i64 (h3 : Int)]) := Box.new _ _ _
    have HB3 : Hid (Below w.heap.size w (w2.alloc (.cells #[.bool h1, .int .i64 (h2 : Int), .int .i64 (h3 : Int)] 38))) := HB2.out.alloc HB2.out.size _
    generalize w2.alloc (.cells #[.bool h1, .int .i64 (h2 : Int), .int .i64 (h3 : Int)] 38) = w3 at *
    generalize w2.heap.size = q at *
    have hcv := run_str (P := Tryd.prog) w3 22 Tryd.underlying22 Tryd.underlying5 (c := cp) (m := m) (HD.out.below HB3.out (Nat.le_refl _)) HM.out.symm 9 Tryd.underlying9
    clear hR HB2 HD HM HG
    generalize str xs = S at *
    go_upto_region 8 with (go_at_call 14; refine (hF.out _).mono ?_; rintro e' w4 ⟨rfl, hB4⟩; have HX4 := Lib.hid (HX.out.below hB4 HX.out.lt); have HB4 := Lib.hid (HB3.out.trans (hB4.mono HB3.out.size)); clear hB4)
    have HY : Hid (Box (w4.alloc (.cells #[.bool h1, .int .i64 (h2 : Int), .int .i64 (h3 : Int)] 41)) w4.heap.size 41 #[.bool h1, .int .i64 (h2 : Int), .int .i64 (h3 : Int)]) := Box.new _ _ _
    have HX5 := Lib.hid (HX4.out.alloc (.cells #[.bool h1, .int .i64 (h2 : Int), .int .i64 (h3 : Int)] 41))
    have HB5 : Hid (Below w.heap.size w (w4.alloc (.cells #[.bool h1, .int .i64 (h2 : Int), .int .i64 (h3 : Int)] 41))) := HB4.out.alloc HB4.out.size _
    generalize w4.alloc (.cells #[.bool h1, .int .i64 (h2 : Int), .int .i64 (h3 : Int)] 41) = w5 at *
    generalize w4.heap.size = y at *
    have k1 : (h1 != h1) = false := by simp
    have k2 : ((h2 : Int) != (h2 : Int)) = false := by simp
    have k3 : ((h3 : Int) != (h3 : Int)) = false := by simp
    have k4 : (e != e) = false := by simp
    clear hcv hF HX4 HB3 HB4 HX
    have hs5 := HB5.out.size
    cases hok : blkOk ki si with
    | false =>
      have hW := Lib.hid (fun W => writeBlock_no last ki si W hok)
      have hbad : ki < 0 ∨ 2 < ki ∨ si < 0 ∨ 2097151 < si := by unfold blkOk at hok; simp at hok; omega
      clear hok
      go_upto_region 9 with (go_at_call 15; refine (hW.out _).mono ?_; rintro e' w6 ⟨rfl, hB6⟩; have HX6 := Lib.hid (HX5.out.below hB6 HX5.out.lt); have HY6 := Lib.hid (HY.out.below hB6 HY.out.lt); have HB6 := Lib.hid (HB5.out.trans (hB6.mono hs5)); clear hB6)
      have q0 := HX6.out.cell 0
      have q1 := HX6.out.cell 1
      have q2 := HX6.out.cell 2
      have y0 := HY6.out.cell 0
      have y1 := HY6.out.cell 1
      have y2 := HY6.out.cell 2
      simp at q0 q1 q2 y0 y1 y2
      go_upto_region 11 with fail
      by_cases c1 : ki < 0
      · clear hbad
        go_wp2_with fail
        go_ret
        exact ⟨rfl, HB6.out⟩
      · have d1 : decide (ki < 0) = false := by simp; omega
        by_cases c2 : 2 < ki
        · clear hbad
          go_wp2_with fail
          go_ret
          exact ⟨rfl, HB6.out⟩
        · have d2 : decide (2 < ki) = false := by simp; omega
          by_cases c3 : si < 0
          · clear hbad
            go_wp2_with fail
            go_ret
            exact ⟨rfl, HB6.out⟩
          · have d3 : decide (si < 0) = false := by simp; omega
            have c4 : 2097151 < si := by omega
            clear hbad
            go_wp2_with fail
            go_ret
            exact ⟨rfl, HB6.out⟩
    | true =>
      have hgd : 0 ≤ ki ∧ ki ≤ 2 ∧ 0 ≤ si ∧ si ≤ 2097151 := of_decide_eq_true hok
      obtain ⟨k, rfl⟩ := Int.eq_ofNat_of_zero_le hgd.1
      obtain ⟨s, rfl⟩ := Int.eq_ofNat_of_zero_le hgd.2.2.1
      have hk2 : k ≤ 2 := by omega
      have hs21 : s ≤ 2097151 := by omega
      clear hok hgd
      have hW := Lib.hid (fun W => writeBlock_yes last k s W hk2 hs21)
      have hbp := blk_put last k s hk2 hs21
      have hN24 : bnum last k s < 16777216 := by unfold bnum; cases last <;> simp <;> omega
      have HNv : Hid (bnum last k s = 8 * s + 2 * k + (if last then 1 else 0)) := rfl
      obtain ⟨N, hN⟩ : ∃ N, N = bnum last k s := ⟨_, rfl⟩
      rw [← hN] at hW hbp HNv hN24
      have hPl : (put N 3).length = 3 := put_length _ _
      have hPt := fun W => put_any N 3 W (by omega)
      rw [show putw N 3 = put N 3 from rfl] at hPt
      have HPt := Lib.hid hPt
      clear hN hPt
      generalize put N 3 = P at *
      go_upto_region 9 with (go_at_call 15; refine (hW.out _).mono ?_; rintro e' w6 ⟨A6, n6, c6, rfl, ho, hB6⟩; have HX6 := Lib.hid (HX5.out.below hB6 HX5.out.lt); have HY6 := Lib.hid (HY.out.below hB6 HY.out.lt); have HO6 := Lib.hid (OwB.mono ho hs5); have HB6 := Lib.hid (HB5.out.trans (hB6.mono hs5)); clear hB6 ho)
      obtain ⟨A7, c7, hv7, hc7, hd7⟩ := HO6.out.form
      injection hv7 with g1 g2 g3
      subst g1
      subst g2
      subst g3
      rw [hPl] at hc7 ⊢
      have HD6 := Lib.hid hd7
      have q0 := HX6.out.cell 0
      have q1 := HX6.out.cell 1
      have q2 := HX6.out.cell 2
      have y0 := HY6.out.cell 0
      have y1 := HY6.out.cell 1
      have y2 := HY6.out.cell 2
      simp at q0 q1 q2 y0 y1 y2
      have d1 : decide ((k : Int) < 0) = false := by simp
      have d2 : decide ((2 : Int) < (k : Int)) = false := by simp; omega
      have d3 : decide ((s : Int) < 0) = false := by simp
      have d4 : decide ((2097151 : Int) < (s : Int)) = false := by simp; omega
      have hs6 := HB6.out.size
      have hR2 := Lib.hid (readBlock_any (n := 3) (c := c6) hd7 hPl hc7 (by omega) (Nat.le_refl _))
      rw [hbp, show ansB ((last, k, s), 0) = .tuple #[.agg #[.bool last, .int .i64 (k : Int), .int .i64 (s : Int)], .int .i64 0] from rfl] at hR2
      clear hd7 hbp hW
      go_upto_region 14 with (go_at_call 13; refine hR2.out.mono ?_; rintro e' w7 ⟨rfl, hB7⟩; have HB7 := Lib.hid (HB6.out.trans (hB7.mono hs6)); have HD7 := Lib.hid (HD6.out.below hB7 (Nat.le_refl _)); have hs67 := hB7.size; clear hB7)
      have HZ : Hid (Box (w7.alloc (.cells #[.bool last, .int .i64 (k : Int), .int .i64 (s : Int)] 38)) w7.heap.size 38 #[.bool last, .int .i64 (k : Int), .int .i64 (s : Int)]) := Box.new _ _ _
      have HB8 : Hid (Below w.heap.size w (w7.alloc (.cells #[.bool last, .int .i64 (k : Int), .int .i64 (s : Int)] 38))) := HB7.out.alloc HB7.out.size _
      have HD8 := Lib.hid (HD7.out.alloc hs67 (.cells #[.bool last, .int .i64 (k : Int), .int .i64 (s : Int)] 38))
      have hs78 : w6.heap.size ≤ (w7.alloc (.cells #[.bool last, .int .i64 (k : Int), .int .i64 (s : Int)] 38)).heap.size := by rw [World.size_alloc]; omega
      generalize w7.alloc (.cells #[.bool last, .int .i64 (k : Int), .int .i64 (s : Int)] 38) = w8 at *
      generalize w7.heap.size = z at *
      obtain ⟨M0, hM0⟩ : ∃ M0, M0 = 8 * s + 2 * k := ⟨_, rfl⟩
      have hMi : 8 * (s : Int) + 2 * (k : Int) = (M0 : Int) := by omega
      have hM24 : M0 ≤ 16777215 := by omega
      have HNl : Hid (N = if last then M0 + 1 else M0) := by have := HNv.out; rw [← hM0] at this; rw [this]; cases last <;> rfl
      clear hM0 HNv
      go_upto_if 99 with fail
      go_cut [18] (fun n wx => n = .int .i64 (N : Int) ∧ w8 = wx)
      case first =>
        cases last with
        | true =>
          obtain ⟨M1, hM1⟩ : ∃ M1, M1 = M0 + 1 := ⟨_, rfl⟩
          have hM1i : (M0 : Int) + 1 = (M1 : Int) := by omega
          obtain rfl : N = M1 := by rw [hM1]; exact HNl.out
          clear hM1
          go_wp2_with fail
          go_meet
          exact ⟨rfl, rfl⟩
        | false =>
          obtain rfl : N = M0 := HNl.out
          go_wp2_with fail
          go_meet
          exact ⟨rfl, rfl⟩
      case rest =>
        obtain ⟨rfl, rfl⟩ := hcut
        have z0 := HZ.out.cell 0
        have z1 := HZ.out.cell 1
        have z2 := HZ.out.cell 2
        simp at z0 z1 z2
        obtain ⟨T, hT⟩ : ∃ T, T = str P := ⟨_, rfl⟩
        have hcvA := fun (W : World) (hW : Dat true W w.heap.size w6.heap.size A6 P) => run_str (P := Tryd.prog) W 22 Tryd.underlying22 Tryd.underlying5 (c := c6) (m := 3) hW hPl 9 Tryd.underlying9
        rw [← hT] at hcvA HPt
        have HCv := Lib.hid hcvA
        have c0 : (convert 22 9 (.slice A6 3 c6)).run Tryd.prog w8.drew = .ok (.string T) w8.drew := HCv.out w8.drew HD8.out
        have hTT : (T == T) = true := by
          cases T
          simp [BEq.beq, ByteArray.beq]
          exact Array.isEqv_self _
        have hll : (last == last) = true := by simp
        have hkk : ((k : Int) == (k : Int)) = true := by simp
        have hss : ((s : Int) == (s : Int)) = true := by simp
        have hP2 : Hid (Calls Tryd.prog 16 #[.int .u64 (IntKind.u64.wrap (N : Int)), .int .i64 3] w8.drew fun e w' => e = .returned (.string T) ∧ Below w8.drew.heap.size w8.drew w') := by
          unfold Hid
          rw [show IntKind.u64.wrap (N : Int) = (N : Int) by rw [IntKind.wrap_u64]; omega]
          exact HPt.out w8.drew
        clear hcvA hT HNl hMi HX5 HY HB1 HX6 HY6
        go_upto_region 17 with fail
        go_region_held3 (fun w' => (convert 22 9 (.slice A6 3 c6)).run Tryd.prog w' = .ok (.string T) w' ∧ w'.cell? ⟨z, 0, none⟩ = some (.bool last) ∧ w'.cell? ⟨z, 1, none⟩ = some (.int .i64 (k : Int)) ∧ w'.cell? ⟨z, 2, none⟩ = some (.int .i64 (s : Int))) (first | exact ⟨c0, z0, z1, z2⟩ | exact ⟨c7, x0, x1, x2⟩ | assumption)
          ((go_at_call 16; (with_reducible refine hP2.out.mono ?_); rintro e' w9 ⟨rfl, hB9⟩; have hb9 : Below w8.heap.size w8 w9 := (⟨hB9.os, hB9.tape, hB9.output, hB9.size, hB9.block⟩ : Below w8.heap.size w8 w9); have HB9 := Lib.hid (HB8.out.trans (hb9.mono HB8.out.size)); have c7 := HCv.out w9 (HD8.out.below hb9 hs78); have hz9 := HZ.out.below hb9 HZ.out.lt; have x0 := hz9.cell 0; have x1 := hz9.cell 1; have x2 := hz9.cell 2; simp at x0 x1 x2; clear hB9 hb9 hz9))
        go_wp2_with fail
        go_ret
        exact ⟨rfl, HB9.out⟩

set_option maxRecDepth 100000 in
theorem lifted (os : Os) (started : os.Started) (H : Type) (enc : TypeId × Value → H) :
    ReturnsInHanded {} Tryd.checked os 5 .any (fun w args => (Rows.frameBlocksSpec.pre enc Tryd.prog Tryd.f5 [] false w args ∧ laidMetH Tryd.prog laidL w) ∧ sizedMet enc Tryd.prog Tryd.f5 (OpenSpec.ofChange Rows.frameBlocksSpec) false w args)
      (Rows.frameBlocksSpec.post enc Tryd.prog Tryd.f5 false true false false) := by
  refine returnsInHanded_of_change_and (C := Tryd.checked) (X := fun w _ => laidMetH Tryd.prog laidL w) (fun _ _ _ hh h => h.of_heap hh) own started (by kernel_rfl) Tryd.func5
    (ChangeSpec.witness_shaped (enc := enc) (C := Tryd.checked) (os := os) (X := fun w _ => laidMetH Tryd.prog laidL w) false (World.doorLaid Tryd.prog 400 os) #[.slice none 0 0, .bool false, .int .i64 0, .int .i64 0] 8 rfl (World.shaped_of_RefB (by kernel_rfl) (by kernel_rfl)) (by kernel_rfl) (by kernel_rfl) (by kernel_rfl) (door_met os _)) ?_
  intro W base args ds gs before hval0 hW _ _ hL _
  have hval : ∀ (j : Nat) t v, Tryd.f5.params[j]? = some t → args[j]? = some v → Value.okWide Tryd.prog W .any base t v := hval0
  have hW' := hW
  obtain ⟨p, q, hA0, hV, rfl, hfz, hnd⟩ := hW
  have hA : DataW.TrodAll enc Tryd.prog W 0 (fun _ => true) true Tryd.f5.params.toList args.toList ds p := hA0
  rw [Tryd.params5] at hA hval
  obtain ⟨v0, vs0, d0, ds0, p0, q0, hargs, rfl, rfl, h0, r0⟩ := trodAll_cons hA
  obtain ⟨v1, vs1, d1, ds1, p1, q1, rfl, rfl, rfl, h1, r1⟩ := trodAll_cons r0
  obtain ⟨v2, vs2, d2, ds2, p2, q2, rfl, rfl, rfl, h2, r2⟩ := trodAll_cons r1
  obtain ⟨v3, vs3, d3, ds3, p3, q3, rfl, rfl, rfl, h3, r3⟩ := trodAll_cons r2
  obtain ⟨rfl, rfl, rfl⟩ := trodAll_nil r3
  obtain rfl : args = #[v0, v1, v2, v3] := by cases args; simp_all
  obtain ⟨rfl, rfl⟩ := trodVars_none hV
  obtain ⟨a0, len0, cap0, rfl⟩ := okWide_slice Tryd.underlying22 (hval 0 22 v0 rfl rfl)
  have k0 := h0
  have lt0 : ∀ x ∈ p0, x.block < W.heap.size := by obtain ⟨m, hm⟩ := k0; exact DataW.trod_lt m _ _ _ hm
  obtain ⟨z0, w0⟩ := row_of_trod h0
  obtain ⟨xs0, rfl, hl0, hm0, hd0⟩ := row_dat w0
  obtain ⟨n1, rfl, rfl, rfl⟩ := open_bool Tryd.underlying4 (hval 1 4 v1 rfl rfl) h1
  obtain ⟨n2, rfl, rfl, rfl, w2⟩ := open_int Tryd.underlying3 (hval 2 3 v2 rfl rfl) h2
  obtain ⟨n3, rfl, rfl, rfl, w3⟩ := open_int Tryd.underlying3 (hval 3 3 v3 rfl rfl) h3
  clear hA0 hval0
  refine (walk a0 xs0 cap0 n1 n2 n3 W (glob_of_laid hL) hd0 (by omega) hl0 (int_bounds w2) (int_bounds w3)).mono fun e W' ⟨he, bel⟩ => ?_
  subst he
  exact ⟨_, rfl, _, _, _, [], _, [], hW', trodAll_mk1 (shut_bool Tryd.underlying4 _), (trodAll_cons_mk (Below.trod laidOut (by kernel_rfl) (of_decide_eq_true (by kernel_rfl)) k0 bel lt0) (trodAll_cons_mk (shut_bool Tryd.underlying4 n1) (trodAll_cons_mk (shut_int Tryd.underlying3 w2) (trodAll_cons_mk (shut_int Tryd.underlying3 w3) trodAll_mk0)))), rfl, bel.frame _, fun h => by cases h⟩

theorem over : Rows.frameBlocksRow.holds Tryd.pinned (OpenSpec.ofChange Rows.frameBlocksSpec) :=
  OpenClaim.holds_of_wide 5 Tryd.f5 rfl rfl rfl rfl rfl rfl rfl ⟨rfl, rfl, rfl, rfl, rfl⟩ rfl rfl rfl rfl rfl (by kernel_rfl) Tryd.func5 (by kernel_rfl)
    (of_decide_eq_true (by kernel_rfl)) (by unfold Func.isWrapper; first | (rw [if_pos (by decide +kernel)]; kernel_rfl) | (rw [if_neg (by decide +kernel)]; exact ⟨rfl, rfl⟩))
    (fun os started H enc _ => lifted os started H enc)

/-- ████ THE STATEMENT ████ -/
theorem proved : Rows.FrameBlocksCardSaid :=
  Claim7.holds_tied_plain_at .later [] [.data, .wider] true Rows.frameBlocksCard.stood.harness false
    over (fun _ h => by cases h) (by kernel_rfl) (fun _ h => by cases h) frameBlocks_row_tie rfl ⟨rfl, rfl⟩ (by kernel_rfl) rfl
    (fun f fn hf hfn => by
      obtain rfl : f = 5 := Option.some.inj ((show Tryd.prog.funcNamed Rows.frameBlocksRow.func = some 5 by kernel_rfl).symm.trans hf) |>.symm
      obtain rfl : fn = Tryd.f5 := (Option.some.inj (Tryd.func5.symm.trans hfn)).symm
      exact ⟨by kernel_rfl, fun j t ht => by
        rw [Tryd.params5] at ht
        have hm : t ∈ [22, 4, 3, 3] := by
          have := Array.mem_of_getElem? ht
          simp at this
          simpa using this
        have hall : ([22, 4, 3, 3].all fun u => !Tryd.prog.wantsStandIn u) = true := by kernel_rfl
        exact (show Tryd.prog.wantsStandIn t = false by simpa using List.all_eq_true.1 hall t hm)⟩)
    (by kernel_rfl)
#print axioms proved
end Go.Proofs.YtmominbmalhdoaaDoor.frameBlocks
