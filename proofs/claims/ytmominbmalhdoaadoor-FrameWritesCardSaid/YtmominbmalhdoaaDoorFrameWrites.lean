
/- FrameWrites holds, tied to the program's text: for every number, bool and bytes the law returns true. No condition of ours; the row's own: the package's variables read as the text lays them. -/
import Derived.Test.YtmominbmalhdoaaDoorFrmArgs
import Derived.Test.YtmominbmalhdoaaDoorFrmAwake
import Derived.Test.YtmominbmalhdoaaDoorFrmRefB
import Derived.Test.YtmominbmalhdoaaDoorFrmLawP
namespace Go.Proofs.YtmominbmalhdoaaDoor.frameWrites
open Go.ChangeShapes Go.WideShapes Go.ChangeAt Go.RowKit

set_option maxRecDepth 100000 in
set_option maxHeartbeats 4000000 in
theorem walk (xi : Int) (sum : Bool) (a : Option Addr) (xs : List UInt8) (cp : Nat) (w : World) (hgl : Glob w) (hx : 0 ≤ xi ∧ xi ≤ 18446744073709551615) (hd : Dat false w 0 w.heap.size a xs) (_hm : xs.length ≤ maxLen) :
    Calls Tryd.prog 4 #[.int .u64 xi, .bool sum, .slice a xs.length cp] w fun e w' => e = .returned (.bool true) ∧ Below w.heap.size w w' := by
  obtain ⟨x, rfl⟩ := Int.eq_ofNat_of_zero_le hx.1
  have hx64 : x < 18446744073709551616 := by omega
  have HG := Lib.hid hgl
  have HD := Lib.hid hd
  have hw2 := hgl.2.2
  obtain ⟨m, hmm⟩ : ∃ m, m = xs.length := ⟨_, rfl⟩
  rw [← hmm]
  have HM := Lib.hid hmm
  clear hgl hd hmm hx
  by_cases hlong : 50 < m
  · have h50 : (50 : Int) < (m : Int) := by omega
    go_enter Tryd.func4, Tryd.ntmps4
    go_wp2_with (go_at_call 8; refine (awake_any _ HG.out).mono ?_; rintro e' w1 ⟨rfl, hB1⟩; have HB1 := Lib.hid hB1; clear hB1)
    go_ret
    exact ⟨rfl, HB1.out⟩
  · have h50 : decide ((50 : Int) < (m : Int)) = false := by simp; omega
    have hm2 : m ≤ 50 := by omega
    go_enter Tryd.func4, Tryd.ntmps4
    go_upto_region 6 with (go_at_call 8; refine (awake_any _ HG.out).mono ?_; rintro e' w1 ⟨rfl, hB1⟩; have HB1 := Lib.hid hB1; clear hB1)
    have hs1 := HB1.out.size
    have hG1 := Lib.hid (HG.out.below HB1.out hw2)
    have hW := Lib.hid (write15_any x sum hx64 w1 hG1.out)
    have hF := Lib.hid (fun W => refWrite15_any x sum hx64 W)
    have hH := Lib.hid (hdr_wr x sum xs hx64)
    obtain ⟨ys, hys⟩ : ∃ ys, ys = wr15 x sum := ⟨_, rfl⟩
    obtain ⟨l, hl⟩ : ∃ l, l = ys.length := ⟨_, rfl⟩
    have hlb : 6 ≤ l ∧ l ≤ 13 := by
      have := form_lt x
      have h1 := sw_pos (formN x) this
      have h2 := sw_le (formN x) this
      have : l = 5 + swN (formN x) := by rw [hl, hys]; unfold wr15; rw [List.length_append, List.length_append, put_length, put_length, put_length]
      omega
    rw [← hys] at hW hF hH
    rw [← hl] at hH
    have HL := Lib.hid hl
    have HYl : Hid (ys.length = l) := hl.symm
    clear hys hl
    go_upto_region 7 with (go_at_call 11; refine hW.out.mono ?_; rintro e' w2 ⟨v, rfl, ho, hB2⟩; obtain ⟨A, c, hv, hc, hdd⟩ := ho.form; subst hv; have HO := Lib.hid ho; have HB2 := Lib.hid (HB1.out.trans (hB2.mono hs1)); clear hB2 ho)
    rw [HYl.out] at HO hc ⊢
    have hs2 := HB2.out.size
    have hcvA := fun (W : World) (hW : Dat true W w1.heap.size w2.heap.size A ys) => run_str (P := Tryd.prog) W 22 Tryd.underlying22 Tryd.underlying5 (c := c) (m := l) hW HYl.out 9 Tryd.underlying9
    have HCv := Lib.hid hcvA
    have HDd := Lib.hid hdd
    have hne : (str ys != str ys) = false := by
      generalize str ys = S
      cases S
      simp [bne, BEq.beq, ByteArray.beq]
      exact Array.isEqv_self _
    have hD1 := Lib.hid (HO.out.block)
    clear hcvA hW hdd
    go_cut [26] (fun t wx => t = .bool false ∧ OwB wx 5 w1.heap.size (.slice A l c) ys ∧ Below w.heap.size w wx)
    case first =>
      have c0 : (convert 22 9 (.slice A l c)).run Tryd.prog w2.drew = .ok (.string (str ys)) w2.drew := HCv.out w2.drew HDd.out
      have hF2 := Lib.hid (hF.out w2.drew)
      generalize hSS : str ys = S at *
      go_region_held3 (fun w' => (convert 22 9 (.slice A l c)).run Tryd.prog w' = .ok (.string S) w') (first | exact c0 | exact c7 | assumption)
        ((go_at_call 12; refine hF2.out.mono ?_; rintro e' w7 ⟨rfl, hB7⟩; have hb7 : Below w2.heap.size w2 w7 := (⟨hB7.os, hB7.tape, hB7.output, hB7.size, hB7.block⟩ : Below w2.heap.size w2 w7); have HB7 := Lib.hid hb7; have c7 := HCv.out w7 (HDd.out.below hb7 (Nat.le_refl _)); clear hB7 hb7))
      have ho7 : OwB w7 5 w1.heap.size (.slice A l c) ys := HO.out.grown (grown_of_below HB7.out none) (by cases hh : (Value.slice A l c).ownBlock with
        | none => exact .inl rfl
        | some k => exact .inr (by simp))
      have HO7 := Lib.hid ho7
      clear ho7
      go_wp2_with fail
      go_meet
      exact ⟨rfl, HO7.out, HB2.out.trans (HB7.out.mono hs2)⟩
    case rest =>
      obtain ⟨rfl, ho, hB⟩ := hcut
      have HO3 := Lib.hid (OwB.mono ho hs1)
      have HB3 := Lib.hid hB
      have HD3 := Lib.hid (HD.out.below hB (Nat.le_refl _))
      obtain ⟨i0, hi0, hz0, hz1, hz2⟩ := info_parts u8_info
      have HI := Lib.hid (And.intro hi0 (And.intro hz0 (And.intro hz1 hz2)))
      clear ho hB HCv HDd hne HO HB2 hi0 hz0 hz1 hz2 hF hD1
      have hs3 := HB3.out.size
      go_upto_region 9 with fail
      go_wp2_with (at_builtin; refine list_app _ rfl _ _ 22 rfl i0 Tryd.underlying22 HI.out.1 HI.out.2.1 HI.out.2.2.1 HI.out.2.2.2 rfl HO3.out rfl HD3.out HM.out.symm ?_ ?_ ?_)
      · have := HYl.out; omega
      · exact hs3
      intro v4 w4 ho4 hg4 _
      obtain ⟨A4, c4, hv4, hc4, hd4⟩ := ho4.form
      subst hv4
      obtain ⟨K, hK⟩ : ∃ K, K = (ys ++ xs).length := ⟨_, rfl⟩
      have hKl : K = l + m := by rw [hK, List.length_append, HYl.out, HM.out]
      rw [← hK] at ho4 hc4 ⊢
      obtain ⟨d, o, hA, _, hdh, _, _⟩ := hd4 (by rw [← hK]; omega)
      subst hA
      have HB4 := Lib.hid (HB3.out.grown hg4 hs3 (fun k hk => (HO3.out.block k hk).1))
      have hd5 : Dat true w4 w.heap.size w4.heap.size (some ⟨d, o + 4, none⟩) ((ys ++ xs).drop 4) := hd4.drop 4
      have hK6 : 6 ≤ K := by omega
      have hcK : 6 ≤ c4 := by omega
      have hs4 := HB4.out.size
      have hR := Lib.hid (read15_any (n := K - 4) (c := c4 - 4) hd5 (by rw [List.length_drop, ← hK]) (by omega) (by rw [List.length_drop, ← hK]; omega) (Nat.le_refl _) (HG.out.below HB4.out hw2))
      rw [hH.out, show ansH ((x, x, true, sum), l - 4, 0) = .tuple #[.agg #[.int .u64 (x : Int), .int .u64 (x : Int), .bool true, .bool sum], .int .i64 ((l - 4 : Nat) : Int), .int .i64 0] from rfl] at hR
      have hc4' : K ≤ c4 := hc4
      clear ho4 hg4 hd4 hd5 hK hc4 HO3 HD3 hKl
      go_upto_region 10 with (go_at_call 9; refine hR.out.mono ?_; rintro e' w5 ⟨rfl, hB5⟩; have HB5 := Lib.hid (HB4.out.trans (hB5.mono hs4)); clear hB5)
      have HX : Hid (Box (w5.alloc (.cells #[.int .u64 (x : Int), .int .u64 (x : Int), .bool true, .bool sum] 26)) w5.heap.size 26 #[.int .u64 (x : Int), .int .u64 (x : Int), .bool true, .bool sum]) := Box.new _ _ _
      have HB6 : Hid (Below w.heap.size w (w5.alloc (.cells #[.int .u64 (x : Int), .int .u64 (x : Int), .bool true, .bool sum] 26))) := HB5.out.alloc HB5.out.size _
      generalize w5.alloc (.cells #[.int .u64 (x : Int), .int .u64 (x : Int), .bool true, .bool sum] 26) = w6 at *
      generalize w5.heap.size = q at *
      have q0 := HX.out.cell 0
      have q1 := HX.out.cell 1
      have q2 := HX.out.cell 2
      have q3 := HX.out.cell 3
      simp at q0 q1 q2 q3
      obtain ⟨l4, hl4⟩ : ∃ l4, l4 = l - 4 := ⟨_, rfl⟩
      have hl4i : (l : Int) - 4 = (l4 : Int) := by omega
      rw [← hl4]
      have i1 : ((l4 : Int) == (l4 : Int)) = true := by simp
      have i2 : ((x : Int) == (x : Int)) = true := by simp
      have i3 : (sum == sum) = true := by simp
      clear hR hl4 hH
      go_wp2_with fail
      go_ret
      exact ⟨rfl, HB6.out⟩

set_option maxRecDepth 100000 in
theorem lifted (os : Os) (started : os.Started) (H : Type) (enc : TypeId × Value → H) :
    ReturnsInHanded {} Tryd.checked os 4 .any (fun w args => (Rows.frameWritesSpec.pre enc Tryd.prog Tryd.f4 [] false w args ∧ laidMetH Tryd.prog laidL w) ∧ sizedMet enc Tryd.prog Tryd.f4 (OpenSpec.ofChange Rows.frameWritesSpec) false w args)
      (Rows.frameWritesSpec.post enc Tryd.prog Tryd.f4 false true false false) := by
  refine returnsInHanded_of_change_and (C := Tryd.checked) (X := fun w _ => laidMetH Tryd.prog laidL w) (fun _ _ _ hh h => h.of_heap hh) own started (by kernel_rfl) Tryd.func4
    (ChangeSpec.witness_shaped (enc := enc) (C := Tryd.checked) (os := os) (X := fun w _ => laidMetH Tryd.prog laidL w) false (World.doorLaid Tryd.prog 400 os) #[.int .u64 0, .bool false, .slice none 0 0] 8 rfl (World.shaped_of_RefB (by kernel_rfl) (by kernel_rfl)) (by kernel_rfl) (by kernel_rfl) (by kernel_rfl) (door_met os _)) ?_
  intro W base args ds gs before hval0 hW _ _ hL _
  have hval : ∀ (j : Nat) t v, Tryd.f4.params[j]? = some t → args[j]? = some v → Value.okWide Tryd.prog W .any base t v := hval0
  have hW' := hW
  obtain ⟨p, q, hA0, hV, rfl, hfz, hnd⟩ := hW
  have hA : DataW.TrodAll enc Tryd.prog W 0 (fun _ => true) true Tryd.f4.params.toList args.toList ds p := hA0
  rw [Tryd.params4] at hA hval
  obtain ⟨v0, vs0, d0, ds0, p0, q0, hargs, rfl, rfl, h0, r0⟩ := trodAll_cons hA
  obtain ⟨v1, vs1, d1, ds1, p1, q1, rfl, rfl, rfl, h1, r1⟩ := trodAll_cons r0
  obtain ⟨v2, vs2, d2, ds2, p2, q2, rfl, rfl, rfl, h2, r2⟩ := trodAll_cons r1
  obtain ⟨rfl, rfl, rfl⟩ := trodAll_nil r2
  obtain rfl : args = #[v0, v1, v2] := by cases args; simp_all
  obtain ⟨rfl, rfl⟩ := trodVars_none hV
  obtain ⟨n0, rfl, rfl, rfl, w0⟩ := open_int Tryd.underlying24 (hval 0 24 v0 rfl rfl) h0
  obtain ⟨n1, rfl, rfl, rfl⟩ := open_bool Tryd.underlying4 (hval 1 4 v1 rfl rfl) h1
  obtain ⟨a2, len2, cap2, rfl⟩ := okWide_slice Tryd.underlying22 (hval 2 22 v2 rfl rfl)
  have k2 := h2
  have lt2 : ∀ x ∈ p2, x.block < W.heap.size := by obtain ⟨m, hm⟩ := k2; exact DataW.trod_lt m _ _ _ hm
  obtain ⟨z2, w2⟩ := row_of_trod h2
  obtain ⟨xs2, rfl, hl2, hm2, hd2⟩ := row_dat w2
  clear hA0 hval0
  refine (walk n0 n1 a2 xs2 cap2 W (glob_of_laid hL) (u64_bounds w0) hd2 (by omega)).mono fun e W' ⟨he, bel⟩ => ?_
  subst he
  exact ⟨_, rfl, _, _, _, [], _, [], hW', trodAll_mk1 (shut_bool Tryd.underlying4 _), (trodAll_cons_mk (shut_int Tryd.underlying24 w0) (trodAll_cons_mk (shut_bool Tryd.underlying4 n1) (trodAll_cons_mk (Below.trod laidOut (by kernel_rfl) (of_decide_eq_true (by kernel_rfl)) k2 bel lt2) trodAll_mk0))), rfl, bel.frame _, fun h => by cases h⟩

theorem over : Rows.frameWritesRow.holds Tryd.pinned (OpenSpec.ofChange Rows.frameWritesSpec) :=
  OpenClaim.holds_of_wide 4 Tryd.f4 rfl rfl rfl rfl rfl rfl rfl ⟨rfl, rfl, rfl, rfl, rfl⟩ rfl rfl rfl rfl rfl (by kernel_rfl) Tryd.func4 (by kernel_rfl)
    (of_decide_eq_true (by kernel_rfl)) (by unfold Func.isWrapper; first | (rw [if_pos (by decide +kernel)]; kernel_rfl) | (rw [if_neg (by decide +kernel)]; exact ⟨rfl, rfl⟩))
    (fun os started H enc _ => lifted os started H enc)

/-- ████ THE STATEMENT ████ -/
theorem proved : Rows.FrameWritesCardSaid :=
  Claim7.holds_tied_plain_at .later [] [.data, .wider] true Rows.frameWritesCard.stood.harness false
    over (fun _ h => by cases h) (by kernel_rfl) (fun _ h => by cases h) frameWrites_row_tie rfl ⟨rfl, rfl⟩ (by kernel_rfl) rfl
    (fun f fn hf hfn => by
      obtain rfl : f = 4 := Option.some.inj ((show Tryd.prog.funcNamed Rows.frameWritesRow.func = some 4 by kernel_rfl).symm.trans hf) |>.symm
      obtain rfl : fn = Tryd.f4 := (Option.some.inj (Tryd.func4.symm.trans hfn)).symm
      exact ⟨by kernel_rfl, fun j t ht => by
        rw [Tryd.params4] at ht
        have hm : t ∈ [24, 4, 22] := by
          have := Array.mem_of_getElem? ht
          simp at this
          simpa using this
        have hall : ([24, 4, 22].all fun u => !Tryd.prog.wantsStandIn u) = true := by kernel_rfl
        exact (show Tryd.prog.wantsStandIn t = false by simpa using List.all_eq_true.1 hall t hm)⟩)
    (by kernel_rfl)
#print axioms proved
end Go.Proofs.YtmominbmalhdoaaDoor.frameWrites
