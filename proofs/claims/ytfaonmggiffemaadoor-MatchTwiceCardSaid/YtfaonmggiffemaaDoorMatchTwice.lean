
/- MatchTwice holds, tied to the program's text: for every two rows of bytes the law returns true. No condition of ours; the row's own: the package's variable reads as the text lays it. -/
import Derived.Test.YtfaonmggiffemaaDoorMatLaw
import Derived.Lib.ConvBytes
namespace Go.Proofs.YtfaonmggiffemaaDoor.matchTwice
open Go.ChangeShapes Go.WideShapes Go.ChangeAt Go.RowKit

theorem dat_of_string (w : World) (u : TypeId) (ys : List UInt8) : Dat false (Lib.bytesWorld w u (str ys)) w.heap.size (Lib.bytesWorld w u (str ys)).heap.size (some ⟨w.heap.size, 0, none⟩) ys := fun _ =>
  ⟨w.heap.size, 0, rfl, Nat.le_refl _, by rw [Lib.bytesWorld_size]; omega, fun j hj => by
    rw [Nat.zero_add, Lib.bytesWorld_cell w u (str ys) j (by rw [str_sizeM]; exact hj)]
    rfl, fun h => by cases h⟩
theorem bytes_below (w : World) (u : TypeId) (s : ByteArray) : Below w.heap.size w (Lib.bytesWorld w u s) :=
  ⟨rfl, rfl, rfl, by rw [Lib.bytesWorld_size]; omega, fun k hk => Lib.bytesWorld_at_old w u s k hk⟩
theorem str_app (xs ys : List UInt8) : (str xs) ++ (str ys) = str (xs ++ ys) := by
  apply ByteArray.ext
  rw [ByteArray.data_append]
  simp [str]
/-- A string as bytes: where they lie. -/
theorem conv_any (w : World) (ys : List UInt8) {N : Nat} (hN : ys.length = N) : ∃ (C : Nat) (W : World), (convert 9 22 (.string (str ys))).run Tryd.prog w = .ok (.slice (some ⟨w.heap.size, 0, none⟩) N C) W ∧ N ≤ C ∧ Dat false W w.heap.size W.heap.size (some ⟨w.heap.size, 0, none⟩) ys ∧ Below w.heap.size w W := by
  have h := Lib.run_convert_string_bytes (P := Tryd.prog) w 9 22 5 (str ys) (u := .string) Tryd.underlying9 Tryd.underlying22 Tryd.underlying5
  have hs : (str ys).size = N := by rw [str_sizeM, hN]
  rw [hs] at h
  exact ⟨_, _, h, grownCap_ge w N 0 5, dat_of_string w _ ys, bytes_below w _ _⟩

set_option maxRecDepth 100000 in
set_option maxHeartbeats 4000000 in
theorem walk (a : Option Addr) (xs : List UInt8) (cp : Nat) (a1 : Option Addr) (ms : List UInt8) (cp1 : Nat) (w : World) (hgl : Glob w) (hd : Dat false w 0 w.heap.size a xs) (_hm : xs.length ≤ maxLen)
    (hd1 : Dat false w 0 w.heap.size a1 ms) (_hm1 : ms.length ≤ maxLen) :
    Calls Tryd.prog 5 #[.slice a xs.length cp, .slice a1 ms.length cp1] w fun e w' => e = .returned (.bool true) ∧ Below w.heap.size w w' := by
  have HG := Lib.hid hgl
  have HD := Lib.hid hd
  have HD1 := Lib.hid hd1
  have hw2 := hgl.2
  obtain ⟨m, hmm⟩ : ∃ m, m = xs.length := ⟨_, rfl⟩
  obtain ⟨m1, hmm1⟩ : ∃ m1, m1 = ms.length := ⟨_, rfl⟩
  rw [← hmm]
  rw [← hmm1]
  have HM := Lib.hid hmm
  have HM1 := Lib.hid hmm1
  clear hgl hd hmm hd1 hmm1
  by_cases hlong : 300 < m
  · have h50 : (300 : Int) < (m : Int) := by omega
    go_enter Tryd.func5, Tryd.ntmps5
    go_wp2_with (go_at_call 7; refine (awake_any _ HG.out).mono ?_; rintro e' w1 ⟨rfl, hB1⟩; have HB1 := Lib.hid hB1; clear hB1)
    go_ret
    exact ⟨rfl, HB1.out⟩
  by_cases hlong1 : 300 < m1
  · have h50 : decide ((300 : Int) < (m : Int)) = false := by simp; omega
    have h51 : (300 : Int) < (m1 : Int) := by omega
    go_enter Tryd.func5, Tryd.ntmps5
    go_wp2_with (go_at_call 7; refine (awake_any _ HG.out).mono ?_; rintro e' w1 ⟨rfl, hB1⟩; have HB1 := Lib.hid hB1; clear hB1)
    go_ret
    exact ⟨rfl, HB1.out⟩
  have h50 : decide ((300 : Int) < (m : Int)) = false := by simp; omega
  have h51 : decide ((300 : Int) < (m1 : Int)) = false := by simp; omega
  have hm2 : m ≤ 300 := by omega
  have hm3 : m1 ≤ 300 := by omega
  go_enter Tryd.func5, Tryd.ntmps5
  go_upto_region 6 with (go_at_call 7; refine (awake_any _ HG.out).mono ?_; rintro e' w1 ⟨rfl, hB1⟩; have HB1 := Lib.hid hB1; clear hB1)
  have hs1 := HB1.out.size
  have hcv := run_str (P := Tryd.prog) w1 22 Tryd.underlying22 Tryd.underlying5 (c := cp) (m := m) (HD.out.below HB1.out (Nat.le_refl _)) HM.out.symm 9 Tryd.underlying9
  have hcv1 := run_str (P := Tryd.prog) w1 22 Tryd.underlying22 Tryd.underlying5 (c := cp1) (m := m1) (HD1.out.below HB1.out (Nat.le_refl _)) HM1.out.symm 9 Tryd.underlying9
  have z0 : (str xs).size = m := by rw [str_sizeM, HM.out]
  have z1 : (str ms).size = m1 := by rw [str_sizeM, HM1.out]
  have z2 : (str xs ++ str ms).size = m + m1 := by rw [ByteArray.size_append, z0, z1]
  have z3 : (str xs ++ str ms ++ str xs).size = m + m1 + m := by rw [ByteArray.size_append, z2, z0]
  obtain ⟨ys, hys⟩ : ∃ ys, ys = xs ++ ms ++ xs ++ xs := ⟨_, rfl⟩
  have HS : Hid (str xs ++ str ms ++ str xs ++ str xs = str ys) := by rw [Hid, hys, str_app, str_app, str_app]
  obtain ⟨N, hN⟩ : ∃ N, ys.length = N := ⟨_, rfl⟩
  have hNm : m ≤ N ∧ N ≤ 1200 := by
    rw [← hN, hys]
    have h1 := HM.out
    have h2 := HM1.out
    simp only [List.length_append]
    omega
  have HN := Lib.hid hN
  clear hys hN
  go_upto_region 7 with (fail)
  rw [HS.out]
  have hZ : (str ys).size = N := by rw [str_sizeM]; exact HN.out
  have hN12 : N ≤ 1200 := hNm.2
  have hmN : m ≤ N := hNm.1
  clear hcv hcv1 z0 z1 z2 z3 HS HD HD1 hNm
  go_wp2_with fail
  go_loopg [7] 10 (fun gh i wx => ∃ k : Nat, i = .int .i64 (k : Int) ∧ k + gh = 10 ∧ Hid (Below w.heap.size w wx))
  case atStart => exact ⟨0, rfl, by omega, HB1⟩
  case round =>
    obtain ⟨k, rfl, hkg, HB⟩ := hrel
    have HKG := Lib.hid hkg
    have hkm : k ≤ 10 := by omega
    clear hkg HB1
    by_cases hlt : k < 10
    · obtain ⟨g', rfl⟩ : ∃ g', gk = g' + 1 := ⟨gk - 1, by have := HKG.out; omega⟩
      have hki : (k : Int) < 10 := by omega
      have hs := HB.out.size
      obtain ⟨C1, W1, hk1, hC1, hDt1, hBl1⟩ := conv_any wr ys HN.out
      have HW1 := Lib.hid (HB.out.trans (hBl1.mono hs))
      have HD1 := Lib.hid hDt1
      have hw1 := HW1.out.size
      have HF1 : Hid (Calls Tryd.prog 8 #[.slice (some ⟨wr.heap.size, 0, none⟩) N C1, .int .i64 0, .int .i64 (N : Int), .int .i64 (k : Int)] W1 (FPost ys 0 N k W1)) :=
        find_ok (HG.out.below HW1.out hw2) HD1.out HN.out hC1 (by omega) (Nat.le_refl _) 0 N k (Nat.zero_le _) (Nat.le_refl _) (by omega)
      clear hDt1 hBl1 hC1
      go_upto_region 11 with (go_at_call 8; refine HF1.out.mono ?_; rintro e' w2 ⟨⟨v, L1, b1, rfl, q1, hq, ho, hmk, _, _⟩, hB⟩; obtain ⟨A1, n1, c1, rfl⟩ := ho.slice; have HO1 := Lib.hid ho; have HM1 := Lib.hid hmk; have HQ1 := Lib.hid hq; have HB2 := Lib.hid (HW1.out.trans (hB.mono hw1)); clear ho hB hmk hq)
      have hs2 := HB2.out.size
      obtain ⟨C2, W2, hk2, hC2, hDt2, hBl2⟩ := conv_any w2 ys HN.out
      have HW2 := Lib.hid (HB2.out.trans (hBl2.mono hs2))
      have HD2 := Lib.hid hDt2
      have HOm := Lib.hid (HO1.out.below hBl2 (Nat.le_refl _))
      have hw3 := HW2.out.size
      have HF2 := Lib.hid (find_ok (HG.out.below HW2.out hw2) HD2.out HN.out hC2 (by omega) (Nat.le_refl _) m N k hmN (Nat.le_refl _) (by omega))
      clear hDt2 hBl2 hC2 hk1 HF1
      go_upto_region 12 with (go_at_call 8; refine HF2.out.mono ?_; rintro e' w3 ⟨⟨v, L2, b2, rfl, q2, hq, ho, hmk, _, _⟩, hB⟩; obtain ⟨A2, n2, c2, rfl⟩ := ho.slice; have HO2 := Lib.hid ho; have HM2 := Lib.hid hmk; have HQ2 := Lib.hid hq; have HO3 := Lib.hid (HOm.out.below hB (Nat.le_refl _)); have HB3 := Lib.hid (HW2.out.trans (hB.mono hw3)); clear ho hB hmk hq)
      have HP1 : Hid (Calls Tryd.prog 9 #[.string (str ys), .int .i64 0, .int .i64 (N : Int), .slice A1 n1 c1, .int .i64 (b1 : Int)] w3 fun e w' => e = .returned (.bool true) ∧ ∃ z, w' = w3.drewN z) :=
        ref_ok (fr := 0) HO3.out (by rw [HN.out]; exact Nat.le_refl _) (by rw [HN.out]; omega) HM1.out HQ1.out (Nat.zero_le _) 0
      have HP2 := Lib.hid (ref_ok HO2.out (by rw [HN.out]; exact Nat.le_refl _) (by rw [HN.out]; omega) HM2.out HQ2.out hmN)
      clear hk2 HF2
      go_wp2_with (first
        | (go_at_call 9; (with_reducible refine HP1.out.mono ?_); rintro e' w5 ⟨rfl, z, rfl⟩)
        | (go_at_call 9; (with_reducible refine (HP2.out _).mono ?_); rintro e' w6 ⟨rfl, z, rfl⟩))
      go_roundg g'
      case rel => exact ⟨k + 1, by go_num, by have := HKG.out; omega, below_drewN HB3.out _⟩
      case measure => omega
    · obtain rfl : k = 10 := by omega
      go_wp2_with fail
      go_ret
      exact ⟨rfl, HB.out⟩

set_option maxRecDepth 100000 in
theorem lifted (os : Os) (started : os.Started) (H : Type) (enc : TypeId × Value → H) :
    ReturnsInHanded {} Tryd.checked os 5 .any (fun w args => (Rows.matchTwiceSpec.pre enc Tryd.prog Tryd.f5 [] false w args ∧ laidMetH Tryd.prog laidL w) ∧ sizedMet enc Tryd.prog Tryd.f5 (OpenSpec.ofChange Rows.matchTwiceSpec) false w args)
      (Rows.matchTwiceSpec.post enc Tryd.prog Tryd.f5 false true false false) := by
  refine returnsInHanded_of_change_and (C := Tryd.checked) (X := fun w _ => laidMetH Tryd.prog laidL w) (fun _ _ _ hh h => h.of_heap hh) own started (by kernel_rfl) Tryd.func5
    (ChangeSpec.witness_shaped (enc := enc) (C := Tryd.checked) (os := os) (X := fun w _ => laidMetH Tryd.prog laidL w) false (World.doorLaid Tryd.prog 400 os) #[.slice none 0 0, .slice none 0 0] 8 rfl (World.shaped_of_RefB (by kernel_rfl) (by kernel_rfl)) (by kernel_rfl) (by kernel_rfl) (by kernel_rfl) (door_met os _)) ?_
  intro W base args ds gs before hval0 hW _ _ hL _
  have hval : ∀ (j : Nat) t v, Tryd.f5.params[j]? = some t → args[j]? = some v → Value.okWide Tryd.prog W .any base t v := hval0
  have hW' := hW
  obtain ⟨p, q, hA0, hV, rfl, hfz, hnd⟩ := hW
  have hA : DataW.TrodAll enc Tryd.prog W 0 (fun _ => true) true Tryd.f5.params.toList args.toList ds p := hA0
  rw [Tryd.params5] at hA hval
  obtain ⟨v0, vs0, d0, ds0, p0, q0, hargs, rfl, rfl, h0, r0⟩ := trodAll_cons hA
  obtain ⟨v1, vs1, d1, ds1, p1, q1, rfl, rfl, rfl, h1, r1⟩ := trodAll_cons r0
  obtain ⟨rfl, rfl, rfl⟩ := trodAll_nil r1
  obtain rfl : args = #[v0, v1] := by cases args; simp_all
  obtain ⟨rfl, rfl⟩ := trodVars_none hV
  obtain ⟨a0, len0, cap0, rfl⟩ := okWide_slice Tryd.underlying22 (hval 0 22 v0 rfl rfl)
  have k0 := h0
  have lt0 : ∀ x ∈ p0, x.block < W.heap.size := by obtain ⟨m, hm⟩ := k0; exact DataW.trod_lt m _ _ _ hm
  obtain ⟨z0, w0⟩ := row_of_trod h0
  obtain ⟨xs0, rfl, hl0, hm0, hd0⟩ := row_dat w0
  obtain ⟨a1, len1, cap1, rfl⟩ := okWide_slice Tryd.underlying22 (hval 1 22 v1 rfl rfl)
  have k1 := h1
  have lt1 : ∀ x ∈ p1, x.block < W.heap.size := by obtain ⟨m, hm⟩ := k1; exact DataW.trod_lt m _ _ _ hm
  obtain ⟨z1, w1⟩ := row_of_trod h1
  obtain ⟨xs1, rfl, hl1, hm1, hd1⟩ := row_dat w1
  clear hA0 hval0
  refine (walk a0 xs0 cap0 a1 xs1 cap1 W (glob_of_laid hL) hd0 (by omega) hd1 (by omega)).mono fun e W' ⟨he, bel⟩ => ?_
  subst he
  exact ⟨_, rfl, _, _, _, [], _, [], hW', trodAll_mk1 (shut_bool Tryd.underlying4 _), (trodAll_cons_mk (Below.trod laidOut (by kernel_rfl) (of_decide_eq_true (by kernel_rfl)) k0 bel lt0) (trodAll_cons_mk (Below.trod laidOut (by kernel_rfl) (of_decide_eq_true (by kernel_rfl)) k1 bel lt1) trodAll_mk0)), rfl, bel.frame _, fun h => by cases h⟩

theorem over : Rows.matchTwiceRow.holds Tryd.pinned (OpenSpec.ofChange Rows.matchTwiceSpec) :=
  OpenClaim.holds_of_wide 5 Tryd.f5 rfl rfl rfl rfl rfl rfl rfl ⟨rfl, rfl, rfl, rfl, rfl⟩ rfl rfl rfl rfl rfl (by kernel_rfl) Tryd.func5 (by kernel_rfl)
    (of_decide_eq_true (by kernel_rfl)) (by unfold Func.isWrapper; first | (rw [if_pos (by decide +kernel)]; kernel_rfl) | (rw [if_neg (by decide +kernel)]; exact ⟨rfl, rfl⟩))
    (fun os started H enc _ => lifted os started H enc)

/-- ████ THE STATEMENT ████ -/
theorem proved : Rows.MatchTwiceCardSaid :=
  Claim7.holds_tied_plain_at .later [] [.data] true Rows.matchTwiceCard.stood.harness false
    over (fun _ h => by cases h) (by kernel_rfl) (fun _ h => by cases h) matchTwice_row_tie rfl ⟨rfl, rfl⟩ (by kernel_rfl) rfl
    (fun f fn hf hfn => by
      obtain rfl : f = 5 := Option.some.inj ((show Tryd.prog.funcNamed Rows.matchTwiceRow.func = some 5 by kernel_rfl).symm.trans hf) |>.symm
      obtain rfl : fn = Tryd.f5 := (Option.some.inj (Tryd.func5.symm.trans hfn)).symm
      exact ⟨by kernel_rfl, fun j t ht => by
        rw [Tryd.params5] at ht
        have hm : t ∈ [22, 22] := by
          have := Array.mem_of_getElem? ht
          simp at this
          simpa using this
        have hall : ([22, 22].all fun u => !Tryd.prog.wantsStandIn u) = true := by kernel_rfl
        exact (show Tryd.prog.wantsStandIn t = false by simpa using List.all_eq_true.1 hall t hm)⟩)
    (by kernel_rfl)
#print axioms proved
end Go.Proofs.YtfaonmggiffemaaDoor.matchTwice
