
/- NormalReads: for all bytes and every two ints the law returns true. -/
import Derived.Test.YtafhabpckgmkgaaNormTail
import Derived.Test.YtafhabpckgmkgaaNormRefR
import Derived.Test.YtafhabpckgmkgaaNormArgs
namespace Go.Proofs.Ytafhabpckgmkgaa.normalReads
open Go.ChangeShapes Go.WideShapes Go.ChangeAt Go.RowKit

/-- The four that an answer of Read holds. -/
def lgOf : Except Int (Nat × List Int × Nat) → Nat
  | .ok (l, _, _) => l
  | .error _ => 0
def psOf : Except Int (Nat × List Int × Nat) → List Int
  | .ok (_, ps, _) => ps
  | .error _ => []
def mOf : Except Int (Nat × List Int × Nat) → Nat
  | .ok (_, _, a) => (a + 7) / 8
  | .error _ => 0
def erOf : Except Int (Nat × List Int × Nat) → Int
  | .ok _ => 0
  | .error e => e
theorem post_cod {R : Except Int (Nat × List Int × Nat)} {w w' : World} {e : Ending} (h : ReadPost R w e w') :
    Below w.heap.size w w' ∧ ∃ v, e = .returned (.tuple #[.agg #[.int .i64 (lgOf R : Int), v], .int .i64 (mOf R : Nat), .int .i64 (erOf R)]) ∧ OwE icel w' 3 w.heap.size v (psOf R) := by
  obtain ⟨hB, h⟩ := h
  cases R with
  | error er => exact ⟨hB, .slice none 0 0, h, OwE.nil _ _ _ _⟩
  | ok r =>
    obtain ⟨l, ps, a⟩ := r
    exact ⟨hB, h⟩
theorem told {L : List Bool} {most sy : Int} (h0 : 0 ≤ sy) :
    ((psOf (rdC L most sy)).length : Int) ≤ sy ∧ lgOf (rdC L most sy) ≤ 15 ∧ 0 ≤ erOf (rdC L most sy) ∧ erOf (rdC L most sy) ≤ 12 ∧
    (erOf (rdC L most sy) = 0 → sy ≤ 256 → mayB (lgOf (rdC L most sy) : Int) (psOf (rdC L most sy)) = true ∧ (lgOf (rdC L most sy) : Int) ≤ most) := by
  cases hR : rdC L most sy with
  | ok r =>
    obtain ⟨l, ps, a⟩ := r
    have hl : (ps.length : Int) ≤ sy ∧ l ≤ 15 := by
      have h := hR
      unfold rdC at h
      split at h
      · cases h
      · next x hx =>
        split at h
        · cases h
        · next hc =>
          split at h
          · cases h
          · next q a' hq =>
            simp only [Except.ok.injEq, Prod.mk.injEq] at h
            obtain ⟨h1, h2, _⟩ := h
            subst h1 h2
            obtain ⟨qs, e, h3, h4, h5⟩ := rdP_may _ hq
            simp only [List.nil_append] at e
            subst e
            exact ⟨(h5 (Nat.two_pow_pos (x + 5))).2.2, by omega⟩
    refine ⟨hl.1, hl.2, by simp [erOf], by simp [erOf], fun _ hs => ?_⟩
    obtain ⟨h1, _, h3⟩ := rdC_may hR hs
    exact ⟨h1, h3⟩
  | error er =>
    have he : er = 10 ∨ er = 11 ∨ er = 12 := by
      have h := hR
      unfold rdC at h
      split at h
      · injection h with h; omega
      · split at h
        · injection h with h; omega
        · split at h
          · next e' hq =>
            injection h with h
            subst h
            have := rdP_err _ hq
            omega
          · cases h
    refine ⟨by simpa [psOf] using h0, by simp [lgOf], by simp only [erOf]; omega, by simp only [erOf]; omega, fun h => ?_⟩
    simp only [erOf] at h
    omega

set_option maxRecDepth 100000 in
set_option maxHeartbeats 8000000 in
theorem walk (a0 : Option Addr) (xs : List UInt8) (cap0 : Nat) (most sy : Int) (w : World) (hd : Dat false w 0 w.heap.size a0 xs) (hm : xs.length ≤ maxLen)
    (hmo : -9223372036854775808 ≤ most ∧ most ≤ 9223372036854775807) (hsy : -9223372036854775808 ≤ sy ∧ sy ≤ 9223372036854775807) :
    Calls Try.prog 3 #[.slice a0 xs.length cap0, .int .i64 most, .int .i64 sy] w fun e w' => e = .returned (.bool true) ∧ Below w.heap.size w w' := by
  unfold maxLen at hm
  obtain ⟨hmo1, hmo2⟩ := hmo
  obtain ⟨hsy1, hsy2⟩ := hsy
  have HD := Lib.hid hd
  obtain ⟨n, hn⟩ : ∃ n, n = xs.length := ⟨_, rfl⟩
  rw [← hn] at hm ⊢
  have HN := Lib.hid hn.symm
  clear hd hn
  by_cases hg : 300 < n ∨ sy < 0 ∨ 1000 < sy
  · go_enter Try.func3, Try.ntmps3
    go_wp2_with fail
    refine (awake_any _).mono ?_
    rintro e w1 ⟨rfl, hB⟩
    have HB1 := Lib.hid hB
    clear hB
    by_cases h1 : 300 < n
    · have h1' : (300 : Int) < (n : Int) := by omega
      go_wp2_with fail
      go_ret
      exact ⟨rfl, HB1.out⟩
    · have h1' : decide ((300 : Int) < (n : Int)) = false := by simp; omega
      by_cases h2 : sy < 0
      · have h2' : decide (sy < 0) = true := by simpa using h2
        go_wp2_with fail
        go_ret
        exact ⟨rfl, HB1.out⟩
      · have h2' : decide (sy < 0) = false := by simpa using h2
        have h3 : (1000 : Int) < sy := by omega
        have h3' : decide ((1000 : Int) < sy) = true := by simpa using h3
        go_wp2_with fail
        go_ret
        exact ⟨rfl, HB1.out⟩
  · have hn3 : n ≤ 300 := by omega
    have hs0 : 0 ≤ sy := by omega
    have hs1k : sy ≤ 1000 := by omega
    have h1' : decide ((300 : Int) < (n : Int)) = false := by simp; omega
    have h2' : decide (sy < 0) = false := by simp; omega
    have h3' : decide ((1000 : Int) < sy) = false := by simp; omega
    clear hg
    obtain ⟨R, hR⟩ : ∃ R, R = rdC (bitsOf xs) most sy := ⟨_, rfl⟩
    obtain ⟨t1, t2, t3, t4, t5⟩ := told (L := bitsOf xs) (most := most) hs0
    rw [← hR] at t1 t2 t3 t4 t5
    have HR := Lib.hid hR.symm
    have HT5 := Lib.hid t5
    clear hR t5
    obtain ⟨np, hnp⟩ : ∃ np, np = (psOf R).length := ⟨_, rfl⟩
    rw [← hnp] at t1
    have HNp := Lib.hid hnp.symm
    clear hnp
    go_enter Try.func3, Try.ntmps3
    go_wp2_with fail
    refine (awake_any _).mono ?_
    rintro e w1 ⟨rfl, hB⟩
    have HB1 := Lib.hid hB
    have hz1 := hB.size
    clear hB
    go_wp2_with fail
    refine (read_any (n := n) (c := cap0) most sy (HD.out.below HB1.out (Nat.le_refl _)) HN.out (by have := HN.out; omega) hz1 HR.out).mono ?_
    intro e w2 hp
    obtain ⟨hB, v, rfl, ho⟩ := post_cod hp
    obtain ⟨A2, c2, rfl, hc2, hdd⟩ := ho.form
    rw [HNp.out] at hc2 ⊢
    have HB2 := Lib.hid (HB1.out.trans (hB.mono hz1))
    have hz2 := HB2.out.size
    have HD2 := Lib.hid hdd
    obtain ⟨lg, hlg⟩ : ∃ lg, lg = lgOf R := ⟨_, rfl⟩
    obtain ⟨er, her⟩ : ∃ er, er = erOf R := ⟨_, rfl⟩
    obtain ⟨mm, hmm⟩ : ∃ mm, mm = mOf R := ⟨_, rfl⟩
    have HLg := Lib.hid hlg.symm
    have HEr := Lib.hid her.symm
    have HMm := Lib.hid hmm.symm
    rw [← hlg] at t2 ⊢
    rw [← her] at t3 t4 ⊢
    rw [← hmm]
    clear hB hp ho hdd hlg her hmm
    have HX2 := Lib.hid (Box.new w2 26 #[.int .i64 (lg : Int), .slice A2 np c2])
    have HDx : Hid (Dat false (w2.alloc (.cells #[.int .i64 (lg : Int), .slice A2 np c2] 26)) 0 w.heap.size a0 xs) := (HD.out.below HB2.out (Nat.le_refl _)).alloc hz2 _
    have hcv := run_str (P := Try.prog) (w2.alloc (.cells #[.int .i64 (lg : Int), .slice A2 np c2] 26)) 22 Try.underlying22 Try.underlying5 (c := cap0) HDx.out HN.out 9 Try.underlying9
    go_wp2_with fail
    refine (refRead6_any (str xs) (xs := xs) (by simp [str]) most sy _ (by have := HN.out; omega) HR.out).mono ?_
    intro e w3 hp
    obtain ⟨hB, v, rfl, ho⟩ := post_cod hp
    obtain ⟨A3, c3, rfl, hc3, hdd⟩ := ho.form
    rw [HNp.out] at hc3 ⊢
    rw [HLg.out, HEr.out, HMm.out]
    have hz3 := hB.size
    simp only [World.size_alloc] at hz3
    have HX3 := Lib.hid (HX2.out.below hB (by simp))
    have HB3 := Lib.hid ((HB2.out.alloc hz2 (.cells #[.int .i64 (lg : Int), .slice A2 np c2] 26)).trans (hB.mono (by simp; omega)))
    have HD23 := Lib.hid ((HD2.out.alloc (Nat.le_refl _) (.cells #[.int .i64 (lg : Int), .slice A2 np c2] 26)).below hB (by simp))
    have HD3 := Lib.hid hdd
    clear hB hp ho hdd hcv
    have hnp1 : np ≤ 1000 := by omega
    have HSame : Hid (∀ wz, Below (w3.heap.size + 1) (w3.alloc (.cells #[.int .i64 (lg : Int), .slice A3 np c3] 30)) wz → Calls Try.prog 11 #[.agg #[.int .i64 (lg : Int), .slice A2 np c2], .agg #[.int .i64 (lg : Int), .slice A3 np c3]] wz fun e w' => e = .returned (.bool true) ∧ Below wz.heap.size wz w') := by
      intro wz hz
      have hzs := hz.size
      simp only [World.size_alloc] at hzs
      exact same_yes lg ((HD23.out.alloc (by omega) _).below hz (by omega)) ((HD3.out.alloc (Nat.le_refl _) _).below hz (by omega)) HNp.out (by omega) (by omega) (by omega)
    have HChk : Hid (er = 0 → sy ≤ 256 → ∀ wz, Below (w3.heap.size + 1) (w3.alloc (.cells #[.int .i64 (lg : Int), .slice A3 np c3] 30)) wz → Calls Try.prog 13 #[.agg #[.int .i64 (lg : Int), .slice A2 np c2], .int .i64 most] wz fun e w' => e = .returned (.int .i64 0) ∧ Below wz.heap.size wz w') := by
      intro he hs wz hz
      have hzs := hz.size
      simp only [World.size_alloc] at hzs
      have h5 := HT5.out (by rw [HEr.out]; exact he) hs
      rw [HLg.out] at h5
      have h9 := check_any (c := c2) (w := wz) lg most ((HD23.out.alloc (by omega) _).below hz (by omega)) HNp.out hc2 (by unfold maxLen; omega) (by omega) (may_bounds h5.1)
      rw [chk_ok h5.1 h5.2] at h9
      exact h9
    have HT : Hid ((w3.alloc (.cells #[.int .i64 (lg : Int), .slice A3 np c3] 30)).cell? ⟨w2.heap.size, 0, none⟩ = some (.int .i64 (lg : Int)) ∧ (w3.alloc (.cells #[.int .i64 (lg : Int), .slice A3 np c3] 30)).cell? ⟨w2.heap.size, 1, none⟩ = some (.slice A2 np c2) ∧ (w3.alloc (.cells #[.int .i64 (lg : Int), .slice A3 np c3] 30)).cell? ⟨w3.heap.size, 0, none⟩ = some (.int .i64 (lg : Int)) ∧ (w3.alloc (.cells #[.int .i64 (lg : Int), .slice A3 np c3] 30)).cell? ⟨w3.heap.size, 1, none⟩ = some (.slice A3 np c3)) :=
      ⟨(HX3.out.alloc _).cell 0, (HX3.out.alloc _).cell 1, (Box.new w3 _ _).cell 0, (Box.new w3 _ _).cell 1⟩
    have HBd : Hid (Below w.heap.size w (w3.alloc (.cells #[.int .i64 (lg : Int), .slice A3 np c3] 30))) := HB3.out.alloc (by omega) _
    have hb1 : w2.heap.size < w3.heap.size + 1 := by omega
    have hb2 : w3.heap.size < w3.heap.size + 1 := by omega
    have hs00 : w.heap.size ≤ w3.heap.size + 1 := by omega
    have hW0 : w3.heap.size + 1 ≤ (w3.alloc (.cells #[.int .i64 (lg : Int), .slice A3 np c3] 30)).heap.size := by simp
    obtain ⟨u0, u1, u2, u3⟩ := HT.out
    have hqm : ((mm : Int) == (mm : Int)) = true := by simp
    have hqe : (er == er) = true := by simp
    go_wp2_with fail
    generalize w3.alloc (.cells #[.int .i64 (lg : Int), .slice A3 np c3] 30) = W0 at *
    generalize w3.heap.size = b2 at *
    generalize w2.heap.size = b1 at *
    have HB : Hid (Below (b2 + 1) W0 W0.drew) := (Below.refl _ _).drew
    go_region_held3 (fun w' => w'.cell? ⟨b1, 0, none⟩ = some (.int .i64 (lg : Int)) ∧ w'.cell? ⟨b1, 1, none⟩ = some (.slice A2 np c2) ∧ w'.cell? ⟨b2, 0, none⟩ = some (.int .i64 (lg : Int)) ∧ w'.cell? ⟨b2, 1, none⟩ = some (.slice A3 np c3)) (first | exact ⟨u0, u1, u2, u3⟩ | exact ⟨s0, s1, s2, s3⟩ | go_keep) (first | (go_at_call 12; refine (modelOf_any _ _ _ _ _).mono ?_; rintro e' wn ⟨rfl, hB⟩; have HB := Lib.hid (HB.out.trans (hB.mono (Nat.le_trans hW0 HB.out.size))); obtain ⟨s0, s1, s2, s3⟩ := cells4 HB.out hb1 hb2 HT.out; clear hB) | (go_at_call 11; refine (HSame.out _ HB.out).mono ?_; rintro e' wn ⟨rfl, hB⟩; have HB := Lib.hid (HB.out.trans (hB.mono (Nat.le_trans hW0 HB.out.size))); obtain ⟨s0, s1, s2, s3⟩ := cells4 HB.out hb1 hb2 HT.out; clear hB))
    all_goals
      by_cases he : er = 0
      · have he1 : (er == 0) = true := by simpa using he
        by_cases hs : 256 < sy
        · have hs1 : decide ((256 : Int) < sy) = true := by simpa using hs
          go_wp2_with fail
          go_ret
          exact ⟨rfl, HBd.out.trans (HB.out.mono hs00)⟩
        · have hs1 : decide ((256 : Int) < sy) = false := by simpa using hs
          have HCk := Lib.hid (HChk.out he (by omega))
          have hlq : decide ((np : Int) ≤ sy) = true := by simpa using t1
          clear u0 u1 u2 u3
          go_wp2_with fail
          refine (HCk.out _ HB.out).mono ?_
          rintro e' wn ⟨rfl, hB⟩
          have HB := Lib.hid (HB.out.trans (hB.mono (Nat.le_trans hW0 HB.out.size)))
          clear s0 s1 s2 s3 hB
          obtain ⟨r0, r1, _, _⟩ := cells4 HB.out hb1 hb2 HT.out
          go_wp2_with fail
          go_ret
          exact ⟨rfl, HBd.out.trans (HB.out.mono hs00)⟩
      · have he1 : (er == 0) = false := by simpa using he
        go_wp2_with fail
        go_ret
        exact ⟨rfl, HBd.out.trans (HB.out.mono hs00)⟩

set_option maxRecDepth 100000 in
theorem lifted (os : Os) (started : os.Started) (H : Type) (enc : TypeId × Value → H) :
    ReturnsInHanded {} Try.checked os 3 .any (Rows.normalReadsSpec.pre6 enc Try.prog Try.f3 Rows.normalReadsRow.domain false) (Rows.normalReadsSpec.post enc Try.prog Try.f3 false true false false) := by
  refine returnsInHanded_of_change (C := Try.checked) own started (by kernel_rfl) Try.func3
    (ChangeSpec.witness6 (enc := enc) (C := Try.checked) false ⟨#[], #[.slice none 0 0, .int .i64 0, .int .i64 0], []⟩ 8 (by kernel_rfl) (by kernel_rfl) (by kernel_rfl) (by kernel_rfl)) ?_
  intro W base args ds gs before hval0 hW hcnd _
  have hval : ∀ (j : Nat) t v, Try.f3.params[j]? = some t → args[j]? = some v → Value.okWide Try.prog W .any base t v := hval0
  have hW' := hW
  obtain ⟨p, q, hA0, hV, rfl, hfz, hnd⟩ := hW
  have hA : DataW.TrodAll enc Try.prog W 0 (fun _ => true) true Try.f3.params.toList args.toList ds p := hA0
  rw [Try.params3] at hA hval
  obtain ⟨v0, vs0, d0, ds0, p0, q0, hargs, rfl, rfl, h0, r0⟩ := trodAll_cons hA
  obtain ⟨v1, vs1, d1, ds1, p1, q1, rfl, rfl, rfl, h1, r1⟩ := trodAll_cons r0
  obtain ⟨v2, vs2, d2, ds2, p2, q2, rfl, rfl, rfl, h2, r2⟩ := trodAll_cons r1
  obtain ⟨rfl, rfl, rfl⟩ := trodAll_nil r2
  obtain rfl : args = #[v0, v1, v2] := by cases args; simp_all
  obtain ⟨rfl, rfl⟩ := trodVars_none hV
  obtain ⟨a0, len0, cap0, rfl⟩ := okWide_slice Try.underlying22 (hval 0 22 v0 rfl rfl)
  have k0 := h0
  have lt0 : ∀ x ∈ p0, x.block < W.heap.size := by obtain ⟨m, hm⟩ := k0; exact DataW.trod_lt m _ _ _ hm
  obtain ⟨z0, w0⟩ := row_of_trod h0
  obtain ⟨xs0, rfl, hl0, hm0, hd0⟩ := row_dat w0
  obtain ⟨n1, rfl, rfl, rfl, w1⟩ := open_int Try.underlying3 (hval 1 3 v1 rfl rfl) h1
  obtain ⟨n2, rfl, rfl, rfl, w2⟩ := open_int Try.underlying3 (hval 2 3 v2 rfl rfl) h2
  clear hA0 hval0
  refine (walk a0 xs0 cap0 n1 n2 W hd0 (by omega) (int_bounds w1) (int_bounds w2)).mono fun e W' ⟨he, bel⟩ => ?_
  subst he
  exact ⟨_, rfl, _, _, _, [], _, [], hW', trodAll_mk1 (shut_bool Try.underlying4 _), (trodAll_cons_mk (Below.trod laidOut (by kernel_rfl) (of_decide_eq_true (by kernel_rfl)) k0 bel lt0) (trodAll_cons_mk (shut_int Try.underlying3 w1) (trodAll_cons_mk (shut_int Try.underlying3 w2) trodAll_mk0))), rfl, bel.frame _, fun h => by cases h⟩

theorem over : Rows.normalReadsRow.holds Try.pinned (OpenSpec.ofChange Rows.normalReadsSpec) :=
  OpenClaim.holds_of_wide 3 Try.f3 rfl rfl rfl rfl rfl rfl rfl ⟨rfl, rfl, rfl, rfl, rfl⟩ rfl rfl rfl rfl rfl (by kernel_rfl) Try.func3 (by kernel_rfl)
    (of_decide_eq_true (by kernel_rfl)) (by unfold Func.isWrapper; first | (rw [if_pos (by decide +kernel)]; kernel_rfl) | (rw [if_neg (by decide +kernel)]; exact ⟨rfl, rfl⟩))
    (fun os started H enc _ => lifted os started H enc)

theorem proved : Rows.NormalReadsSaid := over
end Go.Proofs.Ytafhabpckgmkgaa.normalReads
