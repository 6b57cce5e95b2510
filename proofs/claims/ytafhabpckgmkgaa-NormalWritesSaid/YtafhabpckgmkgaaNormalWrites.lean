
/- NormalWrites holds: for all counts and every int the law returns true, and the counts' slice reads behind the call as it read before. No condition. -/
import Derived.Test.YtafhabpckgmkgaaNormCounts
import Derived.Test.YtafhabpckgmkgaaNormRefR
namespace Go.Proofs.Ytafhabpckgmkgaa.normalWrites
open Go.ChangeShapes Go.WideShapes Go.ChangeAt Go.RowKit

theorem cells2 {W wn : World} {b B : Nat} {x v : Value} (hB : Below B W wn) (h1 : b < B) (h : W.cell? ⟨b, 0, none⟩ = some x ∧ W.cell? ⟨b, 1, none⟩ = some v) : wn.cell? ⟨b, 0, none⟩ = some x ∧ wn.cell? ⟨b, 1, none⟩ = some v :=
  ⟨(hB.cell (p := ⟨b, 0, none⟩) h1).trans h.1, (hB.cell (p := ⟨b, 1, none⟩) h1).trans h.2⟩

set_option maxRecDepth 100000 in
set_option maxHeartbeats 8000000 in
theorem walk (lg : Int) (a0 : Option Addr) (ns : List Int) (cap0 : Nat) (most : Int) (w : World) (hlg : -9223372036854775808 ≤ lg ∧ lg ≤ 9223372036854775807) (hd : DatE icel w 0 w.heap.size a0 ns) (hl : ns.length ≤ cap0) (hm : ns.length ≤ maxLen)
    (hb : ∀ n ∈ ns, -9223372036854775808 ≤ n ∧ n ≤ 9223372036854775807) (hmost : -9223372036854775808 ≤ most ∧ most ≤ 9223372036854775807) :
    Calls Try.prog 4 #[.agg #[.int .i64 lg, .slice a0 ns.length cap0], .int .i64 most] w fun e w' => e = .returned (.bool true) ∧ Below w.heap.size w w' := by
  have hm9 := hm
  unfold maxLen at hm9
  obtain ⟨hlg1, hlg2⟩ := hlg
  obtain ⟨hmo1, hmo2⟩ := hmost
  have HBd := Lib.hid hb
  obtain ⟨n, hn⟩ : ∃ n, n = ns.length := ⟨_, rfl⟩
  rw [← hn] at hl hm hm9 ⊢
  have HN := Lib.hid hn.symm
  have HD0 := Lib.hid (hd.alloc (Nat.le_refl _) (.cells #[.int .i64 lg, .slice a0 n cap0] 26))
  have HX0 := Lib.hid (Box.new w 26 #[.int .i64 lg, .slice a0 n cap0])
  clear hd hb hn
  go_enter Try.func4, Try.ntmps4
  go_wp2_with fail
  refine (awake_any _).mono ?_
  rintro e w1 ⟨rfl, hB⟩
  have hs1 := hB.size
  simp only [World.size_alloc] at hs1
  have HX1 := Lib.hid (HX0.out.below hB (by simp))
  have HD1 := Lib.hid (HD0.out.below hB (by simp))
  have HB1 : Hid (Below w.heap.size w w1) := ((Below.refl _ _).alloc (Nat.le_refl _) _).trans (hB.mono (by simp))
  clear hB
  obtain ⟨c0, c1, f0, f1⟩ := box2 HX1.out
  by_cases h300 : 300 < n
  · have h3 : (300 : Int) < (n : Int) := by omega
    go_wp2_with fail
    go_ret
    exact ⟨rfl, HB1.out⟩
  · have h3 : ¬ (300 : Int) < (n : Int) := by omega
    go_wp2_with fail
    refine (check_any (c := cap0) lg most HD1.out HN.out hl hm (by omega) HBd.out).mono ?_
    rintro e w2 ⟨rfl, hB⟩
    have hs2 := hB.size
    have HX2 := Lib.hid (HX1.out.below hB (by omega))
    have HD2 := Lib.hid (HD1.out.below hB (by omega))
    have HB2 : Hid (Below w.heap.size w w2) := HB1.out.trans (hB.mono (by omega))
    clear hB c0 c1 f0 f1
    obtain ⟨c0, c1, f0, f1⟩ := box2 HX2.out
    generalize hck : chk lg ns most = CK
    have HCk := Lib.hid hck
    clear hck
    go_wp2_with fail
    refine (write_post (c := cap0) lg HD2.out HN.out hl hm (by omega) HBd.out).mono ?_
    rintro e w3 ⟨hB, hor⟩
    have hs3 := hB.size
    have HX3 := Lib.hid (HX2.out.below hB (by omega))
    have HD3 := Lib.hid (HD2.out.below hB (by omega))
    have HB3 : Hid (Below w.heap.size w w3) := HB2.out.trans (hB.mono (by omega))
    clear hB c0 c1 f0 f1
    obtain ⟨c0, c1, f0, f1⟩ := box2 HX3.out
    have HMod := Lib.hid (modelOf_any lg a0 n cap0)
    have HChk : Hid (∀ wz, Below (w.heap.size + 1) w3 wz → w.heap.size + 1 ≤ wz.heap.size → Calls Try.prog 15 #[.agg #[.int .i64 lg, .slice a0 n cap0], .int .i64 most] wz fun e w' => e = .returned (.int .i64 CK) ∧ Below wz.heap.size wz w') := by
      intro wz hz hzs
      have h9 := refCheck_any (c := cap0) (w := wz) lg most (HD3.out.below hz (by omega)) HN.out hl hm (by omega) HBd.out
      rw [HCk.out] at h9
      exact h9
    generalize hmb : mayB lg ns = MB at hor
    have HMay : Hid (∀ wz, Below (w.heap.size + 1) w3 wz → w.heap.size + 1 ≤ wz.heap.size → Calls Try.prog 16 #[.agg #[.int .i64 lg, .slice a0 n cap0]] wz fun e w' => e = .returned (.bool MB) ∧ Below wz.heap.size wz w') := by
      intro wz hz hzs
      have h9 := refMay_any (c := cap0) (w := wz) lg (HD3.out.below hz (by omega)) HN.out hl hm (by omega) HBd.out
      rw [hmb] at h9
      exact h9
    have hck9 : (CK == CK) = true := by simp
    rcases hor with ⟨rfl, vb, rfl, hob⟩ | ⟨rfl, rfl⟩
    · have HM := Lib.hid hmb
      obtain ⟨l, rfl⟩ := Int.eq_ofNat_of_zero_le (show 0 ≤ lg by have := (mayB_iff.1 hmb).1; omega)
      have hl15 := (mayB_iff.1 hmb).2.1
      have hn256 := (mayB_iff.1 hmb).2.2.2.1
      rw [HN.out] at hn256
      rw [show ((l : Nat) : Int).toNat = l by omega] at hob
      obtain ⟨Ab, cb, rfl, hcb, hdb⟩ := hob.form
      have hbl := wrC_bound hmb
      have HDb := Lib.hid hdb
      have hR0 := rdC_back (log := (l : Int)) hmb (most := 15) (sy := 256) (by omega) (by have := HN.out; omega) []
      rw [List.append_nil, show ((l : Nat) : Int).toNat = l by omega] at hR0
      have HR0 := Lib.hid hR0
      have HLe : Hid ((((wrC l ns).length + 7) / 8 : Nat) = (bytesOf (wrC l ns)).length) := (wrC_len l ns).symm
      clear hmb hob hdb hcb hR0
      generalize bytesOf (wrC l ns) = X at *
      obtain ⟨Wl, hWl⟩ : ∃ Wl, Wl = (wrC l ns).length := ⟨_, rfl⟩
      rw [← hWl] at hbl HLe HR0
      obtain ⟨L, hL⟩ : ∃ L, L = X.length := ⟨_, rfl⟩
      rw [← hL] at HLe ⊢
      have HL := Lib.hid hL.symm
      clear hWl hL
      have hL5 : L ≤ 100000 := by have := HLe.out; omega
      have h00 : w.heap.size + 1 ≤ w3.heap.size := by omega
      have HBr : Hid (Below w3.heap.size w3 w3) := Below.refl _ _
      go_wp2_with fail
      refine (HMod.out _).mono ?_
      rintro e wa ⟨rfl, hB⟩
      have HB8 := Lib.hid hB
      have hsa := hB.size
      have HX8 := Lib.hid (HX3.out.below hB (by omega))
      clear hB c0 c1 f0 f1
      obtain ⟨c0, c1, f0, f1⟩ := box2 HX8.out
      go_wp2_with fail
      refine (HChk.out _ (HB8.out.mono h00) (by omega)).mono ?_
      rintro e wb ⟨rfl, hB⟩
      have HB8 := Lib.hid (HB8.out.trans (hB.mono hsa))
      have hsb := HB8.out.size
      have HX8 := Lib.hid (HX3.out.below HB8.out (by omega))
      clear hB c0 c1 f0 f1
      obtain ⟨c0, c1, f0, f1⟩ := box2 HX8.out
      go_wp2_with fail
      refine (HMod.out _).mono ?_
      rintro e wc ⟨rfl, hB⟩
      have HB8 := Lib.hid (HB8.out.trans (hB.mono hsb))
      have hsc := HB8.out.size
      have HX8 := Lib.hid (HX3.out.below HB8.out (by omega))
      clear hB c0 c1 f0 f1
      obtain ⟨c0, c1, f0, f1⟩ := box2 HX8.out
      go_wp2_with fail
      refine (HMay.out _ (HB8.out.mono h00) (by omega)).mono ?_
      rintro e w4 ⟨rfl, hB⟩
      have HB8 := Lib.hid (HB8.out.trans (hB.mono hsc))
      clear hB
      have HB4 : Hid (Below w.heap.size w w4) := HB3.out.trans (HB8.out.mono (by omega))
      have hs4 := HB8.out.size
      have HX4 := Lib.hid (HX3.out.below HB8.out (by omega))
      have HD4 := Lib.hid (HD3.out.below HB8.out (by omega))
      have HDb4 := Lib.hid (HDb.out.below HB8.out (Nat.le_refl _))
      clear c0 c1 f0 f1
      have hcv := run_str (P := Try.prog) w4 22 Try.underlying22 Try.underlying5 (c := cb) HDb4.out HL.out 9 Try.underlying9
      go_wp2_with fail
      refine (refRead6_any (str X) (xs := X) (by simp [str]) 15 256 w4 (by have := HL.out; omega) HR0.out).mono ?_
      rintro e w5 ⟨hB, vd, rfl, hod⟩
      rw [HLe.out]
      obtain ⟨Ad, cd, rfl, hcd, hdd⟩ := hod.form
      rw [HN.out] at hcd ⊢
      have hs5 := hB.size
      have HB5 : Hid (Below w.heap.size w w5) := HB4.out.trans (hB.mono (by omega))
      have HX5 := Lib.hid (HX4.out.below hB (by omega))
      have HD5 := Lib.hid (HD4.out.below hB (by omega))
      have HDb5 := Lib.hid (HDb4.out.below hB (by omega))
      have HDd := Lib.hid hdd
      clear hB hod hdd hcv
      have HXd := Lib.hid (Box.new w5 30 #[.int .i64 (l : Int), .slice Ad n cd])
      have HR1 : Hid (rdC (bitsOf X) 15 256 = .ok (l, ns, Wl)) := HR0.out
      have HC6 := Lib.hid (read_any (n := L) (c := cb) 15 256 (HDb5.out.alloc (by omega) (.cells #[.int .i64 (l : Int), .slice Ad n cd] 30)) HL.out (by have := HL.out; omega) (by simp; omega) HR1.out)
      go_wp2_with fail
      refine HC6.out.mono ?_
      rintro e w6 ⟨hB, vx, rfl, hox⟩
      rw [HLe.out]
      obtain ⟨Ax, cx, rfl, hcx, hdx⟩ := hox.form
      rw [HN.out] at hcx ⊢
      have hs6 := hB.size
      simp only [World.size_alloc] at hs6
      have HB6 : Hid (Below w.heap.size w w6) := (HB5.out.alloc (by omega) _).trans (hB.mono (by simp; omega))
      have HX6 := Lib.hid ((HX5.out.alloc _).below hB (by simp; omega))
      have HXd6 := Lib.hid (HXd.out.below hB (by simp))
      have HD6 := Lib.hid ((HD5.out.alloc (by omega) _).below hB (by simp; omega))
      have HDd6 := Lib.hid ((HDd.out.alloc (Nat.le_refl _) _).below hB (by simp))
      have HDx := Lib.hid hdx
      clear hB hox hdx
      have HSame1 : Hid (∀ wz, Below (w6.heap.size + 1) (w6.alloc (.cells #[.int .i64 (l : Int), .slice Ax n cx] 26)) wz → Calls Try.prog 11 #[.agg #[.int .i64 (l : Int), .slice a0 n cap0], .agg #[.int .i64 (l : Int), .slice Ad n cd]] wz fun e w' => e = .returned (.bool true) ∧ Below wz.heap.size wz w') := by
        intro wz hz
        have hzs := hz.size
        simp only [World.size_alloc] at hzs
        exact same_yes l ((HD6.out.alloc (by omega) _).below hz (by omega)) ((HDd6.out.alloc (by omega) _).below hz (by omega)) HN.out (by omega) (by omega) (by omega)
      have HSame2 : Hid (∀ wz, Below (w6.heap.size + 1) (w6.alloc (.cells #[.int .i64 (l : Int), .slice Ax n cx] 26)) wz → Calls Try.prog 11 #[.agg #[.int .i64 (l : Int), .slice Ax n cx], .agg #[.int .i64 (l : Int), .slice Ad n cd]] wz fun e w' => e = .returned (.bool true) ∧ Below wz.heap.size wz w') := by
        intro wz hz
        have hzs := hz.size
        simp only [World.size_alloc] at hzs
        exact same_yes l ((HDx.out.alloc (Nat.le_refl _) _).below hz (by omega)) ((HDd6.out.alloc (by omega) _).below hz (by omega)) HN.out (by omega) (by omega) (by omega)
      have HT1 : Hid ((w6.alloc (.cells #[.int .i64 (l : Int), .slice Ax n cx] 26)).cell? ⟨w.heap.size, 0, none⟩ = some (.int .i64 (l : Int)) ∧ (w6.alloc (.cells #[.int .i64 (l : Int), .slice Ax n cx] 26)).cell? ⟨w.heap.size, 1, none⟩ = some (.slice a0 n cap0)) := ⟨(HX6.out.alloc _).cell 0, (HX6.out.alloc _).cell 1⟩
      have HT2 : Hid ((w6.alloc (.cells #[.int .i64 (l : Int), .slice Ax n cx] 26)).cell? ⟨w5.heap.size, 0, none⟩ = some (.int .i64 (l : Int)) ∧ (w6.alloc (.cells #[.int .i64 (l : Int), .slice Ax n cx] 26)).cell? ⟨w5.heap.size, 1, none⟩ = some (.slice Ad n cd)) := ⟨(HXd6.out.alloc _).cell 0, (HXd6.out.alloc _).cell 1⟩
      have HT3 : Hid ((w6.alloc (.cells #[.int .i64 (l : Int), .slice Ax n cx] 26)).cell? ⟨w6.heap.size, 0, none⟩ = some (.int .i64 (l : Int)) ∧ (w6.alloc (.cells #[.int .i64 (l : Int), .slice Ax n cx] 26)).cell? ⟨w6.heap.size, 1, none⟩ = some (.slice Ax n cx)) := ⟨(Box.new w6 _ _).cell 0, (Box.new w6 _ _).cell 1⟩
      have HBz : Hid (Below w.heap.size w (w6.alloc (.cells #[.int .i64 (l : Int), .slice Ax n cx] 26))) := HB6.out.alloc (by omega) _
      have q1 : w.heap.size < w6.heap.size + 1 := by omega
      have q2 : w5.heap.size < w6.heap.size + 1 := by omega
      have q3 : w6.heap.size < w6.heap.size + 1 := by omega
      have hs0 : w.heap.size ≤ w6.heap.size + 1 := by omega
      have hW0 : w6.heap.size + 1 ≤ (w6.alloc (.cells #[.int .i64 (l : Int), .slice Ax n cx] 26)).heap.size := by simp
      obtain ⟨t0, t1⟩ := HT1.out
      obtain ⟨t2, t3⟩ := HT2.out
      obtain ⟨t4, t5⟩ := HT3.out
      have hLL : ((L : Int) == (L : Int)) = true := by simp
      go_wp2_with fail
      generalize w6.alloc (.cells #[.int .i64 (l : Int), .slice Ax n cx] 26) = W0 at *
      generalize w6.heap.size = b6 at *
      generalize w5.heap.size = b5 at *
      have HB : Hid (Below (b6 + 1) W0 W0.drew) := (Below.refl _ _).drew
      go_region_held3 (fun w' => w'.cell? ⟨w.heap.size, 0, none⟩ = some (.int .i64 (l : Int)) ∧ w'.cell? ⟨w.heap.size, 1, none⟩ = some (.slice a0 n cap0) ∧ w'.cell? ⟨b5, 0, none⟩ = some (.int .i64 (l : Int)) ∧ w'.cell? ⟨b5, 1, none⟩ = some (.slice Ad n cd) ∧ w'.cell? ⟨b6, 0, none⟩ = some (.int .i64 (l : Int)) ∧ w'.cell? ⟨b6, 1, none⟩ = some (.slice Ax n cx)) (first | exact ⟨t0, t1, t2, t3, t4, t5⟩ | exact ⟨s0, s1, s2, s3, s4, s5⟩ | go_keep) (first | (go_at_call 12; refine (modelOf_any _ _ _ _ _).mono ?_; rintro e' wn ⟨rfl, hB⟩; have HB := Lib.hid (HB.out.trans (hB.mono (Nat.le_trans hW0 HB.out.size))); obtain ⟨s0, s1⟩ := cells2 HB.out q1 HT1.out; obtain ⟨s2, s3⟩ := cells2 HB.out q2 HT2.out; obtain ⟨s4, s5⟩ := cells2 HB.out q3 HT3.out; clear hB) | (go_at_call 11; (with_reducible refine (HSame1.out _ HB.out).mono ?_); rintro e' wn ⟨rfl, hB⟩; have HB := Lib.hid (HB.out.trans (hB.mono (Nat.le_trans hW0 HB.out.size))); obtain ⟨s0, s1⟩ := cells2 HB.out q1 HT1.out; obtain ⟨s2, s3⟩ := cells2 HB.out q2 HT2.out; obtain ⟨s4, s5⟩ := cells2 HB.out q3 HT3.out; clear hB) | (go_at_call 11; (with_reducible refine (HSame2.out _ HB.out).mono ?_); rintro e' wn ⟨rfl, hB⟩; have HB := Lib.hid (HB.out.trans (hB.mono (Nat.le_trans hW0 HB.out.size))); obtain ⟨s0, s1⟩ := cells2 HB.out q1 HT1.out; obtain ⟨s2, s3⟩ := cells2 HB.out q2 HT2.out; obtain ⟨s4, s5⟩ := cells2 HB.out q3 HT3.out; clear hB))
      all_goals
        go_wp2_with fail
        go_ret
        exact ⟨rfl, HBz.out.trans (HB.out.mono hs0)⟩
    · have h00 : w.heap.size + 1 ≤ w3.heap.size := by omega
      have HBr : Hid (Below w3.heap.size w3 w3) := Below.refl _ _
      go_wp2_with fail
      refine (HMod.out _).mono ?_
      rintro e wa ⟨rfl, hB⟩
      have HB8 := Lib.hid hB
      have hsa := hB.size
      have HX8 := Lib.hid (HX3.out.below hB (by omega))
      clear hB c0 c1 f0 f1
      obtain ⟨c0, c1, f0, f1⟩ := box2 HX8.out
      go_wp2_with fail
      refine (HChk.out _ (HB8.out.mono h00) (by omega)).mono ?_
      rintro e wb ⟨rfl, hB⟩
      have HB8 := Lib.hid (HB8.out.trans (hB.mono hsa))
      have hsb := HB8.out.size
      have HX8 := Lib.hid (HX3.out.below HB8.out (by omega))
      clear hB c0 c1 f0 f1
      obtain ⟨c0, c1, f0, f1⟩ := box2 HX8.out
      go_wp2_with fail
      refine (HMod.out _).mono ?_
      rintro e wc ⟨rfl, hB⟩
      have HB8 := Lib.hid (HB8.out.trans (hB.mono hsb))
      have hsc := HB8.out.size
      have HX8 := Lib.hid (HX3.out.below HB8.out (by omega))
      clear hB c0 c1 f0 f1
      obtain ⟨c0, c1, f0, f1⟩ := box2 HX8.out
      go_wp2_with fail
      refine (HMay.out _ (HB8.out.mono h00) (by omega)).mono ?_
      rintro e w4 ⟨rfl, hB⟩
      have HB8 := Lib.hid (HB8.out.trans (hB.mono hsc))
      clear hB
      go_wp2_with fail
      go_ret
      exact ⟨rfl, HB3.out.trans (HB8.out.mono (by omega))⟩


set_option maxRecDepth 100000 in
theorem lifted (os : Os) (started : os.Started) (H : Type) (enc : TypeId × Value → H) :
    ReturnsInHanded {} Try.checked os 4 .any (Rows.normalWritesSpec.pre6 enc Try.prog Try.f4 Rows.normalWritesRow.domain false) (Rows.normalWritesSpec.post enc Try.prog Try.f4 false true false false) := by
  refine returnsInHanded_of_change (C := Try.checked) own started (by kernel_rfl) Try.func4
    (ChangeSpec.witness6 (enc := enc) (C := Try.checked) false ⟨#[], #[.agg #[.int .i64 0, .slice none 0 0], .int .i64 0], []⟩ 8 (by kernel_rfl) (by kernel_rfl) (by kernel_rfl) (by kernel_rfl)) ?_
  intro W base args ds gs before hval0 hW hcnd _
  have hval : ∀ (j : Nat) t v, Try.f4.params[j]? = some t → args[j]? = some v → Value.okWide Try.prog W .any base t v := hval0
  have hW' := hW
  obtain ⟨p, q, hA0, hV, rfl, hfz, hnd⟩ := hW
  have hA : DataW.TrodAll enc Try.prog W 0 (fun _ => true) true Try.f4.params.toList args.toList ds p := hA0
  rw [Try.params4] at hA hval
  obtain ⟨v0, vs0, d0, ds0, p0, q0, hargs, rfl, rfl, h0, r0⟩ := trodAll_cons hA
  obtain ⟨v1, vs1, d1, ds1, p1, q1, rfl, rfl, rfl, h1, r1⟩ := trodAll_cons r0
  obtain ⟨rfl, rfl, rfl⟩ := trodAll_nil r1
  obtain rfl : args = #[v0, v1] := by cases args; simp_all
  obtain ⟨rfl, rfl⟩ := trodVars_none hV
  have k0 := h0
  have lt0 : ∀ x ∈ p0, x.block < W.heap.size := by obtain ⟨m, hm⟩ := k0; exact DataW.trod_lt m _ _ _ hm
  obtain ⟨l0, a0, ns0, cap0, rfl, wl0, hl0, hm0, hd0, hb0⟩ := counts_of (hval 0 26 v0 rfl rfl) h0
  obtain ⟨n1, rfl, rfl, rfl, w1⟩ := open_int Try.underlying3 (hval 1 3 v1 rfl rfl) h1
  clear hA0 hval0
  refine (walk l0 a0 ns0 cap0 n1 W wl0 hd0 hl0 (by omega) hb0 (int_bounds w1)).mono fun e W' ⟨he, bel⟩ => ?_
  subst he
  exact ⟨_, rfl, _, _, _, [], _, [], hW', trodAll_mk1 (shut_bool Try.underlying4 _), (trodAll_cons_mk (Below.trod laidOut (by kernel_rfl) (of_decide_eq_true (by kernel_rfl)) k0 bel lt0) (trodAll_cons_mk (shut_int Try.underlying3 w1) trodAll_mk0)), rfl, bel.frame _, fun h => by cases h⟩

theorem over : Rows.normalWritesRow.holds Try.pinned (OpenSpec.ofChange Rows.normalWritesSpec) :=
  OpenClaim.holds_of_wide 4 Try.f4 rfl rfl rfl rfl rfl rfl rfl ⟨rfl, rfl, rfl, rfl, rfl⟩ rfl rfl rfl rfl rfl (by kernel_rfl) Try.func4 (by kernel_rfl)
    (of_decide_eq_true (by kernel_rfl)) (by unfold Func.isWrapper; first | (rw [if_pos (by decide +kernel)]; kernel_rfl) | (rw [if_neg (by decide +kernel)]; exact ⟨rfl, rfl⟩))
    (fun os started H enc _ => lifted os started H enc)

theorem proved : Rows.NormalWritesSaid := over
end Go.Proofs.Ytafhabpckgmkgaa.normalWrites
