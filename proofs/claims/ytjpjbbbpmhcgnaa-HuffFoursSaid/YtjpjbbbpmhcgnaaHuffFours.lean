
/- HuffFours holds: for all slices of bytes the law returns true, and the slices read behind the call as they read before. No condition. -/
import Derived.Test.YtjpjbbbpmhcgnaaHufAwake
import Derived.Test.YtjpjbbbpmhcgnaaHufRefD
import Derived.Test.YtjpjbbbpmhcgnaaHufCoded
import Derived.Test.YtjpjbbbpmhcgnaaPileC
namespace Go.Proofs.Ytjpjbbbpmhcgnaa.huffFours
open Go.ChangeShapes Go.WideShapes Go.ChangeAt Go.RowKit

theorem str_same (x : ByteArray) : (x == x) = true := by
  show x.beq x = true
  cases x
  first
  | (simp [ByteArray.beq]; done)
  | (unfold ByteArray.beq; simp; done)

set_option maxRecDepth 100000 in
set_option maxHeartbeats 1000000 in
theorem walk (a0 : Option Addr) (xs : List UInt8) (cap0 : Nat) (a1 : Option Addr) (bs : List UInt8) (cap1 : Nat) (w : World) (hd : Dat false w 0 w.heap.size a0 xs) (hm : xs.length ≤ maxLen)
    (hd1 : Dat false w 0 w.heap.size a1 bs) (hm1 : bs.length ≤ maxLen) (hcap1 : bs.length ≤ cap1) :
    Calls Try.prog 5 #[.slice a0 xs.length cap0, .slice a1 bs.length cap1] w fun e w' => e = .returned (.bool true) ∧ Below w.heap.size w w' := by
  unfold maxLen at hm hm1
  obtain ⟨n, hn⟩ : ∃ n, n = xs.length := ⟨_, rfl⟩
  obtain ⟨m, hm0⟩ : ∃ m, m = bs.length := ⟨_, rfl⟩
  rw [← hn] at hm ⊢
  rw [← hm0] at hm1 hcap1 ⊢
  have HN := Lib.hid (And.intro hn.symm hm0.symm)
  have HD := Lib.hid (And.intro hd hd1)
  clear hd hd1 hn hm0
  by_cases h1 : 300 < n
  · have h1' : (300 : Int) < (n : Int) := by omega
    go_enter Try.func5, Try.ntmps5
    go_wp2_with fail
    refine (huf_awake _).mono ?_
    rintro e w1 ⟨rfl, hB⟩
    have HB1 := Lib.hid hB
    clear hB
    go_wp2_with fail
    go_ret
    exact ⟨rfl, HB1.out⟩
  by_cases h2 : 600 < m
  · have h1' : ¬ (300 : Int) < (n : Int) := by omega
    have h2' : (600 : Int) < (m : Int) := by omega
    go_enter Try.func5, Try.ntmps5
    go_wp2_with fail
    refine (huf_awake _).mono ?_
    rintro e w1 ⟨rfl, hB⟩
    have HB1 := Lib.hid hB
    clear hB
    go_wp2_with fail
    go_ret
    exact ⟨rfl, HB1.out⟩
  have h1' : ¬ (300 : Int) < (n : Int) := by omega
  have h2' : ¬ (600 : Int) < (m : Int) := by omega
  have Hn : Hid (n ≤ 300 ∧ m ≤ 600) := ⟨by omega, by omega⟩
  obtain ⟨S8, hS8⟩ : ∃ S8, S8 = str xs := ⟨_, rfl⟩
  obtain ⟨S9, hS9⟩ : ∃ S9, S9 = str bs := ⟨_, rfl⟩
  have hn8 : S8.data.toList = xs := by rw [hS8]; rfl
  have hz8 : S8.size = n := by rw [hS8, ← HN.out.1]; rfl
  have HS8 := Lib.hid (And.intro hS8 hS9)
  have hcv : ∀ W, Below w.heap.size w W → (convert 22 9 (.slice a0 n cap0)).run Try.prog W = .ok (.string S8) W ∧ (convert 22 9 (.slice a1 m cap1)).run Try.prog W = .ok (.string S9) W := fun W h => by
    have e1 := run_str (P := Try.prog) W 22 Try.underlying22 Try.underlying5 (c := cap0) (m := n) (HD.out.1.below h (Nat.le_refl _)) HN.out.1 9 Try.underlying9
    have e2 := run_str (P := Try.prog) W 22 Try.underlying22 Try.underlying5 (c := cap1) (m := m) (HD.out.2.below h (Nat.le_refl _)) HN.out.2 9 Try.underlying9
    rw [← hS8] at e1
    rw [← hS9] at e2
    exact ⟨e1, e2⟩
  have HCv := Lib.hid hcv
  have HRd := Lib.hid (fun W => refDepth_any (w := W) S8 (by rw [hz8]; omega))
  have HR1 := Lib.hid (fun W (Z : ByteArray) (hz : Z.size ≤ 100000) => refDecode4_any (w := W) (m : Int) S8 Z (by rw [hz8]; omega) (by omega))
  rw [hn8] at HRd HR1
  clear hS8 hS9 hn8 hz8 hcv
  go_enter Try.func5, Try.ntmps5
  go_wp2_with fail
  refine (huf_awake _).mono ?_
  rintro e w1 ⟨rfl, hB1⟩
  have HB1 := Lib.hid hB1
  have hs1 := hB1.size
  clear hB1
  go_wp2_with fail
  refine (hufEncode4_any (c := cap0) (c2 := cap1) (HD.out.1.below HB1.out (Nat.le_refl _)) HN.out.1 (by have := Hn.out; omega) (by omega) (HD.out.2.below HB1.out (Nat.le_refl _)) HN.out.2 (by have := Hn.out; omega) hcap1 (by omega)).mono ?_
  rintro e w2 ⟨⟨ys, er⟩, hr1, hB2, v, rfl, hO2⟩
  obtain ⟨A2, c2, rfl, hc2, hD2⟩ := hO2.form
  obtain ⟨l2, hl2⟩ : ∃ l, l = ys.length := ⟨_, rfl⟩
  dsimp only at hc2 hD2 ⊢
  rw [← hl2] at hc2 ⊢
  have HB2 := Lib.hid (HB1.out.trans (hB2.mono hs1))
  have hs2 := hB2.size
  have H2 := Lib.hid (And.intro hr1 (And.intro hD2 hl2.symm))
  obtain ⟨cv1, cv2⟩ := HCv.out w2 HB2.out
  clear hr1 hB2 hD2 hl2 hO2
  have hCk : CountOk bs.length := by unfold CountOk; rw [HN.out.2]; have := Hn.out; omega
  have HCk := Lib.hid hCk
  clear hCk
  go_wp2_with fail
  refine (HRd.out w2).mono ?_
  rintro e w3 ⟨rfl, hor⟩
  have HCo := Lib.hid (coded_any (w := w2) (c := cap0) (c2 := cap1) (HD.out.1.below HB2.out (Nat.le_refl _)) HN.out.1 (HD.out.2.below HB2.out (Nat.le_refl _)) HN.out.2 (by have := Hn.out; omega))
  rcases hor with ⟨d, hM, rfl⟩ | ⟨hno, rfl⟩
  · have hdp : (0 : Int) < (d : Int) := by have := hM.2.2.2.2.1; omega
    have HM := Lib.hid hM
    clear hM
    go_wp2_with fail
    refine HCo.out.mono ?_
    rintro e w3 ⟨rfl, ⟨hC, rfl⟩ | ⟨hC, rfl⟩⟩
    · have hkf : ((m : Int) + 3) / 4 = (kF m : Nat) := by unfold kF; omega
      by_cases h4 : m < 3 * kF m
      · have h4z : (m : Int) < 3 * (kF m : Int) := by omega
        have hr : (ys, er) = ([], 1) := by
          rcases H2.out.1 with ⟨d', hM', _, hC', h5, h⟩ | ⟨_, h⟩
          · rw [HN.out.2] at h5; omega
          · exact h
        injection hr with hr1 hr2
        subst hr1 hr2
        have hl0 : l2 = 0 := H2.out.2.2.symm
        subst hl0
        clear hC h4
        generalize kF m = kk at *
        go_wp2_with fail
        go_ret
        exact ⟨rfl, HB2.out⟩
      have h4z : ¬ (m : Int) < 3 * (kF m : Int) := by omega
      have hr : (ys, er) = (joinF (encF d (nat xs) bs), 0) := by
        rcases H2.out.1 with ⟨d', hM', _, _, _, h⟩ | ⟨h, _⟩
        · rw [may_uni HM.out hM']; exact h
        · have := h d HM.out HCk.out hC; rw [HN.out.2] at this; exact absurd this h4
      injection hr with hr1 hr2
      subst hr2
      have hdec : four d (nat xs) ys m = (bs, 0) := by
        rw [hr1, ← HN.out.2]
        exact four_join HM.out hC (by rw [HN.out.2]; have := Hn.out; omega) (by rw [HN.out.2]; omega)
      have hl2b : l2 ≤ 10000 := by
        have h2 := H2.out.2.2
        rw [hr1, joinF_len] at h2
        have e0 := encF_le (ls := bs) HM.out 0
        have e1 := encF_le (ls := bs) HM.out 1
        have e2 := encF_le (ls := bs) HM.out 2
        have e3 := encF_le (ls := bs) HM.out 3
        rw [HN.out.2] at e0 e1 e2 e3
        have := Hn.out
        simp only [sumN] at h2
        omega
      have cv3 := run_str (P := Try.prog) w2 22 Try.underlying22 Try.underlying5 (c := c2) (m := l2) H2.out.2.1 H2.out.2.2 9 Try.underlying9
      have HDc := Lib.hid hdec
      have hsz : (str ys).size ≤ 100000 := by rw [cu.str_size, H2.out.2.2]; omega
      have HR := Lib.hid (HR1.out w2 (str ys) hsz)
      rw [show (str ys).data.toList = ys from rfl] at HR
      clear hr1 hdec hC HR1 HCo hsz h4
      generalize kF m = kk at *
      go_wp2_with fail
      refine HR.out.mono ?_
      rintro e w3 ⟨r, hr, hB3, rfl⟩
      have hrr : r = (bs, 0) := D4Res.uni hr (.inl ⟨d, HM.out, by have := HCk.out; rw [HN.out.2] at this; exact this, HDc.out.symm⟩)
      subst hrr
      dsimp only
      rw [← HS8.out.2]
      have HB3 := Lib.hid (HB2.out.trans (hB3.mono (by omega)))
      have hs3 := hB3.size
      have H3 := Lib.hid (H2.out.2.1.below hB3 (Nat.le_refl _))
      obtain ⟨dv1, dv2⟩ := HCv.out w3 HB3.out
      clear hr hB3 cv1 cv2 cv3 HR
      go_wp2_with fail
      refine (hufDecode4_any (c := cap0) (c2 := c2) (m : Int) (HD.out.1.below HB3.out (Nat.le_refl _)) HN.out.1 (by have := Hn.out; omega) (by omega) H3.out H2.out.2.2 (by omega) (by omega)).mono ?_
      rintro e w4 ⟨r, hr4, hB4, A4, c4, rfl, hc4, hD4⟩
      have hrr : r = (bs, 0) := D4Res.uni hr4 (.inl ⟨d, HM.out, by have := HCk.out; rw [HN.out.2] at this; exact this, HDc.out.symm⟩)
      subst hrr
      dsimp only at hc4 hD4 ⊢
      rw [HN.out.2] at hc4 ⊢
      have HB4 := Lib.hid (HB3.out.trans (hB4.mono (by omega)))
      obtain ⟨ev1, ev2⟩ := HCv.out w4 HB4.out
      have k2 := run_str (P := Try.prog) w4 22 Try.underlying22 Try.underlying5 (c := c4) (m := m) hD4 HN.out.2 9 Try.underlying9
      rw [← HS8.out.2] at k2
      have ss1 := str_same S9
      clear hr4 hB4 hD4 dv1 dv2
      go_wp2_with fail
      go_ret
      exact ⟨rfl, HB4.out⟩
    · have hr : (ys, er) = ([], 1) := by
        rcases H2.out.1 with ⟨d', hM', _, hC', _, h⟩ | ⟨_, h⟩
        · exact absurd hC' hC
        · exact h
      injection hr with hr1 hr2
      subst hr1 hr2
      have hl0 : l2 = 0 := H2.out.2.2.symm
      subst hl0
      clear hC
      go_wp2_with fail
      go_ret
      exact ⟨rfl, HB2.out⟩
  · have hr : (ys, er) = ([], 1) := by
      rcases H2.out.1 with ⟨d', hM', _, hC', _, h⟩ | ⟨_, h⟩
      · exact absurd hM' (hno d')
      · exact h
    injection hr with hr1 hr2
    subst hr1 hr2
    have hl0 : l2 = 0 := H2.out.2.2.symm
    subst hl0
    clear hno
    go_wp2_with fail
    refine HCo.out.mono ?_
    rintro e w3 ⟨rfl, ⟨hC, rfl⟩ | ⟨hC, rfl⟩⟩
    all_goals
      clear hC
      go_wp2_with fail
      go_ret
      exact ⟨rfl, HB2.out⟩

set_option maxRecDepth 100000 in
theorem lifted (os : Os) (started : os.Started) (H : Type) (enc : TypeId × Value → H) :
    ReturnsInHanded {} Try.checked os 5 .any (Rows.huffFoursSpec.pre6 enc Try.prog Try.f5 Rows.huffFoursRow.domain false) (Rows.huffFoursSpec.post enc Try.prog Try.f5 false true false false) := by
  refine returnsInHanded_of_change (C := Try.checked) own started (by kernel_rfl) Try.func5
    (ChangeSpec.witness6 (enc := enc) (C := Try.checked) false ⟨#[], #[.slice none 0 0, .slice none 0 0], []⟩ 8 (by kernel_rfl) (by kernel_rfl) (by kernel_rfl) (by kernel_rfl)) ?_
  intro W base args ds gs before hval0 hW hcnd _
  have hval : ∀ (j : Nat) t v, Try.f5.params[j]? = some t → args[j]? = some v → Value.okWide Try.prog W .any base t v := hval0
  have hW' := hW
  obtain ⟨p, q, hA0, hV, rfl, hfz, hnd⟩ := hW
  have hA : DataW.TrodAll enc Try.prog W 0 (fun _ => true) true Try.f5.params.toList args.toList ds p := hA0
  rw [Try.params5] at hA hval
  obtain ⟨v0, vs0, d0, ds0, p0, q0, hargs, rfl, rfl, h0, r0⟩ := trodAll_cons hA
  obtain ⟨v1, vs1, d1, ds1, p1, q1, rfl, rfl, rfl, h1, r1⟩ := trodAll_cons r0
  obtain ⟨rfl, rfl, rfl⟩ := trodAll_nil r1
  obtain rfl : args = #[v0, v1] := by cases args; simp_all
  obtain ⟨rfl, rfl⟩ := trodVars_none hV
  obtain ⟨a0, len0, cap0, rfl⟩ := okWide_slice Try.underlying22 (hval 0 22 v0 rfl rfl)
  have k0 := h0
  have lt0 : ∀ x ∈ p0, x.block < W.heap.size := by obtain ⟨m, hm⟩ := k0; exact DataW.trod_lt m _ _ _ hm
  obtain ⟨z0, w0⟩ := row_of_trod h0
  obtain ⟨xs0, rfl, hl0, hm0, hd0⟩ := row_dat w0
  obtain ⟨a1, len1, cap1, rfl⟩ := okWide_slice Try.underlying22 (hval 1 22 v1 rfl rfl)
  have k1 := h1
  have lt1 : ∀ x ∈ p1, x.block < W.heap.size := by obtain ⟨m, hm⟩ := k1; exact DataW.trod_lt m _ _ _ hm
  obtain ⟨z1, w1⟩ := row_of_trod h1
  obtain ⟨xs1, rfl, hl1, hm1, hd1⟩ := row_dat w1
  clear hA0 hval0
  refine (walk a0 xs0 cap0 a1 xs1 cap1 W hd0 (by omega) hd1 (by omega) hl1).mono fun e W' ⟨he, bel⟩ => ?_
  subst he
  exact ⟨_, rfl, _, _, _, [], _, [], hW', trodAll_mk1 (shut_bool Try.underlying4 _), (trodAll_cons_mk (Below.trod laidOut (by kernel_rfl) (of_decide_eq_true (by kernel_rfl)) k0 bel lt0) (trodAll_cons_mk (Below.trod laidOut (by kernel_rfl) (of_decide_eq_true (by kernel_rfl)) k1 bel lt1) trodAll_mk0)), rfl, bel.frame _, fun h => by cases h⟩

theorem over : Rows.huffFoursRow.holds Try.pinned (OpenSpec.ofChange Rows.huffFoursSpec) :=
  OpenClaim.holds_of_wide 5 Try.f5 rfl rfl rfl rfl rfl rfl rfl ⟨rfl, rfl, rfl, rfl, rfl⟩ rfl rfl rfl rfl rfl (by kernel_rfl) Try.func5 (by kernel_rfl)
    (of_decide_eq_true (by kernel_rfl)) (by unfold Func.isWrapper; first | (rw [if_pos (by decide +kernel)]; kernel_rfl) | (rw [if_neg (by decide +kernel)]; exact ⟨rfl, rfl⟩))
    (fun os started H enc _ => lifted os started H enc)

theorem proved : Rows.HuffFoursSaid := over
end Go.Proofs.Ytjpjbbbpmhcgnaa.huffFours
