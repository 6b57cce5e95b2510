
/- HuffDecodes holds: for all slices of bytes and every count the law returns true, and the slices read behind the call as they read before. No condition. -/
import Derived.Test.YtjpjbbbpmhcgnaaHufAwake
import Derived.Test.YtjpjbbbpmhcgnaaHufRefD
import Derived.Test.YtjpjbbbpmhcgnaaPileC
namespace Go.Proofs.Ytjpjbbbpmhcgnaa.huffDecodes
open Go.ChangeShapes Go.WideShapes Go.ChangeAt Go.RowKit

theorem str_same (x : ByteArray) : (x == x) = true := by
  show x.beq x = true
  cases x
  first
  | (simp [ByteArray.beq]; done)
  | (unfold ByteArray.beq; simp; done)

set_option maxRecDepth 100000 in
set_option maxHeartbeats 1000000 in
theorem walk (a0 : Option Addr) (xs : List UInt8) (cap0 : Nat) (a1 : Option Addr) (bs : List UInt8) (cap1 : Nat) (k : Int) (w : World) (hd : Dat false w 0 w.heap.size a0 xs) (hm : xs.length ≤ maxLen)
    (hd1 : Dat false w 0 w.heap.size a1 bs) (hm1 : bs.length ≤ maxLen) (hk : -9223372036854775808 ≤ k ∧ k ≤ 9223372036854775807) :
    Calls Try.prog 3 #[.slice a0 xs.length cap0, .slice a1 bs.length cap1, .int .i64 k] w fun e w' => e = .returned (.bool true) ∧ Below w.heap.size w w' := by
  unfold maxLen at hm hm1
  obtain ⟨n, hn⟩ : ∃ n, n = xs.length := ⟨_, rfl⟩
  obtain ⟨m, hm0⟩ : ∃ m, m = bs.length := ⟨_, rfl⟩
  rw [← hn] at hm ⊢
  rw [← hm0] at hm1 ⊢
  have HN := Lib.hid (And.intro hn.symm hm0.symm)
  have HD := Lib.hid (And.intro hd hd1)
  clear hd hd1 hn hm0
  by_cases h1 : 300 < n
  · have h1' : (300 : Int) < (n : Int) := by omega
    go_enter Try.func3, Try.ntmps3
    go_wp2_with fail
    refine (huf_awake _).mono ?_
    rintro e w1 ⟨rfl, hB⟩
    have HB1 := Lib.hid hB
    clear hB
    go_wp2_with fail
    go_ret
    exact ⟨rfl, HB1.out⟩
  by_cases h2 : 300 < m
  · have h1' : ¬ (300 : Int) < (n : Int) := by omega
    have h2' : (300 : Int) < (m : Int) := by omega
    go_enter Try.func3, Try.ntmps3
    go_wp2_with fail
    refine (huf_awake _).mono ?_
    rintro e w1 ⟨rfl, hB⟩
    have HB1 := Lib.hid hB
    clear hB
    go_wp2_with fail
    go_ret
    exact ⟨rfl, HB1.out⟩
  have h1' : ¬ (300 : Int) < (n : Int) := by omega
  have h2' : ¬ (300 : Int) < (m : Int) := by omega
  by_cases h3 : 600 < k ∧ k ≤ 131072
  · obtain ⟨h3, h4⟩ := h3
    go_enter Try.func3, Try.ntmps3
    go_wp2_with fail
    refine (huf_awake _).mono ?_
    rintro e w1 ⟨rfl, hB⟩
    have HB1 := Lib.hid hB
    clear hB
    go_wp2_with fail
    go_ret
    exact ⟨rfl, HB1.out⟩
  have Hk3 := Lib.hid h3
  have Hn : Hid (n ≤ 300 ∧ m ≤ 300) := ⟨by omega, by omega⟩
  obtain ⟨S8, hS8⟩ : ∃ S8, S8 = str xs := ⟨_, rfl⟩
  obtain ⟨S9, hS9⟩ : ∃ S9, S9 = str bs := ⟨_, rfl⟩
  have hn8 : S8.data.toList = xs := by rw [hS8]; rfl
  have hn9 : S9.data.toList = bs := by rw [hS9]; rfl
  have hz8 : S8.size = n := by rw [hS8, ← HN.out.1]; rfl
  have hz9 : S9.size = m := by rw [hS9, ← HN.out.2]; rfl
  have HS8 := Lib.hid (And.intro hS8 hS9)
  have hcv : ∀ W, Below w.heap.size w W → (convert 22 9 (.slice a0 n cap0)).run Try.prog W = .ok (.string S8) W ∧ (convert 22 9 (.slice a1 m cap1)).run Try.prog W = .ok (.string S9) W := fun W h => by
    have e1 := run_str (P := Try.prog) W 22 Try.underlying22 Try.underlying5 (c := cap0) (m := n) (HD.out.1.below h (Nat.le_refl _)) HN.out.1 9 Try.underlying9
    have e2 := run_str (P := Try.prog) W 22 Try.underlying22 Try.underlying5 (c := cap1) (m := m) (HD.out.2.below h (Nat.le_refl _)) HN.out.2 9 Try.underlying9
    rw [← hS8] at e1
    rw [← hS9] at e2
    exact ⟨e1, e2⟩
  have HCv := Lib.hid hcv
  have HR1 := Lib.hid (fun W => refDecodeH_any (w := W) k S8 S9 (by rw [hz8]; omega) (by rw [hz9]; omega))
  have HR4 := Lib.hid (fun W => refDecode4_any (w := W) k S8 S9 (by rw [hz8]; omega) (by rw [hz9]; omega))
  rw [hn8, hn9] at HR1 HR4
  clear hS8 hS9 hn8 hn9 hz8 hz9 hcv
  have fin : ∀ (h3' : ¬ (600 < k ∧ k ≤ 131072)), k ≤ 600 ∨ 131072 < k := fun h => by omega
  have h3c := fin h3
  clear fin h3
  go_enter Try.func3, Try.ntmps3
  go_wp2_with fail
  refine (huf_awake _).mono ?_
  rintro e w1 ⟨rfl, hB1⟩
  have HB1 := Lib.hid hB1
  have hs1 := hB1.size
  clear hB1
  have hg : Hid (∀ K : Prop, (k ≤ 600 → K) → (600 < k → 131072 < k → K) → K) := fun K a b => by
    rcases h3c with h | h
    · exact a h
    · by_cases q : k ≤ 600
      · exact a q
      · exact b (by omega) h
  clear h3c
  refine hg.out _ (fun hk6 => ?_) (fun hk6 hk7 => ?_)
  all_goals
    go_wp2_with fail
    refine (hufDecode_any (c := cap0) (c2 := cap1) k (HD.out.1.below HB1.out (Nat.le_refl _)) HN.out.1 (by have := Hn.out; omega) (by omega) (HD.out.2.below HB1.out (Nat.le_refl _)) HN.out.2 (by have := Hn.out; omega) (by omega)).mono ?_
    rintro e w2 ⟨⟨ys, er⟩, hr1, hB2, A2, c2, rfl, hc2, hD2⟩
    obtain ⟨l2, hl2⟩ : ∃ l, l = ys.length := ⟨_, rfl⟩
    dsimp only at hc2 hD2 ⊢
    rw [← hl2] at hc2 ⊢
    have HB2 := Lib.hid (HB1.out.trans (hB2.mono hs1))
    have hs2 := hB2.size
    have H2 := Lib.hid (And.intro hr1 (And.intro hD2 hl2.symm))
    obtain ⟨cv1, cv2⟩ := HCv.out w2 HB2.out
    clear hr1 hB2 hD2 hl2
    go_wp2_with fail
    refine (HR1.out w2).mono ?_
    rintro e w3 ⟨r, hr, hB3, rfl⟩
    obtain rfl := H2.out.1.uni hr
    dsimp only
    have HB3 := Lib.hid (HB2.out.trans (hB3.mono (by omega)))
    have hs3 := hB3.size
    have H3 := Lib.hid (H2.out.2.1.below hB3 (Nat.le_refl _))
    clear hr hB3 cv1 cv2
    go_wp2_with fail
    refine (hufDecode4_any (c := cap0) (c2 := cap1) k (HD.out.1.below HB3.out (Nat.le_refl _)) HN.out.1 (by have := Hn.out; omega) (by omega) (HD.out.2.below HB3.out (Nat.le_refl _)) HN.out.2 (by have := Hn.out; omega) (by omega)).mono ?_
    rintro e w4 ⟨⟨zs, er4⟩, hr4, hB4, A4, c4, rfl, hc4, hD4⟩
    obtain ⟨l4, hl4⟩ : ∃ l, l = zs.length := ⟨_, rfl⟩
    dsimp only at hc4 hD4 ⊢
    rw [← hl4] at hc4 ⊢
    have HB4 := Lib.hid (HB3.out.trans (hB4.mono (by omega)))
    have hs4 := hB4.size
    have H4 := Lib.hid (And.intro hr4 (And.intro hD4 (And.intro hl4.symm (H3.out.below hB4 (by omega)))))
    obtain ⟨cv1, cv2⟩ := HCv.out w4 HB4.out
    clear hr4 hB4 hD4 hl4
    go_wp2_with fail
    refine (HR4.out w4).mono ?_
    rintro e w5 ⟨r, hr, hB5, rfl⟩
    obtain rfl := H4.out.1.uni hr
    dsimp only
    have HB5 := Lib.hid (HB4.out.trans (hB5.mono (by omega)))
    have k1 := run_str (P := Try.prog) w5 22 Try.underlying22 Try.underlying5 (c := c2) (m := l2) (H4.out.2.2.2.below hB5 (by omega)) H2.out.2.2 9 Try.underlying9
    have k2 := run_str (P := Try.prog) w5 22 Try.underlying22 Try.underlying5 (c := c4) (m := l4) (H4.out.2.1.below hB5 (Nat.le_refl _)) H4.out.2.2.1 9 Try.underlying9
    have ss1 := str_same (str ys)
    have ss2 := str_same (str zs)
    have ee1 : (er == er) = true := by rw [beq_iff_eq]
    have ee2 : (er4 == er4) = true := by rw [beq_iff_eq]
    generalize str ys = Y at *
    generalize str zs = Z at *
    clear hr hB5 cv1 cv2
    go_wp2_with fail
    go_ret
    exact ⟨rfl, HB5.out⟩

set_option maxRecDepth 100000 in
theorem lifted (os : Os) (started : os.Started) (H : Type) (enc : TypeId × Value → H) :
    ReturnsInHanded {} Try.checked os 3 .any (Rows.huffDecodesSpec.pre6 enc Try.prog Try.f3 Rows.huffDecodesRow.domain false) (Rows.huffDecodesSpec.post enc Try.prog Try.f3 false true false false) := by
  refine returnsInHanded_of_change (C := Try.checked) own started (by kernel_rfl) Try.func3
    (ChangeSpec.witness6 (enc := enc) (C := Try.checked) false ⟨#[], #[.slice none 0 0, .slice none 0 0, .int .i64 0], []⟩ 8 (by kernel_rfl) (by kernel_rfl) (by kernel_rfl) (by kernel_rfl)) ?_
  intro W base args ds gs before hval0 hW hcnd _
  have hval : ∀ (j : Nat) t v, Try.f3.params[j]? = some t → args[j]? = some v → Value.okWide Try.prog W .any base t v := hval0
  have hW' := hW
  obtain ⟨p, q, hA0, hV, rfl, hfz, hnd⟩ := hW
  have hA : DataW.TrodAll enc Try.prog W 0 (fun _ => true) true Try.f3.params.toList args.toList ds p := hA0
  rw [Try.params3] at hA hval
  obtain ⟨v0, vs0, d0, ds0, p0, q0, hargs, rfl, rfl, h0, r0⟩ := trodAll_cons hA
  obtain ⟨v1, vs1, d1, ds1, p1, q1, rfl, rfl, rfl, h1, r1⟩ := trodAll_cons r0
  obtain ⟨v2, vs2, d2, ds2, p2, q2, rfl, rfl, rfl, h2, r2⟩ := trodAll_cons r1
  obtain ⟨rfl, rfl, rfl⟩ := trodAll_nil r2
  obtain rfl : args = #[v0, v1, v2] := by cases args; simp_all
  obtain ⟨rfl, rfl⟩ := trodVars_none hV
  obtain ⟨a0, len0, cap0, rfl⟩ := okWide_slice Try.underlying22 (hval 0 22 v0 rfl rfl)
  have k0 := h0
  have lt0 : ∀ x ∈ p0, x.block < W.heap.size := by obtain ⟨m, hm⟩ := k0; exact DataW.trod_lt m _ _ _ hm
  obtain ⟨z0, w0⟩ := row_of_trod h0
  obtain ⟨xs0, rfl, hl0, hm0, hd0⟩ := row_dat w0
  obtain ⟨a1, len1, cap1, rfl⟩ := okWide_slice Try.underlying22 (hval 1 22 v1 rfl rfl)
  have k1 := h1
  have lt1 : ∀ x ∈ p1, x.block < W.heap.size := by obtain ⟨m, hm⟩ := k1; exact DataW.trod_lt m _ _ _ hm
  obtain ⟨z1, w1⟩ := row_of_trod h1
  obtain ⟨xs1, rfl, hl1, hm1, hd1⟩ := row_dat w1
  obtain ⟨n2, rfl, rfl, rfl, w2⟩ := open_int Try.underlying3 (hval 2 3 v2 rfl rfl) h2
  clear hA0 hval0
  refine (walk a0 xs0 cap0 a1 xs1 cap1 n2 W hd0 (by omega) hd1 (by omega) (int_bounds w2)).mono fun e W' ⟨he, bel⟩ => ?_
  subst he
  exact ⟨_, rfl, _, _, _, [], _, [], hW', trodAll_mk1 (shut_bool Try.underlying4 _), (trodAll_cons_mk (Below.trod laidOut (by kernel_rfl) (of_decide_eq_true (by kernel_rfl)) k0 bel lt0) (trodAll_cons_mk (Below.trod laidOut (by kernel_rfl) (of_decide_eq_true (by kernel_rfl)) k1 bel lt1) (trodAll_cons_mk (shut_int Try.underlying3 w2) trodAll_mk0))), rfl, bel.frame _, fun h => by cases h⟩

theorem over : Rows.huffDecodesRow.holds Try.pinned (OpenSpec.ofChange Rows.huffDecodesSpec) :=
  OpenClaim.holds_of_wide 3 Try.f3 rfl rfl rfl rfl rfl rfl rfl ⟨rfl, rfl, rfl, rfl, rfl⟩ rfl rfl rfl rfl rfl (by kernel_rfl) Try.func3 (by kernel_rfl)
    (of_decide_eq_true (by kernel_rfl)) (by unfold Func.isWrapper; first | (rw [if_pos (by decide +kernel)]; kernel_rfl) | (rw [if_neg (by decide +kernel)]; exact ⟨rfl, rfl⟩))
    (fun os started H enc _ => lifted os started H enc)

theorem proved : Rows.HuffDecodesSaid := over
end Go.Proofs.Ytjpjbbbpmhcgnaa.huffDecodes
