
/- HuffLeft holds: for all slices of bytes the law returns true, and the slices read behind the call as they read before. No condition. -/
import Derived.Test.YtjpjbbbpmhcgnaaHufAwake
import Derived.Test.YtjpjbbbpmhcgnaaPileC
namespace Go.Proofs.Ytjpjbbbpmhcgnaa.huffLeft
open Go.ChangeShapes Go.WideShapes Go.ChangeAt Go.RowKit

set_option maxRecDepth 100000 in
set_option maxHeartbeats 1000000 in
theorem walk (a0 : Option Addr) (xs : List UInt8) (cap0 : Nat) (a1 : Option Addr) (bs : List UInt8) (cap1 : Nat) (w : World) (hd : Dat false w 0 w.heap.size a0 xs) (hm : xs.length ≤ maxLen)
    (hd1 : Dat false w 0 w.heap.size a1 bs) (hm1 : bs.length ≤ maxLen) :
    Calls Try.prog 6 #[.slice a0 xs.length cap0, .slice a1 bs.length cap1] w fun e w' => e = .returned (.bool true) ∧ Below w.heap.size w w' := by
  unfold maxLen at hm hm1
  obtain ⟨n, hn⟩ : ∃ n, n = xs.length := ⟨_, rfl⟩
  obtain ⟨m, hm0⟩ : ∃ m, m = bs.length := ⟨_, rfl⟩
  rw [← hn] at hm ⊢
  rw [← hm0] at hm1 ⊢
  have HN := Lib.hid (And.intro hn.symm hm0.symm)
  have HD := Lib.hid (And.intro hd hd1)
  clear hd hd1 hn hm0
  by_cases h1 : 300 < n
  · have h1' : (300 : Int) < (n : Int) := by omega
    go_enter Try.func6, Try.ntmps6
    go_wp2_with fail
    refine (huf_awake _).mono ?_
    rintro e w1 ⟨rfl, hB⟩
    have HB1 := Lib.hid hB
    clear hB
    go_wp2_with fail
    go_ret
    exact ⟨rfl, HB1.out⟩
  by_cases h2 : 600 < m
  · have h1' : ¬ (300 : Int) < (n : Int) := by omega
    have h2' : (600 : Int) < (m : Int) := by omega
    go_enter Try.func6, Try.ntmps6
    go_wp2_with fail
    refine (huf_awake _).mono ?_
    rintro e w1 ⟨rfl, hB⟩
    have HB1 := Lib.hid hB
    clear hB
    go_wp2_with fail
    go_ret
    exact ⟨rfl, HB1.out⟩
  have h1' : ¬ (300 : Int) < (n : Int) := by omega
  have h2' : ¬ (600 : Int) < (m : Int) := by omega
  have Hn : Hid (n ≤ 300 ∧ m ≤ 600) := ⟨by omega, by omega⟩
  by_cases h0 : m = 0
  · subst h0
    go_enter Try.func6, Try.ntmps6
    go_wp2_with fail
    refine (huf_awake _).mono ?_
    rintro e w1 ⟨rfl, hB⟩
    have HB1 := Lib.hid hB
    clear hB
    go_wp2_with fail
    go_ret
    exact ⟨rfl, HB1.out⟩
  have hm0 : ((m : Int) == 0) = false := by rw [beq_eq_false_iff_ne]; omega
  obtain ⟨i0, hi0, hz0, hz1, hz2⟩ := info_parts cu.u8_info
  have HI := Lib.hid (And.intro hi0 (And.intro hz0 (And.intro hz1 hz2)))
  have hmp : 1 ≤ m := by omega
  clear hi0 hz0 hz1 hz2 h0
  go_enter Try.func6, Try.ntmps6
  go_wp2_with fail
  refine (huf_awake _).mono ?_
  rintro e w1 ⟨rfl, hB1⟩
  have HB1 := Lib.hid hB1
  have hs1 := hB1.size
  clear hB1
  go_wp2_with fail
  refine (hufEncode_any (c := cap0) (c2 := cap1) (HD.out.1.below HB1.out (Nat.le_refl _)) HN.out.1 (by have := Hn.out; omega) (by omega) (HD.out.2.below HB1.out (Nat.le_refl _)) HN.out.2 (by have := Hn.out; omega) (by omega)).mono ?_
  rintro e w2 ⟨⟨ys, er⟩, hr1, hB2, v, rfl, hO2⟩
  obtain ⟨A2, c2, rfl, hc2, -⟩ := hO2.form
  obtain ⟨l2, hl2⟩ : ∃ l, l = ys.length := ⟨_, rfl⟩
  dsimp only at hc2 hO2 ⊢
  rw [← hl2] at hc2 hO2 ⊢
  have HB2 := Lib.hid (HB1.out.trans (hB2.mono hs1))
  have hs2 := hB2.size
  have HO2 := Lib.hid hO2
  have HL2 := Lib.hid hl2.symm
  clear hB2 hl2 hO2
  have hCk : CountOk bs.length := by unfold CountOk; rw [HN.out.2]; have := Hn.out; omega
  have HCk := Lib.hid hCk
  clear hCk
  rcases hr1 with ⟨d, hM, _, hC, hr⟩ | ⟨_, hr⟩
  · injection hr with hr1 hr2
    subst hr2
    have hne : bs ≠ [] := fun h => by have := HN.out.2; rw [h] at this; simp at this; omega
    have hdf : strm d (nat xs) ys (m - 1) = ([], 15) := by rw [hr1, ← HN.out.2]; exact strm_fewer hM bs hC hne
    have hdm : strm d (nat xs) ys (m + 1) = ([], 11) := by rw [hr1, ← HN.out.2]; exact strm_more hM bs hC
    have hl2b : l2 ≤ 1000 := by
      have h1 := encB_len hM (nat bs)
      have h2 := HL2.out
      rw [hr1, encS_len] at h2
      rw [nat_len, HN.out.2] at h1
      have := Hn.out
      omega
    have HDf := Lib.hid (And.intro hdf hdm)
    have HM := Lib.hid hM
    have hz1' : (m : Int) - 1 = ((m - 1 : Nat) : Int) := by omega
    have hz2' : (m : Int) + 1 = ((m + 1 : Nat) : Int) := by omega
    have HZ := Lib.hid (And.intro hz1' hz2')
    clear hr1 hdf hdm hC hM hne hz1' hz2'
    go_wp2_with fail
    rw [HZ.out.1]
    obtain ⟨A2', c2', hv2, -, hD2⟩ := HO2.out.form
    injection hv2 with e1 e2 e3
    subst e1 e3
    clear e2
    have HD2 := Lib.hid hD2
    clear hD2
    refine (hufDecode_any (c := cap0) (c2 := c2) ((m - 1 : Nat) : Int) (HD.out.1.below HB2.out (Nat.le_refl _)) HN.out.1 (by have := Hn.out; omega) (by omega) HD2.out HL2.out (by omega) (Nat.le_refl _)).mono ?_
    rintro e w3 ⟨r, hr, hB3, A3, c3, rfl, hc3, hD3⟩
    have hrr : r = ([], 15) := DRes.uni hr (.inl ⟨d, HM.out, by unfold CountOk; have := Hn.out; omega, HDf.out.1.symm⟩)
    subst hrr
    have HB3 := Lib.hid (HB2.out.trans (hB3.mono (by omega)))
    have hs3 := hB3.size
    have HO3 := Lib.hid (OwB.below HO2.out hB3 (Nat.le_refl _))
    have HD3 := Lib.hid (HD2.out.below hB3 (Nat.le_refl _))
    clear hr hB3 hc3 hD3
    go_wp2_with fail
    rw [HZ.out.2]
    refine (hufDecode_any (c := cap0) (c2 := c2) ((m + 1 : Nat) : Int) (HD.out.1.below HB3.out (Nat.le_refl _)) HN.out.1 (by have := Hn.out; omega) (by omega) HD3.out HL2.out (by omega) (by omega)).mono ?_
    rintro e w4 ⟨r, hr, hB4, A4, c4, rfl, hc4, hD4⟩
    have hrr : r = ([], 11) := DRes.uni hr (.inl ⟨d, HM.out, by unfold CountOk; have := Hn.out; omega, HDf.out.2.symm⟩)
    subst hrr
    have HB4 := Lib.hid (HB3.out.trans (hB4.mono (by omega)))
    have hs4 := hB4.size
    have HO4 := Lib.hid (OwB.below HO3.out hB4 (Nat.le_refl _))
    clear hr hB4 hc4 hD4
    have hd1 := row8 w4 [0] #[.int .u8 0] rfl
    have HD1 := Lib.hid hd1
    have HA := Lib.hid (HO4.out.alloc (.cells #[.int .u8 0] 5))
    clear hd1
    go_wp2_with (at_builtin; refine list_app _ rfl _ _ 22 rfl i0 Try.underlying22 HI.out.1 HI.out.2.1 HI.out.2.2.1 HI.out.2.2.2 rfl HA.out rfl HD1.out rfl ?_ ?_ ?_)
    · rw [HL2.out]; omega
    · rw [World.size_alloc]; omega
    intro v5 w5 ho5 hg5 _
    have hsz : (w4.alloc (.cells #[.int .u8 0] 5)).heap.size = w4.heap.size + 1 := by simp
    have HB5 := Lib.hid (below_grown (HB4.out.alloc (by omega) (.cells #[.int .u8 0] 5)) hg5 (fun k hk => Nat.le_trans hs1 (HO4.out.block k hk).1) (by rw [hsz]; omega))
    have hs5 := hg5.size
    rw [hsz] at hs5
    obtain ⟨A5, c5, rfl, hc5, hD5⟩ := ho5.form
    obtain ⟨l5, hl5⟩ : ∃ l, l = (ys ++ [0]).length := ⟨_, rfl⟩
    rw [← hl5] at hc5 ⊢
    have hl5b : l5 ≤ 1001 := by rw [hl5, List.length_append, HL2.out]; simp; omega
    have HD5 := Lib.hid (And.intro hD5 hl5.symm)
    clear ho5 hg5 hsz hD5 hl5
    go_wp2_with fail
    refine (hufDecode_any (c := cap0) (c2 := c5) (m : Int) (HD.out.1.below HB5.out (Nat.le_refl _)) HN.out.1 (by have := Hn.out; omega) (by omega) HD5.out.1 HD5.out.2 (by omega) (Nat.le_refl _)).mono ?_
    rintro e w6 ⟨r, hr, hB6, A6, c6, rfl, hc6, hD6⟩
    have hrr : r = ([], 11) := DRes.uni hr (.inl ⟨d, HM.out, by unfold CountOk; have := Hn.out; omega, (strm_none ys m).symm⟩)
    subst hrr
    have HB6 := Lib.hid (HB5.out.trans (hB6.mono (by omega)))
    clear hr hB6 hc6 hD6
    go_wp2_with fail
    go_ret
    exact ⟨rfl, HB6.out⟩
  · injection hr with hr1 hr2
    subst hr1 hr2
    have hl0 : l2 = 0 := HL2.out.symm
    subst hl0
    go_wp2_with fail
    go_ret
    exact ⟨rfl, HB2.out⟩

set_option maxRecDepth 100000 in
theorem lifted (os : Os) (started : os.Started) (H : Type) (enc : TypeId × Value → H) :
    ReturnsInHanded {} Try.checked os 6 .any (Rows.huffLeftSpec.pre6 enc Try.prog Try.f6 Rows.huffLeftRow.domain false) (Rows.huffLeftSpec.post enc Try.prog Try.f6 false true false false) := by
  refine returnsInHanded_of_change (C := Try.checked) own started (by kernel_rfl) Try.func6
    (ChangeSpec.witness6 (enc := enc) (C := Try.checked) false ⟨#[], #[.slice none 0 0, .slice none 0 0], []⟩ 8 (by kernel_rfl) (by kernel_rfl) (by kernel_rfl) (by kernel_rfl)) ?_
  intro W base args ds gs before hval0 hW hcnd _
  have hval : ∀ (j : Nat) t v, Try.f6.params[j]? = some t → args[j]? = some v → Value.okWide Try.prog W .any base t v := hval0
  have hW' := hW
  obtain ⟨p, q, hA0, hV, rfl, hfz, hnd⟩ := hW
  have hA : DataW.TrodAll enc Try.prog W 0 (fun _ => true) true Try.f6.params.toList args.toList ds p := hA0
  rw [Try.params6] at hA hval
  obtain ⟨v0, vs0, d0, ds0, p0, q0, hargs, rfl, rfl, h0, r0⟩ := trodAll_cons hA
  obtain ⟨v1, vs1, d1, ds1, p1, q1, rfl, rfl, rfl, h1, r1⟩ := trodAll_cons r0
  obtain ⟨rfl, rfl, rfl⟩ := trodAll_nil r1
  obtain rfl : args = #[v0, v1] := by cases args; simp_all
  obtain ⟨rfl, rfl⟩ := trodVars_none hV
  obtain ⟨a0, len0, cap0, rfl⟩ := okWide_slice Try.underlying22 (hval 0 22 v0 rfl rfl)
  have k0 := h0
  have lt0 : ∀ x ∈ p0, x.block < W.heap.size := by obtain ⟨m, hm⟩ := k0; exact DataW.trod_lt m _ _ _ hm
  obtain ⟨z0, w0⟩ := row_of_trod h0
  obtain ⟨xs0, rfl, hl0, hm0, hd0⟩ := row_dat w0
  obtain ⟨a1, len1, cap1, rfl⟩ := okWide_slice Try.underlying22 (hval 1 22 v1 rfl rfl)
  have k1 := h1
  have lt1 : ∀ x ∈ p1, x.block < W.heap.size := by obtain ⟨m, hm⟩ := k1; exact DataW.trod_lt m _ _ _ hm
  obtain ⟨z1, w1⟩ := row_of_trod h1
  obtain ⟨xs1, rfl, hl1, hm1, hd1⟩ := row_dat w1
  clear hA0 hval0
  refine (walk a0 xs0 cap0 a1 xs1 cap1 W hd0 (by omega) hd1 (by omega)).mono fun e W' ⟨he, bel⟩ => ?_
  subst he
  exact ⟨_, rfl, _, _, _, [], _, [], hW', trodAll_mk1 (shut_bool Try.underlying4 _), (trodAll_cons_mk (Below.trod laidOut (by kernel_rfl) (of_decide_eq_true (by kernel_rfl)) k0 bel lt0) (trodAll_cons_mk (Below.trod laidOut (by kernel_rfl) (of_decide_eq_true (by kernel_rfl)) k1 bel lt1) trodAll_mk0)), rfl, bel.frame _, fun h => by cases h⟩

theorem over : Rows.huffLeftRow.holds Try.pinned (OpenSpec.ofChange Rows.huffLeftSpec) :=
  OpenClaim.holds_of_wide 6 Try.f6 rfl rfl rfl rfl rfl rfl rfl ⟨rfl, rfl, rfl, rfl, rfl⟩ rfl rfl rfl rfl rfl (by kernel_rfl) Try.func6 (by kernel_rfl)
    (of_decide_eq_true (by kernel_rfl)) (by unfold Func.isWrapper; first | (rw [if_pos (by decide +kernel)]; kernel_rfl) | (rw [if_neg (by decide +kernel)]; exact ⟨rfl, rfl⟩))
    (fun os started H enc _ => lifted os started H enc)

theorem proved : Rows.HuffLeftSaid := over
end Go.Proofs.Ytjpjbbbpmhcgnaa.huffLeft
