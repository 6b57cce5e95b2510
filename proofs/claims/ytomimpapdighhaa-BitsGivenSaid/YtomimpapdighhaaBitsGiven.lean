/- BitsGiven holds: for every slice of bytes and every three bytes the law returns true, and the slice reads behind the call as it read before. No condition. -/
import Derived.Test.YtomimpapdighhaaBitAwake
import Derived.Test.YtomimpapdighhaaArgs
import Derived.Test.YtomimpapdighhaaBitMask
namespace Go.Proofs.Ytomimpapdighhaa.bitsGiven
open Go.ChangeShapes Go.WideShapes Go.ChangeAt Go.RowKit

theorem take_first (xs : List UInt8) (c : Nat) (hc : c ≤ 8) (hx : 0 < xs.length) : num ((bitsOf xs).take c) = (xs.getD 0 0).toNat % 2 ^ c := by
  rw [← num_low]
  congr 1
  apply List.ext_getElem
  · rw [List.length_take, bitsOf_length, low_length]; omega
  · intro i h1 h2
    have hi : i < c := by rw [low_length] at h2; exact h2
    rw [List.getElem_take, bitsOf_get]
    simp only [low, List.getElem_map, List.getElem_range]
    unfold bitAt
    rw [show i / 8 = 0 by omega, show i % 8 = i by omega]

theorem fread_ok (xs : List UInt8) (at_ m : Nat) (h32 : m ≤ 32) (h : at_ + m ≤ 8 * xs.length) : fread xs at_ (m : Int) = (num (((bitsOf xs).drop at_).take m), 0, at_ + m) := by
  rw [fread, if_neg (by omega), if_neg (by omega)]
  rfl
theorem fread_short (xs : List UInt8) (at_ m : Nat) (h32 : m ≤ 32) (h : ¬ at_ + m ≤ 8 * xs.length) : fread xs at_ (m : Int) = (0, 10, at_) := by
  rw [fread, if_neg (by omega), if_pos (by omega)]

set_option maxRecDepth 100000 in
set_option maxHeartbeats 1000000 in
theorem walk (a0 : Option Addr) (xs : List UInt8) (cap0 : Nat) (n m k : Int) (w : World) (hd : Dat false w 0 w.heap.size a0 xs) (hm : xs.length ≤ maxLen) (hn0 : 0 ≤ n ∧ n ≤ 255) (hm0 : 0 ≤ m ∧ m ≤ 255) (hk0 : 0 ≤ k ∧ k ≤ 255) :
    Calls Try.prog 8 #[.slice a0 xs.length cap0, .int .u8 n, .int .u8 m, .int .u8 k] w fun e w' => e = .returned (.bool true) ∧ Below w.heap.size w w' := by
  unfold maxLen at hm
  have HD := Lib.hid hd
  clear hd
  obtain ⟨hn1, hn2⟩ := hn0
  obtain ⟨hm1, hm2⟩ := hm0
  obtain ⟨hk1, hk2⟩ := hk0
  by_cases hlen : 200 < xs.length
  · go_enter Try.func8, Try.ntmps8
    go_wp2_with fail
    refine (awake_any _).mono ?_
    rintro e w1 ⟨rfl, hB⟩
    have HB := Lib.hid hB
    clear hB
    go_wp2_with fail
    go_ret
    exact ⟨rfl, HB.out⟩
  · have hl : xs.length ≤ 200 := by omega
    obtain ⟨a, ha⟩ : ∃ a : Nat, n % 33 = (a : Int) := ⟨(n % 33).toNat, by omega⟩
    obtain ⟨b, hb⟩ : ∃ b : Nat, m % 33 = (b : Int) := ⟨(m % 33).toNat, by omega⟩
    obtain ⟨c, hc⟩ : ∃ c : Nat, k % 9 = (c : Int) := ⟨(k % 9).toNat, by omega⟩
    have ha32 : a ≤ 32 := by omega
    have hb32 : b ≤ 32 := by omega
    have hc8 : c ≤ 8 := by omega
    go_enter Try.func8, Try.ntmps8
    go_wp2_with fail
    refine (awake_any _).mono ?_
    rintro e w1 ⟨rfl, hB⟩
    have HB1 := Lib.hid hB
    have hs1 := hB.size
    clear hB
    go_wp2_with fail
    refine (newForward_any (HD.out.below HB1.out (Nat.le_refl _)) rfl (by omega) hs1).mono ?_
    rintro e w2 ⟨g, rfl, hr, hB⟩
    have hg := hr.1
    have HR2 := Lib.hid hr
    have HB2 := Lib.hid (HB1.out.trans (hB.mono hs1))
    clear hr hB
    go_wp2_with fail
    refine (fread_any _ HR2.out).mono ?_
    rintro e w3 ⟨rfl, hr, hs⟩
    have HB3 := Lib.hid (HB2.out.trans (hs.below HB2.out.size (by omega)))
    by_cases h1 : 0 + a ≤ 8 * xs.length
    · rw [fread_ok xs 0 a ha32 h1] at hr ⊢
      have HR3 := Lib.hid hr
      clear hr hs
      go_wp2_with fail
      refine (fread_any _ HR3.out).mono ?_
      rintro e w4 ⟨rfl, hr, hs⟩
      have HB4 := Lib.hid (HB3.out.trans (hs.below HB3.out.size (by omega)))
      by_cases h2 : 0 + a + b ≤ 8 * xs.length
      · rw [fread_ok xs (0 + a) b hb32 h2] at hr ⊢
        have HR4 := Lib.hid hr
        clear hr hs
        go_wp2_with fail
        refine (fback_any _ HR4.out (by omega)).mono ?_
        rintro e w5 ⟨rfl, hr, hs⟩
        rw [show fback (0 + a + b) (b : Int) = 0 + a by unfold fback; rw [if_neg (by omega)]; omega] at hr
        have HR5 := Lib.hid hr
        have HB5 := Lib.hid (HB4.out.trans (hs.below HB4.out.size (by omega)))
        clear hr hs
        go_wp2_with fail
        refine (fread_any _ HR5.out).mono ?_
        rintro e w6 ⟨rfl, hr, hs⟩
        rw [fread_ok xs (0 + a) b hb32 h2] at hr ⊢
        have HR6 := Lib.hid hr
        have HB6 := Lib.hid (HB5.out.trans (hs.below HB5.out.size (by omega)))
        clear hr hs
        go_wp2_with fail
        refine (fback_any _ HR6.out (by omega)).mono ?_
        rintro e w7 ⟨rfl, hr, hs⟩
        rw [show fback (0 + a + b) 1000 = 0 by unfold fback; rw [if_neg (by omega)]; omega] at hr
        have HR7 := Lib.hid hr
        have HB7 := Lib.hid (HB6.out.trans (hs.below HB6.out.size (by omega)))
        clear hr hs
        go_wp2_with fail
        refine (fread_any _ HR7.out).mono ?_
        rintro e w8 ⟨rfl, hr, hs⟩
        have HB8 := Lib.hid (HB7.out.trans (hs.below HB7.out.size (by omega)))
        clear hs
        by_cases h3 : 0 + c ≤ 8 * xs.length
        · rw [fread_ok xs 0 c (by omega) h3] at hr ⊢
          clear hr
          by_cases hc0 : c = 0
          · subst hc0
            go_wp2_with fail
            go_ret
            exact ⟨rfl, HB8.out⟩
          · have hcp : 0 < c := by omega
            have hxp : 0 < xs.length := by omega
            obtain ⟨d, o, rfl, _, hdh, hcl, _⟩ := HD.out hxp
            have hk0 : w8.cell? ⟨d, o, none⟩ = some (.int .u8 ((xs.getD 0 0).toNat : Int)) := (HB8.out.cell (p := ⟨d, o, none⟩) hdh).trans (hcl 0 hxp)
            have HT := Lib.hid (take_first xs c hc8 hxp)
            have hz256 := (xs.getD 0 0).toNat_lt
            clear hcl
            generalize (xs.getD 0 0).toNat = z at *
            rw [List.drop_zero, HT.out]
            have HM := Lib.hid (mask_low z c (by omega) (by omega))
            go_wp2_with fail
            go_ret
            refine ⟨?_, HB8.out⟩
            show Ending.returned (.bool (_ || _)) = _
            rw [HM.out]
            simp
        · rw [fread_short xs 0 c (by omega) h3] at hr ⊢
          clear hr
          have hcf : decide ((c : Int) ≤ 8 * (xs.length : Int)) = false := by simp; omega
          go_wp2_with fail
          go_ret
          exact ⟨rfl, HB8.out⟩
      · rw [fread_short xs (0 + a) b hb32 h2] at hr ⊢
        clear hr hs
        go_wp2_with fail
        go_ret
        exact ⟨rfl, HB4.out⟩
    · rw [fread_short xs 0 a ha32 h1] at hr ⊢
      have HR3 := Lib.hid hr
      clear hr hs
      go_wp2_with fail
      refine (fread_any _ HR3.out).mono ?_
      rintro e w4 ⟨rfl, hr, hs⟩
      have HB4 := Lib.hid (HB3.out.trans (hs.below HB3.out.size (by omega)))
      clear hr hs
      go_wp2_with fail
      go_ret
      exact ⟨rfl, HB4.out⟩

set_option maxRecDepth 100000 in
theorem lifted (os : Os) (started : os.Started) (H : Type) (enc : TypeId × Value → H) :
    ReturnsInHanded {} Try.checked os 8 .any (Rows.bitsGivenSpec.pre6 enc Try.prog Try.f8 Rows.bitsGivenRow.domain false) (Rows.bitsGivenSpec.post enc Try.prog Try.f8 false true false false) := by
  refine returnsInHanded_of_change (C := Try.checked) own started (by kernel_rfl) Try.func8
    (ChangeSpec.witness6 (enc := enc) (C := Try.checked) false ⟨#[], #[.slice none 0 0, .int .u8 0, .int .u8 0, .int .u8 0], []⟩ 8 (by kernel_rfl) (by kernel_rfl) (by kernel_rfl) (by kernel_rfl)) ?_
  intro W base args ds gs before hval0 hW hcnd _
  have hval : ∀ (j : Nat) t v, Try.f8.params[j]? = some t → args[j]? = some v → Value.okWide Try.prog W .any base t v := hval0
  have hW' := hW
  obtain ⟨p, q, hA0, hV, rfl, hfz, hnd⟩ := hW
  have hA : DataW.TrodAll enc Try.prog W 0 (fun _ => true) true Try.f8.params.toList args.toList ds p := hA0
  rw [Try.params8] at hA hval
  obtain ⟨v0, vs0, d0, ds0, p0, q0, hargs, rfl, rfl, h0, r0⟩ := trodAll_cons hA
  obtain ⟨v1, vs1, d1, ds1, p1, q1, rfl, rfl, rfl, h1, r1⟩ := trodAll_cons r0
  obtain ⟨v2, vs2, d2, ds2, p2, q2, rfl, rfl, rfl, h2, r2⟩ := trodAll_cons r1
  obtain ⟨v3, vs3, d3, ds3, p3, q3, rfl, rfl, rfl, h3, r3⟩ := trodAll_cons r2
  obtain ⟨rfl, rfl, rfl⟩ := trodAll_nil r3
  obtain rfl : args = #[v0, v1, v2, v3] := by cases args; simp_all
  obtain ⟨rfl, rfl⟩ := trodVars_none hV
  obtain ⟨a0, len0, cap0, rfl⟩ := okWide_slice Try.underlying22 (hval 0 22 v0 rfl rfl)
  have k0 := h0
  have lt0 : ∀ x ∈ p0, x.block < W.heap.size := by obtain ⟨m, hm⟩ := k0; exact DataW.trod_lt m _ _ _ hm
  obtain ⟨z0, w0⟩ := row_of_trod h0
  obtain ⟨xs0, rfl, hl0, hm0, hd0⟩ := row_dat w0
  obtain ⟨n1, rfl, rfl, rfl, w1⟩ := open_int Try.underlying5 (hval 1 5 v1 rfl rfl) h1
  obtain ⟨n2, rfl, rfl, rfl, w2⟩ := open_int Try.underlying5 (hval 2 5 v2 rfl rfl) h2
  obtain ⟨n3, rfl, rfl, rfl, w3⟩ := open_int Try.underlying5 (hval 3 5 v3 rfl rfl) h3
  clear hA0 hval0
  refine (walk a0 xs0 cap0 n1 n2 n3 W hd0 (by omega) (u8_bounds w1) (u8_bounds w2) (u8_bounds w3)).mono fun e W' ⟨he, bel⟩ => ?_
  subst he
  exact ⟨_, rfl, _, _, _, [], _, [], hW', trodAll_mk1 (shut_bool Try.underlying4 _), (trodAll_cons_mk (Below.trod laidOut (by kernel_rfl) (of_decide_eq_true (by kernel_rfl)) k0 bel lt0) (trodAll_cons_mk (shut_int Try.underlying5 w1) (trodAll_cons_mk (shut_int Try.underlying5 w2) (trodAll_cons_mk (shut_int Try.underlying5 w3) trodAll_mk0)))), rfl, bel.frame _, fun h => by cases h⟩

theorem over : Rows.bitsGivenRow.holds Try.pinned (OpenSpec.ofChange Rows.bitsGivenSpec) :=
  OpenClaim.holds_of_wide 8 Try.f8 rfl rfl rfl rfl rfl rfl rfl ⟨rfl, rfl, rfl, rfl, rfl⟩ rfl rfl rfl rfl rfl (by kernel_rfl) Try.func8 (by kernel_rfl)
    (of_decide_eq_true (by kernel_rfl)) (by unfold Func.isWrapper; first | (rw [if_pos (by decide +kernel)]; kernel_rfl) | (rw [if_neg (by decide +kernel)]; exact ⟨rfl, rfl⟩))
    (fun os started H enc _ => lifted os started H enc)

theorem proved : Rows.BitsGivenSaid := over
end Go.Proofs.Ytomimpapdighhaa.bitsGiven
