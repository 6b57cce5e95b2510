/- BitsNone holds: for every slice of bytes and every int the law returns true, and the slice reads behind the call as it read before. No condition. -/
import Derived.Test.YtomimpapdighhaaBitAwake
import Derived.Test.YtomimpapdighhaaArgs
namespace Go.Proofs.Ytomimpapdighhaa.bitsNone
open Go.ChangeShapes Go.WideShapes Go.ChangeAt Go.RowKit

set_option maxRecDepth 100000 in
set_option maxHeartbeats 1000000 in
theorem walk (a0 : Option Addr) (xs : List UInt8) (cap0 : Nat) (n : Int) (w : World) (hd : Dat false w 0 w.heap.size a0 xs) (hm : xs.length ≤ maxLen) (_hn : -9223372036854775808 ≤ n ∧ n ≤ 9223372036854775807) :
    Calls Try.prog 7 #[.slice a0 xs.length cap0, .int .i64 n] w fun e w' => e = .returned (.bool true) ∧ Below w.heap.size w w' := by
  obtain ⟨i0, hi0, hz0, hz1, hz2⟩ := info_parts u8_info
  unfold maxLen at hm
  have HD := Lib.hid hd
  clear hd
  by_cases hlen : 300 < xs.length
  · go_enter Try.func7, Try.ntmps7
    go_wp2_with fail
    refine (awake_any _).mono ?_
    rintro e w1 ⟨rfl, hB⟩
    have HB := Lib.hid hB
    clear hB
    go_wp2_with fail
    go_ret
    exact ⟨rfl, HB.out⟩
  · have hl : xs.length ≤ 300 := by omega
    go_enter Try.func7, Try.ntmps7
    go_wp2_with fail
    refine (awake_any _).mono ?_
    rintro e w1 ⟨rfl, hB⟩
    have HB1 := Lib.hid hB
    have hs1 := hB.size
    clear hB
    go_wp2_with fail
    refine (fread_nil _ _).mono ?_
    rintro e w' ⟨rfl, rfl⟩
    go_wp2_with fail
    refine (fback_nil _ _).mono ?_
    rintro e w' ⟨rfl, rfl⟩
    go_wp2_with fail
    refine (write_nil _ _ _).mono ?_
    rintro e w' ⟨rfl, rfl⟩
    have HD1 := Lib.hid (HD.out.below HB1.out (Nat.le_refl _))
    have HO1 := Lib.hid (OwB.nil w1 5 w1.heap.size)
    go_wp2_with (at_builtin; refine list_app _ rfl _ _ 22 rfl i0 Try.underlying22 hi0 hz0 hz1 hz2 rfl HO1.out rfl HD1.out rfl ?_ ?_ ?_)
    · simp; omega
    · exact Nat.le_refl _
    intro v1 w2 ho hg _
    have HB2 := Lib.hid (HB1.out.grown hg hs1 (by intro k hk; simp [Value.ownBlock] at hk))
    have hs2 := hg.size
    have HA := Lib.hid (OwB.alloc ho (.cells #[cel 0] 5))
    have HD2 := Lib.hid (dat_one w2 0 5)
    have HO2 := Lib.hid ho
    clear ho hg
    go_wp2_with (at_builtin; refine list_app _ rfl _ _ 22 rfl i0 Try.underlying22 hi0 hz0 hz1 hz2 rfl HA.out rfl HD2.out rfl ?_ ?_ ?_)
    · simp; omega
    · simp; omega
    intro v2 w3 ho hg _
    have HB3 := Lib.hid ((HB2.out.alloc HB2.out.size (.cells #[cel 0] 5)).grown hg (by have := HB2.out.size; simp; omega) (by intro k hk; have := (HA.out.block k hk).1; omega))
    obtain ⟨A3, c3, rfl, _, hd3⟩ := ho.form
    have HD3 := Lib.hid hd3
    have hnb : noBack (xs ++ [0]) = true := by simp [noBack]
    have hll : (xs ++ [0]).length ≤ 1099511627776 := by simp; omega
    have HNb := Lib.hid hnb
    have HQ : Hid ((xs ++ [0]).length = xs.length + 1) := by unfold Hid; simp
    have HLl := Lib.hid hll
    clear ho hg hd3 hnb hll
    go_wp2_with fail
    refine (newBack_no HD3.out HQ.out HLl.out HNb.out).mono ?_
    rintro e w' ⟨rfl, rfl⟩
    go_wp2_with fail
    refine (used_nil _).mono ?_
    rintro e w' ⟨rfl, rfl⟩
    go_wp2_with fail
    refine (bread_nil _ _).mono ?_
    rintro e w' ⟨rfl, rfl⟩
    go_wp2_with fail
    refine (left_nil _).mono ?_
    rintro e w' ⟨rfl, rfl⟩
    go_wp2_with fail
    refine (out_nil _).mono ?_
    rintro e w' ⟨rfl, rfl⟩
    go_wp2_with fail
    refine (closed_nil _).mono ?_
    rintro e w' ⟨rfl, rfl⟩
    go_wp2_with fail
    go_ret
    exact ⟨rfl, HB3.out⟩

set_option maxRecDepth 100000 in
theorem lifted (os : Os) (started : os.Started) (H : Type) (enc : TypeId × Value → H) :
    ReturnsInHanded {} Try.checked os 7 .any (Rows.bitsNoneSpec.pre6 enc Try.prog Try.f7 Rows.bitsNoneRow.domain false) (Rows.bitsNoneSpec.post enc Try.prog Try.f7 false true false false) := by
  refine returnsInHanded_of_change (C := Try.checked) own started (by kernel_rfl) Try.func7
    (ChangeSpec.witness6 (enc := enc) (C := Try.checked) false ⟨#[], #[.slice none 0 0, .int .i64 0], []⟩ 8 (by kernel_rfl) (by kernel_rfl) (by kernel_rfl) (by kernel_rfl)) ?_
  intro W base args ds gs before hval0 hW hcnd _
  have hval : ∀ (j : Nat) t v, Try.f7.params[j]? = some t → args[j]? = some v → Value.okWide Try.prog W .any base t v := hval0
  have hW' := hW
  obtain ⟨p, q, hA0, hV, rfl, hfz, hnd⟩ := hW
  have hA : DataW.TrodAll enc Try.prog W 0 (fun _ => true) true Try.f7.params.toList args.toList ds p := hA0
  rw [Try.params7] at hA hval
  obtain ⟨v0, vs0, d0, ds0, p0, q0, hargs, rfl, rfl, h0, r0⟩ := trodAll_cons hA
  obtain ⟨v1, vs1, d1, ds1, p1, q1, rfl, rfl, rfl, h1, r1⟩ := trodAll_cons r0
  obtain ⟨rfl, rfl, rfl⟩ := trodAll_nil r1
  obtain rfl : args = #[v0, v1] := by cases args; simp_all
  obtain ⟨rfl, rfl⟩ := trodVars_none hV
  obtain ⟨a0, len0, cap0, rfl⟩ := okWide_slice Try.underlying22 (hval 0 22 v0 rfl rfl)
  have k0 := h0
  have lt0 : ∀ x ∈ p0, x.block < W.heap.size := by obtain ⟨m, hm⟩ := k0; exact DataW.trod_lt m _ _ _ hm
  obtain ⟨z0, w0⟩ := row_of_trod h0
  obtain ⟨xs0, rfl, hl0, hm0, hd0⟩ := row_dat w0
  obtain ⟨n1, rfl, rfl, rfl, w1⟩ := open_int Try.underlying3 (hval 1 3 v1 rfl rfl) h1
  clear hA0 hval0
  refine (walk a0 xs0 cap0 n1 W hd0 (by omega) (int_bounds w1)).mono fun e W' ⟨he, bel⟩ => ?_
  subst he
  exact ⟨_, rfl, _, _, _, [], _, [], hW', trodAll_mk1 (shut_bool Try.underlying4 _), (trodAll_cons_mk (Below.trod laidOut (by kernel_rfl) (of_decide_eq_true (by kernel_rfl)) k0 bel lt0) (trodAll_cons_mk (shut_int Try.underlying3 w1) trodAll_mk0)), rfl, bel.frame _, fun h => by cases h⟩

theorem over : Rows.bitsNoneRow.holds Try.pinned (OpenSpec.ofChange Rows.bitsNoneSpec) :=
  OpenClaim.holds_of_wide 7 Try.f7 rfl rfl rfl rfl rfl rfl rfl ⟨rfl, rfl, rfl, rfl, rfl⟩ rfl rfl rfl rfl rfl (by kernel_rfl) Try.func7 (by kernel_rfl)
    (of_decide_eq_true (by kernel_rfl)) (by unfold Func.isWrapper; first | (rw [if_pos (by decide +kernel)]; kernel_rfl) | (rw [if_neg (by decide +kernel)]; exact ⟨rfl, rfl⟩))
    (fun os started H enc _ => lifted os started H enc)

theorem proved : Rows.BitsNoneSaid := over
end Go.Proofs.Ytomimpapdighhaa.bitsNone
