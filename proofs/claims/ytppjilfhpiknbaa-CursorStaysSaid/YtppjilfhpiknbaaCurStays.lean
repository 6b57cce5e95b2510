/- CursorStays holds: for every slice of bytes and every two ints the law returns true, and the slice reads behind the call as it read before. No condition. -/
import Derived.Test.YtppjilfhpiknbaaCurArgs
namespace Go.Proofs.Ytppjilfhpiknbaa.cursorStays
open Go.ChangeShapes Go.WideShapes Go.ChangeAt Go.RowKit

theorem own : ownKnob Try.prog.godebug = none := by kernel_rfl
theorem laidOut : laidOutB Try.prog = true := by kernel_rfl

theorem tk10 (xs : List UInt8) (m : Int) (b : Bool) : tk xs 10 m b = (xs, 10, []) := by simp [tk]

set_option maxHeartbeats 1000000 in
theorem walk (a0 : Option Addr) (xs : List UInt8) (cap0 : Nat) (n m : Int) (w : World) (hd : Dat false w 0 w.heap.size a0 xs) :
    Calls Try.prog 6 #[.slice a0 xs.length cap0, .int .i64 n, .int .i64 m] w fun e w' => e = .returned (.bool true) ∧ Below w.heap.size w w' := by
  have HD := Lib.hid hd
  clear hd
  by_cases hlen : 500 < xs.length
  · go_enter Try.func6, Try.ntmps6
    go_wp2_with fail
    refine (awake_any _).mono ?_
    rintro e w1 ⟨rfl, hB⟩
    have HB := Lib.hid hB
    clear hB
    go_wp2_with fail
    go_ret
    exact ⟨rfl, HB.out⟩
  · have hl : xs.length ≤ 500 := by omega
    go_enter Try.func6, Try.ntmps6
    go_wp2_with fail
    refine (awake_any _).mono ?_
    rintro e w1 ⟨rfl, hB⟩
    have HB1 := Lib.hid hB
    have hz1 := hB.size
    clear hB
    go_wp2_with fail
    refine (reader_any (HD.out.below HB1.out (Nat.le_refl _)) rfl (by omega) hz1).mono ?_
    rintro e w2 ⟨g, rfl, hg, hr, hB⟩
    have HR2 := Lib.hid hr
    have HB2 := Lib.hid (HB1.out.trans (hB.mono hz1))
    clear hr hB
    go_wp2_with fail
    refine (bytes_any HR2.out).mono ?_
    rintro e w3 ⟨v, rfl, hv, hr, hs⟩
    have ht : tk xs 0 ((xs.length : Int) + 1) (decide (0 ≤ (xs.length : Int) + 1)) = (xs, 10, []) := by
      have h0 : (0 : Int) ≤ (xs.length : Int) + 1 := by omega
      have h1 : (xs.length : Int) < (xs.length : Int) + 1 := by omega
      simp [tk, h0, h1]
    rw [ht] at hr hv
    obtain ⟨A3, c3, rfl, _, _⟩ := hv
    have HR3 := Lib.hid hr
    have HB3 := Lib.hid (HB2.out.grown hs.1 (HB2.out.size) (by intro k hk; injection hk with hk; omega))
    clear hr hs ht
    go_wp2_with fail
    refine (number_any HR3.out).mono ?_
    rintro e w4 ⟨rfl, hr, hs⟩
    rw [tk10] at hr ⊢
    have HR4 := Lib.hid hr
    have HB4 := Lib.hid (HB3.out.grown hs.1 (HB3.out.size) (by intro k hk; injection hk with hk; omega))
    clear hr hs
    go_wp2_with fail
    refine (bytes_any HR4.out).mono ?_
    rintro e w5 ⟨v, rfl, hv, hr, hs⟩
    rw [tk10] at hr hv
    obtain ⟨A5, c5, rfl, _, _⟩ := hv
    have HR5 := Lib.hid hr
    have HB5 := Lib.hid (HB4.out.grown hs.1 (HB4.out.size) (by intro k hk; injection hk with hk; omega))
    clear hr hs
    go_wp2_with fail
    refine (wnumber_nil _ _ _).mono ?_
    rintro e w' ⟨rfl, rfl⟩
    go_wp2_with fail
    refine (wbytes_nil _ _).mono ?_
    rintro e w' ⟨rfl, rfl⟩
    go_wp2_with fail
    refine (rd_err HR5.out).mono ?_
    rintro e w' ⟨rfl, rfl⟩
    go_wp2_with fail
    refine (rd_end HR5.out).mono ?_
    rintro e w' ⟨he, rfl⟩
    obtain rfl : e = .returned (.int .i64 10) := he
    go_wp2_with fail
    refine (rd_left HR5.out).mono ?_
    rintro e w' ⟨rfl, rfl⟩
    go_wp2_with fail
    refine (number_nil _ _).mono ?_
    rintro e w' ⟨rfl, rfl⟩
    go_wp2_with fail
    refine (bytes_nil _ _).mono ?_
    rintro e w' ⟨rfl, rfl⟩
    go_wp2_with fail
    refine (left_nil _).mono ?_
    rintro e w' ⟨rfl, rfl⟩
    go_wp2_with fail
    refine (err_nil _).mono ?_
    rintro e w' ⟨rfl, rfl⟩
    go_wp2_with fail
    refine (end_nil _).mono ?_
    rintro e w' ⟨rfl, rfl⟩
    go_wp2_with fail
    refine (out_nil _).mono ?_
    rintro e w' ⟨rfl, rfl⟩
    go_wp2_with fail
    go_ret
    exact ⟨rfl, HB5.out⟩

set_option maxRecDepth 100000 in
theorem lifted (os : Os) (started : os.Started) (H : Type) (enc : TypeId × Value → H) :
    ReturnsInHanded {} Try.checked os 6 .any (Rows.cursorStaysSpec.pre6 enc Try.prog Try.f6 Rows.cursorStaysRow.domain false) (Rows.cursorStaysSpec.post enc Try.prog Try.f6 false true false false) := by
  refine returnsInHanded_of_change (C := Try.checked) own started (by kernel_rfl) Try.func6
    (ChangeSpec.witness6 (enc := enc) (C := Try.checked) false ⟨#[], #[.slice none 0 0, .int .i64 0, .int .i64 0], []⟩ 8 (by kernel_rfl) (by kernel_rfl) (by kernel_rfl) (by kernel_rfl)) ?_
  intro W base args ds gs before hval0 hW hcnd _
  have hval : ∀ (j : Nat) t v, Try.f6.params[j]? = some t → args[j]? = some v → Value.okWide Try.prog W .any base t v := hval0
  have hW' := hW
  obtain ⟨p, q, hA0, hV, rfl, hfz, hnd⟩ := hW
  have hA : DataW.TrodAll enc Try.prog W 0 (fun _ => true) true Try.f6.params.toList args.toList ds p := hA0
  rw [Try.params6] at hA hval
  obtain ⟨v0, vs0, d0, ds0, p0, q0, hargs, rfl, rfl, h0, r0⟩ := trodAll_cons hA
  obtain ⟨v1, vs1, d1, ds1, p1, q1, rfl, rfl, rfl, h1, r1⟩ := trodAll_cons r0
  obtain ⟨v2, vs2, d2, ds2, p2, q2, rfl, rfl, rfl, h2, r2⟩ := trodAll_cons r1
  obtain ⟨rfl, rfl, rfl⟩ := trodAll_nil r2
  obtain rfl : args = #[v0, v1, v2] := by cases args; simp_all
  obtain ⟨rfl, rfl⟩ := trodVars_none hV
  obtain ⟨a0, len0, cap0, rfl⟩ := okWide_slice Try.underlying22 (hval 0 22 v0 rfl rfl)
  have k0 := h0
  have lt0 : ∀ x ∈ p0, x.block < W.heap.size := by obtain ⟨m, hm⟩ := k0; exact DataW.trod_lt m _ _ _ hm
  obtain ⟨z0, w0⟩ : ∃ zs, IsRow .u8 W a0 len0 cap0 zs := by
    obtain ⟨fuel, hf⟩ := h0
    rcases open_ints Try.underlying22 Try.underlying5 (by kernel_rfl) hf with ⟨hcs, _⟩ | ⟨x, l, c, zs, hcs, _, hl, hm, hz, _, hcell, hwz⟩
    · simp [Value.cells] at hcs
      obtain ⟨rfl, rfl, rfl⟩ := hcs
      exact ⟨[], .inl ⟨rfl, rfl, rfl, rfl⟩⟩
    · simp [Value.cells] at hcs
      obtain ⟨rfl, rfl, rfl⟩ := hcs
      exact ⟨zs, .inr ⟨_, rfl, hl, hm, by simpa using hz, hcell, hwz⟩⟩
  obtain ⟨a1, rfl, rfl, rfl, w1⟩ := open_int Try.underlying3 (hval 1 3 v1 rfl rfl) h1
  obtain ⟨a2, rfl, rfl, rfl, w2⟩ := open_int Try.underlying3 (hval 2 3 v2 rfl rfl) h2
  clear hA0 hval0
  obtain ⟨xs, rfl, _, _, hd⟩ := row_dat w0
  refine (walk a0 xs cap0 a1 a2 W hd).mono fun e W' ⟨he, bel⟩ => ?_
  subst he
  exact ⟨_, rfl, _, _, _, [], _, [], hW', trodAll_mk1 (shut_bool Try.underlying4 _), (trodAll_cons_mk (Below.trod laidOut (by kernel_rfl) (of_decide_eq_true (by kernel_rfl)) k0 bel lt0) (trodAll_cons_mk (shut_int Try.underlying3 w1) (trodAll_cons_mk (shut_int Try.underlying3 w2) trodAll_mk0))), rfl, bel.frame _, fun h => by cases h⟩

theorem over : Rows.cursorStaysRow.holds Try.pinned (OpenSpec.ofChange Rows.cursorStaysSpec) :=
  OpenClaim.holds_of_wide 6 Try.f6 rfl rfl rfl rfl rfl rfl rfl ⟨rfl, rfl, rfl, rfl, rfl⟩ rfl rfl rfl rfl rfl (by kernel_rfl) Try.func6 (by kernel_rfl)
    (of_decide_eq_true (by kernel_rfl)) (by unfold Func.isWrapper; first | (rw [if_pos (by decide +kernel)]; kernel_rfl) | (rw [if_neg (by decide +kernel)]; exact ⟨rfl, rfl⟩))
    (fun os started H enc _ => lifted os started H enc)

theorem proved : Rows.CursorStaysSaid := over
end Go.Proofs.Ytppjilfhpiknbaa.cursorStays
