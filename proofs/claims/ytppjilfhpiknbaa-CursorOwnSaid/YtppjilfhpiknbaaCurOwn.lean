/- CursorOwn holds: for every slice of bytes and every byte the law returns true, and the slice reads behind the call as it read before. No condition. -/
import Derived.Test.YtppjilfhpiknbaaCurArgs
namespace Go.Proofs.Ytppjilfhpiknbaa.cursorOwn
open Go.ChangeShapes Go.WideShapes Go.ChangeAt Go.RowKit

theorem own : ownKnob Try.prog.godebug = none := by kernel_rfl
theorem laidOut : laidOutB Try.prog = true := by kernel_rfl

theorem RD.empty {own : Bool} {w : World} {lo g : Nat} {e : Int} (h : RD own w lo g [] e) : RD own w g g [] e := by
  obtain ⟨A, c, h1, h2, _⟩ := h
  exact ⟨A, c, h1, h2, Dat.nil _ _ _ _ _⟩

set_option maxHeartbeats 1000000 in
theorem walk_short (a0 : Option Addr) (xs : List UInt8) (cap0 : Nat) (x : Int) (w : World) (h : xs.length = 0 ∨ 500 < xs.length) :
    Calls Try.prog 7 #[.slice a0 xs.length cap0, .int .u8 x] w fun e w' => e = .returned (.bool true) ∧ Below w.heap.size w w' := by
  rcases h with h | h
  · rw [h]
    go_enter Try.func7, Try.ntmps7
    go_wp2_with fail
    refine (awake_any _).mono ?_
    rintro e w1 ⟨rfl, hB⟩
    have HB := Lib.hid hB
    clear hB
    go_wp2_with fail
    go_ret
    exact ⟨rfl, HB.out⟩
  · generalize xs.length = n at *
    have hd : decide (500 < n) = true := decide_eq_true h
    go_enter Try.func7, Try.ntmps7
    go_wp2_with fail
    refine (awake_any _).mono ?_
    rintro e w1 ⟨rfl, hB⟩
    have HB := Lib.hid hB
    clear hB
    go_wp2_with fail
    go_ret
    exact ⟨rfl, HB.out⟩

set_option maxHeartbeats 2000000 in
theorem walk_body (a0 : Option Addr) (xs : List UInt8) (cap0 : Nat) (x : Int) (w : World) (hd : Dat false w 0 w.heap.size a0 xs) (h1 : 0 < xs.length) (h5 : xs.length ≤ 500) :
    Calls Try.prog 7 #[.slice a0 xs.length cap0, .int .u8 x] w fun e w' => e = .returned (.bool true) ∧ Below w.heap.size w w' := by
  obtain ⟨i0, hi0, hz0, hz1, hz2⟩ := info_parts u8_info
  have HD := Lib.hid hd
  clear hd
  have hq0 : ((xs.length : Int) == 0) = false := beq_eq_false_iff_ne.2 (by omega)
  have hq2 : decide (500 < (xs.length : Int)) = false := decide_eq_false (by omega)
  go_enter Try.func7, Try.ntmps7
  go_wp2_with fail
  refine (awake_any _).mono ?_
  rintro e w1 ⟨rfl, hB⟩
  have HB1 := Lib.hid hB
  have hs1 := hB.size
  have HD1 := Lib.hid (HD.out.below hB (Nat.le_refl _))
  have hcv := run_str (P := Try.prog) w1 22 Try.underlying22 Try.underlying5 (c := cap0) HD1.out rfl 9 Try.underlying9
  clear hB
  go_wp2_with (at_builtin; refine list_app _ rfl _ _ 22 rfl i0 Try.underlying22 hi0 hz0 hz1 hz2 rfl (OwB.nil _ _ w1.heap.size) rfl HD1.out rfl ?_ (Nat.le_refl _) ?_)
  · simp only [List.length_nil]; omega
  intro v' w2 ho hgr _
  have ho' : OwB w2 5 w1.heap.size v' xs := ho
  obtain ⟨A, c, hv, _, hd2⟩ := ho'.form
  subst hv
  have hb2 : Below w1.heap.size w1 w2 := (Below.refl _ _).grown hgr (Nat.le_refl _) (by intro k hk; cases hk)
  have hs2 := hb2.size
  have HB2 := Lib.hid (HB1.out.trans (hb2.mono hs1))
  obtain ⟨d, o, rfl, hd0, hdl, hdc, hdf⟩ := hd2 h1
  have HC2 := Lib.hid hdc
  have HF2 := Lib.hid (hdf rfl)
  have HD2 := Lib.hid hd2
  clear hd2 hdc hdf ho ho' hgr hb2 hcv
  go_wp2_with fail
  refine (reader_any HD2.out rfl (by omega) (Nat.le_refl _)).mono ?_
  rintro e w3 ⟨g, rfl, hg, hr, hB⟩
  have HR3 := Lib.hid hr
  have HB23 := Lib.hid hB
  have hs3 := hB.size
  have hg3 := hr.lt
  clear hr hB
  go_wp2_with fail
  refine (newWriter_any _).mono ?_
  rintro e w4 ⟨rfl, hw, hB⟩
  have HW4 := Lib.hid hw
  have HB34 := Lib.hid hB
  have hs4 := hB.size
  clear hw hB
  go_wp2_with fail
  refine (wbytes_any HW4.out ((HD2.out.below HB23.out (Nat.le_refl _)).below HB34.out hs3) rfl (by simp only [List.length_nil]; omega)).mono ?_
  rintro e w5 ⟨rfl, hw, hB⟩
  have HW5 := Lib.hid (show Wtr w5 w3.heap.size w3.heap.size xs from hw)
  have HB35 := Lib.hid (HB34.out.trans hB)
  have HB25 := Lib.hid (HB23.out.trans ((HB34.out.trans hB).mono hs3))
  have hs5 := hB.size
  have hc5 : w5.cell? ⟨d, o, none⟩ = some (cel (xs.getD 0 0)) := (HB25.out.cell (p := ⟨d, o, none⟩) hdl).trans (HC2.out 0 h1)
  have hf5 : w5.frozen? ⟨d, o, none⟩ = false := (HB25.out.frozen (p := ⟨d, o, none⟩) hdl).trans (HF2.out o)
  unfold cel at hc5
  clear hw hB
  have hj0 : (0 : Int) < (xs.length : Int) := by omega
  go_wp2_with fail
  refine (bytes_any ((HR3.out.below HB35.out hg3).far (.inl hdl) hg _)).mono ?_
  rintro e w6 ⟨v, rfl, hv, hr, hs⟩
  have ht : tk xs 0 (xs.length : Int) (decide (0 ≤ (xs.length : Int))) = ([], 0, xs) := by simp [tk]
  rw [ht] at hr hv
  obtain ⟨A, cy, rfl, _, hdy⟩ := hv
  obtain ⟨d2, o2, rfl, hd20, hd2l, hdc, hdf⟩ := hdy h1
  have hs6 : w5.heap.size ≤ w6.heap.size := by have := hs.1.size; simpa [World.setCell] using this
  have HW6 : Hid (Wtr w6 w3.heap.size w3.heap.size xs) := ((HW5.out).far (p := ⟨d, o, none⟩) (by show d < _; omega) _).keep fun k hk1 hk2 => hs.1.block k hk2 (by intro h; injection h with h; omega)
  have HR6 := Lib.hid (RD.empty hr)
  have HB6 := Lib.hid (((HB2.out.trans (HB25.out.mono (by omega))).setCell (p := ⟨d, o, none⟩) (by show _ ≤ d; omega) (.int .u8 (bits .xor .u8 (xs[0].toNat : Int) x))).grown hs.1 (by simp [World.setCell]; omega) (by intro k hk; injection hk with hk; omega))
  have HDY := Lib.hid hdy
  have HCY := Lib.hid hdc
  have HFY := Lib.hid (hdf rfl)
  have hcv := run_str (P := Try.prog) w6 22 Try.underlying22 Try.underlying5 (c := cy) hdy rfl 9 Try.underlying9
  have hd2s : d2 < w6.heap.size := by omega
  clear hr hs ht hdy hdc hdf
  go_wp2_with fail
  refine (out_any HW6.out (by omega)).mono ?_
  rintro e w7 ⟨v, rfl, ho, hB⟩
  obtain ⟨A7, c7, rfl, _, hd7⟩ := ho.form
  have hcv7 := run_str (P := Try.prog) w7 22 Try.underlying22 Try.underlying5 (c := c7) hd7 rfl 9 Try.underlying9
  have HB67 := Lib.hid hB
  have hs7 := hB.size
  have hc7 : w7.cell? ⟨d2, o2, none⟩ = some (cel (xs.getD 0 0)) := (hB.cell (p := ⟨d2, o2, none⟩) hd2s).trans (HCY.out 0 h1)
  have hf7 : w7.frozen? ⟨d2, o2, none⟩ = false := (hB.frozen (p := ⟨d2, o2, none⟩) hd2s).trans (HFY.out o2)
  unfold cel at hc7
  clear ho hB hd7 hcv
  go_wp2_with fail
  refine (out_any ((HW6.out.below HB67.out (Nat.le_refl _)).far (p := ⟨d2, o2, none⟩) (by show d2 < _; omega) _) (by omega)).mono ?_
  rintro e w8 ⟨v, rfl, ho, hB⟩
  obtain ⟨A8, c8, rfl, _, hd8⟩ := ho.form
  have hcv8 := run_str (P := Try.prog) w8 22 Try.underlying22 Try.underlying5 (c := c8) hd8 rfl 9 Try.underlying9
  have hg6 := HR6.out.lt
  have hs8 : w7.heap.size ≤ w8.heap.size := by have := hB.size; simpa [World.setCell] using this
  have HR8 := Lib.hid (((HR6.out.below HB67.out hg6).far (p := ⟨d2, o2, none⟩) (.inl hd2l) (Nat.le_refl _) (.int .u8 (bits .xor .u8 (xs[0].toNat : Int) x))).below hB (by simp [World.setCell]; omega))
  have HB8 := Lib.hid (((HB6.out.trans (HB67.out.mono (by omega))).setCell (p := ⟨d2, o2, none⟩) (by show _ ≤ d2; omega) (.int .u8 (bits .xor .u8 (xs[0].toNat : Int) x))).trans (hB.mono (by simp [World.setCell]; omega)))
  clear ho hB hd8 hcv7
  go_wp2_with fail
  refine (rd_end HR8.out).mono ?_
  rintro e w' ⟨he, rfl⟩
  obtain rfl : e = .returned (.int .i64 0) := he
  go_wp2_with fail
  go_ret
  exact ⟨rfl, HB8.out⟩

theorem walk (a0 : Option Addr) (xs : List UInt8) (cap0 : Nat) (x : Int) (w : World) (hd : Dat false w 0 w.heap.size a0 xs) :
    Calls Try.prog 7 #[.slice a0 xs.length cap0, .int .u8 x] w fun e w' => e = .returned (.bool true) ∧ Below w.heap.size w w' := by
  by_cases h : xs.length = 0 ∨ 500 < xs.length
  · exact walk_short a0 xs cap0 x w h
  · exact walk_body a0 xs cap0 x w hd (by omega) (by omega)

set_option maxRecDepth 100000 in
theorem lifted (os : Os) (started : os.Started) (H : Type) (enc : TypeId × Value → H) :
    ReturnsInHanded {} Try.checked os 7 .any (Rows.cursorOwnSpec.pre6 enc Try.prog Try.f7 Rows.cursorOwnRow.domain false) (Rows.cursorOwnSpec.post enc Try.prog Try.f7 false true false false) := by
  refine returnsInHanded_of_change (C := Try.checked) own started (by kernel_rfl) Try.func7
    (ChangeSpec.witness6 (enc := enc) (C := Try.checked) false ⟨#[], #[.slice none 0 0, .int .u8 0], []⟩ 8 (by kernel_rfl) (by kernel_rfl) (by kernel_rfl) (by kernel_rfl)) ?_
  intro W base args ds gs before hval0 hW hcnd _
  have hval : ∀ (j : Nat) t v, Try.f7.params[j]? = some t → args[j]? = some v → Value.okWide Try.prog W .any base t v := hval0
  have hW' := hW
  obtain ⟨p, q, hA0, hV, rfl, hfz, hnd⟩ := hW
  have hA : DataW.TrodAll enc Try.prog W 0 (fun _ => true) true Try.f7.params.toList args.toList ds p := hA0
  rw [Try.params7] at hA hval
  obtain ⟨v0, vs0, d0, ds0, p0, q0, hargs, rfl, rfl, h0, r0⟩ := trodAll_cons hA
  obtain ⟨v1, vs1, d1, ds1, p1, q1, rfl, rfl, rfl, h1, r1⟩ := trodAll_cons r0
  obtain ⟨rfl, rfl, rfl⟩ := trodAll_nil r1
  obtain rfl : args = #[v0, v1] := by cases args; simp_all
  obtain ⟨rfl, rfl⟩ := trodVars_none hV
  obtain ⟨a0, len0, cap0, rfl⟩ := okWide_slice Try.underlying22 (hval 0 22 v0 rfl rfl)
  have k0 := h0
  have lt0 : ∀ x ∈ p0, x.block < W.heap.size := by obtain ⟨m, hm⟩ := k0; exact DataW.trod_lt m _ _ _ hm
  obtain ⟨z0, w0⟩ : ∃ zs, IsRow .u8 W a0 len0 cap0 zs := by
    obtain ⟨fuel, hf⟩ := h0
    rcases open_ints Try.underlying22 Try.underlying5 (by kernel_rfl) hf with ⟨hcs, _⟩ | ⟨x, l, c, zs, hcs, _, hl, hm, hz, _, hcell, hwz⟩
    · simp [Value.cells] at hcs
      obtain ⟨rfl, rfl, rfl⟩ := hcs
      exact ⟨[], .inl ⟨rfl, rfl, rfl, rfl⟩⟩
    · simp [Value.cells] at hcs
      obtain ⟨rfl, rfl, rfl⟩ := hcs
      exact ⟨zs, .inr ⟨_, rfl, hl, hm, by simpa using hz, hcell, hwz⟩⟩
  obtain ⟨a1, rfl, rfl, rfl, w1⟩ := open_int Try.underlying5 (hval 1 5 v1 rfl rfl) h1
  clear hA0 hval0
  obtain ⟨xs, rfl, _, _, hd⟩ := row_dat w0
  refine (walk a0 xs cap0 a1 W hd).mono fun e W' ⟨he, bel⟩ => ?_
  subst he
  exact ⟨_, rfl, _, _, _, [], _, [], hW', trodAll_mk1 (shut_bool Try.underlying4 _), (trodAll_cons_mk (Below.trod laidOut (by kernel_rfl) (of_decide_eq_true (by kernel_rfl)) k0 bel lt0) (trodAll_cons_mk (shut_int Try.underlying5 w1) trodAll_mk0)), rfl, bel.frame _, fun h => by cases h⟩

theorem over : Rows.cursorOwnRow.holds Try.pinned (OpenSpec.ofChange Rows.cursorOwnSpec) :=
  OpenClaim.holds_of_wide 7 Try.f7 rfl rfl rfl rfl rfl rfl rfl ⟨rfl, rfl, rfl, rfl, rfl⟩ rfl rfl rfl rfl rfl (by kernel_rfl) Try.func7 (by kernel_rfl)
    (of_decide_eq_true (by kernel_rfl)) (by unfold Func.isWrapper; first | (rw [if_pos (by decide +kernel)]; kernel_rfl) | (rw [if_neg (by decide +kernel)]; exact ⟨rfl, rfl⟩))
    (fun os started H enc _ => lifted os started H enc)

theorem proved : Rows.CursorOwnSaid := over
end Go.Proofs.Ytppjilfhpiknbaa.cursorOwn
