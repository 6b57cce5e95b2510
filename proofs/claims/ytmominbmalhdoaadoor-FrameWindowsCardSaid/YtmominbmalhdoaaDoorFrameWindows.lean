
/- FrameWindows holds, tied to the program's text: for every three numbers the law returns true. No condition of ours; the row's own: the package's variables read as the text lays them. -/
import Derived.Test.YtmominbmalhdoaaDoorFrmArgs
import Derived.Test.YtmominbmalhdoaaDoorFrmAwake
import Derived.Test.YtmominbmalhdoaaDoorFrmRefR
import Derived.Test.YtmominbmalhdoaaDoorFrmLawP
namespace Go.Proofs.YtmominbmalhdoaaDoor.frameWindows
open Go.ChangeShapes Go.WideShapes Go.ChangeAt Go.RowKit

/-- The first byte that the law makes. -/
def dN (d : Nat) : Nat := (d &&& 212) ||| 128
theorem dN_bits : ∀ d : Nat, d < 256 → bits .or .u8 (bits .and .u8 (d : Int) 212) 128 = ((dN d : Nat) : Int) := by decide +kernel
theorem dN_facts : ∀ d : Nat, d < 256 → dN d < 256 ∧ dN d / 8 % 2 ≠ 1 ∧ dN d / 32 % 2 = 0 ∧ dN d % 4 = 0 ∧ 2 ≤ dN d / 64 := by decide +kernel
theorem dN_sum : ∀ d : Nat, d < 256 → (bits .and .u8 (d : Int) 4 == 4) = decide (dN d / 4 % 2 = 1) := by decide +kernel

theorem dat_cells {W : World} {g : Nat} {t : TypeId} {xs : List UInt8} (h : Box W g t (xs.map cel).toArray) : Dat true W g (g + 1) (some ⟨g, 0, none⟩) xs := fun hx =>
  ⟨g, 0, rfl, Nat.le_refl _, by omega, fun j hj => by
    rw [Nat.zero_add, h.cell]
    simp [hj], fun _ j => h.free j⟩

set_option maxRecDepth 100000 in
set_option maxHeartbeats 4000000 in
theorem walk (wi di si : Int) (w : World) (hgl : Glob w) (hwb : 0 ≤ wi ∧ wi ≤ 255) (hdb : 0 ≤ di ∧ di ≤ 255) (hsb : 0 ≤ si ∧ si ≤ 4294967295) :
    Calls Tryd.prog 6 #[.int .u8 wi, .int .u8 di, .int .u32 si] w fun e w' => e = .returned (.bool true) ∧ Below w.heap.size w w' := by
  obtain ⟨wv, rfl⟩ := Int.eq_ofNat_of_zero_le hwb.1
  obtain ⟨d, rfl⟩ := Int.eq_ofNat_of_zero_le hdb.1
  obtain ⟨s, rfl⟩ := Int.eq_ofNat_of_zero_le hsb.1
  have hd8 : d < 256 := by omega
  have hw8 : wv < 256 := by omega
  have HG := Lib.hid hgl
  have hw2 := hgl.2.2
  have e1 := dN_bits d hd8
  have e2 := dN_sum d hd8
  have hf := dN_facts d hd8
  have hs32 : s ≤ 4294967295 := by omega
  generalize dN d = D at *
  obtain ⟨s0, h0⟩ : ∃ x, x = s % 256 := ⟨_, rfl⟩
  obtain ⟨s1, h1⟩ : ∃ x, x = s / 256 % 256 := ⟨_, rfl⟩
  obtain ⟨s2, h2⟩ : ∃ x, x = s / 65536 % 256 := ⟨_, rfl⟩
  obtain ⟨s3, h3⟩ : ∃ x, x = s / 16777216 := ⟨_, rfl⟩
  have i0 : (s : Int) % 256 = (s0 : Int) := by omega
  have i1 : (s : Int) / 256 % 256 = (s1 : Int) := by omega
  have i2 : (s : Int) / 65536 % 256 = (s2 : Int) := by omega
  have i3 : (s : Int) / 16777216 = (s3 : Int) := by omega
  have b0 : s0 < 256 := by omega
  have b1 : s1 < 256 := by omega
  have b2 : s2 < 256 := by omega
  have b3 : s3 < 256 := by omega
  clear h0 h1 h2 h3
  clear hgl hwb hdb hsb
  go_enter Tryd.func6, Tryd.ntmps6
  go_upto_region 5 with (go_at_call 8; refine (awake_any _ HG.out).mono ?_; rintro e' w1 ⟨rfl, hB1⟩; have HB1 := Lib.hid hB1; clear hB1)
  have hs1 := HB1.out.size
  obtain ⟨x, hx⟩ : ∃ x, x = UInt8.ofNat D := ⟨_, rfl⟩
  obtain ⟨y, hy⟩ : ∃ x, x = UInt8.ofNat wv := ⟨_, rfl⟩
  have hxn : x.toNat = D := by rw [hx, UInt8.toNat_ofNat', Nat.mod_eq_of_lt hf.1]
  have hyn : y.toNat = wv := by rw [hy, UInt8.toNat_ofNat', Nat.mod_eq_of_lt hw8]
  obtain ⟨r, hr⟩ : ∃ r : List UInt8, r = [UInt8.ofNat s0, UInt8.ofNat s1, UInt8.ofNat s2, UInt8.ofNat s3, 0, 0, 0, 0] := ⟨_, rfl⟩
  have hcs : (#[.int .u8 (D : Int), .int .u8 (wv : Int), .int .u8 (s0 : Int), .int .u8 (s1 : Int), .int .u8 (s2 : Int), .int .u8 (s3 : Int), .int .u8 0, .int .u8 0, .int .u8 0, .int .u8 0] : Array Value) = ((x :: y :: r).map cel).toArray := by
    rw [hr, hx, hy]
    simp only [List.map_cons, List.map_nil]
    rw [cel_of D hf.1, cel_of wv hw8, cel_of s0 b0, cel_of s1 b1, cel_of s2 b2, cel_of s3 b3]
    rfl
  have hrl : r.length = 8 := by rw [hr]; rfl
  have hbx : Box (w1.alloc (.cells #[.int .u8 (D : Int), .int .u8 (wv : Int), .int .u8 (s0 : Int), .int .u8 (s1 : Int), .int .u8 (s2 : Int), .int .u8 (s3 : Int), .int .u8 0, .int .u8 0, .int .u8 0, .int .u8 0] 5)) w1.heap.size 5 ((x :: y :: r).map cel).toArray := by
    rw [← hcs]
    exact Box.new _ _ _
  have HB2 : Hid (Below w.heap.size w (w1.alloc (.cells #[.int .u8 (D : Int), .int .u8 (wv : Int), .int .u8 (s0 : Int), .int .u8 (s1 : Int), .int .u8 (s2 : Int), .int .u8 (s3 : Int), .int .u8 0, .int .u8 0, .int .u8 0, .int .u8 0] 5))) := HB1.out.alloc hs1 _
  have hgs := hbx.lt
  generalize w1.alloc (.cells #[.int .u8 (D : Int), .int .u8 (wv : Int), .int .u8 (s0 : Int), .int .u8 (s1 : Int), .int .u8 (s2 : Int), .int .u8 (s3 : Int), .int .u8 0, .int .u8 0, .int .u8 0, .int .u8 0] 5) = w2 at *
  generalize w1.heap.size = g at *
  have HD := Lib.hid ((dat_cells hbx).mono (Nat.le_refl _) (show g + 1 ≤ w2.heap.size by omega))
  obtain ⟨z, n, hz⟩ := hdr_win x y r (by rw [hxn]; exact hf.2.1) (by rw [hxn]; exact hf.2.2.1) (by rw [hxn]; exact hf.2.2.2.1) (by rw [hxn]; exact hf.2.2.2.2) (by omega)
  rw [hxn, hyn] at hz
  obtain ⟨W, hW⟩ : ∃ W, W = winN wv := ⟨_, rfl⟩
  obtain ⟨sm, hsm⟩ : ∃ b, b = decide (D / 4 % 2 = 1) := ⟨_, rfl⟩
  have hWg : 1024 ≤ W := by rw [hW]; exact winN_ge wv
  rw [← hW, ← hsm] at hz
  rw [← hsm] at e2
  obtain ⟨xs, hxs⟩ : ∃ xs, xs = x :: y :: r := ⟨_, rfl⟩
  have hxl : xs.length = 10 := by rw [hxs]; simp [hrl]
  rw [← hxs] at hz HD
  have hAns : ansH (hdr xs) = .tuple #[.agg #[.int .u64 (W : Int), .int .u64 (z : Int), .bool true, .bool sm], .int .i64 (n : Int), .int .i64 0] := by rw [hz]; rfl
  have hs2 := HB2.out.size
  have hR := Lib.hid (read15_any (n := 10) (c := 10) HD.out hxl (by omega) (by omega) (Nat.le_refl _) (HG.out.below HB2.out hw2))
  have hF := Lib.hid (fun W => refRead15_any xs (by omega) W)
  rw [hAns] at hR hF
  have hS := str_size xs
  clear hcs hbx hx hy hr hxs hz hAns hW hsm hxn hyn hf e1
  go_upto_region 6 with (go_at_call 9; refine hR.out.mono ?_; rintro e' w3 ⟨rfl, hB3⟩; have HD3 := Lib.hid (HD.out.below hB3 (Nat.le_refl _)); have HB3 := Lib.hid (HB2.out.trans (hB3.mono hs2)); have hs23 := hB3.size; clear hB3)
  have HX : Hid (Box (w3.alloc (.cells #[.int .u64 (W : Int), .int .u64 (z : Int), .bool true, .bool sm] 26)) w3.heap.size 26 #[.int .u64 (W : Int), .int .u64 (z : Int), .bool true, .bool sm]) := Box.new _ _ _
  have HB4 : Hid (Below w.heap.size w (w3.alloc (.cells #[.int .u64 (W : Int), .int .u64 (z : Int), .bool true, .bool sm] 26))) := HB3.out.alloc HB3.out.size _
  have HD4 := Lib.hid (HD3.out.alloc hs23 (.cells #[.int .u64 (W : Int), .int .u64 (z : Int), .bool true, .bool sm] 26))
  generalize w3.alloc (.cells #[.int .u64 (W : Int), .int .u64 (z : Int), .bool true, .bool sm] 26) = w4 at *
  generalize w3.heap.size = q at *
  have hcv := run_str (P := Tryd.prog) w4 22 Tryd.underlying22 Tryd.underlying5 (c := 10) (m := 10) HD4.out hxl 9 Tryd.underlying9
  generalize str xs = S at *
  go_upto_region 7 with (go_at_call 10; refine (hF.out _).mono ?_; rintro e' w5 ⟨rfl, hB5⟩; have HX5 := Lib.hid (HX.out.below hB5 HX.out.lt); have HB5 := Lib.hid (HB4.out.trans (hB5.mono HB4.out.size)); clear hB5)
  have HY : Hid (Box (w5.alloc (.cells #[.int .u64 (W : Int), .int .u64 (z : Int), .bool true, .bool sm] 30)) w5.heap.size 30 #[.int .u64 (W : Int), .int .u64 (z : Int), .bool true, .bool sm]) := Box.new _ _ _
  have HX6 := Lib.hid (HX5.out.alloc (.cells #[.int .u64 (W : Int), .int .u64 (z : Int), .bool true, .bool sm] 30))
  have HB6 : Hid (Below w.heap.size w (w5.alloc (.cells #[.int .u64 (W : Int), .int .u64 (z : Int), .bool true, .bool sm] 30))) := HB5.out.alloc HB5.out.size _
  generalize w5.alloc (.cells #[.int .u64 (W : Int), .int .u64 (z : Int), .bool true, .bool sm] 30) = w6 at *
  generalize w5.heap.size = v at *
  have q0 := HX6.out.cell 0
  have q1 := HX6.out.cell 1
  have q2 := HX6.out.cell 2
  have q3 := HX6.out.cell 3
  have v0 := HY.out.cell 0
  have v1 := HY.out.cell 1
  have v2 := HY.out.cell 2
  have v3 := HY.out.cell 3
  simp at q0 q1 q2 q3 v0 v1 v2 v3
  have k1 : ((W : Int) == (W : Int)) = true := by simp
  have k2 : ((z : Int) == (z : Int)) = true := by simp
  have k3 : ((n : Int) == (n : Int)) = true := by simp
  have k4 : decide ((1024 : Int) ≤ (W : Int)) = true := by simp; omega
  have k5 : (sm == sm) = true := by simp
  go_wp2_with fail
  go_ret
  exact ⟨rfl, HB6.out⟩

set_option maxRecDepth 100000 in
theorem lifted (os : Os) (started : os.Started) (H : Type) (enc : TypeId × Value → H) :
    ReturnsInHanded {} Tryd.checked os 6 .any (fun w args => (Rows.frameWindowsSpec.pre enc Tryd.prog Tryd.f6 [] false w args ∧ laidMetH Tryd.prog laidL w) ∧ sizedMet enc Tryd.prog Tryd.f6 (OpenSpec.ofChange Rows.frameWindowsSpec) false w args)
      (Rows.frameWindowsSpec.post enc Tryd.prog Tryd.f6 false true false false) := by
  refine returnsInHanded_of_change_and (C := Tryd.checked) (X := fun w _ => laidMetH Tryd.prog laidL w) (fun _ _ _ hh h => h.of_heap hh) own started (by kernel_rfl) Tryd.func6
    (ChangeSpec.witness_shaped (enc := enc) (C := Tryd.checked) (os := os) (X := fun w _ => laidMetH Tryd.prog laidL w) false (World.doorLaid Tryd.prog 400 os) #[.int .u8 0, .int .u8 0, .int .u32 0] 8 rfl (World.shaped_of_RefB (by kernel_rfl) (by kernel_rfl)) (by kernel_rfl) (by kernel_rfl) (by kernel_rfl) (door_met os _)) ?_
  intro W base args ds gs before hval0 hW _ _ hL _
  have hval : ∀ (j : Nat) t v, Tryd.f6.params[j]? = some t → args[j]? = some v → Value.okWide Tryd.prog W .any base t v := hval0
  have hW' := hW
  obtain ⟨p, q, hA0, hV, rfl, hfz, hnd⟩ := hW
  have hA : DataW.TrodAll enc Tryd.prog W 0 (fun _ => true) true Tryd.f6.params.toList args.toList ds p := hA0
  rw [Tryd.params6] at hA hval
  obtain ⟨v0, vs0, d0, ds0, p0, q0, hargs, rfl, rfl, h0, r0⟩ := trodAll_cons hA
  obtain ⟨v1, vs1, d1, ds1, p1, q1, rfl, rfl, rfl, h1, r1⟩ := trodAll_cons r0
  obtain ⟨v2, vs2, d2, ds2, p2, q2, rfl, rfl, rfl, h2, r2⟩ := trodAll_cons r1
  obtain ⟨rfl, rfl, rfl⟩ := trodAll_nil r2
  obtain rfl : args = #[v0, v1, v2] := by cases args; simp_all
  obtain ⟨rfl, rfl⟩ := trodVars_none hV
  obtain ⟨n0, rfl, rfl, rfl, w0⟩ := open_int Tryd.underlying5 (hval 0 5 v0 rfl rfl) h0
  obtain ⟨n1, rfl, rfl, rfl, w1⟩ := open_int Tryd.underlying5 (hval 1 5 v1 rfl rfl) h1
  obtain ⟨n2, rfl, rfl, rfl, w2⟩ := open_int Tryd.underlying48 (hval 2 48 v2 rfl rfl) h2
  clear hA0 hval0
  refine (walk n0 n1 n2 W (glob_of_laid hL) (u8_bounds w0) (u8_bounds w1) (u32_bounds w2)).mono fun e W' ⟨he, bel⟩ => ?_
  subst he
  exact ⟨_, rfl, _, _, _, [], _, [], hW', trodAll_mk1 (shut_bool Tryd.underlying4 _), (trodAll_cons_mk (shut_int Tryd.underlying5 w0) (trodAll_cons_mk (shut_int Tryd.underlying5 w1) (trodAll_cons_mk (shut_int Tryd.underlying48 w2) trodAll_mk0))), rfl, bel.frame _, fun h => by cases h⟩

theorem over : Rows.frameWindowsRow.holds Tryd.pinned (OpenSpec.ofChange Rows.frameWindowsSpec) :=
  OpenClaim.holds_of_wide 6 Tryd.f6 rfl rfl rfl rfl rfl rfl rfl ⟨rfl, rfl, rfl, rfl, rfl⟩ rfl rfl rfl rfl rfl (by kernel_rfl) Tryd.func6 (by kernel_rfl)
    (of_decide_eq_true (by kernel_rfl)) (by unfold Func.isWrapper; first | (rw [if_pos (by decide +kernel)]; kernel_rfl) | (rw [if_neg (by decide +kernel)]; exact ⟨rfl, rfl⟩))
    (fun os started H enc _ => lifted os started H enc)

/-- ████ THE STATEMENT ████ -/
theorem proved : Rows.FrameWindowsCardSaid :=
  Claim7.holds_tied_plain_at .later [] [.data, .wider] true Rows.frameWindowsCard.stood.harness false
    over (fun _ h => by cases h) (by kernel_rfl) (fun _ h => by cases h) frameWindows_row_tie rfl ⟨rfl, rfl⟩ (by kernel_rfl) rfl
    (fun f fn hf hfn => by
      obtain rfl : f = 6 := Option.some.inj ((show Tryd.prog.funcNamed Rows.frameWindowsRow.func = some 6 by kernel_rfl).symm.trans hf) |>.symm
      obtain rfl : fn = Tryd.f6 := (Option.some.inj (Tryd.func6.symm.trans hfn)).symm
      exact ⟨by kernel_rfl, fun j t ht => by
        rw [Tryd.params6] at ht
        have hm : t ∈ [5, 5, 48] := by
          have := Array.mem_of_getElem? ht
          simp at this
          simpa using this
        have hall : ([5, 5, 48].all fun u => !Tryd.prog.wantsStandIn u) = true := by kernel_rfl
        exact (show Tryd.prog.wantsStandIn t = false by simpa using List.all_eq_true.1 hall t hm)⟩)
    (by kernel_rfl)
#print axioms proved
end Go.Proofs.YtmominbmalhdoaaDoor.frameWindows
