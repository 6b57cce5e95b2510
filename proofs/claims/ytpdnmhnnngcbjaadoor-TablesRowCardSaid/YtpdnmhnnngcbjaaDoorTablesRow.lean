
/- TablesRow holds, tied to the program's text: for every two numbers and every bytes the law returns true. No condition of ours; the row's own: the package's variables read as the text lays them. -/
import Derived.Test.YtpdnmhnnngcbjaaDoorTabArgs
import Derived.Test.YtpdnmhnnngcbjaaDoorTabAwake
namespace Go.Proofs.YtpdnmhnnngcbjaaDoor.tablesRow
open Go.ChangeShapes Go.WideShapes Go.ChangeAt Go.RowKit

set_option maxRecDepth 100000 in
set_option maxHeartbeats 2000000 in
theorem walk (ki yi : Int) (a : Option Addr) (xs : List UInt8) (cp : Nat) (w : World) (hgl : Glob w.heap.size w) (hk : 0 ≤ ki ∧ ki ≤ 255) (hy : 0 ≤ yi ∧ yi ≤ 255) (hd : Dat false w 0 w.heap.size a xs) (_hm : xs.length ≤ maxLen) :
    Calls Tryd.prog 5 #[.int .u8 ki, .int .u8 yi, .slice a xs.length cp] w fun e w' => e = .returned (.bool true) ∧ Below w.heap.size w w' := by
  obtain ⟨kk, rfl⟩ := Int.eq_ofNat_of_zero_le hk.1
  obtain ⟨y, rfl⟩ := Int.eq_ofNat_of_zero_le hy.1
  have HG := Lib.hid hgl
  have HD := Lib.hid hd
  obtain ⟨m, hmm⟩ : ∃ m, m = xs.length := ⟨_, rfl⟩
  rw [← hmm]
  have HM := Lib.hid hmm
  have hy8 : y < 256 := by omega
  clear hgl hd hmm
  by_cases hlong : 50 < m
  · have h50 : (50 : Int) < (m : Int) := by omega
    go_enter Tryd.func5, Tryd.ntmps5
    go_wp2_with (go_at_call 6; refine (tab_awake _ HG.out).mono ?_; rintro e' w1 ⟨rfl, hB1⟩; have HB1 := Lib.hid hB1; clear hB1)
    go_ret
    exact ⟨rfl, HB1.out⟩
  · have h50 : decide ((50 : Int) < (m : Int)) = false := by simp; omega
    obtain ⟨n, hnn⟩ : ∃ n, n = kk % 3 := ⟨_, rfl⟩
    have hn : n < 3 := by omega
    have hnt : (kk : Int).tmod 3 = (n : Int) := by rw [Int.tmod_eq_emod_of_nonneg (by omega)]; omega
    have hni : (kk : Int) % 3 = (n : Int) := by omega
    have hnz : (n : Int) < 3 := by omega
    obtain ⟨z, hz⟩ : ∃ z : UInt8, z = UInt8.ofNat y := ⟨_, rfl⟩
    have hzy : z.toNat = y := by rw [hz, UInt8.toNat_ofNat']; omega
    have hcz : cel z = .int .u8 (y : Int) := by unfold cel; rw [hzy]
    obtain ⟨i0, hi0, hz0, hz1, hz2⟩ := info_parts u8_info
    have HI := Lib.hid (And.intro hi0 (And.intro hz0 (And.intro hz1 hz2)))
    have HZ := Lib.hid hzy
    have HCZ := Lib.hid hcz
    clear hz hcz hzy hi0 hz0 hz1 hz2 hnn hk hy
    go_enter Tryd.func5, Tryd.ntmps5
    go_wp2_with fail
    refine (tab_awake _ HG.out).mono ?_
    rintro e w1 ⟨rfl, hB1⟩
    have HB1 := Lib.hid hB1
    clear hB1
    have hq : (w1.alloc (.cells #[.int .i64 35, .int .i64 31, .int .i64 52] 3)).cell? ⟨w1.heap.size, n, none⟩ = some (.int .i64 (lastN n : Int)) := by
      have h1 := (Box.new w1 3 #[.int .i64 35, .int .i64 31, .int .i64 52]).cell n
      rw [h1]
      rcases (show n = 0 ∨ n = 1 ∨ n = 2 by omega) with rfl | rfl | rfl <;> rfl
    have hL := last_le n hn
    obtain ⟨l, hl⟩ : ∃ l, l = lastN n := ⟨_, rfl⟩
    rw [← hl] at hq hL
    have HL := Lib.hid hl
    have HB2 := Lib.hid (HB1.out.alloc HB1.out.size (.cells #[.int .i64 35, .int .i64 31, .int .i64 52] 3))
    have hs2 : (w1.alloc (.cells #[.int .i64 35, .int .i64 31, .int .i64 52] 3)).heap.size = w1.heap.size + 1 := by simp
    have HS2 := Lib.hid hs2
    clear hl hs2
    go_upto_region 9 with (fail)
    clear hq
    generalize w1.alloc (.cells #[.int .i64 35, .int .i64 31, .int .i64 52] 3) = W2 at *
    have hd1 := dat_one W2 z 5
    rw [HCZ.out] at hd1
    have HD1 := Lib.hid hd1
    have HA := Lib.hid (OwB.nil (W2.alloc (.cells #[.int .u8 (y : Int)] 5)) 5 w.heap.size)
    have HB2a := Lib.hid (HB2.out.alloc HB2.out.size (.cells #[.int .u8 (y : Int)] 5))
    clear hd1
    go_wp2_with (at_builtin; refine list_app _ rfl _ _ 27 rfl i0 Tryd.underlying27 HI.out.1 HI.out.2.1 HI.out.2.2.1 HI.out.2.2.2 rfl HA.out rfl HD1.out rfl ?_ ?_ ?_)
    · simp
    · exact HB2a.out.size
    intro v3 w3 ho3 hg3 _
    obtain ⟨A3, c3, rfl, _, _⟩ := ho3.form
    have HO3 := Lib.hid ho3
    have HB3 := Lib.hid (HB2a.out.grown hg3 HB2a.out.size (by intro k hk; cases hk))
    clear ho3 hg3 HA HD1 HB2a
    go_upto_region 10 with (fail)
    have HD3 := Lib.hid (HD.out.below HB3.out (Nat.le_refl _))
    go_wp2_with (at_builtin; refine list_app _ rfl _ _ 27 rfl i0 Tryd.underlying27 HI.out.1 HI.out.2.1 HI.out.2.2.1 HI.out.2.2.2 rfl HO3.out rfl HD3.out HM.out.symm ?_ ?_ ?_)
    · simp; omega
    · exact HB3.out.size
    intro v4 w4 ho4 hg4 _

    obtain ⟨A4, c4, rfl, hc4, hd4⟩ := ho4.form
    have HB4 := Lib.hid (HB3.out.grown hg4 HB3.out.size (fun k hk => (HO3.out.block k hk).1))
    have HD4 := Lib.hid hd4
    have hlen4 : (z :: xs).length = m + 1 := by rw [List.length_cons, HM.out]
    rw [hlen4]
    have HL4 := Lib.hid hlen4
    clear ho4 hg4 hc4 hd4 hlen4 HO3 HB3 HD3 HB2
    have HG4 := Lib.hid (HG.out.below HB4.out (Nat.le_refl _))
    have HZl : Hid (y = z.toNat) := HZ.out.symm
    by_cases hly : l < y
    · have hlyz : (l : Int) < (y : Int) := by omega
      have HR := Lib.hid (read1_big (ne := 0) (ce := 0) (E := none) (c := c4) 0 HG4.out hn HD4.out (Nat.le_refl _) rfl HL4.out (by rw [← HL.out, HZ.out]; exact hly))
      go_wp2_with fail
      refine HR.out.mono ?_
      rintro e w5 ⟨rfl, hB5⟩
      have HB5 := Lib.hid (HB4.out.trans (hB5.mono HB4.out.size))
      have HB6 := Lib.hid (HB5.out.alloc HB5.out.size (.cells #[.int .i64 0, .slice none 0 0] 26))
      have HR6 := Lib.hid (read1_nil (ne := 0) (ce := 0) (E := none) (A := none) (c := 0) 0 (HG.out.below HB6.out (Nat.le_refl _)) hn)
      clear hB5 HR
      go_wp2_with fail
      refine HR6.out.mono ?_
      rintro e w7 ⟨rfl, hB7⟩
      have HB7 := Lib.hid (HB6.out.trans (hB7.mono HB6.out.size))
      clear hB7 HR6
      go_wp2_with fail
      go_ret
      exact ⟨rfl, HB7.out.alloc HB7.out.size _⟩
    · have hlyz : decide ((l : Int) < (y : Int)) = false := by simp; omega
      have HR := Lib.hid (read1_ok (ne := 0) (ce := 0) (E := none) (c := c4) 0 HG4.out hn HD4.out (Nat.le_refl _) rfl HL4.out (by rw [← HL.out, HZ.out]; omega))
      rw [HZ.out] at HR
      go_wp2_with fail
      refine HR.out.mono ?_
      rintro e w5 ⟨v5, rfl, ho5, hB5⟩
      obtain ⟨d5, c5, rfl, _, hd5, _⟩ := ho5.place (by exact Nat.one_pos)
      rw [show ([(⟨(y : Int), 0, 0⟩ : En)] : List En).length = 1 from rfl] at ho5 ⊢
      have HO5 := Lib.hid ho5
      have HB5 := Lib.hid (HB4.out.trans (hB5.mono HB4.out.size))
      clear ho5 hB5 HR
      have HX5 := Lib.hid (Box.new w5 26 #[.int .i64 0, .slice (some ⟨d5, 0, none⟩) 1 c5])
      have HB6 := Lib.hid (HB5.out.alloc HB5.out.size (.cells #[.int .i64 0, .slice (some ⟨d5, 0, none⟩) 1 c5] 26))
      have HO6 := Lib.hid (HO5.out.alloc (.cells #[.int .i64 0, .slice (some ⟨d5, 0, none⟩) 1 c5] 26))
      have HR6 := Lib.hid (read1_nil (ne := 0) (ce := 0) (E := none) (A := none) (c := 0) 0 (HG.out.below HB6.out (Nat.le_refl _)) hn)
      have hs6 : (w5.alloc (.cells #[.int .i64 0, .slice (some ⟨d5, 0, none⟩) 1 c5] 26)).heap.size = w5.heap.size + 1 := by simp
      have HS6 := Lib.hid hs6
      clear hs6
      go_wp2_with fail
      refine HR6.out.mono ?_
      rintro e w7 ⟨rfl, hB7⟩
      have HB7 := Lib.hid (HB6.out.trans (hB7.mono HB6.out.size))
      obtain ⟨t0, t1, _, _⟩ := box2 ((HX5.out.below hB7 (by have := HS6.out; omega)).alloc (.cells #[.int .i64 0, .slice none 0 0] 26))
      obtain ⟨⟨q0, q1, q2⟩, _⟩ := ((HO6.out.below hB7 (Nat.le_refl _)).alloc (.cells #[.int .i64 0, .slice none 0 0] 26)).cells3 0 (by exact Nat.one_pos)
      have q0' : World.cell? _ ⟨d5, 0, none⟩ = some (.int .u8 (y : Int)) := q0
      have q1' : World.cell? _ ⟨d5, 1, none⟩ = some (.int .i64 0) := q1
      have q2' : World.cell? _ ⟨d5, 2, none⟩ = some (.int .i64 0) := q2
      clear hB7 HR6 q0 q1 q2
      go_wp2_with fail
      go_ret
      exact ⟨rfl, HB7.out.alloc HB7.out.size _⟩

set_option maxRecDepth 100000 in
theorem lifted (os : Os) (started : os.Started) (H : Type) (enc : TypeId × Value → H) :
    ReturnsInHanded {} Tryd.checked os 5 .any (fun w args => (Rows.tablesRowSpec.pre enc Tryd.prog Tryd.f5 [] false w args ∧ laidMetH Tryd.prog laidL w) ∧ sizedMet enc Tryd.prog Tryd.f5 (OpenSpec.ofChange Rows.tablesRowSpec) false w args)
      (Rows.tablesRowSpec.post enc Tryd.prog Tryd.f5 false true false false) := by
  refine returnsInHanded_of_change_and (C := Tryd.checked) (X := fun w _ => laidMetH Tryd.prog laidL w) (fun _ _ _ hh h => h.of_heap hh) own started (by kernel_rfl) Tryd.func5
    (ChangeSpec.witness_shaped (enc := enc) (C := Tryd.checked) (os := os) (X := fun w _ => laidMetH Tryd.prog laidL w) false (World.doorLaid Tryd.prog 400 os) #[.int .u8 0, .int .u8 0, .slice none 0 0] 8 rfl (World.shaped_of_RefB (by kernel_rfl) (by kernel_rfl)) (by kernel_rfl) (by kernel_rfl) (by kernel_rfl) (door_met os _)) ?_
  intro W base args ds gs before hval0 hW _ _ hL _
  have hval : ∀ (j : Nat) t v, Tryd.f5.params[j]? = some t → args[j]? = some v → Value.okWide Tryd.prog W .any base t v := hval0
  have hW' := hW
  obtain ⟨p, q, hA0, hV, rfl, hfz, hnd⟩ := hW
  have hA : DataW.TrodAll enc Tryd.prog W 0 (fun _ => true) true Tryd.f5.params.toList args.toList ds p := hA0
  rw [Tryd.params5] at hA hval
  obtain ⟨v0, vs0, d0, ds0, p0, q0, hargs, rfl, rfl, h0, r0⟩ := trodAll_cons hA
  obtain ⟨v1, vs1, d1, ds1, p1, q1, rfl, rfl, rfl, h1, r1⟩ := trodAll_cons r0
  obtain ⟨v2, vs2, d2, ds2, p2, q2, rfl, rfl, rfl, h2, r2⟩ := trodAll_cons r1
  obtain ⟨rfl, rfl, rfl⟩ := trodAll_nil r2
  obtain rfl : args = #[v0, v1, v2] := by cases args; simp_all
  obtain ⟨rfl, rfl⟩ := trodVars_none hV
  obtain ⟨n0, rfl, rfl, rfl, w0⟩ := open_int Tryd.underlying5 (hval 0 5 v0 rfl rfl) h0
  obtain ⟨n1, rfl, rfl, rfl, w1⟩ := open_int Tryd.underlying5 (hval 1 5 v1 rfl rfl) h1
  obtain ⟨a2, len2, cap2, rfl⟩ := okWide_slice Tryd.underlying27 (hval 2 27 v2 rfl rfl)
  have k2 := h2
  have lt2 : ∀ x ∈ p2, x.block < W.heap.size := by obtain ⟨m, hm⟩ := k2; exact DataW.trod_lt m _ _ _ hm
  obtain ⟨z2, w2⟩ := row_of_trod h2
  obtain ⟨xs2, rfl, hl2, hm2, hd2⟩ := row_dat w2
  clear hA0 hval0
  refine (walk n0 n1 a2 xs2 cap2 W (glob_of_laid hL) (u8_bounds w0) (u8_bounds w1) hd2 (by omega)).mono fun e W' ⟨he, bel⟩ => ?_
  subst he
  exact ⟨_, rfl, _, _, _, [], _, [], hW', trodAll_mk1 (shut_bool Tryd.underlying4 _), (trodAll_cons_mk (shut_int Tryd.underlying5 w0) (trodAll_cons_mk (shut_int Tryd.underlying5 w1) (trodAll_cons_mk (Below.trod laidOut (by kernel_rfl) (of_decide_eq_true (by kernel_rfl)) k2 bel lt2) trodAll_mk0))), rfl, bel.frame _, fun h => by cases h⟩

theorem over : Rows.tablesRowRow.holds Tryd.pinned (OpenSpec.ofChange Rows.tablesRowSpec) :=
  OpenClaim.holds_of_wide 5 Tryd.f5 rfl rfl rfl rfl rfl rfl rfl ⟨rfl, rfl, rfl, rfl, rfl⟩ rfl rfl rfl rfl rfl (by kernel_rfl) Tryd.func5 (by kernel_rfl)
    (of_decide_eq_true (by kernel_rfl)) (by unfold Func.isWrapper; first | (rw [if_pos (by decide +kernel)]; kernel_rfl) | (rw [if_neg (by decide +kernel)]; exact ⟨rfl, rfl⟩))
    (fun os started H enc _ => lifted os started H enc)

/-- ████ THE STATEMENT ████ -/
theorem proved : Rows.TablesRowCardSaid :=
  Claim7.holds_tied_plain_at .later [] [.data, .data, .data, .data] true Rows.tablesRowCard.stood.harness false
    over (fun _ h => by cases h) (by kernel_rfl) (fun _ h => by cases h) tablesRow_row_tie rfl ⟨rfl, rfl⟩ (by kernel_rfl) rfl
    (fun f fn hf hfn => by
      obtain rfl : f = 5 := Option.some.inj ((show Tryd.prog.funcNamed Rows.tablesRowRow.func = some 5 by kernel_rfl).symm.trans hf) |>.symm
      obtain rfl : fn = Tryd.f5 := (Option.some.inj (Tryd.func5.symm.trans hfn)).symm
      exact ⟨by kernel_rfl, fun j t ht => by
        rw [Tryd.params5] at ht
        have hm : t ∈ [5, 5, 27] := by
          have := Array.mem_of_getElem? ht
          simp at this
          simpa using this
        have hall : ([5, 5, 27].all fun u => !Tryd.prog.wantsStandIn u) = true := by kernel_rfl
        exact (show Tryd.prog.wantsStandIn t = false by simpa using List.all_eq_true.1 hall t hm)⟩)
    (by kernel_rfl)
#print axioms proved
end Go.Proofs.YtpdnmhnnngcbjaaDoor.tablesRow
