
/- TablesGiven holds, tied to the program's text: for every two numbers and every bytes the law returns true. No condition of ours; the row's own: the package's variables read as the text lays them. -/
import Derived.Test.YtpdnmhnnngcbjaaDoorTabArgs
import Derived.Test.YtpdnmhnnngcbjaaDoorTabAwake
import Derived.Test.YtpdnmhnnngcbjaaDoorFseAwake
namespace Go.Proofs.YtpdnmhnnngcbjaaDoor.tablesGiven
open Go.ChangeShapes Go.WideShapes Go.ChangeAt Go.RowKit

/-- Is the symbol among the first j entries? -/
def among (es : List En) (y : Int) (j : Nat) : Bool := (es.take j).any fun x => decide (x.s = y)
theorem among_succ (es : List En) (y : Int) (j : Nat) (h : j < es.length) : among es y (j + 1) = (among es y j || decide (es[j].s = y)) := by
  unfold among
  rw [List.take_succ_eq_append_getElem h, List.any_append]
  simp
theorem among_given {n : Nat} (hn : n < 3) {y : Nat} (hy : y < 256) : among (tabG n) (y : Int) (tabG n).length = decide (y ≤ hasN n) := by
  unfold among
  rw [List.take_length]
  have hw := given_wi n hn y hy
  by_cases h : y ≤ hasN n
  · rw [decide_eq_true h, List.any_eq_true]
    obtain ⟨i, hi, e⟩ := tab_has (givenF hn) y (hw.2 h)
    exact ⟨_, List.getElem_mem hi, decide_eq_true e⟩
  · rw [decide_eq_false h, List.any_eq_false]
    intro x hx
    obtain ⟨i, hi, rfl⟩ := List.getElem_of_mem hx
    exact fun q => tab_hasnt (givenF hn) y (fun q => h (hw.1 q)) i hi (of_decide_eq_true q)

set_option maxRecDepth 100000 in
set_option maxHeartbeats 2000000 in
theorem walk (ki yi : Int) (a : Option Addr) (xs : List UInt8) (cp : Nat) (w : World) (hgl : Glob w.heap.size w) (hk : 0 ≤ ki ∧ ki ≤ 255) (hy : 0 ≤ yi ∧ yi ≤ 255) (_hd : Dat false w 0 w.heap.size a xs) (_hm : xs.length ≤ maxLen) :
    Calls Tryd.prog 4 #[.int .u8 ki, .int .u8 yi, .slice a xs.length cp] w fun e w' => e = .returned (.bool true) ∧ Below w.heap.size w w' := by
  obtain ⟨kk, rfl⟩ := Int.eq_ofNat_of_zero_le hk.1
  obtain ⟨y, rfl⟩ := Int.eq_ofNat_of_zero_le hy.1
  have HG := Lib.hid hgl
  obtain ⟨m, hmm⟩ : ∃ m, m = xs.length := ⟨_, rfl⟩
  rw [← hmm]
  have hy8 : y < 256 := by omega
  obtain ⟨n, hnn⟩ : ∃ n, n = kk % 3 := ⟨_, rfl⟩
  have hn : n < 3 := by omega
  have hnt : (kk : Int).tmod 3 = (n : Int) := by rw [Int.tmod_eq_emod_of_nonneg (by omega)]; omega
  have hni : (kk : Int) % 3 = (n : Int) := by omega
  have hnz : (n : Int) < 3 := by omega
  have HAm := Lib.hid (among_given hn hy8)
  have HLen := Lib.hid (tabG_len hn)
  have hll : hasN n ≤ 52 := by have := has_le n hn; have := last_le n hn; omega
  have hN64 : 2 ^ logN n ≤ 2 ^ 6 := Nat.pow_le_pow_right (by omega) (log_le n hn)
  have hN1 : 1 ≤ 2 ^ logN n := Nat.one_le_two_pow
  have hq0 : ∀ W : World, (W.alloc (.cells #[.int .i64 35, .int .i64 28, .int .i64 52] 3)).cell? ⟨W.heap.size, n, none⟩ = some (.int .i64 (hasN n : Int)) := fun W => by
    have h1 := (Box.new W 3 #[.int .i64 35, .int .i64 28, .int .i64 52]).cell n
    rw [h1]
    rcases (show n = 0 ∨ n = 1 ∨ n = 2 by omega) with rfl | rfl | rfl <;> rfl
  have HQ := Lib.hid hq0
  have HDf : Hid (∀ W, Glob w.heap.size W → Calls Tryd.prog 12 #[.int .i64 (n : Int)] W fun e w' => ∃ v, e = .returned (.tuple #[.agg #[.int .i64 (logN n : Int), v], .int .i64 0]) ∧ OwR 3 ecell w' 41 W.heap.size v (tabG n) ∧ Below W.heap.size W w') := fun W hW => default_any n W hW hn
  obtain ⟨lg, hlg⟩ : ∃ lg, lg = logN n := ⟨_, rfl⟩
  rw [← hlg] at HDf HLen hN64 hN1
  generalize tabG n = es at *
  generalize hasN n = l at *
  obtain ⟨N, hN⟩ : ∃ N, N = es.length := ⟨_, rfl⟩
  rw [← HLen.out, ← hN] at hN64 hN1
  have HN := Lib.hid hN
  clear hgl hmm hq0 hnn hk hy hlg hN HLen
  go_enter Tryd.func4, Tryd.ntmps4
  go_wp2_with fail
  refine (tab_awake _ HG.out).mono ?_
  rintro e w1 ⟨rfl, hB1⟩
  have HB1 := Lib.hid hB1
  clear hB1
  go_wp2_with fail
  refine (HDf.out _ (HG.out.below HB1.out (Nat.le_refl _))).mono ?_
  rintro e w2 ⟨v2, rfl, ho2, hB2⟩
  obtain ⟨d2, c2, rfl, hd2l, hd2, hc2⟩ := ho2.place (by rw [← HN.out]; exact hN1)
  rw [← HN.out] at ho2 hc2 ⊢
  have HO2 := Lib.hid ho2
  have HB2 := Lib.hid (HB1.out.trans (hB2.mono HB1.out.size))
  clear ho2 hB2 HB1 HDf
  have HX3 := Lib.hid ((Box.new w2 26 #[.int .i64 (lg : Int), .slice (some ⟨d2, 0, none⟩) N c2]).alloc (.cells #[.int .i64 35, .int .i64 28, .int .i64 52] 3))
  have hs3 : (w2.alloc (.cells #[.int .i64 (lg : Int), .slice (some ⟨d2, 0, none⟩) N c2] 26)).heap.size = w2.heap.size + 1 := by simp
  have hq := HQ.out (w2.alloc (.cells #[.int .i64 (lg : Int), .slice (some ⟨d2, 0, none⟩) N c2] 26))
  rw [hs3] at hq
  have HO3 := Lib.hid ((HO2.out.alloc (.cells #[.int .i64 (lg : Int), .slice (some ⟨d2, 0, none⟩) N c2] 26)).alloc (.cells #[.int .i64 35, .int .i64 28, .int .i64 52] 3))
  have HB3 := Lib.hid ((HB2.out.alloc HB2.out.size (.cells #[.int .i64 (lg : Int), .slice (some ⟨d2, 0, none⟩) N c2] 26)).alloc (HB2.out.alloc HB2.out.size _).size (.cells #[.int .i64 35, .int .i64 28, .int .i64 52] 3))
  clear hs3 HB2 HO2 HQ
  go_wp2_with fail
  clear hq
  generalize (w2.alloc (.cells #[.int .i64 (lg : Int), .slice (some ⟨d2, 0, none⟩) N c2] 26)).alloc (.cells #[.int .i64 35, .int .i64 28, .int .i64 52] 3) = W3 at *
  obtain ⟨t0, t1, _, _⟩ := box2 HX3.out
  go_loopg [12, 13] N (fun gh h i wx => ∃ j : Nat, j + gh = N ∧ i = .int .i64 (j : Int) ∧ h = .bool (among es (y : Int) j) ∧ W3 = wx)
  case atStart => exact ⟨0, by omega, rfl, rfl, rfl⟩
  case round =>
    obtain ⟨j, hj, rfl, rfl, rfl⟩ := hrel
    have HJ := Lib.hid hj
    have hjN : j ≤ N := by omega
    clear hj
    by_cases hlt : j < N
    · obtain ⟨g', rfl⟩ : ∃ g', gk = g' + 1 := ⟨gk - 1, by have := HJ.out; omega⟩
      have hjl : j < es.length := by have := HN.out; omega
      have hki : (j : Int) < (N : Int) := by omega
      have q := (HO3.out.cells3 j hjl).1.1
      have HSc := Lib.hid (among_succ es (y : Int) j hjl)
      generalize es[j] = x at *
      obtain ⟨s, b9, e9⟩ := x
      simp only at q HSc
      cases hb : among es (y : Int) j with
      | true =>
        rw [hb] at HSc
        go_wp2_with fail
        go_roundg g'
        case rel => exact ⟨j + 1, by have := HJ.out; omega, by go_num, by rw [HSc.out]; rfl, rfl⟩
        case measure => omega
      | false =>
        rw [hb] at HSc
        go_wp2_with fail
        go_roundg g'
        case rel => exact ⟨j + 1, by have := HJ.out; omega, by go_num, by rw [HSc.out]; rfl, rfl⟩
        case measure => omega
    · obtain rfl : j = N := by omega
      have hki : ¬ (j : Int) < (j : Int) := by omega
      have hAm := HAm.out
      rw [← HN.out] at hAm
      rw [hAm]
      have HR := Lib.hid (read3_any (c := cp) (m := m) (A := a) (ce := c2) lg (HG.out.below HB3.out (Nat.le_refl _)) hn (HO3.out.dat ecell_len) (Nat.le_refl _) HN.out.symm hN1 (by omega))
      clear hAm
      go_wp2_with fail
      refine HR.out.mono ?_
      rintro e w4 ⟨v4, rfl, ho4, hB4⟩
      obtain ⟨d4, c4, rfl, hd4l, hd4, hc4⟩ := ho4.place (by rw [← HN.out]; exact hN1)
      rw [← HN.out] at ho4 hc4 ⊢
      have HO4 := Lib.hid ho4
      have HB4 := Lib.hid (HB3.out.trans (hB4.mono HB3.out.size))
      have HX4 := Lib.hid (HX3.out.below hB4 HX3.out.lt)
      have HP4 := Lib.hid (HO3.out.below hB4 (Nat.le_refl _))
      clear ho4 hB4 HR HB3 HX3 HO3 t0 t1
      have HY5 := Lib.hid (Box.new w4 26 #[.int .i64 (lg : Int), .slice (some ⟨d4, 0, none⟩) j c4])
      have HX5 := Lib.hid (HX4.out.alloc (.cells #[.int .i64 (lg : Int), .slice (some ⟨d4, 0, none⟩) j c4] 26))
      have HO5 := Lib.hid (HO4.out.alloc (.cells #[.int .i64 (lg : Int), .slice (some ⟨d4, 0, none⟩) j c4] 26))
      have HP5 := Lib.hid (HP4.out.alloc (.cells #[.int .i64 (lg : Int), .slice (some ⟨d4, 0, none⟩) j c4] 26))
      have HB5 := Lib.hid (HB4.out.alloc HB4.out.size (.cells #[.int .i64 (lg : Int), .slice (some ⟨d4, 0, none⟩) j c4] 26))
      clear HX4 HO4 HP4 HB4
      go_wp2_with fail
      generalize w4.alloc (.cells #[.int .i64 (lg : Int), .slice (some ⟨d4, 0, none⟩) j c4] 26) = W5 at *
      refine (read3_nil (c := cp) (m := m) (A := a) (ce := 0) (E := none) 0 (HG.out.below HB5.out (Nat.le_refl _)) hn).mono ?_
      rintro e w6 ⟨rfl, hB6⟩
      have HB6 := Lib.hid ((HB5.out.trans (hB6.mono HB5.out.size)).alloc (HB5.out.trans (hB6.mono HB5.out.size)).size (.cells #[.int .i64 0, .slice none 0 0] 26))
      have HX6 := Lib.hid ((HX5.out.below hB6 HX5.out.lt).alloc (.cells #[.int .i64 0, .slice none 0 0] 26))
      have HY6 := Lib.hid ((HY5.out.below hB6 HY5.out.lt).alloc (.cells #[.int .i64 0, .slice none 0 0] 26))
      have HO6 := Lib.hid ((HO5.out.below hB6 (Nat.le_refl _)).alloc (.cells #[.int .i64 0, .slice none 0 0] 26))
      have HP6 := Lib.hid ((HP5.out.below hB6 (Nat.le_refl _)).alloc (.cells #[.int .i64 0, .slice none 0 0] 26))
      obtain ⟨x0, x1, _, _⟩ := box2 HX6.out
      obtain ⟨z0, z1, _, _⟩ := box2 HY6.out
      clear hB6 HB5 HX5 HY5 HO5 HP5
      go_wp2_with fail
      generalize w6.alloc (.cells #[.int .i64 0, .slice none 0 0] 26) = W6 at *
      go_loopg [20] j (fun gh v wx => ∃ i q : Nat, i + gh = j ∧ v = .int .i64 (i : Int) ∧ wx = W6.drewN q)
      case atStart => exact ⟨0, 0, by omega, rfl, rfl⟩
      case round =>
        obtain ⟨i, q, hi, rfl, rfl⟩ := hrel
        have HI := Lib.hid hi
        have hij : i ≤ j := by omega
        clear hi
        by_cases hlt2 : i < j
        · obtain ⟨g', rfl⟩ : ∃ g', gk = g' + 1 := ⟨gk - 1, by have := HI.out; omega⟩
          have hil : i < es.length := by have := HN.out; omega
          have hki2 : (i : Int) < (j : Int) := by omega
          have hi0 : (0 : Int) ≤ (i : Int) := by omega
          obtain ⟨p0, p1, p2⟩ := (HO6.out.cells3 i hil).1
          obtain ⟨r0, r1, r2⟩ := (HP6.out.cells3 i hil).1
          generalize es[i] = x at *
          obtain ⟨s9, b9, e9⟩ := x
          simp only at p0 p1 p2 r0 r1 r2
          go_wp2_with fail
          go_quiet (fail)
          go_wp2_with fail
          go_roundg g'
          case rel => exact ⟨i + 1, _, by have := HI.out; omega, by go_num, rfl⟩
          case measure => omega
        · obtain rfl : i = j := by omega
          have hki2 : ¬ (i : Int) < (i : Int) := by omega
          by_cases hyl : y ≤ l
          · have hyz : (y : Int) ≤ (l : Int) := by omega
            rw [decide_eq_true hyl]
            go_wp2_with fail
            go_ret
            exact ⟨rfl, below_drewN HB6.out _⟩
          · have hyz : ¬ (y : Int) ≤ (l : Int) := by omega
            rw [decide_eq_false hyl]
            go_wp2_with fail
            go_ret
            exact ⟨rfl, below_drewN HB6.out _⟩

set_option maxRecDepth 100000 in
theorem lifted (os : Os) (started : os.Started) (H : Type) (enc : TypeId × Value → H) :
    ReturnsInHanded {} Tryd.checked os 4 .any (fun w args => (Rows.tablesGivenSpec.pre enc Tryd.prog Tryd.f4 [] false w args ∧ laidMetH Tryd.prog laidL w) ∧ sizedMet enc Tryd.prog Tryd.f4 (OpenSpec.ofChange Rows.tablesGivenSpec) false w args)
      (Rows.tablesGivenSpec.post enc Tryd.prog Tryd.f4 false true false false) := by
  refine returnsInHanded_of_change_and (C := Tryd.checked) (X := fun w _ => laidMetH Tryd.prog laidL w) (fun _ _ _ hh h => h.of_heap hh) own started (by kernel_rfl) Tryd.func4
    (ChangeSpec.witness_shaped (enc := enc) (C := Tryd.checked) (os := os) (X := fun w _ => laidMetH Tryd.prog laidL w) false (World.doorLaid Tryd.prog 400 os) #[.int .u8 0, .int .u8 0, .slice none 0 0] 8 rfl (World.shaped_of_RefB (by kernel_rfl) (by kernel_rfl)) (by kernel_rfl) (by kernel_rfl) (by kernel_rfl) (door_met os _)) ?_
  intro W base args ds gs before hval0 hW _ _ hL _
  have hval : ∀ (j : Nat) t v, Tryd.f4.params[j]? = some t → args[j]? = some v → Value.okWide Tryd.prog W .any base t v := hval0
  have hW' := hW
  obtain ⟨p, q, hA0, hV, rfl, hfz, hnd⟩ := hW
  have hA : DataW.TrodAll enc Tryd.prog W 0 (fun _ => true) true Tryd.f4.params.toList args.toList ds p := hA0
  rw [Tryd.params4] at hA hval
  obtain ⟨v0, vs0, d0, ds0, p0, q0, hargs, rfl, rfl, h0, r0⟩ := trodAll_cons hA
  obtain ⟨v1, vs1, d1, ds1, p1, q1, rfl, rfl, rfl, h1, r1⟩ := trodAll_cons r0
  obtain ⟨v2, vs2, d2, ds2, p2, q2, rfl, rfl, rfl, h2, r2⟩ := trodAll_cons r1
  obtain ⟨rfl, rfl, rfl⟩ := trodAll_nil r2
  obtain rfl : args = #[v0, v1, v2] := by cases args; simp_all
  obtain ⟨rfl, rfl⟩ := trodVars_none hV
  obtain ⟨n0, rfl, rfl, rfl, w0⟩ := open_int Tryd.underlying5 (hval 0 5 v0 rfl rfl) h0
  obtain ⟨n1, rfl, rfl, rfl, w1⟩ := open_int Tryd.underlying5 (hval 1 5 v1 rfl rfl) h1
  obtain ⟨a2, len2, cap2, rfl⟩ := okWide_slice Tryd.underlying27 (hval 2 27 v2 rfl rfl)
  have k2 := h2
  have lt2 : ∀ x ∈ p2, x.block < W.heap.size := by obtain ⟨m, hm⟩ := k2; exact DataW.trod_lt m _ _ _ hm
  obtain ⟨z2, w2⟩ := row_of_trod h2
  obtain ⟨xs2, rfl, hl2, hm2, hd2⟩ := row_dat w2
  clear hA0 hval0
  refine (walk n0 n1 a2 xs2 cap2 W (glob_of_laid hL) (u8_bounds w0) (u8_bounds w1) hd2 (by omega)).mono fun e W' ⟨he, bel⟩ => ?_
  subst he
  exact ⟨_, rfl, _, _, _, [], _, [], hW', trodAll_mk1 (shut_bool Tryd.underlying4 _), (trodAll_cons_mk (shut_int Tryd.underlying5 w0) (trodAll_cons_mk (shut_int Tryd.underlying5 w1) (trodAll_cons_mk (Below.trod laidOut (by kernel_rfl) (of_decide_eq_true (by kernel_rfl)) k2 bel lt2) trodAll_mk0))), rfl, bel.frame _, fun h => by cases h⟩

theorem over : Rows.tablesGivenRow.holds Tryd.pinned (OpenSpec.ofChange Rows.tablesGivenSpec) :=
  OpenClaim.holds_of_wide 4 Tryd.f4 rfl rfl rfl rfl rfl rfl rfl ⟨rfl, rfl, rfl, rfl, rfl⟩ rfl rfl rfl rfl rfl (by kernel_rfl) Tryd.func4 (by kernel_rfl)
    (of_decide_eq_true (by kernel_rfl)) (by unfold Func.isWrapper; first | (rw [if_pos (by decide +kernel)]; kernel_rfl) | (rw [if_neg (by decide +kernel)]; exact ⟨rfl, rfl⟩))
    (fun os started H enc _ => lifted os started H enc)

/-- ████ THE STATEMENT ████ -/
theorem proved : Rows.TablesGivenCardSaid :=
  Claim7.holds_tied_plain_at .later [] [.data, .data, .data, .data] true Rows.tablesGivenCard.stood.harness false
    over (fun _ h => by cases h) (by kernel_rfl) (fun _ h => by cases h) tablesGiven_row_tie rfl ⟨rfl, rfl⟩ (by kernel_rfl) rfl
    (fun f fn hf hfn => by
      obtain rfl : f = 4 := Option.some.inj ((show Tryd.prog.funcNamed Rows.tablesGivenRow.func = some 4 by kernel_rfl).symm.trans hf) |>.symm
      obtain rfl : fn = Tryd.f4 := (Option.some.inj (Tryd.func4.symm.trans hfn)).symm
      exact ⟨by kernel_rfl, fun j t ht => by
        rw [Tryd.params4] at ht
        have hm : t ∈ [5, 5, 27] := by
          have := Array.mem_of_getElem? ht
          simp at this
          simpa using this
        have hall : ([5, 5, 27].all fun u => !Tryd.prog.wantsStandIn u) = true := by kernel_rfl
        exact (show Tryd.prog.wantsStandIn t = false by simpa using List.all_eq_true.1 hall t hm)⟩)
    (by kernel_rfl)
#print axioms proved
end Go.Proofs.YtpdnmhnnngcbjaaDoor.tablesGiven
