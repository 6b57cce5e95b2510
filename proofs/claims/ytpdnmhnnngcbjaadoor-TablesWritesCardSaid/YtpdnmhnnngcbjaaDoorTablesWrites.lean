
/- TablesWrites holds, tied to the program's text: for every number and every ints the law returns true. No condition of ours; the row's own: the package's variables read as the text lays them. -/
import Derived.Test.YtpdnmhnnngcbjaaDoorTabArgs
import Derived.Test.YtpdnmhnnngcbjaaDoorTabAwake
import Derived.Test.YtpdnmhnnngcbjaaDoorTabLawP
namespace Go.Proofs.YtpdnmhnnngcbjaaDoor.tablesWrites
open Go.ChangeShapes Go.WideShapes Go.ChangeAt Go.RowKit

def among (es : List En) (y : Int) (j : Nat) : Bool := (es.take j).any fun x => decide (x.s = y)
theorem among_succ (es : List En) (y : Int) (j : Nat) (h : j < es.length) : among es y (j + 1) = (among es y j || decide (es[j].s = y)) := by
  unfold among
  rw [List.take_succ_eq_append_getElem h, List.any_append]
  simp
theorem among_all {es : List En} {l : List Int} {y : Nat} (h : HasAll es (oft l)) (hy : y < 53) (hl : (y : Int) ∈ l) : among es (y : Int) es.length = true := by
  have h1 := (stF_pos es es.length y).1 (h y hy ((oft_pos l y).2 hl))
  obtain ⟨i, hi, e⟩ := h1
  unfold among
  rw [List.take_length, List.any_eq_true]
  exact ⟨es[i], List.getElem_mem hi, by rw [getD_of _ _ _ hi] at e; exact decide_eq_true e⟩
theorem one_succ (l : List Int) (i : Nat) (h : i < l.length) : oneF l (i + 1) = (oneF l i && decide (l[i] = l.getD 0 0)) := by
  unfold oneF
  rw [List.take_succ_eq_append_getElem h, List.all_append]
  simp
theorem may_succ (N : Nat) (l : List Int) (i : Nat) (h : i < l.length) : mayFN N l (i + 1) = (mayFN N l i && (decide (0 ≤ l[i]) && decide (l[i] < (N : Int)))) := by
  unfold mayFN
  rw [List.take_succ_eq_append_getElem h, List.all_append]
  simp [Bool.and_assoc]
theorem may_bad {ki : Int} {l : List Int} (h : ¬ ∃ n : Nat, n < 3 ∧ ki = (n : Int) ∧ codesB n l = true) : mayFN (manyZ ki) l l.length = false := by
  rw [Bool.eq_false_iff]
  intro q
  unfold mayFN at q
  rw [List.take_length] at q
  simp only [Bool.and_eq_true, decide_eq_true_eq, List.all_eq_true] at q
  obtain ⟨⟨h1, h2⟩, h3⟩ := q
  by_cases hk : ki < 0 ∨ 2 < ki
  · unfold manyZ at h1
    rw [if_pos hk] at h1
    omega
  · obtain ⟨n, rfl⟩ := Int.eq_ofNat_of_zero_le (show 0 ≤ ki by omega)
    rw [manyZ_nat (by omega)] at h3
    refine h ⟨n, by omega, rfl, codesB_iff.2 ⟨h2, fun x hx => ?_⟩⟩
    have := h3 x hx
    omega

set_option maxRecDepth 100000 in
set_option maxHeartbeats 1000000 in
theorem walk_no (ki : Int) (a : Option Addr) (l : List Int) (cp : Nat) (w : World) (hgl : Glob w.heap.size w) (hd : DatE icel w 0 w.heap.size a l) (h300 : l.length ≤ 300) (hgood : ¬ ∃ n : Nat, n < 3 ∧ ki = (n : Int) ∧ codesB n l = true) :
    Calls Tryd.prog 3 #[.int .i64 ki, .slice a l.length cp] w fun e w' => e = .returned (.bool true) ∧ Below w.heap.size w w' := by
  have HG := Lib.hid hgl
  have HD := Lib.hid hd
  have HEnd := Lib.hid (may_bad hgood)
  have HWr : Hid (∀ W, Below w.heap.size w W → Calls Tryd.prog 7 #[.int .i64 ki, .slice a l.length cp] W fun e w' => e = .returned (.tuple #[.agg #[.int .i64 0, .slice none 0 0], .int .i64 0, .slice none 0 0, .int .i64 1]) ∧ Below W.heap.size W w') := fun W hW => by
    by_cases hk : 0 ≤ ki ∧ ki ≤ 2
    · obtain ⟨n, rfl⟩ := Int.eq_ofNat_of_zero_le hk.1
      refine writeT_no (by omega) (hgl.below hW (Nat.le_refl _)) (hd.below hW (Nat.le_refl _)) hW.size rfl (by omega) ?_
      rw [Bool.eq_false_iff]
      exact fun q => hgood ⟨n, by omega, rfl, q⟩
    · exact writeT_kind ki (hgl.below hW (Nat.le_refl _)) hk
  have HBg := fun W => Lib.hid (begins_any ki W)
  obtain ⟨N, hN⟩ : ∃ N, N = manyZ ki := ⟨_, rfl⟩
  rw [← hN] at HEnd HBg
  have hN53 : N ≤ 53 := by
    rw [hN]
    unfold manyZ
    split
    · omega
    · have := last_le ki.toNat (by omega)
      omega
  obtain ⟨m, hmm⟩ : ∃ m, m = l.length := ⟨_, rfl⟩
  rw [← hmm] at h300 HEnd HWr ⊢
  have HM := Lib.hid hmm
  have h3 : decide ((300 : Int) < (m : Int)) = false := by simp; omega
  clear hgl hd hgood hN hmm
  go_enter Tryd.func3, Tryd.ntmps3
  go_wp2_with fail
  refine (tab_awake _ HG.out).mono ?_
  rintro e w1 ⟨rfl, hB1⟩
  have HB1 := Lib.hid hB1
  clear hB1
  go_wp2_with fail
  refine (HWr.out w1 HB1.out).mono ?_
  rintro e w2 ⟨rfl, hB2⟩
  have HB2 := Lib.hid ((HB1.out.trans (hB2.mono HB1.out.size)).alloc (HB1.out.trans (hB2.mono HB1.out.size)).size (.cells #[.int .i64 0, .slice none 0 0] 26))
  have HX2 := Lib.hid (Box.new w2 26 #[.int .i64 0, .slice none 0 0])
  have hs2 : w2.heap.size < (w2.alloc (.cells #[.int .i64 0, .slice none 0 0] 26)).heap.size := by simp
  clear hB2 HB1 HWr
  go_wp2_with fail
  generalize w2.alloc (.cells #[.int .i64 0, .slice none 0 0] 26) = W2 at *
  refine (HBg W2).out.mono ?_
  rintro e w3 ⟨A3, c3, rfl, hB3⟩
  have HB3 := Lib.hid (HB2.out.trans (hB3.mono HB2.out.size))
  have HX3 := Lib.hid (HX2.out.below hB3 HX2.out.lt)
  have HD3 := Lib.hid (HD.out.below HB3.out (Nat.le_refl _))
  clear hB3 HB2 HX2 HBg hs2 HG HD
  go_upto_region 8 with (fail)
  go_cut [11, 37, 38, 39, 40, 41, 42, 43] (fun v _ _ _ _ _ _ _ wx => v = .bool (mayFN N l 0) ∧ wx = w3)
  case first =>
    by_cases hN0 : N = 0
    · subst hN0
      have h0 : mayFN 0 l 0 = false := by simp [mayFN]
      go_wp2_with fail
      go_meet
      exact ⟨by rw [h0], rfl⟩
    · have hNp : (0 : Int) < (N : Int) := by omega
      by_cases hm0 : m = 0
      · have hme : (l.length : Nat) = 0 := by have := HM.out; omega
        have h0 : mayFN N l 0 = false := by simp [mayFN, hme]
        subst hm0
        go_wp2_with fail
        go_meet
        exact ⟨by rw [h0], rfl⟩
      · have hmp : (0 : Int) < (m : Int) := by omega
        have h0 : mayFN N l 0 = true := by
          have := HM.out
          simp [mayFN]
          exact ⟨by omega, by omega⟩
        go_wp2_with fail
        go_meet
        exact ⟨by rw [h0]; simp; omega, rfl⟩
  case rest =>
    obtain ⟨rfl, rfl⟩ := hcut
    go_wp2_with fail
    go_loopg [11, 12, 13] m (fun gh v11 v12 v13 wx => ∃ i q : Nat, i + gh = m ∧ v13 = .int .i64 (i : Int) ∧ v11 = .bool (mayFN N l i) ∧ v12 = .bool (oneF l i) ∧ wx = wc.drewN q)
    case atStart => exact ⟨0, 0, by omega, rfl, rfl, rfl, rfl⟩
    case round =>
      obtain ⟨i, q, hi, rfl, rfl, rfl, rfl⟩ := hrel
      have HI := Lib.hid hi
      have him : i ≤ m := by omega
      clear hi
      by_cases hlt : i < m
      · obtain ⟨g', rfl⟩ : ∃ g', gk = g' + 1 := ⟨gk - 1, by have := HI.out; omega⟩
        have hkz : (i : Int) < (m : Int) := by omega
        have hi0 : (0 : Int) ≤ (i : Int) := by omega
        have hm0 : (0 : Int) < (m : Int) := by omega
        have hil : i < l.length := by have := HM.out; omega
        obtain ⟨d, o, rfl, _, _, hc⟩ := HD3.out (by omega)
        have q0 : wc.cell? ⟨d, o, none⟩ = some (.int .i64 (l.getD 0 0)) := by
          have h := hc 0 (by omega)
          rw [Nat.add_zero, ← getD_of l 0 0 (by omega)] at h
          exact h
        have qi : wc.cell? ⟨d, o + i, none⟩ = some (.int .i64 l[i]) := hc i hil
        have HMs := Lib.hid (may_succ N l i hil)
        have HOs := Lib.hid (one_succ l i hil)
        obtain ⟨z, hz⟩ : ∃ z, z = l.getD 0 0 := ⟨_, rfl⟩
        rw [← hz] at q0 HOs
        generalize l[i] = x at *
        obtain ⟨M1, hM1⟩ : ∃ M1, M1 = mayFN N l (i + 1) := ⟨_, rfl⟩
        obtain ⟨O1, hO1⟩ : ∃ O1, O1 = oneF l (i + 1) := ⟨_, rfl⟩
        rw [← hM1] at HMs
        rw [← hO1] at HOs
        have HMe := Lib.hid hM1
        have HOe := Lib.hid hO1
        clear hM1 hO1
        generalize mayFN N l i = M0 at *
        generalize oneF l i = O0 at *
        clear hc hz
        go_upto_region 13 with (fail)
        go_cut [11] from 44 to 76 (fun v wx => v = .bool M1 ∧ wx = wc.drewN q)
        case first =>
          cases M0 with
          | false =>
            go_wp2_with fail
            go_meet
            exact ⟨by rw [HMs.out]; rfl, rfl⟩
          | true =>
            by_cases h1 : 0 ≤ x
            · have h1d : decide (0 ≤ x) = true := decide_eq_true h1
              by_cases h2 : x < (N : Int)
              · have h2d := decide_eq_true h2
                have hM1 : M1 = true := by rw [HMs.out, h1d, h2d]; rfl
                go_wp2_with fail
                go_meet
                exact ⟨by rw [hM1], rfl⟩
              · have h2d := decide_eq_false h2
                have hM1 : M1 = false := by rw [HMs.out, h1d, h2d]; rfl
                go_wp2_with fail
                go_meet
                exact ⟨by rw [hM1], rfl⟩
            · have h1d : decide (0 ≤ x) = false := decide_eq_false h1
              have hM1 : M1 = false := by rw [HMs.out, h1d]; rfl
              go_wp2_with fail
              go_meet
              exact ⟨by rw [hM1], rfl⟩
        case rest =>
          obtain ⟨rfl, rfl⟩ := hcut
          cases O0 with
          | false =>
            go_upto_region 14 with (fail)
            go_quiet (fail)
            go_wp2_with fail
            go_roundg g'
            case rel => exact ⟨i + 1, _, by have := HI.out; omega, by go_num, by rw [← HMe.out], by rw [← HOe.out, HOs.out]; rfl, rfl⟩
            case measure => omega
          | true =>
            go_upto_region 14 with (fail)
            go_quiet (fail)
            go_wp2_with fail
            go_roundg g'
            case rel => exact ⟨i + 1, _, by have := HI.out; omega, by go_num, by rw [← HMe.out], by rw [← HOe.out, HOs.out]; rfl, rfl⟩
            case measure => omega
      · obtain rfl : i = m := by omega
        have hkz : ¬ (i : Int) < (i : Int) := by omega
        have hEnd := HEnd.out
        obtain ⟨t0, t1, _, _⟩ := box2 HX3.out
        go_wp2_with fail
        go_ret
        exact ⟨rfl, below_drewN HB3.out _⟩

set_option maxRecDepth 100000 in
set_option maxHeartbeats 4000000 in
theorem walk_yes (n : Nat) (hn : n < 3) (a : Option Addr) (l : List Int) (cp : Nat) (w : World) (hgl : Glob w.heap.size w) (hd : DatE icel w 0 w.heap.size a l) (h300 : l.length ≤ 300) (hgood : codesB n l = true) :
    Calls Tryd.prog 3 #[.int .i64 (n : Int), .slice a l.length cp] w fun e w' => e = .returned (.bool true) ∧ Below w.heap.size w w' := by
  have HG := Lib.hid hgl
  have HD := Lib.hid hd
  have hla := last_le n hn
  obtain ⟨hl0, hb52, -, s0, hs0, hs0l, hs0m⟩ := codes_facts hn hgood
  have HCo := Lib.hid (And.intro (codesB_iff.1 hgood).2 hb52)
  have HWr : Hid (∀ W, Below w.heap.size w W → Calls Tryd.prog 7 #[.int .i64 (n : Int), .slice a l.length cp] W fun e w' => ∃ x es, e = .returned (.tuple #[.agg #[.int .i64 x.log, .slice x.e x.n x.c], .int .i64 x.mode, .slice x.t x.tn x.tc, .int .i64 0]) ∧ WrOk n l w' x es ∧ Below W.heap.size W w') := fun W hW =>
    writeT_any hn (hgl.below hW (Nat.le_refl _)) (hd.below hW (Nat.le_refl _)) hW.size rfl (by omega) hgood
  have HBg := fun W => Lib.hid (begins_any (n : Int) W)
  rw [manyZ_nat hn] at HBg
  obtain ⟨N, hN⟩ : ∃ N, N = lastN n + 1 := ⟨_, rfl⟩
  rw [← hN] at HBg
  have HN := Lib.hid hN
  have hN53 : 1 ≤ N ∧ N ≤ 53 := by omega
  have hNp : (0 : Int) < (N : Int) := by omega
  obtain ⟨m, hmm⟩ : ∃ m, m = l.length := ⟨_, rfl⟩
  rw [← hmm] at h300 HWr hl0 ⊢
  have HM := Lib.hid hmm
  have h3 : decide ((300 : Int) < (m : Int)) = false := by simp; omega
  have hmp : (0 : Int) < (m : Int) := by omega
  clear hgl hd hgood hN hmm hb52 hs0 hs0m hs0l
  go_enter Tryd.func3, Tryd.ntmps3
  go_wp2_with fail
  refine (tab_awake _ HG.out).mono ?_
  rintro e w1 ⟨rfl, hB1⟩
  have HB1 := Lib.hid hB1
  clear hB1
  go_wp2_with fail
  refine (HWr.out w1 HB1.out).mono ?_
  rintro e w2 ⟨⟨L, E, n2, c2, md, T, tn, tc⟩, es, rfl, hwr, hB2⟩
  dsimp only
  have HB2 := Lib.hid ((HB1.out.trans (hB2.mono HB1.out.size)).alloc (HB1.out.trans (hB2.mono HB1.out.size)).size (.cells #[.int .i64 L, .slice E n2 c2] 26))
  have HX2 := Lib.hid (Box.new w2 26 #[.int .i64 L, .slice E n2 c2])
  have HW2 := Lib.hid (hwr.below ((Below.refl _ _).alloc (Nat.le_refl _) (.cells #[.int .i64 L, .slice E n2 c2] 26)))
  clear hB2 HB1 HWr hwr
  go_wp2_with fail
  generalize w2.alloc (.cells #[.int .i64 L, .slice E n2 c2] 26) = W2 at *
  refine (HBg W2).out.mono ?_
  rintro e w3 ⟨A3, c3, rfl, hB3⟩
  have HB3 := Lib.hid (HB2.out.trans (hB3.mono HB2.out.size))
  have HX3 := Lib.hid (HX2.out.below hB3 HX2.out.lt)
  have HW3 := Lib.hid (HW2.out.below hB3)
  have HD3 := Lib.hid (HD.out.below HB3.out (Nat.le_refl _))
  clear hB3 HB2 HX2 HBg HG HD HW2
  obtain ⟨d, o, rfl, _, hdh, hc⟩ := HD3.out (by have := HM.out; omega)
  have q0 : w3.cell? ⟨d, o, none⟩ = some (.int .i64 (l.getD 0 0)) := by
    have h := hc 0 (by have := HM.out; omega)
    rw [Nat.add_zero, ← getD_of l 0 0 (by have := HM.out; omega)] at h
    exact h
  have HQ0 := Lib.hid q0
  have HC := Lib.hid hc
  clear q0 hc
  go_wp2_with fail
  go_loopg [11, 12, 13] m (fun gh v11 v12 v13 wx => ∃ i q : Nat, i + gh = m ∧ v13 = .int .i64 (i : Int) ∧ v11 = .bool true ∧ v12 = .bool (oneF l i) ∧ wx = w3.drewN q)
  case atStart => exact ⟨0, 0, by omega, rfl, rfl, rfl, rfl⟩
  case round =>
    obtain ⟨i, q, hi, rfl, rfl, rfl, rfl⟩ := hrel
    have HI := Lib.hid hi
    have him : i ≤ m := by omega
    clear hi
    by_cases hlt : i < m
    · obtain ⟨g', rfl⟩ : ∃ g', gk = g' + 1 := ⟨gk - 1, by have := HI.out; omega⟩
      have hkz : (i : Int) < (m : Int) := by omega
      have hi0 : (0 : Int) ≤ (i : Int) := by omega
      have hil : i < l.length := by have := HM.out; omega
      have q0 := HQ0.out
      have qi : w3.cell? ⟨d, o + i, none⟩ = some (.int .i64 l[i]) := HC.out i hil
      obtain ⟨hx0, hxN⟩ := HCo.out.1 l[i] (List.getElem_mem hil)
      have hxN2 : l[i] < (N : Int) := by have := HN.out; omega
      have HOs := Lib.hid (one_succ l i hil)
      obtain ⟨z, hz⟩ : ∃ z, z = l.getD 0 0 := ⟨_, rfl⟩
      rw [← hz] at q0 HOs
      generalize l[i] = x at *
      obtain ⟨O1, hO1⟩ : ∃ O1, O1 = oneF l (i + 1) := ⟨_, rfl⟩
      rw [← hO1] at HOs
      have HOe := Lib.hid hO1
      clear hO1 hz hxN
      generalize oneF l i = O0 at *
      cases O0 with
      | false =>
        go_upto_region 14 with (fail)
        go_quiet (fail)
        go_wp2_with fail
        go_roundg g'
        case rel => exact ⟨i + 1, _, by have := HI.out; omega, by go_num, rfl, by rw [← HOe.out, HOs.out]; rfl, rfl⟩
        case measure => omega
      | true =>
        go_upto_region 14 with (fail)
        go_quiet (fail)
        go_wp2_with fail
        go_roundg g'
        case rel => exact ⟨i + 1, _, by have := HI.out; omega, by go_num, rfl, by rw [← HOe.out, HOs.out]; rfl, rfl⟩
        case measure => omega
    · obtain rfl : i = m := by omega
      have hkz : ¬ (i : Int) < (i : Int) := by omega
      have HOne : Hid (oneF l i = true → ∀ y ∈ l, y = l.getD 0 0) := fun h => by
        unfold oneF at h
        rw [List.take_of_length_le (by have := HM.out; omega)] at h
        simpa using h
      generalize oneF l i = O at *
      obtain ⟨own, bs, hdb, hbl, hr12, hfine, hes0, hm3, hone1⟩ := r12_ok hn HW3.out
      dsimp only at hdb hbl hm3 hone1
      have HR := Lib.hid (hr12 (w3.drewN q))
      have hcv := run_str (P := Tryd.prog) (w3.drewN q) 27 Tryd.underlying27 Tryd.underlying5 (c := tc) (show Dat own (w3.drewN q) 0 w3.heap.size T bs from hdb) hbl 9 Tryd.underlying9
      generalize str bs = S at *
      have HFi := Lib.hid (And.intro hfine hes0)
      have HOn := Lib.hid hone1
      have hmd : ((md : Int) == 3) = false := by simpa using hm3
      clear hdb hbl hr12 hfine hes0 hone1 hm3 HQ0
      go_wp2_with fail
      refine HR.out.mono ?_
      rintro e w4 ⟨v4, rfl, ho4, hB4⟩
      obtain ⟨A4, c4, rfl, hc4, hd4⟩ := ho4.form rcell_len
      have hlen3 : es.length = n2 := HW3.out.lies.len
      rw [hlen3] at HFi ⊢
      dsimp only
      have hB34 := (below_drewN (Below.refl w3.heap.size w3) q).trans (hB4.mono (Nat.le_refl _))
      have hB4n : Below w3.heap.size w3 (w4.alloc (.cells #[.int .i64 L, .slice A4 n2 c4] 35)) := hB34.alloc hB34.size _
      have HB4 := Lib.hid (HB3.out.trans (hB4n.mono HB3.out.size))
      have HX4 := Lib.hid (HX3.out.below hB4n HX3.out.lt)
      have HW4 := Lib.hid (HW3.out.below hB4n)
      have HD4 := Lib.hid (HD3.out.below hB4n HB3.out.size)
      have HO4 := Lib.hid (hd4.alloc (Nat.le_refl _) (.cells #[.int .i64 L, .slice A4 n2 c4] 35))
      have HT4 := Lib.hid (Box.new w4 35 #[.int .i64 L, .slice A4 n2 c4])
      have hs4 : w4.heap.size ≤ (w4.alloc (.cells #[.int .i64 L, .slice A4 n2 c4] 35)).heap.size := by simp
      clear hB4n hB34 hB4 ho4 hd4 hc4 HB3 HX3 HW3 HD3 HC HR hcv hlen3
      go_upto_region 18 with (fail)
      generalize w4.alloc (.cells #[.int .i64 L, .slice A4 n2 c4] 35) = W4 at *
      generalize w4.heap.size = g4 at *
      generalize w2.heap.size = g2 at *
      have HTo := Lib.hid (tableOf_any (w := W4.drew) (c := c2) L (show DatR 3 ecell W4.drew 0 W4.drew.heap.size E es from HW4.out.lies.ent) HFi.out.1 HW4.out.lies.len HW4.out.lies.n2 (Nat.le_refl _))
      have HSm : Hid (∀ (w5 : World) (A5 : Option Addr) (c5 : Nat), Below W4.heap.size W4.drew w5 → DatR 3 rcell w5 W4.heap.size w5.heap.size A5 es →
          Calls Tryd.prog 10 #[.agg #[.int .i64 L, .slice A5 n2 c5], .agg #[.int .i64 L, .slice A4 n2 c4]] w5 fun e w' => e = .returned (.bool true) ∧ Below w5.heap.size w5 w') := fun w5 A5 c5 hB5 hd5 =>
        same12_yes L hd5 (DatR.below (w := W4.drew) HO4.out hB5 hs4) HW4.out.lies.len HW4.out.lies.n2 (Nat.le_refl _) (Nat.le_trans hs4 hB5.size)
      have hn2 : es.length = n2 := HW4.out.lies.len
      have hOr : O = true → decide ((1 : Int) < (tn : Int)) = false := fun h => by
        have := HOn.out (HOne.out h)
        simp; omega
      have HOr := Lib.hid hOr
      clear hOr HOn HOne HO4
      have HN2 := Lib.hid hn2
      clear hn2
      cases O with
      | false =>
        refine wp_region_noPanic ?_
        first | (go_region_held (fun w' => (w'.cell? ⟨g2, 0, none⟩ = some (.int .i64 L) ∧ w'.cell? ⟨g2, 1, none⟩ = some (.slice E n2 c2)) ∧ w'.cell? ⟨g4, 0, none⟩ = some (.int .i64 L) ∧ w'.cell? ⟨g4, 1, none⟩ = some (.slice A4 n2 c4)) (first
          | exact ⟨⟨HX4.out.cell 0, HX4.out.cell 1⟩, HT4.out.cell 0, HT4.out.cell 1⟩
          | exact hkeep) (first
          | (refine HTo.out.mono ?_
             rintro e w5 ⟨v5, rfl, ho5, hB5⟩
             obtain ⟨A5, c5, rfl, hc5, hd5⟩ := ho5.form rcell_len
             have HSm5 := Lib.hid (HSm.out w5 A5 c5 hB5 hd5)
             rw [HN2.out]
             have hB45 := (below_drewN (Below.refl W4.heap.size W4) 1).trans hB5
             have HX5 := Lib.hid (HX4.out.below hB45 HX4.out.lt)
             have HT5 := Lib.hid (HT4.out.below hB45 HT4.out.lt)
             have HB5 := Lib.hid hB45
             clear ho5 hB5 hd5 hB45
             have hkeep := (⟨⟨HX5.out.cell 0, HX5.out.cell 1⟩, HT5.out.cell 0, HT5.out.cell 1⟩ : (w5.cell? ⟨g2, 0, none⟩ = some (.int .i64 L) ∧ w5.cell? ⟨g2, 1, none⟩ = some (.slice E n2 c2)) ∧ w5.cell? ⟨g4, 0, none⟩ = some (.int .i64 L) ∧ w5.cell? ⟨g4, 1, none⟩ = some (.slice A4 n2 c4)))
          | (refine HSm5.out.mono ?_
             rintro e w6 ⟨rfl, hB6⟩
             have HX6 := Lib.hid (HX5.out.below hB6 HX5.out.lt)
             have HT6 := Lib.hid (HT5.out.below hB6 HT5.out.lt)
             have HB6 := Lib.hid (HB5.out.trans (hB6.mono HB5.out.size))
             clear hB6 hkeep
             have hkeep := (⟨⟨HX6.out.cell 0, HX6.out.cell 1⟩, HT6.out.cell 0, HT6.out.cell 1⟩ : (w6.cell? ⟨g2, 0, none⟩ = some (.int .i64 L) ∧ w6.cell? ⟨g2, 1, none⟩ = some (.slice E n2 c2)) ∧ w6.cell? ⟨g4, 0, none⟩ = some (.int .i64 L) ∧ w6.cell? ⟨g4, 1, none⟩ = some (.slice A4 n2 c4))))) | fail
        refine NoPanic.normal ?_
        have HBw := Lib.hid (HB4.out.trans (HB6.out.mono HB4.out.size))
        have HW6 := Lib.hid (HW4.out.below HB6.out)
        have HD6 := Lib.hid (HD4.out.below HB6.out HB4.out.size)
        clear hkeep HSm5 HX5 HT5 HB5 HX4 HT4 HB4 HW4 HD4 HTo HSm HT6 HB6 hs4 hc5 HI him hlt hkz hmd
        obtain ⟨d2, o2, hdo, _, _, hc6⟩ := HD6.out (by have := HM.out; omega)
        cases hdo
        obtain ⟨de, oe, hE, _, _, hce⟩ := HW6.out.lies.ent.ent (by have := HN2.out; have := HFi.out.2; omega)
        dsimp only at hE
        subst hE
        have HC6 := Lib.hid hc6
        have HCe := Lib.hid hce
        have HHas := Lib.hid HW6.out.has
        have hn2b : n2 ≤ 65536 := HW6.out.lies.n2
        obtain ⟨t0, t1, _, _⟩ := box2 HX6.out
        clear hc6 hce HD6 HW6
        go_wp2_with fail
        go_loopg [17, 18, 19] i (fun gh v17 _ _ wx => ∃ k q2 : Nat, k + gh = i ∧ v17 = .int .i64 (k : Int) ∧ wx = w6.drewN q2)
        case atStart => exact ⟨0, 0, by omega, rfl, rfl⟩
        case round =>
          obtain ⟨k, q2, hk2, rfl, rfl⟩ := hrel
          have HK := Lib.hid hk2
          have hkle : k ≤ i := by omega
          clear hk2
          by_cases hlt2 : k < i
          · obtain ⟨g', rfl⟩ : ∃ g', gk = g' + 1 := ⟨gk - 1, by have := HK.out; omega⟩
            have hkz2 : (k : Int) < (i : Int) := by omega
            have hk0 : (0 : Int) ≤ (k : Int) := by omega
            have hkl : k < l.length := by have := HM.out; omega
            have qk : w6.cell? ⟨d, o + k, none⟩ = some (.int .i64 l[k]) := HC6.out k hkl
            have HAll : Hid (among es l[k] es.length = true) := by
              obtain ⟨hx0, hxN⟩ := HCo.out.1 l[k] (List.getElem_mem hkl)
              have h := among_all (es := es) (l := l) (y := l[k].toNat) HHas.out (by omega) (by rw [Int.toNat_of_nonneg hx0]; exact List.getElem_mem hkl)
              rw [Int.toNat_of_nonneg hx0] at h
              exact h
            generalize l[k] = x at *
            go_wp2_with fail
            go_loopg [18, 19] n2 (fun gh v18 v19 wx => ∃ j q3 : Nat, j + gh = n2 ∧ v19 = .int .i64 (j : Int) ∧ v18 = .bool (among es x j) ∧ wx = w6.drewN q3)
            case atStart => exact ⟨0, q2, by omega, rfl, by simp [among], rfl⟩
            case round =>
              obtain ⟨j, q3, hj, rfl, rfl, rfl⟩ := hrel
              have HJ := Lib.hid hj
              have hjle : j ≤ n2 := by omega
              clear hj
              by_cases hlt3 : j < n2
              · obtain ⟨g3, rfl⟩ : ∃ g3, gk = g3 + 1 := ⟨gk - 1, by have := HJ.out; omega⟩
                have hjz : (j : Int) < (n2 : Int) := by omega
                have hj0 : (0 : Int) ≤ (j : Int) := by omega
                have hjl : j < es.length := by have := HN2.out; omega
                obtain ⟨e0, _, _⟩ := HCe.out j hjl
                obtain ⟨s, b, e, hx, hs256, _, _⟩ := HFi.out.1 j hjl
                have HAs := Lib.hid (among_succ es x j hjl)
                rw [hx] at e0 HAs
                simp only at e0
                have hsw : IntKind.i64.wrap (s : Int) = (s : Int) := IntWalk.i64_in _ (by omega)
                clear hx
                obtain ⟨A1, hA1⟩ : ∃ A1, A1 = among es x (j + 1) := ⟨_, rfl⟩
                rw [← hA1] at HAs
                have HAe := Lib.hid hA1
                clear hA1
                generalize among es x j = A0 at *
                cases A0 with
                | false =>
                  go_upto_region 27 with (fail)
                  go_quiet (fail)
                  go_wp2_with fail
                  go_roundg g3
                  case rel => exact ⟨j + 1, _, by have := HJ.out; omega, by go_num, by rw [← HAe.out, HAs.out]; rfl, rfl⟩
                  case measure => omega
                | true =>
                  go_upto_region 27 with (fail)
                  go_quiet (fail)
                  go_wp2_with fail
                  go_roundg g3
                  case rel => exact ⟨j + 1, _, by have := HJ.out; omega, by go_num, by rw [← HAe.out, HAs.out]; rfl, rfl⟩
                  case measure => omega
              · have hjn : j = n2 := by omega
                subst hjn
                have hjz : ¬ (j : Int) < (j : Int) := by omega
                have hA : among es x j = true := by have := HAll.out; rw [HN2.out] at this; exact this
                rw [hA]
                go_wp2_with fail
                go_roundg g'
                case rel => exact ⟨k + 1, _, by have := HK.out; omega, by go_num, rfl⟩
                case measure => omega
          · have hkn : k = i := by omega
            subst hkn
            have hkz2 : ¬ (k : Int) < (k : Int) := by omega
            go_wp2_with fail
            go_ret
            exact ⟨rfl, below_drewN HBw.out _⟩
      | true =>
        have htn := HOr.out rfl
        refine wp_region_noPanic ?_
        first | (go_region_held (fun w' => (w'.cell? ⟨g2, 0, none⟩ = some (.int .i64 L) ∧ w'.cell? ⟨g2, 1, none⟩ = some (.slice E n2 c2)) ∧ w'.cell? ⟨g4, 0, none⟩ = some (.int .i64 L) ∧ w'.cell? ⟨g4, 1, none⟩ = some (.slice A4 n2 c4)) (first
          | exact ⟨⟨HX4.out.cell 0, HX4.out.cell 1⟩, HT4.out.cell 0, HT4.out.cell 1⟩
          | exact hkeep) (first
          | (refine HTo.out.mono ?_
             rintro e w5 ⟨v5, rfl, ho5, hB5⟩
             obtain ⟨A5, c5, rfl, hc5, hd5⟩ := ho5.form rcell_len
             have HSm5 := Lib.hid (HSm.out w5 A5 c5 hB5 hd5)
             rw [HN2.out]
             have hB45 := (below_drewN (Below.refl W4.heap.size W4) 1).trans hB5
             have HX5 := Lib.hid (HX4.out.below hB45 HX4.out.lt)
             have HT5 := Lib.hid (HT4.out.below hB45 HT4.out.lt)
             have HB5 := Lib.hid hB45
             clear ho5 hB5 hd5 hB45
             have hkeep := (⟨⟨HX5.out.cell 0, HX5.out.cell 1⟩, HT5.out.cell 0, HT5.out.cell 1⟩ : (w5.cell? ⟨g2, 0, none⟩ = some (.int .i64 L) ∧ w5.cell? ⟨g2, 1, none⟩ = some (.slice E n2 c2)) ∧ w5.cell? ⟨g4, 0, none⟩ = some (.int .i64 L) ∧ w5.cell? ⟨g4, 1, none⟩ = some (.slice A4 n2 c4)))
          | (refine HSm5.out.mono ?_
             rintro e w6 ⟨rfl, hB6⟩
             have HX6 := Lib.hid (HX5.out.below hB6 HX5.out.lt)
             have HT6 := Lib.hid (HT5.out.below hB6 HT5.out.lt)
             have HB6 := Lib.hid (HB5.out.trans (hB6.mono HB5.out.size))
             clear hB6 hkeep
             have hkeep := (⟨⟨HX6.out.cell 0, HX6.out.cell 1⟩, HT6.out.cell 0, HT6.out.cell 1⟩ : (w6.cell? ⟨g2, 0, none⟩ = some (.int .i64 L) ∧ w6.cell? ⟨g2, 1, none⟩ = some (.slice E n2 c2)) ∧ w6.cell? ⟨g4, 0, none⟩ = some (.int .i64 L) ∧ w6.cell? ⟨g4, 1, none⟩ = some (.slice A4 n2 c4))))) | fail
        refine NoPanic.normal ?_
        have HBw := Lib.hid (HB4.out.trans (HB6.out.mono HB4.out.size))
        have HW6 := Lib.hid (HW4.out.below HB6.out)
        have HD6 := Lib.hid (HD4.out.below HB6.out HB4.out.size)
        clear hkeep HSm5 HX5 HT5 HB5 HX4 HT4 HB4 HW4 HD4 HTo HSm HT6 HB6 hs4 hc5 HI him hlt hkz hmd
        obtain ⟨d2, o2, hdo, _, _, hc6⟩ := HD6.out (by have := HM.out; omega)
        cases hdo
        obtain ⟨de, oe, hE, _, _, hce⟩ := HW6.out.lies.ent.ent (by have := HN2.out; have := HFi.out.2; omega)
        dsimp only at hE
        subst hE
        have HC6 := Lib.hid hc6
        have HCe := Lib.hid hce
        have HHas := Lib.hid HW6.out.has
        have hn2b : n2 ≤ 65536 := HW6.out.lies.n2
        obtain ⟨t0, t1, _, _⟩ := box2 HX6.out
        clear hc6 hce HD6 HW6
        go_wp2_with fail
        go_loopg [17, 18, 19] i (fun gh v17 _ _ wx => ∃ k q2 : Nat, k + gh = i ∧ v17 = .int .i64 (k : Int) ∧ wx = w6.drewN q2)
        case atStart => exact ⟨0, 0, by omega, rfl, rfl⟩
        case round =>
          obtain ⟨k, q2, hk2, rfl, rfl⟩ := hrel
          have HK := Lib.hid hk2
          have hkle : k ≤ i := by omega
          clear hk2
          by_cases hlt2 : k < i
          · obtain ⟨g', rfl⟩ : ∃ g', gk = g' + 1 := ⟨gk - 1, by have := HK.out; omega⟩
            have hkz2 : (k : Int) < (i : Int) := by omega
            have hk0 : (0 : Int) ≤ (k : Int) := by omega
            have hkl : k < l.length := by have := HM.out; omega
            have qk : w6.cell? ⟨d, o + k, none⟩ = some (.int .i64 l[k]) := HC6.out k hkl
            have HAll : Hid (among es l[k] es.length = true) := by
              obtain ⟨hx0, hxN⟩ := HCo.out.1 l[k] (List.getElem_mem hkl)
              have h := among_all (es := es) (l := l) (y := l[k].toNat) HHas.out (by omega) (by rw [Int.toNat_of_nonneg hx0]; exact List.getElem_mem hkl)
              rw [Int.toNat_of_nonneg hx0] at h
              exact h
            generalize l[k] = x at *
            go_wp2_with fail
            go_loopg [18, 19] n2 (fun gh v18 v19 wx => ∃ j q3 : Nat, j + gh = n2 ∧ v19 = .int .i64 (j : Int) ∧ v18 = .bool (among es x j) ∧ wx = w6.drewN q3)
            case atStart => exact ⟨0, q2, by omega, rfl, by simp [among], rfl⟩
            case round =>
              obtain ⟨j, q3, hj, rfl, rfl, rfl⟩ := hrel
              have HJ := Lib.hid hj
              have hjle : j ≤ n2 := by omega
              clear hj
              by_cases hlt3 : j < n2
              · obtain ⟨g3, rfl⟩ : ∃ g3, gk = g3 + 1 := ⟨gk - 1, by have := HJ.out; omega⟩
                have hjz : (j : Int) < (n2 : Int) := by omega
                have hj0 : (0 : Int) ≤ (j : Int) := by omega
                have hjl : j < es.length := by have := HN2.out; omega
                obtain ⟨e0, _, _⟩ := HCe.out j hjl
                obtain ⟨s, b, e, hx, hs256, _, _⟩ := HFi.out.1 j hjl
                have HAs := Lib.hid (among_succ es x j hjl)
                rw [hx] at e0 HAs
                simp only at e0
                have hsw : IntKind.i64.wrap (s : Int) = (s : Int) := IntWalk.i64_in _ (by omega)
                clear hx
                obtain ⟨A1, hA1⟩ : ∃ A1, A1 = among es x (j + 1) := ⟨_, rfl⟩
                rw [← hA1] at HAs
                have HAe := Lib.hid hA1
                clear hA1
                generalize among es x j = A0 at *
                cases A0 with
                | false =>
                  go_upto_region 27 with (fail)
                  go_quiet (fail)
                  go_wp2_with fail
                  go_roundg g3
                  case rel => exact ⟨j + 1, _, by have := HJ.out; omega, by go_num, by rw [← HAe.out, HAs.out]; rfl, rfl⟩
                  case measure => omega
                | true =>
                  go_upto_region 27 with (fail)
                  go_quiet (fail)
                  go_wp2_with fail
                  go_roundg g3
                  case rel => exact ⟨j + 1, _, by have := HJ.out; omega, by go_num, by rw [← HAe.out, HAs.out]; rfl, rfl⟩
                  case measure => omega
              · have hjn : j = n2 := by omega
                subst hjn
                have hjz : ¬ (j : Int) < (j : Int) := by omega
                have hA : among es x j = true := by have := HAll.out; rw [HN2.out] at this; exact this
                rw [hA]
                go_wp2_with fail
                go_roundg g'
                case rel => exact ⟨k + 1, _, by have := HK.out; omega, by go_num, rfl⟩
                case measure => omega
          · have hkn : k = i := by omega
            subst hkn
            have hkz2 : ¬ (k : Int) < (k : Int) := by omega
            go_wp2_with fail
            go_ret
            exact ⟨rfl, below_drewN HBw.out _⟩

set_option maxRecDepth 100000 in
set_option maxHeartbeats 1000000 in
theorem walk (ki : Int) (a : Option Addr) (l : List Int) (cp : Nat) (w : World) (hgl : Glob w.heap.size w) (_hk : -9223372036854775808 ≤ ki ∧ ki ≤ 9223372036854775807) (hd : DatE icel w 0 w.heap.size a l) (_hm : l.length ≤ maxLen) (_hb : ∀ n ∈ l, -9223372036854775808 ≤ n ∧ n ≤ 9223372036854775807) :
    Calls Tryd.prog 3 #[.int .i64 ki, .slice a l.length cp] w fun e w' => e = .returned (.bool true) ∧ Below w.heap.size w w' := by
  by_cases hlong : 300 < l.length
  · have HG := Lib.hid hgl
    obtain ⟨m, hmm⟩ : ∃ m, m = l.length := ⟨_, rfl⟩
    rw [← hmm] at hlong ⊢
    have h3 : (300 : Int) < (m : Int) := by omega
    clear hgl hd hmm _hm _hb
    go_enter Tryd.func3, Tryd.ntmps3
    go_wp2_with (go_at_call 6; refine (tab_awake _ HG.out).mono ?_; rintro e' w1 ⟨rfl, hB1⟩; have HB1 := Lib.hid hB1; clear hB1)
    go_ret
    exact ⟨rfl, HB1.out⟩
  · by_cases hgood : ∃ n : Nat, n < 3 ∧ ki = (n : Int) ∧ codesB n l = true
    · obtain ⟨n, hn, rfl, hg⟩ := hgood
      exact walk_yes n hn a l cp w hgl hd (by omega) hg
    · exact walk_no ki a l cp w hgl hd (by omega) hgood


set_option maxRecDepth 100000 in
theorem lifted (os : Os) (started : os.Started) (H : Type) (enc : TypeId × Value → H) :
    ReturnsInHanded {} Tryd.checked os 3 .any (fun w args => (Rows.tablesWritesSpec.pre enc Tryd.prog Tryd.f3 [] false w args ∧ laidMetH Tryd.prog laidL w) ∧ sizedMet enc Tryd.prog Tryd.f3 (OpenSpec.ofChange Rows.tablesWritesSpec) false w args)
      (Rows.tablesWritesSpec.post enc Tryd.prog Tryd.f3 false true false false) := by
  refine returnsInHanded_of_change_and (C := Tryd.checked) (X := fun w _ => laidMetH Tryd.prog laidL w) (fun _ _ _ hh h => h.of_heap hh) own started (by kernel_rfl) Tryd.func3
    (ChangeSpec.witness_shaped (enc := enc) (C := Tryd.checked) (os := os) (X := fun w _ => laidMetH Tryd.prog laidL w) false (World.doorLaid Tryd.prog 400 os) #[.int .i64 0, .slice none 0 0] 8 rfl (World.shaped_of_RefB (by kernel_rfl) (by kernel_rfl)) (by kernel_rfl) (by kernel_rfl) (by kernel_rfl) (door_met os _)) ?_
  intro W base args ds gs before hval0 hW _ _ hL _
  have hval : ∀ (j : Nat) t v, Tryd.f3.params[j]? = some t → args[j]? = some v → Value.okWide Tryd.prog W .any base t v := hval0
  have hW' := hW
  obtain ⟨p, q, hA0, hV, rfl, hfz, hnd⟩ := hW
  have hA : DataW.TrodAll enc Tryd.prog W 0 (fun _ => true) true Tryd.f3.params.toList args.toList ds p := hA0
  rw [Tryd.params3] at hA hval
  obtain ⟨v0, vs0, d0, ds0, p0, q0, hargs, rfl, rfl, h0, r0⟩ := trodAll_cons hA
  obtain ⟨v1, vs1, d1, ds1, p1, q1, rfl, rfl, rfl, h1, r1⟩ := trodAll_cons r0
  obtain ⟨rfl, rfl, rfl⟩ := trodAll_nil r1
  obtain rfl : args = #[v0, v1] := by cases args; simp_all
  obtain ⟨rfl, rfl⟩ := trodVars_none hV
  obtain ⟨n0, rfl, rfl, rfl, w0⟩ := open_int Tryd.underlying3 (hval 0 3 v0 rfl rfl) h0
  obtain ⟨a1, len1, cap1, rfl⟩ := okWide_slice Tryd.underlying22 (hval 1 22 v1 rfl rfl)
  have k1 := h1
  have lt1 : ∀ x ∈ p1, x.block < W.heap.size := by obtain ⟨m, hm⟩ := k1; exact DataW.trod_lt m _ _ _ hm
  obtain ⟨ns1, rfl, hl1, hm1, hd1, hb1⟩ := ints_of_trod h1
  clear hA0 hval0
  refine (walk n0 a1 ns1 cap1 W (glob_of_laid hL) (int_bounds w0) hd1 (by omega) hb1).mono fun e W' ⟨he, bel⟩ => ?_
  subst he
  exact ⟨_, rfl, _, _, _, [], _, [], hW', trodAll_mk1 (shut_bool Tryd.underlying4 _), (trodAll_cons_mk (shut_int Tryd.underlying3 w0) (trodAll_cons_mk (Below.trod laidOut (by kernel_rfl) (of_decide_eq_true (by kernel_rfl)) k1 bel lt1) trodAll_mk0)), rfl, bel.frame _, fun h => by cases h⟩

theorem over : Rows.tablesWritesRow.holds Tryd.pinned (OpenSpec.ofChange Rows.tablesWritesSpec) :=
  OpenClaim.holds_of_wide 3 Tryd.f3 rfl rfl rfl rfl rfl rfl rfl ⟨rfl, rfl, rfl, rfl, rfl⟩ rfl rfl rfl rfl rfl (by kernel_rfl) Tryd.func3 (by kernel_rfl)
    (of_decide_eq_true (by kernel_rfl)) (by unfold Func.isWrapper; first | (rw [if_pos (by decide +kernel)]; kernel_rfl) | (rw [if_neg (by decide +kernel)]; exact ⟨rfl, rfl⟩))
    (fun os started H enc _ => lifted os started H enc)

/-- ████ THE STATEMENT ████ -/
theorem proved : Rows.TablesWritesCardSaid :=
  Claim7.holds_tied_plain_at .later [] [.data, .data, .data, .data] true Rows.tablesWritesCard.stood.harness false
    over (fun _ h => by cases h) (by kernel_rfl) (fun _ h => by cases h) tablesWrites_row_tie rfl ⟨rfl, rfl⟩ (by kernel_rfl) rfl
    (fun f fn hf hfn => by
      obtain rfl : f = 3 := Option.some.inj ((show Tryd.prog.funcNamed Rows.tablesWritesRow.func = some 3 by kernel_rfl).symm.trans hf) |>.symm
      obtain rfl : fn = Tryd.f3 := (Option.some.inj (Tryd.func3.symm.trans hfn)).symm
      exact ⟨by kernel_rfl, fun j t ht => by
        rw [Tryd.params3] at ht
        have hm : t ∈ [3, 22] := by
          have := Array.mem_of_getElem? ht
          simp at this
          simpa using this
        have hall : ([3, 22].all fun u => !Tryd.prog.wantsStandIn u) = true := by kernel_rfl
        exact (show Tryd.prog.wantsStandIn t = false by simpa using List.all_eq_true.1 hall t hm)⟩)
    (by kernel_rfl)
#print axioms proved
end Go.Proofs.YtpdnmhnnngcbjaaDoor.tablesWrites
