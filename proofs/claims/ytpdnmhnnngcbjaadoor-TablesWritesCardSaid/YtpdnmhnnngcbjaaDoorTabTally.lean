
/- The contracts of the program's mayBe (slices.Min, slices.Max), tally and alone. -/
import Derived.Test.YtpdnmhnnngcbjaaDoorTabMin
import Derived.Test.YtpdnmhnnngcbjaaDoorPileC
namespace Go.Proofs.YtpdnmhnnngcbjaaDoor
open Go.RowKit

set_option maxRecDepth 100000 in
theorem minZ_any {w : World} {lo hi n c : Nat} {A : Option Addr} {xs : List Int} (hd : DatE icel w lo hi A xs) (hn : xs.length = n) (h0 : 0 < n) (hm : n ≤ 1000000) :
    Calls Tryd.prog 32 #[.slice A n c] w fun e w' => ∃ m : Int, e = .returned (.int .i64 m) ∧ m ∈ xs ∧ (∀ x ∈ xs, m ≤ x) ∧ w' = w := by
  have HD := Lib.hid (And.intro hd hn)
  have hl0 : 0 < xs.length := by omega
  obtain ⟨d, o, rfl, _, _, hc⟩ := hd (by omega)
  have HC := Lib.hid hc
  have hc0 := hc 0 (by omega)
  simp only [Nat.add_zero] at hc0
  unfold icel at hc0
  obtain ⟨x0, e0⟩ : ∃ x, x = xs[0]'hl0 := ⟨_, rfl⟩
  rw [← e0] at hc0
  have HE := Lib.hid e0
  clear hd hc e0 hn
  have h1 : ¬ (n : Int) < 1 := by omega
  have hnz : (0 : Int) < (n : Int) := by omega
  go_enter Tryd.func32, Tryd.ntmps32
  go_wp2_with fail
  go_loopg [3, 4] n (fun g1 vm vi wx => ∃ (i : Nat) (m : Int), vi = .int .i64 (i : Int) ∧ vm = .int .i64 m ∧ 1 ≤ i ∧ i ≤ n ∧ n - i ≤ g1 ∧ m ∈ xs ∧ (∀ x ∈ xs.take i, m ≤ x) ∧ wx = w)
  case atStart =>
    refine ⟨1, x0, by go_num, rfl, by omega, by omega, by omega, by rw [HE.out]; exact List.getElem_mem _, fun x hx => ?_, rfl⟩
    rw [List.take_succ_eq_append_getElem hl0] at hx
    simp at hx
    rw [hx, HE.out]
    exact Int.le_refl _
  case round =>
    obtain ⟨i, m, rfl, rfl, h1i, hin, hg, hm1, hm2, rfl⟩ := hrel
    by_cases hlt : i < n
    · have hltz : (i : Int) < (n : Int) := by omega
      have hil : i < xs.length := by rw [HD.out.2]; exact hlt
      have hci := HC.out i hil
      unfold icel at hci
      have hts : xs.take (i + 1) = xs.take i ++ [xs[i]] := List.take_succ_eq_append_getElem hil
      have hmi := List.getElem_mem hil
      have HM := Lib.hid (And.intro hm1 (And.intro hm2 (And.intro hts hmi)))
      clear hm1 hm2 hts hmi
      generalize xs[i] = y at *
      go_wp2_with fail
      all_goals
        go_roundg (n - (i + 1))
        case measure => omega
        case rel =>
          obtain ⟨hm1, hm2, hts, hmi⟩ := HM.out
          refine ⟨i + 1, min m y, by go_num, rfl, by omega, by omega, by omega, ?_, fun x hy => ?_, rfl⟩
          · by_cases h : m ≤ y
            · rw [Int.min_eq_left h]; exact hm1
            · rw [Int.min_eq_right (by omega)]; exact hmi
          · rw [hts] at hy
            rcases List.mem_append.1 hy with q | q
            · have := hm2 x q; omega
            · rw [List.mem_singleton.1 q]; omega
    · obtain rfl : i = n := by omega
      have hltz : ¬ (i : Int) < (i : Int) := by omega
      go_wp2_with fail
      go_ret
      exact ⟨m, rfl, hm1, by rw [List.take_of_length_le (by rw [HD.out.2]; exact Nat.le_refl _)] at hm2; exact hm2, rfl⟩
set_option maxRecDepth 100000 in
theorem maxZ_any {w : World} {lo hi n c : Nat} {A : Option Addr} {xs : List Int} (hd : DatE icel w lo hi A xs) (hn : xs.length = n) (h0 : 0 < n) (hm : n ≤ 1000000) :
    Calls Tryd.prog 33 #[.slice A n c] w fun e w' => ∃ m : Int, e = .returned (.int .i64 m) ∧ m ∈ xs ∧ (∀ x ∈ xs, x ≤ m) ∧ w' = w := by
  have HD := Lib.hid (And.intro hd hn)
  have hl0 : 0 < xs.length := by omega
  obtain ⟨d, o, rfl, _, _, hc⟩ := hd (by omega)
  have HC := Lib.hid hc
  have hc0 := hc 0 (by omega)
  simp only [Nat.add_zero] at hc0
  unfold icel at hc0
  obtain ⟨x0, e0⟩ : ∃ x, x = xs[0]'hl0 := ⟨_, rfl⟩
  rw [← e0] at hc0
  have HE := Lib.hid e0
  clear hd hc e0 hn
  have h1 : ¬ (n : Int) < 1 := by omega
  have hnz : (0 : Int) < (n : Int) := by omega
  go_enter Tryd.func33, Tryd.ntmps33
  go_wp2_with fail
  go_loopg [3, 4] n (fun g1 vm vi wx => ∃ (i : Nat) (m : Int), vi = .int .i64 (i : Int) ∧ vm = .int .i64 m ∧ 1 ≤ i ∧ i ≤ n ∧ n - i ≤ g1 ∧ m ∈ xs ∧ (∀ x ∈ xs.take i, x ≤ m) ∧ wx = w)
  case atStart =>
    refine ⟨1, x0, by go_num, rfl, by omega, by omega, by omega, by rw [HE.out]; exact List.getElem_mem _, fun x hx => ?_, rfl⟩
    rw [List.take_succ_eq_append_getElem hl0] at hx
    simp at hx
    rw [hx, HE.out]
    exact Int.le_refl _
  case round =>
    obtain ⟨i, m, rfl, rfl, h1i, hin, hg, hm1, hm2, rfl⟩ := hrel
    by_cases hlt : i < n
    · have hltz : (i : Int) < (n : Int) := by omega
      have hil : i < xs.length := by rw [HD.out.2]; exact hlt
      have hci := HC.out i hil
      unfold icel at hci
      have hts : xs.take (i + 1) = xs.take i ++ [xs[i]] := List.take_succ_eq_append_getElem hil
      have hmi := List.getElem_mem hil
      have HM := Lib.hid (And.intro hm1 (And.intro hm2 (And.intro hts hmi)))
      clear hm1 hm2 hts hmi
      generalize xs[i] = y at *
      go_wp2_with fail
      all_goals
        go_roundg (n - (i + 1))
        case measure => omega
        case rel =>
          obtain ⟨hm1, hm2, hts, hmi⟩ := HM.out
          refine ⟨i + 1, max m y, by go_num, rfl, by omega, by omega, by omega, ?_, fun x hy => ?_, rfl⟩
          · by_cases h : y ≤ m
            · rw [Int.max_eq_left h]; exact hm1
            · rw [Int.max_eq_right (by omega)]; exact hmi
          · rw [hts] at hy
            rcases List.mem_append.1 hy with q | q
            · have := hm2 x q; omega
            · rw [List.mem_singleton.1 q]; omega
    · obtain rfl : i = n := by omega
      have hltz : ¬ (i : Int) < (i : Int) := by omega
      go_wp2_with fail
      go_ret
      exact ⟨m, rfl, hm1, by rw [List.take_of_length_le (by rw [HD.out.2]; exact Nat.le_refl _)] at hm2; exact hm2, rfl⟩

/-- May these be codes of a kind? -/
def codesB (n : Nat) (l : List Int) : Bool := decide (0 < l.length) && l.all fun x => decide (0 ≤ x) && decide (x ≤ (lastN n : Int))
theorem codesB_iff {n : Nat} {l : List Int} : codesB n l = true ↔ 0 < l.length ∧ ∀ x ∈ l, 0 ≤ x ∧ x ≤ (lastN n : Int) := by
  unfold codesB
  simp
set_option maxRecDepth 100000 in
set_option maxHeartbeats 1000000 in
theorem mayBeT_any {B : Nat} {w : World} {lo hi m c : Nat} {A : Option Addr} {l : List Int} (n : Nat) (hn : n < 3) (hgl : Glob B w) (hd : DatE icel w lo hi A l) (hm : l.length = m) (hm2 : m ≤ 1000) :
    Calls Tryd.prog 16 #[.int .i64 (n : Int), .slice A m c] w fun e w' => e = .returned (.bool (codesB n l)) ∧ w' = w := by
  by_cases h0 : m = 0
  · subst h0
    have hb : codesB n l = false := by
      rw [Bool.eq_false_iff]
      intro h
      have := (codesB_iff.1 h).1
      omega
    rw [hb]
    clear hd hgl hm hb
    go_enter Tryd.func16, Tryd.ntmps16
    go_wp2_with fail
    go_ret
    exact ⟨rfl, rfl⟩
  · have HMin := Lib.hid (minZ_any (c := c) hd hm (by omega) (by omega))
    have HMax := Lib.hid (maxZ_any (c := c) hd hm (by omega) (by omega))
    have HL : Hid (Calls Tryd.prog 31 #[.int .i64 (n : Int)] w fun e w' => e = .returned (.int .i64 (lastN n : Int)) ∧ w = w') := by
      have := last_any (n : Int) w hgl
      rwa [lastZ_nat hn] at this
    have HIff := Lib.hid (codesB_iff (n := n) (l := l))
    have HM := Lib.hid hm
    generalize codesB n l = b at *
    have hm0 : (0 : Int) < (m : Int) := by omega
    have hm1 : (m : Int) ≤ 131072 := by omega
    generalize lastN n = la at *
    clear hd hgl hm
    go_enter Tryd.func16, Tryd.ntmps16
    go_wp2_with fail
    refine HMin.out.mono ?_
    rintro e w1 ⟨mn, rfl, hmn, hmn2, rfl⟩
    have HMn := Lib.hid (And.intro hmn hmn2)
    clear hmn hmn2
    by_cases hneg : mn < 0
    · have hb : b = false := by
        rw [Bool.eq_false_iff]
        intro h
        have := ((HIff.out.1 h).2 mn HMn.out.1).1
        omega
      subst hb
      have hd : decide ((0 : Int) ≤ mn) = false := by simp; omega
      go_wp2_with fail
      go_ret
      exact ⟨rfl, rfl⟩
    · have hd : (0 : Int) ≤ mn := by omega
      go_wp2_with fail
      refine HMax.out.mono ?_
      rintro e w2 ⟨mx, rfl, hmx, hmx2, rfl⟩
      have HMx := Lib.hid (And.intro hmx hmx2)
      clear hmx hmx2
      go_wp2_with fail
      refine HL.out.mono ?_
      rintro e w3 ⟨rfl, rfl⟩
      by_cases hbig : mx ≤ (la : Int)
      · have hb : b = true := by
          refine HIff.out.2 ⟨by have := HM.out; omega, fun x hx => ⟨?_, ?_⟩⟩
          · have := HMn.out.2 x hx; omega
          · have := HMx.out.2 x hx; omega
        subst hb
        go_wp2_with fail
        go_ret
        exact ⟨rfl, rfl⟩
      · have hb : b = false := by
          rw [Bool.eq_false_iff]
          intro h
          have := ((HIff.out.1 h).2 mx HMx.out.1).2
          omega
        subst hb
        have hbf : decide (mx ≤ (la : Int)) = false := decide_eq_false hbig
        go_wp2_with fail
        go_ret
        exact ⟨rfl, rfl⟩

/-- How often a code is. -/
def oft (l : List Int) (s : Nat) : Nat := l.count (s : Int)
theorem oft_le (l : List Int) (s : Nat) : oft l s ≤ l.length := List.count_le_length
theorem oft_pos (l : List Int) (s : Nat) : 0 < oft l s ↔ (s : Int) ∈ l := List.count_pos_iff
theorem oft_step (l : List Int) (j s : Nat) (h : j < l.length) (hs : l[j] = (s : Int)) : (fun i => if i = s then oft (l.take j) s + 1 else oft (l.take j) i) = oft (l.take (j + 1)) := by
  funext i
  unfold oft
  rw [List.take_succ_eq_append_getElem h, List.count_append, hs]
  by_cases e : i = s
  · subst e
    simp
  · rw [if_neg e]
    have : List.count (i : Int) [(s : Int)] = 0 := by
      rw [List.count_eq_zero]
      simp
      omega
    omega

set_option maxRecDepth 100000 in
set_option maxHeartbeats 1000000 in
theorem tallyT_any {w : World} {lo hi m c : Nat} {A : Option Addr} {l : List Int} (hd : DatE icel w lo hi A l) (hhi : hi ≤ w.heap.size) (hm : l.length = m) (hm2 : m ≤ 1000) (hb : ∀ x ∈ l, 0 ≤ x ∧ x ≤ 52) :
    Calls Tryd.prog 17 #[.slice A m c] w fun e w' => e = .returned (.agg (a53 .u32 (oft l))) ∧ Below w.heap.size w w' := by
  have HD := Lib.hid hd
  have HM := Lib.hid hm
  have HBd := Lib.hid hb
  have hb0 := (Box.new w 51 (a53 .u32 fun _ => 0)).alloc (.cells (a53 .u32 fun _ => 0) 51)
  have hb1 := Box.new (w.alloc (.cells (a53 .u32 fun _ => 0) 51)) 51 (a53 .u32 fun _ => 0)
  rw [World.size_alloc] at hb1
  have H0 := Lib.hid hb0
  have H1 := Lib.hid hb1
  have HB : Hid (Below w.heap.size w ((w.alloc (.cells (a53 .u32 fun _ => 0) 51)).alloc (.cells (a53 .u32 fun _ => 0) 51))) := ((Below.refl _ _).alloc (Nat.le_refl _) _).alloc (by simp) _
  clear hd hm hb hb0 hb1
  go_enter Tryd.func17, Tryd.ntmps17
  go_upto_region 2 with (refine wpList_alloc_z rfl 51 rfl (a53 .u32 fun _ => 0) a53_zero_u32 ?_)
  generalize (w.alloc (.cells (a53 .u32 fun _ => 0) 51)).alloc (.cells (a53 .u32 fun _ => 0) 51) = W at *
  go_wp2_with fail
  go_loopg [8] m (fun gh v wx => ∃ j : Nat, j + gh = m ∧ v = .int .i64 (j : Int) ∧ Box wx w.heap.size 51 (a53 .u32 fun _ => 0) ∧ Box wx (w.heap.size + 1) 51 (a53 .u32 (oft (l.take j))) ∧ Below w.heap.size w wx)
  case atStart => exact ⟨0, by omega, rfl, H0.out, H1.out, HB.out⟩
  case round =>
    clear H0 H1 HB
    obtain ⟨j, hj, rfl, hb0, hb1, hB⟩ := hrel
    have H0 := Lib.hid hb0
    have H1 := Lib.hid hb1
    have HB := Lib.hid hB
    have HJ := Lib.hid hj
    have hjm : j ≤ m := by omega
    clear hb0 hb1 hB hj
    by_cases hlt : j < m
    · obtain ⟨g', rfl⟩ : ∃ g', gk = g' + 1 := ⟨gk - 1, by have := HJ.out; omega⟩
      have hkz : (j : Int) < (m : Int) := by omega
      have hjl : j < l.length := by have := HM.out; omega
      obtain ⟨d, o, rfl, _, _, hc⟩ := (HD.out.below HB.out hhi) (by omega)
      have q := hc j hjl
      unfold icel at q
      obtain ⟨hx0, hx1⟩ := HBd.out l[j] (List.getElem_mem hjl)
      obtain ⟨s, hs⟩ := Int.eq_ofNat_of_zero_le hx0
      rw [hs] at q hx1
      have hs53 : s < 53 := by omega
      have hsz : (s : Int) < 53 := by omega
      have c1 := (H1.out.cell s).trans (a53_get _ _ s hs53)
      have f1 := H1.out.free s
      have hle := oft_le (l.take j) s
      rw [List.length_take] at hle
      have hput := H1.out.put s (.int .u32 ((oft (l.take j) s + 1 : Nat) : Int))
      rw [a53_set, oft_step l j s hjl hs] at hput
      have HPut := Lib.hid hput
      obtain ⟨x, hx⟩ : ∃ x, x = oft (l.take j) s := ⟨_, rfl⟩
      rw [← hx] at c1 hle HPut
      have hx32 : IntKind.u32.wrap ((x : Int) + 1) = (x : Int) + 1 := by rw [IntKind.wrap_u32']; omega
      clear hc hput hx hs hx0 hx1
      go_wp2_with fail
      go_roundg g'
      case rel => exact ⟨j + 1, by have := HJ.out; omega, by go_num, H0.out.far (by show w.heap.size ≠ w.heap.size + 1; omega) _, HPut.out, HB.out.setCell (by show w.heap.size ≤ w.heap.size + 1; omega) _⟩
      case measure => omega
    · obtain rfl : j = m := by omega
      have hkz : ¬ (j : Int) < (j : Int) := by omega
      have hT : l.take j = l := List.take_of_length_le (by have := HM.out; omega)
      rw [hT] at H1
      clear hT
      go_wp2_with (first
        | (refine wpList_load_row rfl 51 _ rfl (w.heap.size + 1) rfl 51 (a53 .u32 (oft l)) (0, 0) _ H1.out Tryd.underlying51 rfl (by rw [a53_size]; kernel_rfl) ?_)
        | (refine wpList_store_row rfl 51 _ _ rfl w.heap.size (a53 .u32 (oft l)) rfl rfl 51 _ H0.out (by rw [a53_size]; kernel_rfl) (by rw [a53_size, a53_size]) (a53_one _ _) ?_))
      refine bodyPost_ret (v := .agg (a53 .u32 (oft l))) (results_cell_row Tryd.results17 _ _ w.heap.size 51 (a53 .u32 (oft l)) (0, 0) _ rfl (setRow_heap _ _ _ _ _ _ H0.out) Tryd.underlying51 rfl (by rw [a53_size]; kernel_rfl)) rfl ⟨rfl, ?_⟩
      exact below_row HB.out (Nat.le_refl _) _

set_option maxRecDepth 100000 in
set_option maxHeartbeats 1000000 in
theorem alone_any (s : Nat) (w : World) (hs : s < 256) :
    Calls Tryd.prog 18 #[.int .i64 (s : Int)] w fun e w' => ∃ v c t, e = .returned (.agg #[.int .i64 0, v, .int .i64 1, .slice (some ⟨t, 0, none⟩) 1 c]) ∧ OwR 3 ecell w' 41 w.heap.size v [⟨(s : Int), 0, 0⟩] ∧ 1 ≤ c ∧ t < w'.heap.size ∧ w'.cell? ⟨t, 0, none⟩ = some (.int .u8 (s : Int)) ∧ Below w.heap.size w w' := by
  have hw : IntKind.u8.wrap (s : Int) = (s : Int) := by rw [IntKind.wrap_u8']; omega
  have HX := Lib.hid (Box.new w 54 #[.int .i64 0, .slice none 0 0, .int .i64 0, .slice none 0 0])
  have HB0 : Hid (Below w.heap.size w (w.alloc (.cells #[.int .i64 0, .slice none 0 0, .int .i64 0, .slice none 0 0] 54))) := (Below.refl _ _).alloc (Nat.le_refl _) _
  have hsz : (w.alloc (.cells #[.int .i64 0, .slice none 0 0, .int .i64 0, .slice none 0 0] 54)).heap.size = w.heap.size + 1 := by simp
  have HS := Lib.hid hsz
  clear hsz
  go_enter Tryd.func18, Tryd.ntmps18
  go_wp2_with fail
  generalize w.alloc (.cells #[.int .i64 0, .slice none 0 0, .int .i64 0, .slice none 0 0] 54) = W at *
  refine (one_any _ _).mono ?_
  rintro e w1 ⟨v, rfl, ho, hB⟩
  obtain ⟨A1, n1, c1, rfl⟩ := ho.slice
  have HO := Lib.hid (ho.alloc (.cells #[.int .u8 (s : Int)] 5))
  have HB1 := Lib.hid (HB0.out.trans (hB.mono HB0.out.size))
  have hb1 := (HX.out.below hB (by have := HS.out; omega)).alloc (.cells #[.int .u8 (s : Int)] 5)
  have H1 := Lib.hid hb1
  have HT := Lib.hid (Box.new w1 5 #[.int .u8 (s : Int)])
  have hs1 := hB.size
  obtain ⟨z0, z1, z2, z3⟩ := hb1.four
  have f0 := hb1.free 0
  have f1 := hb1.free 1
  have f2 := hb1.free 2
  have f3 := hb1.free 3
  clear ho hB hb1
  go_wp2_with fail
  obtain ⟨r0, r1, r2, r3⟩ := (H1.out.put4 (.int .i64 0) (.slice A1 n1 c1) (.int .i64 1) (.slice (some ⟨w1.heap.size, 0, none⟩) 1 1)).four
  have hss := HS.out
  refine bodyPost_ret (v := .agg #[.int .i64 0, .slice A1 n1 c1, .int .i64 1, .slice (some ⟨w1.heap.size, 0, none⟩) 1 1]) (by simp [results, Tryd.results18, go_sem, r0, r1, r2, r3]) rfl ⟨_, 1, w1.heap.size, rfl, ?_, Nat.le_refl _, by simp, ?_, ?_⟩
  · refine (HO.out.keep fun k hk => ?_).mono (show w.heap.size ≤ W.heap.size by omega)
    have hk4 : W.heap.size ≤ k := (HO.out.block k hk).1
    rw [Below.heap_setCell _ _ _ k (by show k ≠ w.heap.size; omega), Below.heap_setCell _ _ _ k (by show k ≠ w.heap.size; omega), Below.heap_setCell _ _ _ k (by show k ≠ w.heap.size; omega), Below.heap_setCell _ _ _ k (by show k ≠ w.heap.size; omega)]
  · exact ((((HT.out.far (by show w1.heap.size ≠ w.heap.size; omega) _).far (by show w1.heap.size ≠ w.heap.size; omega) _).far (by show w1.heap.size ≠ w.heap.size; omega) _).far (by show w1.heap.size ≠ w.heap.size; omega) _).cell 0
  · exact ((((HB1.out.alloc HB1.out.size _).setCell (Nat.le_refl _) _).setCell (Nat.le_refl _) _).setCell (Nat.le_refl _) _).setCell (Nat.le_refl _) _
end Go.Proofs.YtpdnmhnnngcbjaaDoor
