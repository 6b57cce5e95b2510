
/- The contract of slices.MinFunc over ways, and of the program's shortest. -/
import Derived.Test.YtpdnmhnnngcbjaaDoorTabShort
namespace Go.Proofs.YtpdnmhnnngcbjaaDoor
open Go.RowKit

theorem cost_has {w : World} {x : Wy} {es : List En} (h : Lies w x es) {f : Nat → Nat} (hf : ∀ s, f s ≤ 4294967295) : costV x es f < 9223372036854775807 ↔ HasAll es f := by
  unfold costV HasAll
  have h1 := h.log
  have h2 := h.tn
  rw [cvT_lt h.small (by rw [h.len]; exact h.n2) hf 53 0 _ (by omega) (by omega)]
  constructor
  · intro q s h3 h4
    exact q s (Nat.zero_le _) (by omega) h4
  · intro q y _ h3 h4
    exact q y (by omega) h4

/-- A way's cells, with its entries beside. -/
def wyc (p : Wy × List En) : List Value := [.int .i64 p.1.log, .slice p.1.e p.1.n p.1.c, .int .i64 p.1.mode, .slice p.1.t p.1.tn p.1.tc]
theorem wyc_len : ∀ x, (wyc x).length = 4 := fun _ => rfl
theorem wyc_one : ∀ x, ∀ v ∈ wyc x, v.oneCell' = true := fun x v hv => by
  simp only [wyc, List.mem_cons, List.not_mem_nil, or_false] at hv
  rcases hv with rfl | rfl | rfl | rfl <;> rfl
def wd : Wy × List En := (⟨0, none, 0, 0, 0, none, 0, 0⟩, [])
/-- The way at a place. -/
def wayAt (xs : List (Wy × List En)) (k : Nat) : Wy × List En := xs.getD k wd
theorem wayAt_of (xs : List (Wy × List En)) (k : Nat) (h : k < xs.length) : wayAt xs k = xs[k] := getD_of xs k wd h
theorem DatR.way {w : World} {lo hi : Nat} {A : Option Addr} {xs : List (Wy × List En)} (h : DatR 4 wyc w lo hi A xs) (hx : 0 < xs.length) :
    ∃ d o, A = some ⟨d, o, none⟩ ∧ lo ≤ d ∧ d < hi ∧ ∀ j, j < xs.length → w.cell? ⟨d, o + j * 4, none⟩ = some (.int .i64 (wayAt xs j).1.log) ∧ w.cell? ⟨d, o + j * 4 + 1, none⟩ = some (.slice (wayAt xs j).1.e (wayAt xs j).1.n (wayAt xs j).1.c) ∧
      w.cell? ⟨d, o + j * 4 + 2, none⟩ = some (.int .i64 (wayAt xs j).1.mode) ∧ w.cell? ⟨d, o + j * 4 + 3, none⟩ = some (.slice (wayAt xs j).1.t (wayAt xs j).1.tn (wayAt xs j).1.tc) := by
  obtain ⟨d, o, hA, h1, h2, hc⟩ := h hx
  refine ⟨d, o, hA, h1, h2, fun j hj => ?_⟩
  rw [wayAt_of xs j hj]
  exact ⟨hc j hj 0 _ rfl, hc j hj 1 _ rfl, hc j hj 2 _ rfl, hc j hj 3 _ rfl⟩
/-- All ways of a list lie in the world. -/
def AllLie (w : World) (xs : List (Wy × List En)) : Prop := ∀ p ∈ xs, Lies w p.1 p.2
theorem AllLie.below {w w' : World} {xs : List (Wy × List En)} (h : AllLie w xs) (hB : Below w.heap.size w w') : AllLie w' xs := fun p hp => (h p hp).below hB
theorem AllLie.at {w : World} {xs : List (Wy × List En)} (h : AllLie w xs) (j : Nat) (hj : j < xs.length) : Lies w (wayAt xs j).1 (wayAt xs j).2 := by
  rw [wayAt_of xs j hj]
  exact h _ (List.getElem_mem hj)
theorem Box.put4 {w : World} {g : Nat} {t : TypeId} {a0 a1 a2 a3 : Value} (h : Box w g t #[a0, a1, a2, a3]) (b0 b1 b2 b3 : Value) :
    Box ((((w.setCell ⟨g, 0, none⟩ b0).setCell ⟨g, 1, none⟩ b1).setCell ⟨g, 2, none⟩ b2).setCell ⟨g, 3, none⟩ b3) g t #[b0, b1, b2, b3] := (((h.put 0 b0).put 1 b1).put 2 b2).put 3 b3

set_option maxRecDepth 100000 in
set_option maxHeartbeats 4000000 in
theorem minFunc_any {w : World} {lo hi n c g : Nat} {A : Option Addr} {xs : List (Wy × List En)} (f : Nat → Nat) (hd : DatR 4 wyc w lo hi A xs) (hhi : hi ≤ w.heap.size) (hn : xs.length = n) (h0 : 0 < n) (hm : n ≤ 1000) (hall : AllLie w xs) (hf : ∀ s, f s ≤ 4294967295) (hg : Box w g 51 (a53 .u32 f)) :
    Calls Tryd.prog 35 #[.slice A n c, .func (.func 36) #[] #[.pointer (some ⟨g, 0, none⟩)]] w fun e w' =>
      ∃ k, k < n ∧ e = .returned (.agg #[.int .i64 (wayAt xs k).1.log, .slice (wayAt xs k).1.e (wayAt xs k).1.n (wayAt xs k).1.c, .int .i64 (wayAt xs k).1.mode, .slice (wayAt xs k).1.t (wayAt xs k).1.tn (wayAt xs k).1.tc]) ∧
        (∀ i, i < n → HasAll (wayAt xs i).2 f → HasAll (wayAt xs k).2 f) ∧ Below w.heap.size w w' := by
  have mixed : Tryd.prog.follows .mixedOrders = true := by kernel_rfl
  have HD := Lib.hid hd
  have HN := Lib.hid hn
  have HAl := Lib.hid hall
  have HF := Lib.hid hf
  have HG := Lib.hid hg
  have hnz : ¬ (n : Int) < 1 := by omega
  have hnp : (0 : Int) < (n : Int) := by omega
  have HB1 : Hid (Below w.heap.size w (w.alloc (.cells #[.int .i64 0, .slice none 0 0, .int .i64 0, .slice none 0 0] 54))) := (Below.refl _ _).alloc (Nat.le_refl _) _
  obtain ⟨d, o, rfl, _, hdhi, hc⟩ := (hd.below HB1.out hhi).way (by omega)
  obtain ⟨c0, c1, c2, c3⟩ := hc 0 (by omega)
  rw [Nat.zero_mul, Nat.add_zero] at c0 c1 c2 c3
  clear hd hn hall hf hg hc
  go_enter Tryd.func35, Tryd.ntmps35
  go_wp2_with fail
  have hb0 := (Box.new w 54 #[.int .i64 0, .slice none 0 0, .int .i64 0, .slice none 0 0]).alloc (.cells #[.int .i64 (wayAt xs 0).1.log, .slice (wayAt xs 0).1.e (wayAt xs 0).1.n (wayAt xs 0).1.c, .int .i64 (wayAt xs 0).1.mode, .slice (wayAt xs 0).1.t (wayAt xs 0).1.tn (wayAt xs 0).1.tc] 54)
  have hb1 := Box.new (w.alloc (.cells #[.int .i64 0, .slice none 0 0, .int .i64 0, .slice none 0 0] 54)) 54 #[.int .i64 (wayAt xs 0).1.log, .slice (wayAt xs 0).1.e (wayAt xs 0).1.n (wayAt xs 0).1.c, .int .i64 (wayAt xs 0).1.mode, .slice (wayAt xs 0).1.t (wayAt xs 0).1.tn (wayAt xs 0).1.tc]
  rw [World.size_alloc] at hb1
  have H0 := Lib.hid hb0
  have H1 := Lib.hid hb1
  have HB2 : Hid (Below w.heap.size w ((w.alloc (.cells #[.int .i64 0, .slice none 0 0, .int .i64 0, .slice none 0 0] 54)).alloc (.cells #[.int .i64 (wayAt xs 0).1.log, .slice (wayAt xs 0).1.e (wayAt xs 0).1.n (wayAt xs 0).1.c, .int .i64 (wayAt xs 0).1.mode, .slice (wayAt xs 0).1.t (wayAt xs 0).1.tn (wayAt xs 0).1.tc] 54))) := HB1.out.alloc (by simp) _
  clear hb0 hb1 c0 c1 c2 c3
  generalize ((w.alloc (.cells #[.int .i64 0, .slice none 0 0, .int .i64 0, .slice none 0 0] 54)).alloc (.cells #[.int .i64 (wayAt xs 0).1.log, .slice (wayAt xs 0).1.e (wayAt xs 0).1.n (wayAt xs 0).1.c, .int .i64 (wayAt xs 0).1.mode, .slice (wayAt xs 0).1.t (wayAt xs 0).1.tn (wayAt xs 0).1.tc] 54)) = W at *
  go_loopg [6] (n - 1) (fun gh v wx => ∃ i k : Nat, i + gh = n ∧ 1 ≤ i ∧ v = .int .i64 (i : Int) ∧ k < i ∧ Box wx w.heap.size 54 #[.int .i64 0, .slice none 0 0, .int .i64 0, .slice none 0 0] ∧
    Box wx (w.heap.size + 1) 54 #[.int .i64 (wayAt xs k).1.log, .slice (wayAt xs k).1.e (wayAt xs k).1.n (wayAt xs k).1.c, .int .i64 (wayAt xs k).1.mode, .slice (wayAt xs k).1.t (wayAt xs k).1.tn (wayAt xs k).1.tc] ∧ (∀ j, j < i → HasAll (wayAt xs j).2 f → HasAll (wayAt xs k).2 f) ∧ Below w.heap.size w wx)
  case atStart =>
    refine ⟨1, 0, by omega, Nat.le_refl _, rfl, by omega, H0.out, H1.out, fun j hj h => ?_, HB2.out⟩
    obtain rfl : j = 0 := by omega
    exact h
  case round =>
    clear H0 H1 HB1 HB2
    obtain ⟨i, k, hi, hi1, rfl, hki, hb0, hb1, hbest, hB⟩ := hrel
    have H0 := Lib.hid hb0
    have H1 := Lib.hid hb1
    have HBest := Lib.hid hbest
    have HB := Lib.hid hB
    have HI := Lib.hid hi
    have hin : i ≤ n := by omega
    have hs1 := hb1.lt
    clear hb0 hb1 hbest hB hi
    by_cases hlt : i < n
    · obtain ⟨g', rfl⟩ : ∃ g', gk = g' + 1 := ⟨gk - 1, by have := HI.out; omega⟩
      have hkz : (i : Int) < (n : Int) := by omega
      have hi0 : (0 : Int) ≤ (i : Int) := by omega
      obtain ⟨d', o', hdo, _, _, hc⟩ := (HD.out.below HB.out hhi).way (by have := HN.out; omega)
      obtain ⟨rfl, rfl⟩ : d = d' ∧ o = o' := by
        injection hdo with h
        injection h with h1 h2
        exact ⟨h1, h2⟩
      have hci := hc i (by have := HN.out; omega)
      have hdw : d < wr.heap.size := by have := HB.out.size; omega
      have hLi := (HAl.out.below HB.out).at i (by have := HN.out; omega)
      have hLk := (HAl.out.below HB.out).at k (by have := HN.out; omega)
      have HVi := Lib.hid (cost_has hLi HF.out)
      have HVk := Lib.hid (cost_has hLk HF.out)
      obtain ⟨Vi, hVi⟩ : ∃ V, V = costV (wayAt xs i).1 (wayAt xs i).2 f := ⟨_, rfl⟩
      obtain ⟨Vk, hVk⟩ : ∃ V, V = costV (wayAt xs k).1 (wayAt xs k).2 f := ⟨_, rfl⟩
      have HCp : Hid (∀ p : QuB wr, Calls Tryd.prog 36 #[.agg #[.int .i64 (wayAt xs i).1.log, .slice (wayAt xs i).1.e (wayAt xs i).1.n (wayAt xs i).1.c, .int .i64 (wayAt xs i).1.mode, .slice (wayAt xs i).1.t (wayAt xs i).1.tn (wayAt xs i).1.tc], .agg #[.int .i64 (wayAt xs k).1.log, .slice (wayAt xs k).1.e (wayAt xs k).1.n (wayAt xs k).1.c, .int .i64 (wayAt xs k).1.mode, .slice (wayAt xs k).1.t (wayAt xs k).1.tn (wayAt xs k).1.tc], .pointer (some ⟨g, 0, none⟩)] p.w fun e w'' => e = .returned (.int .i64 (cmpZ Vi Vk)) ∧ ∃ q : QuB wr, w'' = q.w) := fun p => by
        rw [hVi, hVk]
        exact calls_bw p (shortest1_any (g := g) (wayAt xs i).1 (wayAt xs k).1 f (hLi.below p.below) (hLk.below p.below) HF.out ((HG.out.below HB.out HG.out.lt).below p.below (Nat.lt_of_lt_of_le HG.out.lt HB.out.size)))
      rw [← hVi] at HVi
      rw [← hVk] at HVk
      have hx4 : ∀ p : QuB wr, p.w.cell? ⟨d, o + i * 4, none⟩ = some (.int .i64 (wayAt xs i).1.log) ∧ p.w.cell? ⟨d, o + i * 4 + 1, none⟩ = some (.slice (wayAt xs i).1.e (wayAt xs i).1.n (wayAt xs i).1.c) ∧ p.w.cell? ⟨d, o + i * 4 + 2, none⟩ = some (.int .i64 (wayAt xs i).1.mode) ∧ p.w.cell? ⟨d, o + i * 4 + 3, none⟩ = some (.slice (wayAt xs i).1.t (wayAt xs i).1.tn (wayAt xs i).1.tc) :=
        fun p => ⟨(p.below.cell (p := ⟨d, o + i * 4, none⟩) hdw).trans hci.1, (p.below.cell (p := ⟨d, o + i * 4 + 1, none⟩) hdw).trans hci.2.1, (p.below.cell (p := ⟨d, o + i * 4 + 2, none⟩) hdw).trans hci.2.2.1, (p.below.cell (p := ⟨d, o + i * 4 + 3, none⟩) hdw).trans hci.2.2.2⟩
      have HX4 := Lib.hid hx4
      have hy4 : ∀ p : QuB wr, p.w.cell? ⟨w.heap.size + 1, 0, none⟩ = some (.int .i64 (wayAt xs k).1.log) ∧ p.w.cell? ⟨w.heap.size + 1, 1, none⟩ = some (.slice (wayAt xs k).1.e (wayAt xs k).1.n (wayAt xs k).1.c) ∧ p.w.cell? ⟨w.heap.size + 1, 2, none⟩ = some (.int .i64 (wayAt xs k).1.mode) ∧ p.w.cell? ⟨w.heap.size + 1, 3, none⟩ = some (.slice (wayAt xs k).1.t (wayAt xs k).1.tn (wayAt xs k).1.tc) := fun p => (H1.out.below p.below hs1).four
      have HR := Lib.hid (cmpZ_lt Vi Vk)
      generalize cmpZ Vi Vk = R at *
      clear hc hci hdo hLi hLk hVi hVk
      go_upto_region 7 with (fail)
      refine wp_region_quiet_bw mixed (by kernel_rfl) ?_
      quiet_step (fail)
      quiet_step (fail)
      quiet_step (fail)
      quiet_step (fail)
      quiet_step (fail)
      quiet_step (fail)
      quiet_step ((go_at_call 36; exact HCp.out _))
      quiet_step (fail)
      refine wpQuiet_nil ?_
      intro _ hw'
      obtain ⟨p, rfl⟩ := hw'
      have q4 := HX4.out p
      clear hx4 hy4
      by_cases hR : R < 0
      · have f1 := (H1.out.below p.below hs1).free
        have hf0 := f1 0
        have hf1 := f1 1
        have hf2 := f1 2
        have hf3 := f1 3
        have y4 := (H1.out.below p.below hs1).four
        clear f1
        go_wp2_with fail
        go_roundg g'
        case rel =>
          refine ⟨i + 1, i, by have := HI.out; omega, by omega, by go_num, by omega, ?_, (H1.out.below p.below hs1).put4 _ _ _ _, ?_, ?_⟩
          · have h := H0.out.below p.below (by omega)
            exact (((h.far (by show w.heap.size ≠ w.heap.size + 1; omega) _).far (by show w.heap.size ≠ w.heap.size + 1; omega) _).far (by show w.heap.size ≠ w.heap.size + 1; omega) _).far (by show w.heap.size ≠ w.heap.size + 1; omega) _
          · intro j hj h
            rcases Nat.lt_or_ge j i with h2 | h2
            · have h3 := HVk.out.2 (HBest.out j h2 h)
              exact HVi.out.1 (Int.lt_trans (HR.out.1 hR) h3)
            · obtain rfl : j = i := by omega
              exact h
          · have h := HB.out.trans (p.below.mono HB.out.size)
            exact (((h.setCell (by show w.heap.size ≤ w.heap.size + 1; omega) _).setCell (by show w.heap.size ≤ w.heap.size + 1; omega) _).setCell (by show w.heap.size ≤ w.heap.size + 1; omega) _).setCell (by show w.heap.size ≤ w.heap.size + 1; omega) _
        case measure => omega
      · have hRf : decide (R < 0) = false := decide_eq_false hR
        go_wp2_with fail
        go_roundg g'
        case rel =>
          refine ⟨i + 1, k, by have := HI.out; omega, by omega, by go_num, by omega, H0.out.below p.below (by omega), H1.out.below p.below hs1, ?_, HB.out.trans (p.below.mono HB.out.size)⟩
          intro j hj h
          rcases Nat.lt_or_ge j i with h2 | h2
          · exact HBest.out j h2 h
          · obtain rfl : j = i := by omega
            have h3 := HVi.out.2 h
            have h4 : ¬ Vi < Vk := fun q => by have := HR.out.2 q; omega
            exact HVk.out.1 (by omega)
        case measure => omega
    · obtain rfl : i = n := by omega
      have hkz : ¬ (i : Int) < (i : Int) := by omega
      have y4 := H1.out.four
      have f1 := H0.out.free
      have hf0 := f1 0
      have hf1 := f1 1
      have hf2 := f1 2
      have hf3 := f1 3
      have z4 := H0.out.four
      clear f1
      go_wp2_with fail
      obtain ⟨r0, r1, r2, r3⟩ := (H0.out.put4 (.int .i64 (wayAt xs k).1.log) (.slice (wayAt xs k).1.e (wayAt xs k).1.n (wayAt xs k).1.c) (.int .i64 (wayAt xs k).1.mode) (.slice (wayAt xs k).1.t (wayAt xs k).1.tn (wayAt xs k).1.tc)).four
      refine bodyPost_ret (v := .agg #[.int .i64 (wayAt xs k).1.log, .slice (wayAt xs k).1.e (wayAt xs k).1.n (wayAt xs k).1.c, .int .i64 (wayAt xs k).1.mode, .slice (wayAt xs k).1.t (wayAt xs k).1.tn (wayAt xs k).1.tc]) (by simp [results, Tryd.results35, go_sem, r0, r1, r2, r3]) rfl ⟨k, hki, rfl, HBest.out, ?_⟩
      exact (((HB.out.setCell (Nat.le_refl _) _).setCell (Nat.le_refl _) _).setCell (Nat.le_refl _) _).setCell (Nat.le_refl _) _

set_option maxRecDepth 100000 in
set_option maxHeartbeats 2000000 in
theorem shortest_any {w : World} {n c hi lo : Nat} {A : Option Addr} {xs : List (Wy × List En)} (f : Nat → Nat) (hd : DatR 4 wyc w lo hi A xs) (hhi : hi ≤ w.heap.size) (hn : xs.length = n) (h0 : 0 < n) (hm : n ≤ 1000) (hall : AllLie w xs) (hf : ∀ s, f s ≤ 4294967295) :
    Calls Tryd.prog 19 #[.slice A n c, .agg (a53 .u32 f)] w fun e w' =>
      ∃ k, k < n ∧ e = .returned (.agg #[.int .i64 (wayAt xs k).1.log, .slice (wayAt xs k).1.e (wayAt xs k).1.n (wayAt xs k).1.c, .int .i64 (wayAt xs k).1.mode, .slice (wayAt xs k).1.t (wayAt xs k).1.tn (wayAt xs k).1.tc]) ∧
        (∀ i, i < n → HasAll (wayAt xs i).2 f → HasAll (wayAt xs k).2 f) ∧ Below w.heap.size w w' := by
  have hmf : ∀ (fn : Fn) (first cap : Array Value) (w : World), (Instr.makeFunc fn first cap).run Tryd.prog w = .ok (.func fn first cap) w := fun _ _ _ _ => rfl
  have hb0 := (Box.new w 51 (a53 .u32 f)).alloc (.cells #[.int .i64 0, .slice none 0 0, .int .i64 0, .slice none 0 0] 54)
  have hb1 := Box.new (w.alloc (.cells (a53 .u32 f) 51)) 54 #[.int .i64 0, .slice none 0 0, .int .i64 0, .slice none 0 0]
  rw [World.size_alloc] at hb1
  have hB : Below w.heap.size w ((w.alloc (.cells (a53 .u32 f) 51)).alloc (.cells #[.int .i64 0, .slice none 0 0, .int .i64 0, .slice none 0 0] 54)) := ((Below.refl _ _).alloc (Nat.le_refl _) _).alloc (by simp) _
  have HM := Lib.hid (minFunc_any (c := c) f (hd.below hB hhi) (Nat.le_trans hhi hB.size) hn h0 hm (hall.below hB) hf hb0)
  have H1 := Lib.hid hb1
  have HB := Lib.hid hB
  have hs : ((w.alloc (.cells (a53 .u32 f) 51)).alloc (.cells #[.int .i64 0, .slice none 0 0, .int .i64 0, .slice none 0 0] 54)).heap.size = w.heap.size + 2 := by simp
  have HS := Lib.hid hs
  clear hb0 hb1 hB hd hn hall hf hs
  go_enter Tryd.func19, Tryd.ntmps19
  go_wp2_with (first
    | (refine Go.Great.wpList_boxTo rfl 51 _ rfl _ rfl w.heap.size rfl (a53 .u32 f) (a53_cells _ _) ?_)
    | (go_at_call 35; refine HM.out.mono ?_; rintro e' w1 ⟨k, hk, rfl, hbest, hB1⟩; have HK := Lib.hid (And.intro hk hbest); have HB1 := Lib.hid (HB.out.trans (hB1.mono HB.out.size)); have hb1 := H1.out.below hB1 (by have := HS.out; omega); obtain ⟨z0, z1, z2, z3⟩ := hb1.four; have f0 := hb1.free 0; have f1 := hb1.free 1; have f2 := hb1.free 2; have f3 := hb1.free 3; have H1' := Lib.hid hb1; clear hk hbest hB1 hb1))
  obtain ⟨r0, r1, r2, r3⟩ := (H1'.out.put4 (.int .i64 (wayAt xs k).1.log) (.slice (wayAt xs k).1.e (wayAt xs k).1.n (wayAt xs k).1.c) (.int .i64 (wayAt xs k).1.mode) (.slice (wayAt xs k).1.t (wayAt xs k).1.tn (wayAt xs k).1.tc)).four
  refine bodyPost_ret (v := .agg #[.int .i64 (wayAt xs k).1.log, .slice (wayAt xs k).1.e (wayAt xs k).1.n (wayAt xs k).1.c, .int .i64 (wayAt xs k).1.mode, .slice (wayAt xs k).1.t (wayAt xs k).1.tn (wayAt xs k).1.tc]) (by simp [results, Tryd.results19, go_sem, r0, r1, r2, r3]) rfl ⟨k, HK.out.1, rfl, HK.out.2, ?_⟩
  exact (((HB1.out.setCell (by show w.heap.size ≤ w.heap.size + 1; omega) _).setCell (by show w.heap.size ≤ w.heap.size + 1; omega) _).setCell (by show w.heap.size ≤ w.heap.size + 1; omega) _).setCell (by show w.heap.size ≤ w.heap.size + 1; omega) _
end Go.Proofs.YtpdnmhnnngcbjaaDoor
