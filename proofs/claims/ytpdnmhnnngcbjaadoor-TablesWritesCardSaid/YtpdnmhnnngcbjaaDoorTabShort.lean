
/- The contracts of the program's shortest: its closure, slices.MinFunc of ways. -/
import Derived.Test.YtpdnmhnnngcbjaaDoorTabCost
import Derived.Deep.QuietTactic
namespace Go.Proofs.YtpdnmhnnngcbjaaDoor
open Go.RowKit

theorem isNaNI_any (x : Int) (w : World) : Calls Tryd.prog 55 #[.int .i64 x] w fun e w' => e = .returned (.bool false) ∧ w' = w := by
  go_enter Tryd.func55, Tryd.ntmps55
  go_wp2_with fail
  go_ret
  exact ⟨rfl, rfl⟩
/-- What a comparison of two ints answers. -/
def cmpZ (x y : Int) : Int := if x < y then -1 else if y < x then 1 else 0
theorem cmpZ_lt (x y : Int) : cmpZ x y < 0 ↔ x < y := by
  unfold cmpZ
  split
  · exact ⟨fun _ => by assumption, fun _ => by decide⟩
  · split
    · exact ⟨fun h => by simp at h, fun h => absurd h (by assumption)⟩
    · exact ⟨fun h => by simp at h, fun h => absurd h (by assumption)⟩
theorem compareI_any (x y : Int) (w : World) : Calls Tryd.prog 37 #[.int .i64 x, .int .i64 y] w fun e w' => e = .returned (.int .i64 (cmpZ x y)) ∧ w' = w := by
  unfold cmpZ
  by_cases h : x < y
  · rw [if_pos h]
    go_enter Tryd.func37, Tryd.ntmps37
    go_wp2_with (go_at_call 55; refine (isNaNI_any _ _).mono ?_; rintro e w' ⟨rfl, rfl⟩)
    go_ret
    exact ⟨rfl, rfl⟩
  · rw [if_neg h]
    by_cases h' : y < x
    · rw [if_pos h']
      go_enter Tryd.func37, Tryd.ntmps37
      go_wp2_with (go_at_call 55; refine (isNaNI_any _ _).mono ?_; rintro e w' ⟨rfl, rfl⟩)
      go_ret
      exact ⟨rfl, rfl⟩
    · rw [if_neg h']
      go_enter Tryd.func37, Tryd.ntmps37
      go_wp2_with (go_at_call 55; refine (isNaNI_any _ _).mono ?_; rintro e w' ⟨rfl, rfl⟩)
      go_ret
      exact ⟨rfl, rfl⟩

/-- A way whose table lies in the world: its entries es. -/
structure Lies (w : World) (x : Wy) (es : List En) : Prop where
  ent : DatR 3 ecell w 0 w.heap.size x.e es
  len : es.length = x.n
  n2 : x.n ≤ 65536
  small : Small es
  log : 0 ≤ x.log ∧ x.log ≤ 15
  tn : x.tn ≤ 1000000
theorem Lies.below {w w' : World} {x : Wy} {es : List En} (h : Lies w x es) (hB : Below w.heap.size w w') : Lies w' x es :=
  ⟨(h.ent.below hB (Nat.le_refl _)).mono (Nat.le_refl _) hB.size, h.len, h.n2, h.small, h.log, h.tn⟩
theorem Lies.cost {w : World} {x : Wy} {es : List En} (h : Lies w x es) (f : Nat → Nat) (hf : ∀ s, f s ≤ 4294967295) :
    Calls Tryd.prog 38 #[.agg #[.int .i64 x.log, .slice x.e x.n x.c, .int .i64 x.mode, .slice x.t x.tn x.tc], .agg (a53 .u32 f)] w fun e w' => e = .returned (.int .i64 (costV x es f)) ∧ Below w.heap.size w w' :=
  cost_any x f h.ent (Nat.le_refl _) h.len h.n2 h.small hf h.log h.tn

/-- A world in which what stood in W stands as it was. -/
structure QuB (W : World) where
  w : World
  below : Below W.heap.size W w
instance (W : World) : Inhabited (QuB W) := ⟨⟨W, Below.refl _ _⟩⟩
theorem wp_region_quiet_bw {P : Program} {id : Nat} {Q : Exit → Act → World → Prop} {a : Act} {w : World} {l : List Oper} (hm : P.follows .mixedOrders = true) (hB : Region.lexB .any l.toArray = true)
    (h : wpQuiet P l.toArray (fun w' => ∃ p : QuB w, w' = p.w) (fun a' => ∀ w', (∃ p : QuB w, w' = p.w) → Q .normal a' w') l a) : (Code.region id l.toArray true).wp P Q a w :=
  wp_region_quiet (C := fun w' => ∃ p : QuB w, w' = p.w) hm hB ⟨⟨w.drew, (Below.refl _ _).drew⟩, rfl⟩ (by simpa using h)
theorem calls_bw {P : Program} {f : FuncId} {args : Array Value} {W : World} {v : Value} (p : QuB W)
    (h : Calls P f args p.w fun e w' => e = .returned v ∧ Below p.w.heap.size p.w w') : Calls P f args p.w fun e w'' => e = .returned v ∧ ∃ q : QuB W, w'' = q.w :=
  h.mono fun _ w' ⟨he, hb⟩ => ⟨he, ⟨w', p.below.trans (hb.mono p.below.size)⟩, rfl⟩

/-- A load of a whole row, in such a region. -/
theorem wpQuiet_load_row {P : Program} {ops : Array Oper} {C : World → Prop} {Q : Act → Prop} {a : Act} {o : Oper} {rest : List Oper} (hgd : o.guard = none) (ty : TypeId) (x : Operand) (ho : o.op = .load ty x)
    (g : Nat) (hx : a.eval x = .pointer (some ⟨g, 0, none⟩)) (cs : Array Value) (hr : ∀ w, C w → (loadVar ty ⟨g, 0, none⟩).run P w = .ok (.agg cs) w) (h : wpQuiet P ops C Q rest (a.put o.dst (.agg cs))) : wpQuiet P ops C Q (o :: rest) a := by
  have hw : Region.wanted o (yielded ops a.tmps) = true := by simp [Region.wanted, hgd]
  unfold wpQuiet
  rw [if_pos hw]
  refine ⟨.agg cs, fun w hC => ?_, h⟩
  unfold Oper.quietAt execOp
  simp only [ho, hx, Instr.loadAt, Instr.sureAddr, Sem.run_bind, Sem.run_pure, Result.andThen_ok, hr w hC]
  exact ⟨rfl, rfl⟩

theorem Box.four {w : World} {g : Nat} {t : TypeId} {a0 a1 a2 a3 : Value} (h : Box w g t #[a0, a1, a2, a3]) :
    w.cell? ⟨g, 0, none⟩ = some a0 ∧ w.cell? ⟨g, 1, none⟩ = some a1 ∧ w.cell? ⟨g, 2, none⟩ = some a2 ∧ w.cell? ⟨g, 3, none⟩ = some a3 :=
  ⟨h.cell 0, h.cell 1, h.cell 2, h.cell 3⟩

set_option maxRecDepth 100000 in
set_option maxHeartbeats 2000000 in
theorem shortest1_any {w : World} {g : Nat} {ex ey : List En} (x y : Wy) (f : Nat → Nat) (hx : Lies w x ex) (hy : Lies w y ey) (hf : ∀ s, f s ≤ 4294967295) (hg : Box w g 51 (a53 .u32 f)) :
    Calls Tryd.prog 36 #[.agg #[.int .i64 x.log, .slice x.e x.n x.c, .int .i64 x.mode, .slice x.t x.tn x.tc], .agg #[.int .i64 y.log, .slice y.e y.n y.c, .int .i64 y.mode, .slice y.t y.tn y.tc], .pointer (some ⟨g, 0, none⟩)] w fun e w' => e = .returned (.int .i64 (cmpZ (costV x ex f) (costV y ey f))) ∧ Below w.heap.size w w' := by
  have mixed : Tryd.prog.follows .mixedOrders = true := by kernel_rfl
  have HX := Lib.hid hx
  have HY := Lib.hid hy
  have HF := Lib.hid hf
  obtain ⟨V1, hV1⟩ : ∃ V, V = costV x ex f := ⟨_, rfl⟩
  obtain ⟨V2, hV2⟩ : ∃ V, V = costV y ey f := ⟨_, rfl⟩
  have HC1 : Hid (∀ V, Below w.heap.size w V → Calls Tryd.prog 38 #[.agg #[.int .i64 x.log, .slice x.e x.n x.c, .int .i64 x.mode, .slice x.t x.tn x.tc], .agg (a53 .u32 f)] V fun e w' => e = .returned (.int .i64 V1) ∧ Below V.heap.size V w') := fun V hV => by rw [hV1]; exact (hx.below hV).cost f hf
  have HC2 : Hid (∀ V, Below w.heap.size w V → Calls Tryd.prog 38 #[.agg #[.int .i64 y.log, .slice y.e y.n y.c, .int .i64 y.mode, .slice y.t y.tn y.tc], .agg (a53 .u32 f)] V fun e w' => e = .returned (.int .i64 V2) ∧ Below V.heap.size V w') := fun V hV => by rw [hV2]; exact (hy.below hV).cost f hf
  rw [← hV1, ← hV2]
  obtain ⟨L1, E1, n1, c1, m1, T1, tn1, tc1⟩ := x
  obtain ⟨L2, E2, n2, c2, m2, T2, tn2, tc2⟩ := y
  simp only at HC1 HC2 ⊢
  have hb0 := (Box.new w 54 #[.int .i64 L1, .slice E1 n1 c1, .int .i64 m1, .slice T1 tn1 tc1]).alloc (.cells #[.int .i64 L2, .slice E2 n2 c2, .int .i64 m2, .slice T2 tn2 tc2] 54)
  have hb1 := Box.new (w.alloc (.cells #[.int .i64 L1, .slice E1 n1 c1, .int .i64 m1, .slice T1 tn1 tc1] 54)) 54 #[.int .i64 L2, .slice E2 n2 c2, .int .i64 m2, .slice T2 tn2 tc2]
  rw [World.size_alloc] at hb1
  have hB2 : Below w.heap.size w ((w.alloc (.cells #[.int .i64 L1, .slice E1 n1 c1, .int .i64 m1, .slice T1 tn1 tc1] 54)).alloc (.cells #[.int .i64 L2, .slice E2 n2 c2, .int .i64 m2, .slice T2 tn2 tc2] 54)) := ((Below.refl _ _).alloc (Nat.le_refl _) _).alloc (by simp) _
  have H0 := Lib.hid hb0
  have H1 := Lib.hid hb1
  have HB2 := Lib.hid hB2
  have HG2 := Lib.hid (hg.below hB2 hg.lt)
  have hs2 : ((w.alloc (.cells #[.int .i64 L1, .slice E1 n1 c1, .int .i64 m1, .slice T1 tn1 tc1] 54)).alloc (.cells #[.int .i64 L2, .slice E2 n2 c2, .int .i64 m2, .slice T2 tn2 tc2] 54)).heap.size = w.heap.size + 2 := by simp
  have HS2 := Lib.hid hs2
  clear hx hy hf hg hb0 hb1 hB2 hs2 hV1 hV2
  go_enter Tryd.func36, Tryd.ntmps36
  go_wp2_with fail
  generalize (w.alloc (.cells #[.int .i64 L1, .slice E1 n1 c1, .int .i64 m1, .slice T1 tn1 tc1] 54)).alloc (.cells #[.int .i64 L2, .slice E2 n2 c2, .int .i64 m2, .slice T2 tn2 tc2] 54) = W at *
  have hg0 : w.heap.size < W.heap.size := by have := HS2.out; omega
  have hg1 : w.heap.size + 1 < W.heap.size := by have := HS2.out; omega
  have hx4 : ∀ p : QuB W, p.w.cell? ⟨w.heap.size, 0, none⟩ = some (.int .i64 L1) ∧ p.w.cell? ⟨w.heap.size, 1, none⟩ = some (.slice E1 n1 c1) ∧ p.w.cell? ⟨w.heap.size, 2, none⟩ = some (.int .i64 m1) ∧ p.w.cell? ⟨w.heap.size, 3, none⟩ = some (.slice T1 tn1 tc1) := fun p => (H0.out.below p.below hg0).four
  have hy4 : ∀ p : QuB W, p.w.cell? ⟨w.heap.size + 1, 0, none⟩ = some (.int .i64 L2) ∧ p.w.cell? ⟨w.heap.size + 1, 1, none⟩ = some (.slice E2 n2 c2) ∧ p.w.cell? ⟨w.heap.size + 1, 2, none⟩ = some (.int .i64 m2) ∧ p.w.cell? ⟨w.heap.size + 1, 3, none⟩ = some (.slice T2 tn2 tc2) := fun p => (H1.out.below p.below hg1).four
  have hl2 : ∀ V, (∃ p : QuB W, V = p.w) → (loadVar 51 ⟨g, 0, none⟩).run Tryd.prog V = .ok (.agg (a53 .u32 f)) V := fun V ⟨p, hp⟩ => hp ▸ run_loadVar_row (P := Tryd.prog) p.w g 51 51 (a53 .u32 f) (0, 0) _ (HG2.out.below p.below HG2.out.lt) Tryd.underlying51 rfl (by rw [a53_size]; kernel_rfl)
  have hc1 : ∀ p : QuB W, Calls Tryd.prog 38 #[.agg #[.int .i64 L1, .slice E1 n1 c1, .int .i64 m1, .slice T1 tn1 tc1], .agg (a53 .u32 f)] p.w fun e w'' => e = .returned (.int .i64 V1) ∧ ∃ q : QuB W, w'' = q.w := fun p => calls_bw p (HC1.out p.w (HB2.out.trans (p.below.mono (Nat.le_of_lt hg0))))
  have hc2 : ∀ p : QuB W, Calls Tryd.prog 38 #[.agg #[.int .i64 L2, .slice E2 n2 c2, .int .i64 m2, .slice T2 tn2 tc2], .agg (a53 .u32 f)] p.w fun e w'' => e = .returned (.int .i64 V2) ∧ ∃ q : QuB W, w'' = q.w := fun p => calls_bw p (HC2.out p.w (HB2.out.trans (p.below.mono (Nat.le_of_lt hg0))))
  have hcc : ∀ p : QuB W, Calls Tryd.prog 37 #[.int .i64 V1, .int .i64 V2] p.w fun e w'' => e = .returned (.int .i64 (cmpZ V1 V2)) ∧ ∃ q : QuB W, w'' = q.w := fun p => (compareI_any V1 V2 p.w).mono fun _ _ ⟨he, hw⟩ => ⟨he, p, hw⟩
  have HC := Lib.hid (And.intro hc1 (And.intro hc2 hcc))
  have HL2 := Lib.hid hl2
  clear hc1 hc2 hcc HC1 HC2 hl2
  refine wp_region_quiet_bw mixed (by kernel_rfl) ?_
  quiet_step (fail)
  refine wpQuiet_load_row rfl 51 _ rfl g rfl (a53 .u32 f) HL2.out ?_
  quiet_step ((go_at_call 38; exact HC.out.1 _))
  quiet_step (fail)
  refine wpQuiet_load_row rfl 51 _ rfl g rfl (a53 .u32 f) HL2.out ?_
  quiet_step ((go_at_call 38; exact HC.out.2.1 _))
  quiet_step ((go_at_call 37; exact HC.out.2.2 _))
  quiet_step (fail)
  refine wpQuiet_nil ?_
  intro _ hw'
  obtain ⟨p, rfl⟩ := hw'
  clear hx4 hy4
  go_wp2_with fail
  go_ret
  exact ⟨rfl, HB2.out.trans (p.below.mono (Nat.le_of_lt hg0))⟩
end Go.Proofs.YtpdnmhnnngcbjaaDoor
