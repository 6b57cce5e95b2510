
/- Struct values and slice literals out of parts of many cells. Nothing of the program is named here. -/
import Derived.Great.BuildSlice
import Derived.Deep.RegionHeld3
import Derived.Deep.QuietTactic
import Derived.Test.YtieepdhajjibpaaDoorShaRow
namespace Go.Proofs.YtieepdhajjibpaaDoor
open Go.RowKit

theorem fold_set (off : Nat) : ∀ (xs : List Value) (k : Nat) (cs : Array Value), off + k + xs.length ≤ cs.size →
    ((xs.zipIdx k).foldl (fun cs (c, j) => cs.setIfInBounds (off + j) c) cs).toList = cs.toList.take (off + k) ++ xs ++ cs.toList.drop (off + k + xs.length)
  | [], k, cs, _ => by simp
  | x :: xs, k, cs, h => by
    rw [List.length_cons] at h
    rw [List.zipIdx_cons, List.foldl_cons, fold_set off xs (k + 1) _ (by rw [Array.size_setIfInBounds]; omega), Array.toList_setIfInBounds]
    have e : cs.toList.set (off + k) x = cs.toList.take (off + k) ++ x :: cs.toList.drop (off + k + 1) := List.set_eq_take_append_cons_drop .. |>.trans (by rw [if_pos (by simp; omega)])
    rw [e, ← Nat.add_assoc, List.take_append, List.drop_append]
    have hl : (cs.toList.take (off + k)).length = off + k := by simp; omega
    rw [hl, List.take_take, List.drop_take, Nat.min_eq_right (show off + k ≤ off + k + 1 by omega), show off + k + 1 - (off + k) = 1 by omega, show off + k + 1 + xs.length - (off + k) = xs.length + 1 by omega, show off + k - (off + k + 1 + xs.length) = 0 by omega]
    simp [Nat.add_assoc, Nat.add_comm 1]

theorem fill_put (place : Nat → Option (Nat × Nat)) (cells : Array Value) (i : Nat) (v : Value) (rest : List (Nat × Value)) (off size : Nat) (hp : place i = some (off, size)) (hv : v.cells.size = size) (hfit : off + size ≤ cells.size) :
    Instr.fill place cells ((i, v) :: rest) = Instr.fill place (over cells off v.cells.toList) rest := by
  rw [Instr.fill, hp]
  simp only
  rw [if_neg (by simp [hv]; omega)]
  congr 1
  apply Array.ext'
  rw [← Array.foldl_toList, Array.toList_zipIdx, fold_set off v.cells.toList 0 cells (by simp [hv]; omega)]
  simp [over]

/-- One part that is the whole. -/
theorem over_whole (cells : Array Value) (vs : List Value) (h : cells.size = vs.length) : over cells 0 vs = vs.toArray := by
  apply Array.ext'
  simp [over, ← h]
theorem over_size (cells : Array Value) (o : Nat) (vs : List Value) (h : o + vs.length ≤ cells.size) : (over cells o vs).size = cells.size := by
  simp [over]; omega

section
variable {P : Program}
/-- A slice literal of one element of many cells. -/
theorem run_lit1 (w : World) (t e : TypeId) (n : Nat) (Z : Array Value) (z : Value) (ie : TypeInfo) (hu : P.underlying t = some (.slice e)) (hie : P.info? e = some ie) (hz : ie.zero = some z) (hs : ie.size = n) (h0 : 0 < n) (hn : n ≤ 16777216) (hZ : Z.size = n) :
    (Instr.buildSlice t 1 #[(0, .agg Z)]).run P w = .ok (.slice (some ⟨w.heap.size, 0, none⟩) 1 1) (w.alloc (.cells Z e)) := by
  subst hs
  refine run_buildSlice w t e 1 _ Z ie z hu hie hz (by omega) (by omega) ?_
  rw [fill_put _ _ 0 (.agg Z) [] (0 * ie.size) ie.size rfl (by simpa [Value.cells] using hZ) (by simp)]
  simp only [Instr.fill, Nat.zero_mul]
  rw [over_whole _ _ (by simp [Value.cells, hZ])]
  simp [Value.cells]

/-- A struct's value out of its parts, in a region of whatever order: what it is, said of every world. -/
theorem yieldsIf_build {ops : Array Oper} {S : World → Prop} {op : Oper} {a : Act} (hw : Region.wanted op (yielded ops a.tmps) = true) (t : TypeId) (parts : Array (Nat × Operand)) (ho : op.op = .build t parts) (T : Array Value)
    (pv : Array (Nat × Value)) (hp : (parts.toList.map fun (i, x) => (i, a.eval x)) = pv.toList) (h : ∀ w, (Instr.build t pv).run P w = .ok (.agg T) w) : YieldsIf P ops S op (.agg T) a :=
  .inl ⟨hw, fun w _ => by
    have hp : (parts.map fun (i, x) => (i, a.eval x)) = pv := Array.ext' (by rw [Array.toList_map]; exact hp)
    unfold execOp
    simp only [ho, hp, Sem.run_bind, h, Result.andThen_ok, Sem.run_pure]⟩

theorem exec_load_sub {o : Oper} {a : Act} {w : World} (ty : TypeId) (x : Operand) (ho : o.op = .load ty x)
    (g p : Nat) (hx : a.eval x = .pointer (some ⟨g, p, none⟩)) (vs : List Value) (d : TypeDesc) (hg : ∀ j v, vs[j]? = some v → w.cell? ⟨g, p + j, none⟩ = some v)
    (hu : P.underlying ty = some d) (hd : (match d with | .struct _ | .array _ _ => true | _ => false) = true) (hi : (P.info? ty).map (·.size) = some vs.length) :
    (execOp a.eval o).run P w = .ok (.value (.agg vs.toArray)) w := by
  unfold execOp
  simp only [ho, hx, Instr.loadAt, Instr.sureAddr, Sem.run_bind, Sem.run_pure, Result.andThen_ok, run_loadVar_sub w g p ty vs d hg hu hd hi]

theorem wpList_buildV {ops : Array Oper} {rest : List Oper} {o : Oper} {a : Act} {w : World} {Q : Exit → Act → World → Prop} (hgd : o.guard = none) (t : TypeId) (parts : Array (Nat × Operand)) (ho : o.op = .build t parts) (T : Array Value)
    (pv : Array (Nat × Value)) (hp : (parts.toList.map fun (i, x) => (i, a.eval x)) = pv.toList) (h : ∀ w, (Instr.build t pv).run P w = .ok (.agg T) w)
    (hK : wpList P ops Q rest (a.put o.dst (.agg T)) w) : wpList P ops Q (o :: rest) a w :=
  wpList_plain hgd fun _ hKK => by
    have hp : (parts.map fun (i, x) => (i, a.eval x)) = pv := Array.ext' (by rw [Array.toList_map]; exact hp)
    unfold Oper.wp execOp
    simp only [ho, hp, Sem.run_bind, h, Result.andThen_ok, Sem.run_pure]
    exact hKK _ _ hK
theorem wp_lit1 {o : Oper} {a : Act} {w : World} {K : Act → World → Prop} {Q : Exit → Act → World → Prop} (t e : TypeId) (x : Operand) (ho : o.op = .buildSlice t 1 #[(0, x)]) (Z : Array Value) (hx : a.eval x = .agg Z)
    (n : Nat) (z : Value) (ie : TypeInfo) (hu : P.underlying t = some (.slice e)) (hie : P.info? e = some ie) (hz : ie.zero = some z) (hs : ie.size = n) (h0 : 0 < n) (hn : n ≤ 16777216) (hZ : Z.size = n)
    (hK : K (a.put o.dst (.slice (some ⟨w.heap.size, 0, none⟩) 1 1)) (w.alloc (.cells Z e))) : o.wp P a w K Q := by
  have hp : ((#[(0, x)] : Array (Nat × Operand)).map fun (i, x) => (i, a.eval x)) = #[(0, .agg Z)] := by simp [hx]
  unfold Oper.wp execOp
  simp only [ho, hp, Sem.run_bind, run_lit1 w t e n Z z ie hu hie hz hs h0 hn hZ, Result.andThen_ok, Sem.run_pure]
  exact hK
theorem wpList_lit1 {ops : Array Oper} {rest : List Oper} {o : Oper} {a : Act} {w : World} {Q : Exit → Act → World → Prop} (hgd : o.guard = none) (t e : TypeId) (x : Operand) (ho : o.op = .buildSlice t 1 #[(0, x)]) (Z : Array Value) (hx : a.eval x = .agg Z)
    (n : Nat) (z : Value) (ie : TypeInfo) (hu : P.underlying t = some (.slice e)) (hie : P.info? e = some ie) (hz : ie.zero = some z) (hs : ie.size = n) (h0 : 0 < n) (hn : n ≤ 16777216) (hZ : Z.size = n)
    (hK : wpList P ops Q rest (a.put o.dst (.slice (some ⟨w.heap.size, 0, none⟩) 1 1)) (w.alloc (.cells Z e))) : wpList P ops Q (o :: rest) a w :=
  wpList_plain hgd fun _ hKK => wp_lit1 t e x ho Z hx n z ie hu hie hz hs h0 hn hZ (hKK _ _ hK)
theorem step_lit1 {ops : Array Oper} {o : Oper} {a : Act} {w : World} {K : Act → World → Prop} {Q : Exit → Act → World → Prop} {E : Prop} (hgd : o.guard = none) (t e : TypeId) (x : Operand) (ho : o.op = .buildSlice t 1 #[(0, x)]) (Z : Array Value) (hx : a.eval x = .agg Z)
    (n : Nat) (z : Value) (ie : TypeInfo) (hu : P.underlying t = some (.slice e)) (hie : P.info? e = some ie) (hz : ie.zero = some z) (hs : ie.size = n) (h0 : 0 < n) (hn : n ≤ 16777216) (hZ : Z.size = n)
    (hK : K (a.put o.dst (.slice (some ⟨w.heap.size, 0, none⟩) 1 1)) (w.alloc (.cells Z e))) : if Region.wanted o (yielded ops a.tmps) = true then Oper.wp P o a w K Q else E := by
  have hw : Region.wanted o (yielded ops a.tmps) = true := by simp [Region.wanted, hgd]
  rw [if_pos hw]
  exact wp_lit1 t e x ho Z hx n z ie hu hie hz hs h0 hn hZ hK

theorem wpOp_value {ops : Array Oper} {Q : Exit → Act → World → Prop} {k : Nat} {o : Oper} {v : Value} {a : Act} {w : World} {K : Act → World → Prop} (hk : ops[k]? = some o) (hg : o.guard = none)
    (h : (execOp a.eval o).run P w = .ok (.value v) w) (hK : K (a.put o.dst v) w) : wpOp P ops Q k K a w := by
  have hw : Region.wanted o (yielded ops a.tmps) = true := by simp [Region.wanted, hg]
  unfold wpOp
  simp only [hk]
  rw [if_pos hw]
  refine .inl ?_
  unfold Oper.wp
  rw [h]
  exact hK

/-- Two operations that only read may come up, the one first or the other: it is the same. -/
theorem wpAny_two {md : Region.Mode} {ops : Array Oper} {Q : Exit → Act → World → Prop} {i j : Nat} {oi oj : Oper} {vi vj : Value} {fuel : Nat} {listed : Array Bool} {a : Act} {w : World}
    (hi : ops[i]? = some oi) (hj : ops[j]? = some oj) (hij : i ≠ j) (hgi : oi.guard = none) (hgj : oj.guard = none)
    (hr : Region.ready md ops listed = [i, j]) (hri : Region.ready md ops (listed.setIfInBounds i true) = [j]) (hrj : Region.ready md ops (listed.setIfInBounds j true) = [i])
    (ei : (execOp a.eval oi).run P w = .ok (.value vi) w) (ej : (execOp a.eval oj).run P w = .ok (.value vj) w)
    (ei' : (execOp (a.put oj.dst vj).eval oi).run P w = .ok (.value vi) w) (ej' : (execOp (a.put oi.dst vi).eval oj).run P w = .ok (.value vj) w)
    (hc : (a.put oj.dst vj).put oi.dst vi = (a.put oi.dst vi).put oj.dst vj)
    (h : wpAny P md ops Q fuel ((listed.setIfInBounds i true).setIfInBounds j true) ((a.put oi.dst vi).put oj.dst vj) w) : wpAny P md ops Q (fuel + 2) listed a w := by
  refine wpAny_all hr (by simp) fun x hx => ?_
  rcases List.mem_cons.1 hx with rfl | hx
  · refine wpOp_value hi hgi ei (wpAny_all hri (by simp) fun y hy => ?_)
    obtain rfl := List.mem_singleton.1 hy
    exact wpOp_value hj hgj ej' h
  · obtain rfl := List.mem_singleton.1 hx
    refine wpOp_value hj hgj ej (wpAny_all hrj (by simp) fun y hy => ?_)
    obtain rfl := List.mem_singleton.1 hy
    refine wpOp_value hi hgi ei' ?_
    rw [hc, Array.setIfInBounds_comm _ _ (Ne.symm hij)]
    exact h

theorem exec_load {o : Oper} {a : Act} {w : World} {ty : TypeId} {x : Operand} {p : Addr} {v : Value} (ho : o.op = .load ty x) (hx : a.eval x = .pointer (some p)) (hl : (loadVar ty p).run P w = .ok v w) : (execOp a.eval o).run P w = .ok (.value v) w := by
  unfold execOp
  simp only [ho, hx, Instr.loadAt, Instr.sureAddr, Sem.run_bind, Sem.run_pure, Result.andThen_ok, hl]
/-- Two loads may come up, the one first or the other. -/
theorem wpAny_loads2 {md : Region.Mode} {ops : Array Oper} {Q : Exit → Act → World → Prop} {i j ki kj xi xj : Nat} {ti tj : TypeId} {pi pj : Addr} {oi oj : Oper} {vi vj : Value} {fuel : Nat} {listed : Array Bool} {a : Act} {w : World}
    (hi : ops[i]? = some oi) (hj : ops[j]? = some oj) (hij : i ≠ j) (hgi : oi.guard = none) (hgj : oj.guard = none)
    (hr : Region.ready md ops listed = [i, j]) (hri : Region.ready md ops (listed.setIfInBounds i true) = [j]) (hrj : Region.ready md ops (listed.setIfInBounds j true) = [i])
    (hdi : oi.dst = some ki) (hdj : oj.dst = some kj) (hk : ki ≠ kj) (hoi : oi.op = .load ti (.tmp xi)) (hoj : oj.op = .load tj (.tmp xj)) (hxi : xi ≠ kj) (hxj : xj ≠ ki)
    (ei : a.eval (.tmp xi) = .pointer (some pi)) (ej : a.eval (.tmp xj) = .pointer (some pj)) (li : (loadVar ti pi).run P w = .ok vi w) (lj : (loadVar tj pj).run P w = .ok vj w)
    (h : wpAny P md ops Q fuel ((listed.setIfInBounds i true).setIfInBounds j true) ((a.put (some ki) vi).put (some kj) vj) w) : wpAny P md ops Q (fuel + 2) listed a w := by
  have n1 : ∀ d, some kj = some d → (Operand.tmp xi) ≠ .tmp d := fun d hd he => by
    injection hd with hd
    injection he with he
    exact hxi (he.trans hd.symm)
  have n2 : ∀ d, some ki = some d → (Operand.tmp xj) ≠ .tmp d := fun d hd he => by
    injection hd with hd
    injection he with he
    exact hxj (he.trans hd.symm)
  refine wpAny_two hi hj hij hgi hgj hr hri hrj (exec_load hoi ei li) (exec_load hoj ej lj) (exec_load hoi ?_ li) (exec_load hoj ?_ lj) ?_ ?_
  · rw [hdj, Act.eval_put n1]; exact ei
  · rw [hdi, Act.eval_put n2]; exact ej
  · rw [hdi, hdj]
    exact Act.put_comm _ _ _ fun d hd he => hk (by injection hd with hd; injection he with he; omega)
  · rw [hdi, hdj]
    exact h

/-- A load of whatever, in a region of whatever order: what it runs to is said of every world of the condition. -/
theorem yieldsIf_load_run {ops : Array Oper} {S : World → Prop} {op : Oper} {a : Act} (hw : Region.wanted op (yielded ops a.tmps) = true) {ty : TypeId} {x : Operand} {p : Addr} {v : Value} (ho : op.op = .load ty x) (hx : a.eval x = .pointer (some p))
    (h : ∀ w, S w → (loadVar ty p).run P w = .ok v w) : YieldsIf P ops S op v a :=
  .inl ⟨hw, fun w hS => exec_load ho hx (h w hS)⟩

theorem over_app (pre : List Value) (cells : Array Value) (vs : List Value) (n : Nat) (h : cells.toList.take n = pre) (hn : pre.length = n) : (over cells n vs).toList.take (n + vs.length) = pre ++ vs := by
  simp only [over]
  rw [h, List.take_append_of_le_length (by simp [hn]), List.take_of_length_le (by simp [hn])]
/-- A slice literal of three elements of many cells. -/
theorem run_lit3 (w : World) (t e : TypeId) (n : Nat) (X Y Z : Array Value) (z : Value) (ie : TypeInfo) (hu : P.underlying t = some (.slice e)) (hie : P.info? e = some ie) (hz : ie.zero = some z) (hs : ie.size = n) (h0 : 0 < n) (hn : n ≤ 4194304) (hX : X.size = n) (hY : Y.size = n) (hZ : Z.size = n) :
    (Instr.buildSlice t 3 #[(0, .agg X), (1, .agg Y), (2, .agg Z)]).run P w = .ok (.slice (some ⟨w.heap.size, 0, none⟩) 3 3) (w.alloc (.cells (X.toList ++ Y.toList ++ Z.toList).toArray e)) := by
  subst hs
  refine run_buildSlice w t e 3 _ _ ie z hu hie hz (by omega) (by omega) ?_
  generalize hc : (Array.range (3 * ie.size)).map (z.cells[· % z.cells.size]!) = cs
  have hcs : cs.size = 3 * ie.size := by rw [← hc]; simp
  rw [fill_put _ _ 0 (.agg X) _ (0 * ie.size) ie.size rfl (by simpa [Value.cells] using hX) (by omega)]
  have z1 : (over cs (0 * ie.size) (Value.agg X).cells.toList).size = cs.size := over_size _ _ _ (by simp [Value.cells, hX]; omega)
  rw [fill_put _ _ 1 (.agg Y) _ (1 * ie.size) ie.size rfl (by simpa [Value.cells] using hY) (by omega)]
  have z2 : (over (over cs (0 * ie.size) (Value.agg X).cells.toList) (1 * ie.size) (Value.agg Y).cells.toList).size = cs.size := (over_size _ _ _ (by rw [z1]; simp [Value.cells, hY]; omega)).trans z1
  rw [fill_put _ _ 2 (.agg Z) _ (2 * ie.size) ie.size rfl (by simpa [Value.cells] using hZ) (by omega)]
  simp only [Instr.fill]
  congr 1
  apply Array.ext'
  have a1 := over_app [] cs (Value.agg X).cells.toList (0 * ie.size) (by simp) (by simp)
  have e1 : 0 * ie.size + (Value.agg X).cells.toList.length = 1 * ie.size := by simp [Value.cells, hX]
  rw [e1, List.nil_append] at a1
  have a2 := over_app X.toList (over cs (0 * ie.size) (Value.agg X).cells.toList) (Value.agg Y).cells.toList (1 * ie.size) a1 (by simp [hX])
  have e2 : 1 * ie.size + (Value.agg Y).cells.toList.length = 2 * ie.size := by simp [Value.cells, hY]; omega
  rw [e2] at a2
  have a3 := over_app (X.toList ++ Y.toList) (over (over cs (0 * ie.size) (Value.agg X).cells.toList) (1 * ie.size) (Value.agg Y).cells.toList) (Value.agg Z).cells.toList (2 * ie.size) a2 (by simp [hX, hY]; omega)
  rw [← show (over (over (over cs (0 * ie.size) (Value.agg X).cells.toList) (1 * ie.size) (Value.agg Y).cells.toList) (2 * ie.size) (Value.agg Z).cells.toList).toList.take (2 * ie.size + (Value.agg Z).cells.toList.length) = X.toList ++ Y.toList ++ Z.toList from a3]
  rw [List.take_of_length_le]
  rw [Array.length_toList, over_size _ _ _ (by rw [z2]; simp [Value.cells, hZ]; omega), z2, hcs]
  simp [Value.cells, hZ]
  omega
theorem step_lit3 {ops : Array Oper} {o : Oper} {a : Act} {w : World} {K : Act → World → Prop} {Q : Exit → Act → World → Prop} {E : Prop} (hgd : o.guard = none) (t e : TypeId) (x y u : Operand) (ho : o.op = .buildSlice t 3 #[(0, x), (1, y), (2, u)]) (X Y Z : Array Value) (hx : a.eval x = .agg X) (hy : a.eval y = .agg Y) (hu' : a.eval u = .agg Z)
    (n : Nat) (z : Value) (ie : TypeInfo) (hu : P.underlying t = some (.slice e)) (hie : P.info? e = some ie) (hz : ie.zero = some z) (hs : ie.size = n) (h0 : 0 < n) (hn : n ≤ 4194304) (hX : X.size = n) (hY : Y.size = n) (hZ : Z.size = n)
    (hK : K (a.put o.dst (.slice (some ⟨w.heap.size, 0, none⟩) 3 3)) (w.alloc (.cells (X.toList ++ Y.toList ++ Z.toList).toArray e))) : if Region.wanted o (yielded ops a.tmps) = true then Oper.wp P o a w K Q else E := by
  have hw : Region.wanted o (yielded ops a.tmps) = true := by simp [Region.wanted, hgd]
  rw [if_pos hw]
  have hp : ((#[(0, x), (1, y), (2, u)] : Array (Nat × Operand)).map fun (i, x) => (i, a.eval x)) = #[(0, .agg X), (1, .agg Y), (2, .agg Z)] := by simp [hx, hy, hu']
  unfold Oper.wp execOp
  simp only [ho, hp, Sem.run_bind, run_lit3 w t e n X Y Z z ie hu hie hz hs h0 hn hX hY hZ, Result.andThen_ok, Sem.run_pure]
  exact hK
/-- The same of one element, guarded by what is true. -/
theorem step_lit1g {ops : Array Oper} {o : Oper} {a : Act} {w : World} {K : Act → World → Prop} {Q : Exit → Act → World → Prop} {E : Prop} (hw : Region.wanted o (yielded ops a.tmps) = true) (t e : TypeId) (x : Operand) (ho : o.op = .buildSlice t 1 #[(0, x)]) (Z : Array Value) (hx : a.eval x = .agg Z)
    (n : Nat) (z : Value) (ie : TypeInfo) (hu : P.underlying t = some (.slice e)) (hie : P.info? e = some ie) (hz : ie.zero = some z) (hs : ie.size = n) (h0 : 0 < n) (hn : n ≤ 16777216) (hZ : Z.size = n)
    (hK : K (a.put o.dst (.slice (some ⟨w.heap.size, 0, none⟩) 1 1)) (w.alloc (.cells Z e))) : if Region.wanted o (yielded ops a.tmps) = true then Oper.wp P o a w K Q else E := by
  rw [if_pos hw]
  exact wp_lit1 t e x ho Z hx n z ie hu hie hz hs h0 hn hZ hK

/-- An operation is taken first, its slot told. -/
theorem takeH {ops : Array Oper} {Q : Exit → Act → World → Prop} {md : Region.Mode} {S : World → Prop} {i : Nat} (k : Nat) {oi : Oper} {v : Value} {fuel : Nat} {listed : Array Bool} {a : Act} {w : World} (hi : ops[i]? = some oi)
    (hs : Region.noSelect ops = true) (hf : Region.free md ops listed i = true) (hr : (Region.ready md ops listed).contains i = true) (hd : oi.dst = some k)
    (hQ : ∀ c a w, Q (.panic c) (a.put oi.dst v) w → Q (.panic c) a w) (hy : YieldsIf P ops S oi v a) (hS : S w)
    (h : wpAnyH P md ops Q S fuel (listed.setIfInBounds i true) (a.put (some k) v) w) : wpAnyH P md ops Q S (fuel + 1) listed a w :=
  wpAnyH_take hi hs hf hr hQ hy hS (by rw [hd]; exact h)
end
end Go.Proofs.YtieepdhajjibpaaDoor
