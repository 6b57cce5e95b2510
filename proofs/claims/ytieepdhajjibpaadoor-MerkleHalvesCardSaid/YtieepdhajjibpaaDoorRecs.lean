
/- Slices of records, each in as many cells as a record has, one behind the other: those that are read (DatR), those that the call itself owns (OwR), making, storing, appending. Nothing of the program is named here. -/
import Derived.Test.YtieepdhajjibpaaDoorEls
namespace Go.Proofs.YtieepdhajjibpaaDoor
open Go.RowKit

/-- A slice at A holds the records xs, each in z cells; they lie in a block from lo on and below hi. -/
def DatR {α : Type} (z : Nat) (f : α → List Value) (w : World) (lo hi : Nat) (A : Option Addr) (xs : List α) : Prop :=
  0 < xs.length → ∃ d o, A = some ⟨d, o, none⟩ ∧ lo ≤ d ∧ d < hi ∧ ∀ j (h : j < xs.length) i v, (f xs[j])[i]? = some v → w.cell? ⟨d, o + j * z + i, none⟩ = some v

/-- The slice v is the call's own (blocks from base on) and holds the records xs; u: the number of their type. -/
def OwR {α : Type} (z : Nat) (f : α → List Value) (w : World) (u base : Nat) (v : Value) (xs : List α) : Prop := w.ownsRow base u z v xs.length (xs.flatMap f)

theorem add_plain' (d o k : Nat) : (⟨d, o, none⟩ : Addr).add k = ⟨d, o + k, none⟩ := by unfold Addr.add; split <;> simp_all
theorem add_lit' (g j : Nat) : (⟨g, 0, none⟩ : Addr).add j = ⟨g, j, none⟩ := by unfold Addr.add; split <;> simp_all

section
variable {α : Type} {z : Nat} {f : α → List Value}
theorem flat_len (hz : ∀ x, (f x).length = z) (xs : List α) : (xs.flatMap f).length = xs.length * z := by
  induction xs with
  | nil => simp
  | cons x r ih => rw [List.flatMap_cons, List.length_append, ih, hz, List.length_cons, Nat.succ_mul]; omega
theorem flat_get (hz : ∀ x, (f x).length = z) : ∀ (xs : List α) (j i : Nat) (hj : j < xs.length), i < z → (xs.flatMap f)[j * z + i]? = (f xs[j])[i]?
  | [], j, i, hj, _ => by simp at hj
  | x :: r, 0, i, _, hi => by
    rw [List.flatMap_cons, Nat.zero_mul, Nat.zero_add, List.getElem?_append_left (by rw [hz]; exact hi)]
    rfl
  | x :: r, j + 1, i, hj, hi => by
    rw [List.flatMap_cons, List.getElem?_append_right (by rw [hz, Nat.succ_mul]; omega), hz]
    have e : (j + 1) * z + i - z = j * z + i := by rw [Nat.succ_mul]; omega
    rw [e, flat_get hz r j i (by simpa using hj) hi]
    rfl
theorem flat_set (hz : ∀ x, (f x).length = z) (v : Value) (y : α) : ∀ (xs : List α) (j i : Nat) (hj : j < xs.length), i < z → f y = (f xs[j]).set i v → (xs.flatMap f).set (j * z + i) v = (xs.set j y).flatMap f
  | [], j, i, hj, _, _ => by simp at hj
  | x :: r, 0, i, _, hi, h => by
    rw [List.flatMap_cons, Nat.zero_mul, Nat.zero_add, List.set_append_left _ _ (by rw [hz]; exact hi), List.set_cons_zero, List.flatMap_cons, h]
    rfl
  | x :: r, j + 1, i, hj, hi, h => by
    have e : (j + 1) * z + i - (f x).length = j * z + i := by rw [hz, Nat.succ_mul]; omega
    rw [List.flatMap_cons, List.set_append_right _ _ (by rw [hz, Nat.succ_mul]; omega), e, flat_set hz v y r j i (by simpa using hj) hi (by simpa using h), List.set_cons_succ, List.flatMap_cons]
theorem flat_replicate (n : Nat) (x : α) : (List.replicate n x).flatMap f = (List.replicate n (f x)).flatten := by
  rw [List.flatMap_replicate]
theorem made_recs (hz : ∀ x, (f x).length = z) (hz0 : 0 < z) (x : α) (cs : Array Value) (hcs : cs.toList = f x) (n : Nat) : (madeCells cs (n * z)).toList = (List.replicate n x).flatMap f := by
  have hcl : cs.size = z := by rw [← Array.length_toList, hcs, hz]
  apply List.ext_getElem?
  intro k
  by_cases hk : k < n * z
  · have hd : k / z < n := (Nat.div_lt_iff_lt_mul hz0).2 hk
    have hm : k % z < z := Nat.mod_lt _ hz0
    have e : k = k / z * z + k % z := by rw [Nat.mul_comm]; exact (Nat.div_add_mod k z).symm
    have h1 := flat_get hz (List.replicate n x) (k / z) (k % z) (by simpa using hd) hm
    rw [← e] at h1
    rw [h1]
    simp only [List.getElem_replicate]
    unfold madeCells
    rw [hcl]
    have hlt : k % z < cs.size := by omega
    simp only [Array.toList_map, Array.toList_range, List.getElem?_map, List.getElem?_range hk, Option.map_some]
    rw [← hcs, Array.getElem?_toList]
    simp [hlt]
  · rw [List.getElem?_eq_none (by simp [madeCells]; omega), List.getElem?_eq_none (by rw [flat_len hz]; simp; omega)]
end

section
variable {α : Type} {z : Nat} {f : α → List Value} {w w' : World} {lo hi : Nat} {A : Option Addr} {xs : List α}
theorem DatR.nil (z : Nat) (f : α → List Value) (w : World) (lo hi : Nat) (A : Option Addr) : DatR z f w lo hi A [] := fun h => absurd h (by simp)
theorem DatR.keep (h : DatR z f w lo hi A xs) (he : ∀ k, lo ≤ k → k < hi → w'.heap[k]? = w.heap[k]?) : DatR z f w' lo hi A xs := fun hx => by
  obtain ⟨d, o, hA, h1, h2, hc⟩ := h hx
  exact ⟨d, o, hA, h1, h2, fun j hj i v hv => (World.cell?_of_block (he d h1 h2)).trans (hc j hj i v hv)⟩
theorem DatR.below {B : Nat} (h : DatR z f w lo hi A xs) (hb : Below B w w') (hB : hi ≤ B) : DatR z f w' lo hi A xs := h.keep fun k _ hk => hb.block k (by omega)
theorem DatR.grown {row : Option Nat} (h : DatR z f w lo hi A xs) (hb : w.grownBy w' row) (hs : hi ≤ w.heap.size) (hr : ∀ k, row = some k → k < lo ∨ hi ≤ k) : DatR z f w' lo hi A xs :=
  h.keep fun k h1 h2 => hb.block k (by omega) (fun e => by have := hr k e.symm; omega)
theorem DatR.alloc (h : DatR z f w lo hi A xs) (hs : hi ≤ w.heap.size) (o : Obj) : DatR z f (w.alloc o) lo hi A xs := h.keep fun k _ h2 => Below.heap_alloc w o k (by omega)
theorem DatR.far (h : DatR z f w lo hi A xs) {p : Addr} (hp : p.block < lo ∨ hi ≤ p.block) (u : Value) : DatR z f (w.setCell p u) lo hi A xs := h.keep fun k h1 h2 => Below.heap_setCell w p u k (by omega)
theorem DatR.mono {lo' hi' : Nat} (h : DatR z f w lo hi A xs) (hl : lo' ≤ lo) (hh : hi ≤ hi') : DatR z f w lo' hi' A xs := fun hx => by
  obtain ⟨d, o, hA, h1, h2, hc⟩ := h hx
  exact ⟨d, o, hA, by omega, by omega, hc⟩
end

section
variable {α : Type} {z : Nat} {f : α → List Value} {P : Program} {w w' : World} {u base lo hi : Nat} {v : Value} {xs ys : List α} {A : Option Addr} {m c : Nat}
theorem OwR.nil (z : Nat) (f : α → List Value) (w : World) (u base : Nat) : OwR z f w u base (.slice none 0 0) [] := World.ownsRow_nil w base u z
theorem OwR.alloc (h : OwR z f w u base v xs) (o : Obj) : OwR z f (w.alloc o) u base v xs := World.ownsRow.alloc h o
theorem OwR.grown {row : Option Nat} (h : OwR z f w u base v xs) (hg : w.grownBy w' row) (hne : v.ownBlock = none ∨ v.ownBlock ≠ row) : OwR z f w' u base v xs := World.ownsRow.kept h hg hne
theorem OwR.keep (h : OwR z f w u base v xs) (he : ∀ k, v.ownBlock = some k → w'.heap[k]? = w.heap[k]?) : OwR z f w' u base v xs := by
  refine ⟨h.1, ?_⟩
  rcases h.2 with hn | ⟨g, cap, cur, rfl, hb, hh, q⟩
  · exact .inl hn
  · exact .inr ⟨g, cap, cur, rfl, hb, (he g rfl).trans hh, q⟩
theorem OwR.mono {b : Nat} (h : OwR z f w u base v xs) (hb : b ≤ base) : OwR z f w u b v xs := by
  refine ⟨h.1, ?_⟩
  rcases h.2 with hn | ⟨g, cap, cur, hv, hg, q⟩
  · exact .inl hn
  · exact .inr ⟨g, cap, cur, hv, by omega, q⟩
theorem OwR.block (h : OwR z f w u base v xs) : ∀ k, v.ownBlock = some k → base ≤ k ∧ k < w.heap.size := World.ownsRow.lt h
theorem OwR.below {B : Nat} (h : OwR z f w u base v xs) (hb : Below B w w') (hB : w.heap.size ≤ B) : OwR z f w' u base v xs :=
  h.keep fun k hk => hb.block k (by have := (h.block k hk).2; omega)
theorem OwR.drawn (h : OwR z f w u base v xs) (q : Nat) : OwR z f (w.drewN q) u base v xs := h
theorem OwR.aside {d n c g : Nat} (h : OwR z f w u base (.slice (some ⟨d, 0, none⟩) n c) xs) (hd : d ≠ g) (i : Nat) (x : Value) : OwR z f (w.setCell ⟨g, i, none⟩ x) u base (.slice (some ⟨d, 0, none⟩) n c) xs :=
  h.keep fun k hk => Below.heap_setCell _ _ _ k (by
    have e : d = k := by simpa [Value.ownBlock] using hk
    show k ≠ g
    omega)
/-- As a slice that holds these records. -/
theorem OwR.form (hz : ∀ x, (f x).length = z) (h : OwR z f w u base v xs) : ∃ A c, v = .slice A xs.length c ∧ xs.length ≤ c ∧ DatR z f w base w.heap.size A xs := by
  rcases h.2 with ⟨rfl, h0⟩ | ⟨g, cap, cur, rfl, hb, hh, hnc, _, _, ht⟩
  · have : xs = [] := List.eq_nil_of_length_eq_zero h0
    subst this
    exact ⟨none, 0, rfl, by simp, DatR.nil _ _ _ _ _ _⟩
  · refine ⟨_, cap, rfl, hnc, fun hx => ⟨g, 0, rfl, hb, (Array.getElem?_eq_some_iff.1 hh).1, fun j hj i x hi => ?_⟩⟩
    have hiz : i < z := by
      rcases Nat.lt_or_ge i z with q | q
      · exact q
      · rw [List.getElem?_eq_none (by rw [hz]; exact q)] at hi; cases hi
    have hc := World.ownsRow.cells h (g := g) rfl (j * z + i) x (by rw [flat_get hz xs j i hj hiz]; exact hi)
    rw [add_lit'] at hc
    rw [Nat.zero_add]
    exact hc
theorem OwR.len {A : Option Addr} {n c : Nat} (h : OwR z f w u base (.slice A n c) xs) : xs.length = n := by
  rcases h.2 with ⟨e, h0⟩ | ⟨g, cap, cur, e, _⟩
  · injection e with _ e2 _
    omega
  · injection e with _ e2 _
    exact e2.symm
theorem OwR.dat {A : Option Addr} {n c : Nat} (hz : ∀ x, (f x).length = z) (h : OwR z f w u base (.slice A n c) xs) : DatR z f w base w.heap.size A xs := by
  obtain ⟨A', c', hv, _, hd⟩ := h.form hz
  injection hv with h1
  subst h1
  exact hd
theorem OwR.cap {A : Option Addr} {n c : Nat} (hz : ∀ x, (f x).length = z) (h : OwR z f w u base (.slice A n c) xs) : n ≤ c := by
  obtain ⟨A', c', hv, hc, _⟩ := h.form hz
  injection hv with _ h2 h3
  omega
theorem OwR.slice (h : OwR z f w u base v xs) : ∃ A n c, v = .slice A n c := by
  rcases h.2 with ⟨rfl, _⟩ | ⟨g, cap, cur, rfl, _⟩
  · exact ⟨_, _, _, rfl⟩
  · exact ⟨_, _, _, rfl⟩
theorem OwR.place (h : OwR z f w u base v xs) (hx : 0 < xs.length) : ∃ d c, v = .slice (some ⟨d, 0, none⟩) xs.length c ∧ base ≤ d ∧ d < w.heap.size ∧ xs.length ≤ c := by
  rcases h.2 with ⟨_, h0⟩ | ⟨g, cap, cur, rfl, hb, hh, hn, _⟩
  · omega
  · exact ⟨g, cap, rfl, hb, (Array.getElem?_eq_some_iff.1 hh).1, hn⟩
theorem OwR.cellAt {d n c : Nat} (hz : ∀ x, (f x).length = z) (h : OwR z f w u base (.slice (some ⟨d, 0, none⟩) n c) xs) (j i : Nat) (hj : j < xs.length) (hi : i < z) (x : Value) (hx : (f xs[j])[i]? = some x) :
    w.cell? ⟨d, j * z + i, none⟩ = some x ∧ w.frozen? ⟨d, j * z + i, none⟩ = false := by
  have hc := World.ownsRow.cells h (g := d) rfl (j * z + i) x (by rw [flat_get hz xs j i hj hi]; exact hx)
  rw [add_lit'] at hc
  refine ⟨hc, ?_⟩
  rcases h.2 with ⟨e, _⟩ | ⟨g', cap, cur, e, _, hh, _⟩
  · cases e
  · injection e with e
    injection e with e
    injection e with e
    subst e
    simp [World.frozen?, hh]
/-- One cell of one record is stored. -/
theorem OwR.put {d n c : Nat} (hz : ∀ x, (f x).length = z) (h : OwR z f w u base (.slice (some ⟨d, 0, none⟩) n c) xs) (j i : Nat) (hj : j < xs.length) (hi : i < z) (x : Value) (y : α) (hy : f y = (f xs[j]).set i x) :
    OwR z f (w.setCell ⟨d, j * z + i, none⟩ x) u base (.slice (some ⟨d, 0, none⟩) n c) (xs.set j y) := by
  rcases h.2 with ⟨e, _⟩ | ⟨g', cap, cur, e, hb, hh, hnc, hcm, hcs, ht⟩
  · cases e
  · injection e with e1 e2 e3
    injection e1 with e1
    injection e1 with e1
    subst e1
    subst e3
    refine ⟨by rw [flat_len hz], .inr ⟨d, c, cur.setIfInBounds (j * z + i) x, by rw [List.length_set, ← e2], hb, Box.put hh _ _, by simpa using hnc, hcm, by simpa using hcs, ?_⟩⟩
    rw [Array.toList_setIfInBounds, List.take_set, List.length_set, ht, flat_set hz x y xs j i hj hi hy]
/-- A row that has just been made. -/
theorem OwR.made {n : Nat} (hz : ∀ x, (f x).length = z) (hz0 : 0 < z) {x : α} {cs : Array Value} (hcs : cs.toList = f x) {V : Value} (h : w.ownsRow base u z V n (madeCells cs (n * z)).toList) : OwR z f w u base V (List.replicate n x) := by
  unfold OwR
  rw [made_recs hz hz0 x cs hcs] at h
  rw [List.length_replicate]
  exact h

theorem run_appR_none (t ty : TypeId) (i : TypeInfo) (ht : P.underlying t = some (.slice u)) (hn : P.info? u = some i) (h : OwR z f w u base v xs) :
    (Builtin.append_ #[t, t] ty #[v, .slice none 0 c]).run P w = .ok v w := by
  rcases h.2 with ⟨rfl, h0⟩ | ⟨g, cap, cur, rfl, _, _, hnc, _⟩
  · simp [Builtin.append_, run_underlying ht, sizeOf, typeInfo, hn, Builtin.lenOf, Builtin.firstCells]
  · simp [Builtin.append_, run_underlying ht, sizeOf, typeInfo, hn, Builtin.lenOf, Builtin.firstCells, hnc, storeCells]

theorem run_appR (hz : ∀ x, (f x).length = z) (hz0 : 0 < z) (hf : ∀ x, ∀ v ∈ f x, v.oneCell' = true) (w : World) (t ty : TypeId) (i : TypeInfo) (zv : Value) (bytes : Nat) (ht : P.underlying t = some (.slice u)) (hn : P.info? u = some i) (hzv : i.zero = some zv) (hsize : i.size = z) (hby : i.bytes = bytes)
    (hzs : zv.cells.size = z) (hb64 : bytes ≤ 64)
    (h : OwR z f w u base v xs) (hd : DatR z f w lo hi A ys) (hm : ys.length = m) (hb : xs.length + m ≤ 1099511627776) (hbase : base ≤ w.heap.size) :
    ∃ v' w', (Builtin.append_ #[t, t] ty #[v, .slice A m c]).run P w = .ok v' w' ∧ OwR z f w' u base v' (xs ++ ys) ∧ w.grownBy w' v.ownBlock ∧ (v'.ownBlock = v.ownBlock ∨ v'.ownBlock = some w.heap.size) := by
  subst hm
  rcases A with _ | ad
  · have hy : ys = [] := by
      rcases ys with _ | ⟨y, r⟩
      · rfl
      · obtain ⟨_, _, h', _⟩ := hd (by simp)
        cases h'
    subst hy
    exact ⟨v, w, run_appR_none t ty i ht hn h, by simpa using h, World.grownBy.refl w _, .inl rfl⟩
  · have hcells : ∀ j x, (ys.flatMap f)[j]? = some x → w.cell? (ad.add j) = some x := by
      intro k x hx
      have hk : k < ys.length * z := by
        rcases Nat.lt_or_ge k (ys.length * z) with h1 | h1
        · exact h1
        · rw [List.getElem?_eq_none (by rw [flat_len hz]; exact h1)] at hx; cases hx
      have hj : k / z < ys.length := (Nat.div_lt_iff_lt_mul hz0).2 hk
      have hi' : k % z < z := Nat.mod_lt _ hz0
      have e : k = k / z * z + k % z := by rw [Nat.mul_comm]; exact (Nat.div_add_mod k z).symm
      obtain ⟨d, o, hA, _, _, hc⟩ := hd (Nat.lt_of_le_of_lt (Nat.zero_le _) hj)
      injection hA with hA
      subst hA
      have ha : (⟨d, o, none⟩ : Addr).add k = ⟨d, o + k, none⟩ := add_plain' d o k
      rw [e, flat_get hz ys _ _ hj hi'] at hx
      have := hc _ hj _ _ hx
      rw [ha, e]
      rw [show o + (k / z * z + k % z) = o + k / z * z + k % z by omega]
      exact this
    have hbytes : (xs.length + ys.length) * bytes ≤ 140737488355328 := Nat.le_trans (Nat.mul_le_mul hb hb64) (by decide)
    obtain ⟨v', w', hrun, h2, h3, _, h5⟩ := run_append_own_at (P := P) w base t ty u i zv z bytes ht hn hzv hsize hby hzs hz0 v xs.length (xs.flatMap f) h ad ys.length c (ys.flatMap f) (flat_len hz ys) hcells
      (by intro x hx; obtain ⟨y, _, hy⟩ := List.mem_flatMap.1 hx; exact hf y x hy) (by unfold maxLen; omega) hbytes hbase
    refine ⟨v', w', hrun, ?_, h3, h5⟩
    unfold OwR
    rw [List.flatMap_append, List.length_append]
    exact h2

theorem list_appR {ops : Array Oper} {rest : List Oper} {o : Oper} {a : Act} {Q : Exit → Act → World → Prop} (hz : ∀ x, (f x).length = z) (hz0 : 0 < z) (hf : ∀ x, ∀ v ∈ f x, v.oneCell' = true) (w : World) (hgd : o.guard = none) (s x : Operand) (t : TypeId)
    (ho : o.op = .call { callee := .builtin .append, args := #[s, x], argTypes := #[t, t] })
    (i : TypeInfo) (zv : Value) (bytes : Nat) (ht : P.underlying t = some (.slice u)) (hn : P.info? u = some i) (hzv : i.zero = some zv) (hsize : i.size = z) (hby : i.bytes = bytes) (hzs : zv.cells.size = z) (hb64 : bytes ≤ 64)
    (hs : a.eval s = v) (h : OwR z f w u base v xs) (hx : a.eval x = .slice A m c) (hd : DatR z f w lo hi A ys) (hm : ys.length = m) (hb : xs.length + m ≤ 1099511627776) (hbase : base ≤ w.heap.size)
    (hK : ∀ v' w', OwR z f w' u base v' (xs ++ ys) → w.grownBy w' v.ownBlock → (v'.ownBlock = v.ownBlock ∨ v'.ownBlock = some w.heap.size) → wpList P ops Q rest (a.put o.dst v') w') : wpList P ops Q (o :: rest) a w :=
  wpList_plain hgd fun _ hKK => by
    obtain ⟨v', w', hrun, h2, h3, h4⟩ := run_appR (P := P) (c := c) hz hz0 hf w t o.type i zv bytes ht hn hzv hsize hby hzs hb64 h hd hm hb hbase
    unfold Oper.wp execOp
    simp only [ho, resolve, invoke, builtin, Sem.run_bind, Sem.run_pure, Result.andThen_ok, List.map_toArray, List.map_cons, List.map_nil, hs, hx, hrun]
    exact hKK _ _ (hK v' w' h2 h3 h4)

/-- The new row of one record. -/
theorem datR_one (w : World) (x : α) (u : TypeId) (cs : Array Value) (hcs : cs.toList = f x) : DatR z f (w.alloc (.cells cs u)) w.heap.size (w.heap.size + 1) (some ⟨w.heap.size, 0, none⟩) [x] := fun _ =>
  ⟨w.heap.size, 0, rfl, Nat.le_refl _, by omega, fun j hj i y hy => by
    have hj0 : j = 0 := by simp at hj; omega
    subst hj0
    have h := (Box.new w u cs).cell (0 + 0 * z + i)
    rw [h, show 0 + 0 * z + i = i by omega, ← Array.getElem?_toList, hcs]
    exact hy⟩
end
end Go.Proofs.YtieepdhajjibpaaDoor
