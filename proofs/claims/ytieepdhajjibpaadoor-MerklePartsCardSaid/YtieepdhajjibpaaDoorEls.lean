
/- Slices of elements of one cell each, of whatever type: those that are read (DatE), those that the call itself owns (OwE), appending to them. Nothing of the program is named here. -/
import Derived.Test.YtieepdhajjibpaaDoorCurPlain
import Derived.Maps.AppendAt
import Derived.Deep.AppendLies
import Derived.OwnWalk
namespace Go.Proofs.YtieepdhajjibpaaDoor
open Go.RowKit

/-- A slice at A holds the elements xs, each in one cell; they lie in a block from lo on and below hi. -/
def DatE {α : Type} (f : α → Value) (w : World) (lo hi : Nat) (A : Option Addr) (xs : List α) : Prop :=
  0 < xs.length → ∃ d o, A = some ⟨d, o, none⟩ ∧ lo ≤ d ∧ d < hi ∧ ∀ j (h : j < xs.length), w.cell? ⟨d, o + j, none⟩ = some (f xs[j])

/-- The slice v is the call's own (blocks from base on) and holds the elements xs; u: the number of their type. -/
def OwE {α : Type} (f : α → Value) (w : World) (u base : Nat) (v : Value) (xs : List α) : Prop := w.ownsRow base u 1 v xs.length (xs.map f)

section
variable {α : Type} {f : α → Value} {w w' : World} {lo hi : Nat} {A : Option Addr} {xs : List α}
theorem DatE.nil (f : α → Value) (w : World) (lo hi : Nat) (A : Option Addr) : DatE f w lo hi A [] := fun h => absurd h (by simp)
theorem DatE.keep (h : DatE f w lo hi A xs) (he : ∀ k, lo ≤ k → k < hi → w'.heap[k]? = w.heap[k]?) : DatE f w' lo hi A xs := fun hx => by
  obtain ⟨d, o, hA, h1, h2, hc⟩ := h hx
  exact ⟨d, o, hA, h1, h2, fun j hj => (World.cell?_of_block (he d h1 h2)).trans (hc j hj)⟩
theorem DatE.below {B : Nat} (h : DatE f w lo hi A xs) (hb : Below B w w') (hB : hi ≤ B) : DatE f w' lo hi A xs := h.keep fun k _ hk => hb.block k (by omega)
theorem DatE.grown {row : Option Nat} (h : DatE f w lo hi A xs) (hb : w.grownBy w' row) (hs : hi ≤ w.heap.size) (hr : ∀ k, row = some k → k < lo ∨ hi ≤ k) : DatE f w' lo hi A xs :=
  h.keep fun k h1 h2 => hb.block k (by omega) (fun e => by have := hr k e.symm; omega)
theorem DatE.alloc (h : DatE f w lo hi A xs) (hs : hi ≤ w.heap.size) (o : Obj) : DatE f (w.alloc o) lo hi A xs := h.keep fun k _ h2 => Below.heap_alloc w o k (by omega)
theorem DatE.far (h : DatE f w lo hi A xs) {p : Addr} (hp : p.block < lo ∨ hi ≤ p.block) (u : Value) : DatE f (w.setCell p u) lo hi A xs := h.keep fun k h1 h2 => Below.heap_setCell w p u k (by omega)
theorem DatE.mono {lo' hi' : Nat} (h : DatE f w lo hi A xs) (hl : lo' ≤ lo) (hh : hi ≤ hi') : DatE f w lo' hi' A xs := fun hx => by
  obtain ⟨d, o, hA, h1, h2, hc⟩ := h hx
  exact ⟨d, o, hA, by omega, by omega, hc⟩
theorem DatE.take (h : DatE f w lo hi A xs) (k : Nat) : DatE f w lo hi A (xs.take k) := fun hx => by
  have hlen : (xs.take k).length ≤ xs.length := by simp; omega
  obtain ⟨d, o, hA, h1, h2, hc⟩ := h (by omega)
  refine ⟨d, o, hA, h1, h2, fun j hj => ?_⟩
  rw [hc j (by omega), List.getElem_take]
theorem DatE.drop (h : DatE f w lo hi A xs) (k : Nat) : DatE f w lo hi (A.map (·.add k)) (xs.drop k) := fun hx => by
  have hlen : (xs.drop k).length = xs.length - k := by simp
  obtain ⟨d, o, hA, h1, h2, hc⟩ := h (by omega)
  refine ⟨d, o + k, ?_, h1, h2, fun j hj => ?_⟩
  · subst hA
    simp only [Option.map_some, Addr.add]
    split <;> simp_all
  · have := hc (k + j) (by omega)
    rw [show o + k + j = o + (k + j) by omega, this, List.getElem_drop]
theorem DatE.cut (h : DatE f w lo hi A xs) {k c : Nat} (hc : xs.length ≤ c) : DatE f w lo hi (if c = k then A else A.map (·.add k)) (xs.drop k) := by
  by_cases hk : c = k
  · rw [if_pos hk, List.drop_of_length_le (by omega)]
    exact DatE.nil f w lo hi A
  · rw [if_neg hk]
    exact h.drop k
end

section
variable {α : Type} {f : α → Value} {P : Program} {w w' : World} {u base lo hi : Nat} {v : Value} {xs ys : List α} {A : Option Addr} {m c : Nat}
theorem OwE.nil (f : α → Value) (w : World) (u base : Nat) : OwE f w u base (.slice none 0 0) [] := World.ownsRow_nil w base u 1
theorem OwE.alloc (h : OwE f w u base v xs) (o : Obj) : OwE f (w.alloc o) u base v xs := World.ownsRow.alloc h o
theorem OwE.grown {row : Option Nat} (h : OwE f w u base v xs) (hg : w.grownBy w' row) (hne : v.ownBlock = none ∨ v.ownBlock ≠ row) : OwE f w' u base v xs := World.ownsRow.kept h hg hne
theorem OwE.keep (h : OwE f w u base v xs) (he : ∀ k, v.ownBlock = some k → w'.heap[k]? = w.heap[k]?) : OwE f w' u base v xs := by
  refine ⟨h.1, ?_⟩
  rcases h.2 with hn | ⟨g, cap, cur, rfl, hb, hh, q⟩
  · exact .inl hn
  · exact .inr ⟨g, cap, cur, rfl, hb, (he g rfl).trans hh, q⟩
theorem OwE.mono {b : Nat} (h : OwE f w u base v xs) (hb : b ≤ base) : OwE f w u b v xs := by
  refine ⟨h.1, ?_⟩
  rcases h.2 with hn | ⟨g, cap, cur, hv, hg, q⟩
  · exact .inl hn
  · exact .inr ⟨g, cap, cur, hv, by omega, q⟩
theorem OwE.block (h : OwE f w u base v xs) : ∀ k, v.ownBlock = some k → base ≤ k ∧ k < w.heap.size := World.ownsRow.lt h
/-- As a slice that holds these elements. -/
theorem OwE.form (h : OwE f w u base v xs) : ∃ A c, v = .slice A xs.length c ∧ xs.length ≤ c ∧ DatE f w base w.heap.size A xs := by
  rcases h.2 with ⟨rfl, h0⟩ | ⟨g, cap, cur, rfl, hb, hh, hnc, _, _, ht⟩
  · have : xs = [] := List.eq_nil_of_length_eq_zero h0
    subst this
    exact ⟨none, 0, rfl, by simp, DatE.nil _ _ _ _ _⟩
  · refine ⟨_, cap, rfl, hnc, fun hx => ⟨g, 0, rfl, hb, (Array.getElem?_eq_some_iff.1 hh).1, fun j hj => ?_⟩⟩
    have hc := World.ownsRow.cells h (g := g) rfl j (f xs[j]) (by simp [hj])
    have ha : (⟨g, 0, none⟩ : Addr).add j = ⟨g, 0 + j, none⟩ := by unfold Addr.add; split <;> simp_all
    rw [ha] at hc
    exact hc
theorem OwE.slice (h : OwE f w u base v xs) : ∃ A n c, v = .slice A n c := by
  obtain ⟨A, c, hv, _⟩ := h.form
  exact ⟨A, _, c, hv⟩
theorem OwE.ne_box {g : Nat} {t : TypeId} {cs : Array Value} (h : OwE f w u base v xs) (hg : Box w g t cs) (hne : u ≠ t) : v.ownBlock ≠ some g := by
  rcases h.2 with ⟨rfl, _⟩ | ⟨g', cap, cur, rfl, _, hh, _⟩
  · simp [Value.ownBlock]
  · intro he
    have : g' = g := by simpa [Value.ownBlock] using he
    subst this
    unfold Box at hg
    rw [hg] at hh
    injection hh with hh
    injection hh with _ ht
    exact hne ht.symm

theorem run_appE_none (t ty : TypeId) (i : TypeInfo) (ht : P.underlying t = some (.slice u)) (hn : P.info? u = some i) (h : OwE f w u base v xs) :
    (Builtin.append_ #[t, t] ty #[v, .slice none 0 c]).run P w = .ok v w := by
  rcases h.2 with ⟨rfl, h0⟩ | ⟨g, cap, cur, rfl, _, _, hnc, _⟩
  · simp [Builtin.append_, run_underlying ht, sizeOf, typeInfo, hn, Builtin.lenOf, Builtin.firstCells]
  · simp [Builtin.append_, run_underlying ht, sizeOf, typeInfo, hn, Builtin.lenOf, Builtin.firstCells, hnc, storeCells]

theorem run_appE (hf : ∀ x, (f x).oneCell' = true) (w : World) (t ty : TypeId) (i : TypeInfo) (z : Value) (bytes : Nat) (ht : P.underlying t = some (.slice u)) (hn : P.info? u = some i) (hz : i.zero = some z) (hsize : i.size = 1) (hby : i.bytes = bytes)
    (hzs : z.cells.size = 1) (hb64 : bytes ≤ 64)
    (h : OwE f w u base v xs) (hd : DatE f w lo hi A ys) (hm : ys.length = m) (hb : xs.length + m ≤ 1099511627776) (hbase : base ≤ w.heap.size) :
    ∃ v' w', (Builtin.append_ #[t, t] ty #[v, .slice A m c]).run P w = .ok v' w' ∧ OwE f w' u base v' (xs ++ ys) ∧ w.grownBy w' v.ownBlock ∧ (v'.ownBlock = v.ownBlock ∨ v'.ownBlock = some w.heap.size) := by
  subst hm
  rcases A with _ | ad
  · have hy : ys = [] := by
      rcases ys with _ | ⟨y, r⟩
      · rfl
      · obtain ⟨_, _, h', _⟩ := hd (by simp)
        cases h'
    subst hy
    exact ⟨v, w, run_appE_none t ty i ht hn h, by simpa using h, World.grownBy.refl w _, .inl rfl⟩
  · have hcells : ∀ j x, (ys.map f)[j]? = some x → w.cell? (ad.add j) = some x := by
      intro j x hx
      have hj : j < ys.length := by
        rcases Nat.lt_or_ge j ys.length with h1 | h1
        · exact h1
        · simp [List.getElem?_eq_none h1] at hx
      obtain ⟨d, o, hA, _, _, hc⟩ := hd (by omega)
      injection hA with hA
      subst hA
      have ha : (⟨d, o, none⟩ : Addr).add j = ⟨d, o + j, none⟩ := by unfold Addr.add; split <;> simp_all
      rw [ha, hc j hj, ← hx]
      simp [hj]
    have hbytes : (xs.length + ys.length) * bytes ≤ 140737488355328 := Nat.le_trans (Nat.mul_le_mul hb hb64) (by decide)
    obtain ⟨v', w', hrun, h2, h3, _, h5⟩ := run_append_own_at (P := P) w base t ty u i z 1 bytes ht hn hz hsize hby hzs (by omega) v xs.length (xs.map f) h ad ys.length c (ys.map f) (by simp) hcells
      (by intro x hx; obtain ⟨y, _, rfl⟩ := List.mem_map.1 hx; exact hf y) (by unfold maxLen; omega) hbytes hbase
    refine ⟨v', w', hrun, ?_, h3, h5⟩
    unfold OwE
    rw [List.map_append, List.length_append]
    exact h2

theorem wp_appE {o : Oper} {a : Act} {K : Act → World → Prop} {Q : Exit → Act → World → Prop} (hf : ∀ x, (f x).oneCell' = true) (w : World) (s x : Operand) (t : TypeId)
    (ho : o.op = .call { callee := .builtin .append, args := #[s, x], argTypes := #[t, t] })
    (i : TypeInfo) (z : Value) (bytes : Nat) (ht : P.underlying t = some (.slice u)) (hn : P.info? u = some i) (hz : i.zero = some z) (hsize : i.size = 1) (hby : i.bytes = bytes) (hzs : z.cells.size = 1) (hb64 : bytes ≤ 64)
    (hs : a.eval s = v) (h : OwE f w u base v xs) (hx : a.eval x = .slice A m c) (hd : DatE f w lo hi A ys) (hm : ys.length = m) (hb : xs.length + m ≤ 1099511627776) (hbase : base ≤ w.heap.size)
    (hK : ∀ v' w', OwE f w' u base v' (xs ++ ys) → w.grownBy w' v.ownBlock → (v'.ownBlock = v.ownBlock ∨ v'.ownBlock = some w.heap.size) → K (a.put o.dst v') w') : o.wp P a w K Q := by
  obtain ⟨v', w', hrun, h2, h3, h4⟩ := run_appE (P := P) (c := c) hf w t o.type i z bytes ht hn hz hsize hby hzs hb64 h hd hm hb hbase
  unfold Oper.wp execOp
  simp only [ho, resolve, invoke, builtin, Sem.run_bind, Sem.run_pure, Result.andThen_ok, List.map_toArray, List.map_cons, List.map_nil, hs, hx, hrun]
  exact hK v' w' h2 h3 h4

theorem list_appE {ops : Array Oper} {rest : List Oper} {o : Oper} {a : Act} {Q : Exit → Act → World → Prop} (hf : ∀ x, (f x).oneCell' = true) (w : World) (hgd : o.guard = none) (s x : Operand) (t : TypeId)
    (ho : o.op = .call { callee := .builtin .append, args := #[s, x], argTypes := #[t, t] })
    (i : TypeInfo) (z : Value) (bytes : Nat) (ht : P.underlying t = some (.slice u)) (hn : P.info? u = some i) (hz : i.zero = some z) (hsize : i.size = 1) (hby : i.bytes = bytes) (hzs : z.cells.size = 1) (hb64 : bytes ≤ 64)
    (hs : a.eval s = v) (h : OwE f w u base v xs) (hx : a.eval x = .slice A m c) (hd : DatE f w lo hi A ys) (hm : ys.length = m) (hb : xs.length + m ≤ 1099511627776) (hbase : base ≤ w.heap.size)
    (hK : ∀ v' w', OwE f w' u base v' (xs ++ ys) → w.grownBy w' v.ownBlock → (v'.ownBlock = v.ownBlock ∨ v'.ownBlock = some w.heap.size) → wpList P ops Q rest (a.put o.dst v') w') : wpList P ops Q (o :: rest) a w :=
  wpList_plain hgd fun _ hKK => wp_appE hf w s x t ho i z bytes ht hn hz hsize hby hzs hb64 hs h hx hd hm hb hbase fun v' w' h2 h3 h4 => hKK _ _ (hK v' w' h2 h3 h4)

/-- The new row of one element. -/
theorem datE_one (f : α → Value) (w : World) (x : α) (u : TypeId) (v : Value) (hv : v = f x) : DatE f (w.alloc (.cells #[v] u)) w.heap.size (w.heap.size + 1) (some ⟨w.heap.size, 0, none⟩) [x] := fun _ =>
  ⟨w.heap.size, 0, rfl, Nat.le_refl _, by omega, fun j hj => by
    have h := (Box.new w u #[v]).cell (0 + j)
    have hj0 : j = 0 := by simp at hj; omega
    subst hj0 hv
    exact h⟩
end
end Go.Proofs.YtieepdhajjibpaaDoor
