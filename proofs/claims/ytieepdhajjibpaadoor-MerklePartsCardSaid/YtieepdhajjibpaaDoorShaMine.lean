
/- Bytes that the call itself owns, in a row that may bear a mark (as []byte(s) lays one) but none of whose cells is frozen; appending to them. Nothing of the program is named here. -/
import Derived.Test.YtieepdhajjibpaaDoorCurPlain
import Derived.Test.YtieepdhajjibpaaDoorCurApp
import Derived.ArgAppend
import Derived.Lib.ConvBytes
namespace Go.Proofs.YtieepdhajjibpaaDoor
open Go.RowKit

/-- The slice v is the call's own (blocks from base on) and holds the bytes xs. -/
def Mine (w : World) (u base : Nat) (v : Value) (xs : List UInt8) : Prop :=
  (v = .slice none 0 0 ∧ xs = []) ∨ ∃ g cap, v = .slice (some ⟨g, 0, none⟩) xs.length cap ∧ base ≤ g ∧ (∃ cs fr, w.heap[g]? = some (.cells cs u fr)) ∧ xs.length ≤ cap ∧ cap ≤ maxLen ∧
    (∀ j, j < cap → (w.cell? ⟨g, j, none⟩).isSome = true ∧ w.frozen? ⟨g, j, none⟩ = false) ∧ (∀ j, j < xs.length → w.cell? ⟨g, j, none⟩ = some (cel (xs.getD j 0)))

section
variable {P : Program} {w w' : World} {u base lo hi : Nat} {own : Bool} {v : Value} {xs ys : List UInt8} {A : Option Addr} {m c : Nat}
theorem heap_setCells (g : Nat) (t : TypeId) (fr : Nat × Nat) : ∀ (vs : List Value) (o : Nat) (w : World), (∃ cs, w.heap[g]? = some (.cells cs t fr)) → ∃ cs, (w.setCells g o vs).heap[g]? = some (.cells cs t fr)
  | [], _, _, h => h
  | v :: r, o, w, h => by
    obtain ⟨cs, h⟩ := h
    refine heap_setCells g t fr r (o + 1) _ ⟨cs.setIfInBounds o v, ?_⟩
    simp [World.setCell, Array.getElem?_modify, h]
theorem size_setCells (g : Nat) : ∀ (vs : List Value) (o : Nat) (w : World), (w.setCells g o vs).heap.size = w.heap.size
  | [], _, _ => rfl
  | v :: r, o, w => by
    rw [World.setCells, size_setCells g r (o + 1)]
    simp [World.setCell]
theorem tape_setCells (g : Nat) : ∀ (vs : List Value) (o : Nat) (w : World), (w.setCells g o vs).tape = w.tape
  | [], _, _ => rfl
  | v :: r, o, w => by
    rw [World.setCells, tape_setCells g r (o + 1)]
    rfl
theorem other_setCells (g k : Nat) (hk : k ≠ g) : ∀ (vs : List Value) (o : Nat) (w : World), (w.setCells g o vs).heap[k]? = w.heap[k]?
  | [], _, _ => rfl
  | v :: r, o, w => by
    rw [World.setCells, other_setCells g k hk r (o + 1)]
    exact Below.heap_setCell w _ v k hk
theorem grown_setCells (w : World) (g o : Nat) (vs : List Value) : w.grownBy (w.setCells g o vs) (some g) := by
  have hk := World.keptBut_setCells g (may := fun _ => True) vs o w (fun _ _ => trivial)
  exact ⟨hk.1, tape_setCells g vs o w, hk.2.1, by rw [size_setCells]; exact Nat.le_refl _, fun k _ hne => other_setCells g k (fun e => hne (by rw [e])) vs o w⟩

theorem Mine.of_own (h : OwB w u base v xs) : Mine w u base v xs := by
  rcases h.2 with ⟨hv, h0⟩ | ⟨g, cap, cur, hv, hb, hh, hnc, hcm, hcs, ht⟩
  · exact .inl ⟨hv, List.eq_nil_of_length_eq_zero h0⟩
  · obtain ⟨A, c, hv', _, hd⟩ := h.form
    rw [hv] at hv'
    injection hv' with e1 _ _
    subst e1
    refine .inr ⟨g, cap, hv, hb, ⟨cur, (0, 0), hh⟩, hnc, hcm, fun j hj => ⟨?_, ?_⟩, fun j hj => ?_⟩
    · rw [cell_of_row w g j cur u (0, 0) hh]
      have : j < cur.size := by rw [hcs]; omega
      simp [this]
    · simp [World.frozen?, hh]
    · obtain ⟨d, o, hA, _, _, hc, _⟩ := hd (by omega)
      injection hA with hA
      injection hA with e2 e3
      subst e2 e3
      have := hc j hj
      simpa using this
theorem Mine.low {base' : Nat} (h : Mine w u base v xs) (hb : base' ≤ base) : Mine w u base' v xs := by
  rcases h with h | ⟨g, cap, hv, h1, h2⟩
  · exact .inl h
  · exact .inr ⟨g, cap, hv, by omega, h2⟩
theorem Mine.keep (h : Mine w u base v xs) (he : ∀ k, v.ownBlock = some k → w'.heap[k]? = w.heap[k]?) : Mine w' u base v xs := by
  rcases h with h | ⟨g, cap, hv, hb, ⟨cs, fr, hh⟩, h1, h2, h3, h4⟩
  · exact .inl h
  · have e := he g (by rw [hv]; rfl)
    exact .inr ⟨g, cap, hv, hb, ⟨cs, fr, e.trans hh⟩, h1, h2, fun j hj => ⟨by rw [World.cell?_of_block (w := w) (w' := w') (a := ⟨g, j, none⟩) e]; exact (h3 j hj).1, by rw [World.frozen?_of_block (w := w) (w' := w') (a := ⟨g, j, none⟩) e]; exact (h3 j hj).2⟩,
      fun j hj => by rw [World.cell?_of_block (w := w) (w' := w') (a := ⟨g, j, none⟩) e]; exact h4 j hj⟩
theorem Mine.block (h : Mine w u base v xs) : ∀ k, v.ownBlock = some k → base ≤ k ∧ k < w.heap.size := by
  intro k hk
  rcases h with ⟨hv, _⟩ | ⟨g, cap, hv, hb, ⟨cs, fr, hh⟩, _⟩
  · rw [hv] at hk; cases hk
  · rw [hv] at hk
    injection hk with hk
    subst hk
    exact ⟨hb, (Array.getElem?_eq_some_iff.1 hh).1⟩
theorem Mine.drew (h : Mine w u base v xs) : Mine w.drew u base v xs := h
theorem Mine.alloc (h : Mine w u base v xs) (o : Obj) : Mine (w.alloc o) u base v xs := h.keep fun k hk => Below.heap_alloc w o k (h.block k hk).2
theorem Mine.below {B : Nat} (h : Mine w u base v xs) (hb : Below B w w') (hB : w.heap.size ≤ B) : Mine w' u base v xs := h.keep fun k hk => hb.block k (by have := (h.block k hk).2; omega)
theorem Mine.ne_box {g : Nat} {t : TypeId} {cs : Array Value} (h : Mine w u base v xs) (hg : Box w g t cs) (hne : u ≠ t) : v.ownBlock ≠ some g := by
  intro hk
  rcases h with ⟨hv, _⟩ | ⟨g', cap, hv, _, ⟨cs', fr, hh⟩, _⟩
  · rw [hv] at hk; cases hk
  · rw [hv] at hk
    injection hk with hk
    subst hk
    unfold Box at hg
    rw [hg] at hh
    injection hh with hh
    injection hh with _ ht
    exact hne ht.symm
theorem Mine.form (h : Mine w u base v xs) : ∃ A c, v = .slice A xs.length c ∧ xs.length ≤ c ∧ Dat false w base w.heap.size A xs := by
  rcases h with ⟨rfl, rfl⟩ | ⟨g, cap, rfl, hb, ⟨cs, fr, hh⟩, h1, _, h3, h4⟩
  · exact ⟨none, 0, rfl, by simp, Dat.nil _ _ _ _ _⟩
  · exact ⟨_, cap, rfl, h1, fun _ => ⟨g, 0, rfl, hb, (Array.getElem?_eq_some_iff.1 hh).1, fun j hj => by rw [Nat.zero_add]; exact h4 j hj, fun ho => by cases ho⟩⟩

theorem run_mine_app (w : World) (t ty : TypeId) (i : TypeInfo) (ht : P.underlying t = some (.slice u)) (hn : P.info? u = some i) (hz : i.zero = some (.int .u8 0)) (hsize : i.size = 1) (hby : i.bytes = 1)
    (h : Mine w u base v xs) (hd : Dat own w lo hi A ys) (hA : A ≠ none) (hm : ys.length = m) (hb : xs.length + m ≤ 1099511627776) (hbase : base ≤ w.heap.size) :
    ∃ v' w', (Builtin.append_ #[t, t] ty #[v, .slice A m c]).run P w = .ok v' w' ∧ Mine w' u base v' (xs ++ ys) ∧ w.grownBy w' v.ownBlock ∧ (v'.ownBlock = v.ownBlock ∨ ∀ k, v'.ownBlock = some k → w.heap.size ≤ k) := by
  subst hm
  rcases h with ⟨rfl, rfl⟩ | ⟨g, cap, rfl, hbg, ⟨cs, fr, hh⟩, h1, h2, h3, h4⟩
  · obtain ⟨v', w', hrun, ho, hg, hat⟩ := run_app (P := P) (c := c) w t ty i ht hn hz hsize hby (OwB.nil w u base) hd rfl (by simpa using hb) hbase
    exact ⟨v', w', hrun, Mine.of_own ho, hg, hat.imp id fun e k hk => by rw [e] at hk; injection hk with hk; omega⟩
  · obtain ⟨ad, rfl⟩ : ∃ ad, A = some ad := by cases A with | none => exact absurd rfl hA | some ad => exact ⟨ad, rfl⟩
    have hcells : ∀ j x, (ys.map cel)[j]? = some x → w.cell? (ad.add j) = some x := by
      intro j x hx
      have hj : j < ys.length := by
        rcases Nat.lt_or_ge j ys.length with h1 | h1
        · exact h1
        · simp [List.getElem?_eq_none h1] at hx
      obtain ⟨d, o, hA, _, _, hc, _⟩ := hd (by omega)
      injection hA with hA
      subst hA
      have ha : (⟨d, o, none⟩ : Addr).add j = ⟨d, o + j, none⟩ := by unfold Addr.add; split <;> simp_all
      rw [ha, hc j hj, ← hx]
      simp [List.getD, hj]
    have hone : ∀ x ∈ ys.map cel, x.oneCell' = true := by
      intro x hx
      obtain ⟨y, _, rfl⟩ := List.mem_map.1 hx
      rfl
    by_cases hroom : xs.length + ys.length ≤ cap
    · have hr := run_append_room_cells (P := P) w t ty u i ht hn g 0 xs.length cap ad ys.length c (ys.map cel) (by simp [hsize]) hcells hone hroom
        (fun j hj => by rw [hsize, Nat.zero_add, Nat.mul_one]; exact (h3 _ (by simp at hj; omega)).1) (fun j hj => by rw [hsize, Nat.zero_add, Nat.mul_one]; exact (h3 _ (by simp at hj; omega)).2)
      rw [hsize, Nat.zero_add, Nat.mul_one] at hr
      have hin := World.cell?_setCells_in g (ys.map cel) xs.length w (fun j hj => (h3 _ (by simp at hj; omega)).1)
      refine ⟨_, _, hr, .inr ⟨g, cap, by rw [List.length_append], hbg, ?_, by rw [List.length_append]; exact hroom, h2, fun j hj => ⟨?_, ?_⟩, fun j hj => ?_⟩, grown_setCells w g _ _, .inl rfl⟩
      · obtain ⟨cs', hc'⟩ := heap_setCells g u fr (ys.map cel) xs.length w ⟨cs, hh⟩
        exact ⟨cs', fr, hc'⟩
      · by_cases hjx : xs.length ≤ j ∧ j < xs.length + ys.length
        · have := hin (j - xs.length) (by simp; omega)
          rw [show xs.length + (j - xs.length) = j by omega] at this
          rw [this]
          rfl
        · rw [World.cell?_setCells_out g _ _ w ⟨g, j, none⟩ (fun _ _ => by simp; omega)]
          exact (h3 j hj).1
      · rw [World.frozen?_setCells]
        exact (h3 j hj).2
      · by_cases hjx : j < xs.length
        · rw [World.cell?_setCells_out g _ _ w ⟨g, j, none⟩ (fun _ _ => by simp; omega), h4 j hjx]
          simp [List.getD, hjx, List.getElem?_append_left hjx]
        · have hj' : j < xs.length + ys.length := by rw [List.length_append] at hj; exact hj
          have := hin (j - xs.length) (by simp; omega)
          rw [show xs.length + (j - xs.length) = j by omega] at this
          rw [this]
          simp [List.getD, List.getElem?_append_right (show xs.length ≤ j by omega), show j - xs.length < ys.length by omega]
    · obtain ⟨v', w', hrun, ho, hg⟩ := run_append_arg_grows (P := P) w t ty u i _ 1 1 ht hn hz hsize hby rfl (by omega) ⟨g, 0, none⟩ xs.length cap (xs.map cel) (by simp)
        (by
          intro j x hx
          have hj : j < xs.length := by
            rcases Nat.lt_or_ge j xs.length with h1 | h1
            · exact h1
            · simp [List.getElem?_eq_none h1] at hx
          have ha : (⟨g, 0, none⟩ : Addr).add j = ⟨g, j, none⟩ := by unfold Addr.add; split <;> simp_all
          rw [ha, h4 j hj, ← hx]
          simp [List.getD, hj])
        ad ys.length c (ys.map cel) (by simp) hcells (by omega) (by unfold maxLen; omega) (by omega)
      have ho' : OwB w' u w.heap.size v' (xs ++ ys) := by
        unfold OwB
        rw [List.map_append, List.length_append]
        exact ho
      refine ⟨v', w', hrun, (Mine.of_own ho').low hbase, ⟨hg.os, hg.tape, hg.output, hg.size, fun k hk _ => hg.block k hk (by simp)⟩, .inr fun k hk => (ho'.block k hk).1⟩

theorem wp_mine_app {o : Oper} {a : Act} {K : Act → World → Prop} {Q : Exit → Act → World → Prop} (w : World) (s x : Operand) (t : TypeId)
    (ho : o.op = .call { callee := .builtin .append, args := #[s, x], argTypes := #[t, t] })
    (i : TypeInfo) (ht : P.underlying t = some (.slice u)) (hn : P.info? u = some i) (hz : i.zero = some (.int .u8 0)) (hsize : i.size = 1) (hby : i.bytes = 1)
    (hs : a.eval s = v) (h : Mine w u base v xs) (hx : a.eval x = .slice A m c) (hd : Dat own w lo hi A ys) (hA : A ≠ none) (hm : ys.length = m) (hb : xs.length + m ≤ 1099511627776) (hbase : base ≤ w.heap.size)
    (hK : ∀ v' w', Mine w' u base v' (xs ++ ys) → w.grownBy w' v.ownBlock → (v'.ownBlock = v.ownBlock ∨ ∀ k, v'.ownBlock = some k → w.heap.size ≤ k) → K (a.put o.dst v') w') : o.wp P a w K Q := by
  obtain ⟨v', w', hrun, h2, h3, h4⟩ := run_mine_app (P := P) (c := c) w t o.type i ht hn hz hsize hby h hd hA hm hb hbase
  unfold Oper.wp execOp
  simp only [ho, resolve, invoke, builtin, Sem.run_bind, Sem.run_pure, Result.andThen_ok, List.map_toArray, List.map_cons, List.map_nil, hs, hx, hrun]
  exact hK v' w' h2 h3 h4

theorem list_mine_app {ops : Array Oper} {rest : List Oper} {o : Oper} {a : Act} {Q : Exit → Act → World → Prop} (w : World) (hgd : o.guard = none) (s x : Operand) (t : TypeId)
    (ho : o.op = .call { callee := .builtin .append, args := #[s, x], argTypes := #[t, t] })
    (i : TypeInfo) (ht : P.underlying t = some (.slice u)) (hn : P.info? u = some i) (hz : i.zero = some (.int .u8 0)) (hsize : i.size = 1) (hby : i.bytes = 1)
    (hs : a.eval s = v) (h : Mine w u base v xs) (hx : a.eval x = .slice A m c) (hd : Dat own w lo hi A ys) (hA : A ≠ none) (hm : ys.length = m) (hb : xs.length + m ≤ 1099511627776) (hbase : base ≤ w.heap.size)
    (hK : ∀ v' w', Mine w' u base v' (xs ++ ys) → w.grownBy w' v.ownBlock → (v'.ownBlock = v.ownBlock ∨ ∀ k, v'.ownBlock = some k → w.heap.size ≤ k) → wpList P ops Q rest (a.put o.dst v') w') : wpList P ops Q (o :: rest) a w :=
  wpList_plain hgd fun _ hKK => wp_mine_app w s x t ho i ht hn hz hsize hby hs h hx hd hA hm hb hbase fun v' w' h2 h3 h4 => hKK _ _ (hK v' w' h2 h3 h4)

/-- What []byte(s) makes: the call's own bytes. -/
theorem mine_of_string (w : World) (u : TypeId) (s : ByteArray) (hs : s.size ≤ 1099511627776) : Mine (Lib.bytesWorld w u s) u w.heap.size (.slice (some ⟨w.heap.size, 0, none⟩) s.size (grownCap w s.size 0 u)) s.data.toList := by
  have hh := Lib.bytesWorld_at_new w u s
  have hge := grownCap_ge w s.size 0 u
  have hle := grownCap_le_maxLen w s.size 0 u (by unfold maxLen; omega)
  have hcs : (Lib.bytesCells w u s).size = grownCap w s.size 0 u := by
    simp only [Lib.bytesCells, Array.size_append, Array.size_map, Array.size_replicate]
    have : s.data.size = s.size := rfl
    omega
  refine .inr ⟨w.heap.size, _, rfl, Nat.le_refl _, ⟨_, _, hh⟩, by simpa using hge, hle, fun j hj => ⟨?_, ?_⟩, fun j hj => ?_⟩
  · rw [cell_of_row _ _ j _ _ _ hh]
    have : j < (Lib.bytesCells w u s).size := by omega
    simp [this]
  · simp [World.frozen?, hh, hcs]
    omega
  · exact Lib.bytesWorld_cell w u s j (by simpa using hj)
end
end Go.Proofs.YtieepdhajjibpaaDoor
