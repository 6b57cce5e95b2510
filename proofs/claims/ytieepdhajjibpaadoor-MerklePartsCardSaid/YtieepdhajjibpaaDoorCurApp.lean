
/- Appending bytes to a slice that the call itself owns, whatever the source (nil, empty or not); a slice of bytes turned into a string. Nothing of the program is named here. -/
import Derived.Test.YtieepdhajjibpaaDoorCurPlain
import Derived.Maps.AppendAt
import Derived.Deep.AppendLies
import Derived.Deep.RegionLaw
import Derived.RegionTactic
import Derived.OwnWalk
import Derived.Laws.BytesArg
namespace Go.Proofs.YtieepdhajjibpaaDoor
open Go.RowKit

/-- The slice v is the call's own (blocks from base on) and holds the bytes xs; u: the number of the type uint8. -/
def OwB (w : World) (u base : Nat) (v : Value) (xs : List UInt8) : Prop := w.ownsRow base u 1 v xs.length (xs.map cel)

section
variable {P : Program} {w w' : World} {u base lo hi : Nat} {own : Bool} {v : Value} {xs ys : List UInt8} {A : Option Addr} {m c : Nat}
theorem OwB.nil (w : World) (u base : Nat) : OwB w u base (.slice none 0 0) [] := World.ownsRow_nil w base u 1
theorem OwB.alloc (h : OwB w u base v xs) (o : Obj) : OwB (w.alloc o) u base v xs := World.ownsRow.alloc h o
theorem OwB.grown {row : Option Nat} (h : OwB w u base v xs) (hg : w.grownBy w' row) (hne : v.ownBlock = none ∨ v.ownBlock ≠ row) : OwB w' u base v xs := World.ownsRow.kept h hg hne
theorem OwB.drew (h : OwB w u base v xs) : OwB w.drew u base v xs := h
/-- As a slice that reads as these bytes. -/
theorem OwB.form (h : OwB w u base v xs) : ∃ A c, v = .slice A xs.length c ∧ xs.length ≤ c ∧ Dat true w base w.heap.size A xs := by
  rcases h.2 with ⟨rfl, h0⟩ | ⟨g, cap, cur, rfl, hb, hh, hnc, _, _, ht⟩
  · have : xs = [] := List.eq_nil_of_length_eq_zero h0
    subst this
    exact ⟨none, 0, rfl, by simp, Dat.nil _ _ _ _ _⟩
  · refine ⟨_, cap, rfl, hnc, fun hx => ⟨g, 0, rfl, hb, (Array.getElem?_eq_some_iff.1 hh).1, fun j hj => ?_, fun _ j => ?_⟩⟩
    · have hc := World.ownsRow.cells h (g := g) rfl j (cel xs[j]) (by simp [hj])
      have ha : (⟨g, 0, none⟩ : Addr).add j = ⟨g, 0 + j, none⟩ := by unfold Addr.add; split <;> simp_all
      rw [ha] at hc
      simpa [List.getD, hj] using hc
    · simp [World.frozen?, hh]
theorem OwB.block (h : OwB w u base v xs) : ∀ k, v.ownBlock = some k → base ≤ k ∧ k < w.heap.size := World.ownsRow.lt h
theorem OwB.ne_box {g : Nat} {t : TypeId} {cs : Array Value} (h : OwB w u base v xs) (hg : Box w g t cs) (hne : u ≠ t) : v.ownBlock ≠ some g := by
  rcases h.2 with ⟨rfl, _⟩ | ⟨g', cap, cur, rfl, _, hh, _⟩
  · simp [Value.ownBlock]
  · intro he
    have : g' = g := by simpa [Value.ownBlock] using he
    subst this
    unfold Box at hg
    rw [hg] at hh
    injection hh with hh
    injection hh with _ ht
    exact hne ht.symm

theorem run_app_none (t ty : TypeId) (i : TypeInfo) (ht : P.underlying t = some (.slice u)) (hn : P.info? u = some i) (h : OwB w u base v xs) :
    (Builtin.append_ #[t, t] ty #[v, .slice none 0 c]).run P w = .ok v w := by
  rcases h.2 with ⟨rfl, h0⟩ | ⟨g, cap, cur, rfl, _, _, hnc, _⟩
  · simp [Builtin.append_, run_underlying ht, sizeOf, typeInfo, hn, Builtin.lenOf, Builtin.firstCells]
  · simp [Builtin.append_, run_underlying ht, sizeOf, typeInfo, hn, Builtin.lenOf, Builtin.firstCells, hnc, storeCells]

theorem run_app (w : World) (t ty : TypeId) (i : TypeInfo) (ht : P.underlying t = some (.slice u)) (hn : P.info? u = some i) (hz : i.zero = some (.int .u8 0)) (hsize : i.size = 1) (hby : i.bytes = 1)
    (h : OwB w u base v xs) (hd : Dat own w lo hi A ys) (hm : ys.length = m) (hb : xs.length + m ≤ 1099511627776) (hbase : base ≤ w.heap.size) :
    ∃ v' w', (Builtin.append_ #[t, t] ty #[v, .slice A m c]).run P w = .ok v' w' ∧ OwB w' u base v' (xs ++ ys) ∧ w.grownBy w' v.ownBlock ∧ (v'.ownBlock = v.ownBlock ∨ v'.ownBlock = some w.heap.size) := by
  subst hm
  rcases A with _ | ad
  · have hy : ys = [] := by
      rcases ys with _ | ⟨y, r⟩
      · rfl
      · obtain ⟨_, _, h', _⟩ := hd (by simp)
        cases h'
    subst hy
    exact ⟨v, w, run_app_none t ty i ht hn h, by simpa using h, World.grownBy.refl w _, .inl rfl⟩
  · have hcells : ∀ j x, (ys.map cel)[j]? = some x → w.cell? (ad.add j) = some x := by
      intro j x hx
      have hj : j < ys.length := by
        rcases Nat.lt_or_ge j ys.length with h1 | h1
        · exact h1
        · simp [List.getElem?_eq_none h1] at hx
      obtain ⟨d, o, hA, _, _, hc, _⟩ := hd (by omega)
      injection hA with hA
      subst hA
      have ha : (⟨d, o, none⟩ : Addr).add j = ⟨d, o + j, none⟩ := by unfold Addr.add; split <;> simp_all
      rw [ha, hc j hj, ← hx]
      simp [List.getD, hj]
    obtain ⟨v', w', hrun, h2, h3, _, h5⟩ := run_append_own_at (P := P) w base t ty u i _ 1 1 ht hn hz hsize hby rfl (by omega) v xs.length (xs.map cel) h ad ys.length c (ys.map cel) (by simp) hcells
      (by intro x hx; obtain ⟨y, _, rfl⟩ := List.mem_map.1 hx; rfl) (by unfold maxLen; omega) (by omega) hbase
    refine ⟨v', w', hrun, ?_, h3, h5⟩
    unfold OwB
    rw [List.map_append, List.length_append]
    exact h2

theorem wp_app {o : Oper} {a : Act} {K : Act → World → Prop} {Q : Exit → Act → World → Prop} (w : World) (s x : Operand) (t : TypeId)
    (ho : o.op = .call { callee := .builtin .append, args := #[s, x], argTypes := #[t, t] })
    (i : TypeInfo) (ht : P.underlying t = some (.slice u)) (hn : P.info? u = some i) (hz : i.zero = some (.int .u8 0)) (hsize : i.size = 1) (hby : i.bytes = 1)
    (hs : a.eval s = v) (h : OwB w u base v xs) (hx : a.eval x = .slice A m c) (hd : Dat own w lo hi A ys) (hm : ys.length = m) (hb : xs.length + m ≤ 1099511627776) (hbase : base ≤ w.heap.size)
    (hK : ∀ v' w', OwB w' u base v' (xs ++ ys) → w.grownBy w' v.ownBlock → (v'.ownBlock = v.ownBlock ∨ v'.ownBlock = some w.heap.size) → K (a.put o.dst v') w') : o.wp P a w K Q := by
  obtain ⟨v', w', hrun, h2, h3, h4⟩ := run_app (P := P) (c := c) w t o.type i ht hn hz hsize hby h hd hm hb hbase
  unfold Oper.wp execOp
  simp only [ho, resolve, invoke, builtin, Sem.run_bind, Sem.run_pure, Result.andThen_ok, List.map_toArray, List.map_cons, List.map_nil, hs, hx, hrun]
  exact hK v' w' h2 h3 h4

theorem list_app {ops : Array Oper} {rest : List Oper} {o : Oper} {a : Act} {Q : Exit → Act → World → Prop} (w : World) (hgd : o.guard = none) (s x : Operand) (t : TypeId)
    (ho : o.op = .call { callee := .builtin .append, args := #[s, x], argTypes := #[t, t] })
    (i : TypeInfo) (ht : P.underlying t = some (.slice u)) (hn : P.info? u = some i) (hz : i.zero = some (.int .u8 0)) (hsize : i.size = 1) (hby : i.bytes = 1)
    (hs : a.eval s = v) (h : OwB w u base v xs) (hx : a.eval x = .slice A m c) (hd : Dat own w lo hi A ys) (hm : ys.length = m) (hb : xs.length + m ≤ 1099511627776) (hbase : base ≤ w.heap.size)
    (hK : ∀ v' w', OwB w' u base v' (xs ++ ys) → w.grownBy w' v.ownBlock → (v'.ownBlock = v.ownBlock ∨ v'.ownBlock = some w.heap.size) → wpList P ops Q rest (a.put o.dst v') w') : wpList P ops Q (o :: rest) a w :=
  wpList_plain hgd fun _ hKK => wp_app w s x t ho i ht hn hz hsize hby hs h hx hd hm hb hbase fun v' w' h2 h3 h4 => hKK _ _ (hK v' w' h2 h3 h4)

theorem step_app {ops : Array Oper} {o : Oper} {a : Act} {K : Act → World → Prop} {Q : Exit → Act → World → Prop} {E : Prop} (w : World) (hgd : o.guard = none) (s x : Operand) (t : TypeId)
    (ho : o.op = .call { callee := .builtin .append, args := #[s, x], argTypes := #[t, t] })
    (i : TypeInfo) (ht : P.underlying t = some (.slice u)) (hn : P.info? u = some i) (hz : i.zero = some (.int .u8 0)) (hsize : i.size = 1) (hby : i.bytes = 1)
    (hs : a.eval s = v) (h : OwB w u base v xs) (hx : a.eval x = .slice A m c) (hd : Dat own w lo hi A ys) (hm : ys.length = m) (hb : xs.length + m ≤ 1099511627776) (hbase : base ≤ w.heap.size)
    (hK : ∀ v' w', OwB w' u base v' (xs ++ ys) → w.grownBy w' v.ownBlock → (v'.ownBlock = v.ownBlock ∨ v'.ownBlock = some w.heap.size) → K (a.put o.dst v') w') :
    if Region.wanted o (yielded ops a.tmps) = true then Oper.wp P o a w K Q else E := by
  have hw : Region.wanted o (yielded ops a.tmps) = true := by simp [Region.wanted, hgd]
  rw [if_pos hw]
  exact wp_app w s x t ho i ht hn hz hsize hby hs h hx hd hm hb hbase hK

/-- Bytes as a string. -/
def str (xs : List UInt8) : ByteArray := ⟨xs.toArray⟩
theorem run_str (w : World) (src : TypeId) (hs : P.underlying src = some (.slice u)) (he : P.underlying u = some (.int .u8)) (hd : Dat own w lo hi A xs) (hm : xs.length = m) :
    ∀ dst, P.underlying dst = some .string → (convert src dst (.slice A m c)).run P w = .ok (.string (str xs)) w := by
  intro dst hds
  subst hm
  rcases xs with _ | ⟨x, r⟩
  · rw [run_convert_bytes_string w src dst u A _ c hs he hds]
    cases A <;> simp [Conv.bytesToString, str, loadCells, loadCellsFrom, Sem.run_pure] <;> rfl
  · obtain ⟨d, o, rfl, _, _, hc, _⟩ := hd (by simp)
    have := run_convert_bytes_arg (P := P) w src u hs he d o (x :: r).length c ((x :: r).map fun b => (b.toNat : Int)) (by simp) (fun j hj => by
      rw [hc j hj]
      unfold cel
      rw [List.getD_eq_getElem?_getD, List.getD_eq_getElem?_getD, List.getElem?_map, List.getElem?_eq_getElem hj]
      rfl) dst hds
    rw [this]
    congr 2
    unfold strOfNums str
    congr 2
    rw [List.map_map]
    conv => rhs; rw [← List.map_id (x :: r)]
    apply List.map_congr_left
    intro b _
    simp
end
end Go.Proofs.YtieepdhajjibpaaDoor
