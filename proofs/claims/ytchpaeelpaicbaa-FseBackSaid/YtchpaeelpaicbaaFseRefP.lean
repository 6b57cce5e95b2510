
/- What the document's Build holds while it runs, and plain lemmas for it. -/
import Derived.Test.YtchpaeelpaicbaaFseFirst
import Derived.Test.YtchpaeelpaicbaaNormRefM
namespace Go.Proofs.Ytchpaeelpaicbaa
open Go.RowKit

theorem cnt_succ (sy : List Nat) (i : Nat) (h : i < sy.length) : (fun s => if s = sy.getD i 0 then (sy.take i).count (sy.getD i 0) + 1 else (sy.take i).count s) = fun s => (sy.take (i + 1)).count s := by
  funext s
  rw [count_take_succ sy i s h]
  by_cases e : s = sy.getD i 0
  · rw [if_pos e, e, if_pos rfl]
  · rw [if_neg e, if_neg (fun q => e q.symm)]; rfl
theorem ref_info : (Try.prog.info? 84).map (fun i => (i.zero, i.size, i.bytes)) = some (some (.agg #[.int .i64 0, .int .i64 0, .int .i64 0]), 3, 24) := by kernel_rfl

/-- A slice of records in a box of two cells, appended to and stored back. -/
theorem pushR_facts {α : Type} {z : Nat} {f : α → List Value} {wx w2 : World} {u b : Nat} {t : TypeId} {x v v1 : Value} {xs ys : List α} {o : Obj} (hb : Box wx b t #[x, v]) (ho : OwR z f wx u (b + 1) v xs) (ho1 : OwR z f w2 u (b + 1) v1 ys) (hg : (wx.alloc o).grownBy w2 v.ownBlock) :
    w2.cell? ⟨b, 0, none⟩ = some x ∧ w2.cell? ⟨b, 1, none⟩ = some v ∧ w2.frozen? ⟨b, 1, none⟩ = false ∧
    Hid (Box (w2.setCell ⟨b, 1, none⟩ v1) b t #[x, v1] ∧ OwR z f (w2.setCell ⟨b, 1, none⟩ v1) u (b + 1) v1 ys ∧ Below b wx (w2.setCell ⟨b, 1, none⟩ v1)) := by
  have hne : some b ≠ v.ownBlock := fun e => by have := (ho.block b e.symm).1; omega
  have hb2 : Box w2 b t #[x, v] := (hb.alloc o).grown hg hne
  have hlt := hb.lt
  refine ⟨hb2.cell 0, hb2.cell 1, hb2.free 1, hb2.put 1 v1, ?_, ?_⟩
  · exact ho1.keep fun k hk => Below.heap_setCell _ _ _ k (by have := (ho1.block k hk).1; simp; omega)
  · have hB : Below b wx (wx.alloc o) := (Below.refl _ _).alloc (by omega) _
    exact (hB.grown hg (by simp; omega) (fun k hk => by have := (ho.block k hk).1; omega)).setCell (Nat.le_refl _) _

/-- What it holds: the counts, the result, the table, the entries; g: the table's block. -/
structure RB (w wx : World) (g l : Nat) (A : Option Addr) (m cp : Nat) (v : Value) (es : List En) : Prop where
  cb : Box wx w.heap.size 37 #[.int .i64 (l : Int), .slice A m cp]
  rb : Box wx (w.heap.size + 1) 34 #[.int .i64 0, .slice none 0 0]
  tb : Box wx g 34 #[.int .i64 (l : Int), v]
  es : OwR 3 rcell wx 84 (g + 1) v es
  below : Below w.heap.size w wx
  hg : w.heap.size + 2 ≤ g

section
variable {w wx wy : World} {g l : Nat} {A : Option Addr} {m cp : Nat} {v : Value} {es : List En}
theorem RB.push {v1 : Value} {es1 : List En} (h : RB w wx g l A m cp v es) (hk : Box wy g 34 #[.int .i64 (l : Int), v1] ∧ OwR 3 rcell wy 84 (g + 1) v1 es1 ∧ Below g wx wy) : RB w wy g l A m cp v1 es1 :=
  have hs := h.hg
  ⟨h.cb.below hk.2.2 (by omega), h.rb.below hk.2.2 (by omega), hk.1, hk.2.1, h.below.trans (hk.2.2.mono (by omega)), hs⟩
theorem RB.alloc (h : RB w wx g l A m cp v es) (o : Obj) : RB w (wx.alloc o) g l A m cp v es :=
  ⟨h.cb.alloc o, h.rb.alloc o, h.tb.alloc o, h.es.alloc o, h.below.alloc h.below.size o, h.hg⟩
theorem RB.aside {d n c b : Nat} (h : RB w wx g l A m cp (.slice (some ⟨d, 0, none⟩) n c) es) (hb : g < b) (hd : d ≠ b) (i : Nat) (x : Value) : RB w (wx.setCell ⟨b, i, none⟩ x) g l A m cp (.slice (some ⟨d, 0, none⟩) n c) es := by
  have hs := h.hg
  exact ⟨h.cb.far (by show w.heap.size ≠ b; omega) _, h.rb.far (by show w.heap.size + 1 ≠ b; omega) _, h.tb.far (by show g ≠ b; omega) _, h.es.aside hd _ _, h.below.setCell (by show w.heap.size ≤ b; omega) _, hs⟩
theorem RB.drewR (h : RB w wx g l A m cp v es) : RB w wx.drew g l A m cp v es := ⟨h.cb, h.rb, h.tb, h.es, h.below.drew, h.hg⟩
/-- One cell of one entry is stored. -/
theorem RB.put {d n c : Nat} (h : RB w wx g l A m cp (.slice (some ⟨d, 0, none⟩) n c) es) (j i : Nat) (hj : j < es.length) (hi : i < 3) (x : Value) (y : En) (hy : rcell y = (rcell es[j]).set i x) :
    RB w (wx.setCell ⟨d, j * 3 + i, none⟩ x) g l A m cp (.slice (some ⟨d, 0, none⟩) n c) (es.set j y) := by
  have hdb := (h.es.block d rfl).1
  have hs := h.hg
  exact ⟨h.cb.far (by show w.heap.size ≠ d; omega) _, h.rb.far (by show w.heap.size + 1 ≠ d; omega) _, h.tb.far (by show g ≠ d; omega) _, h.es.put rcell_len j i hj hi x y hy, h.below.setCell (by show w.heap.size ≤ d; omega) _, hs⟩
theorem RB.cells {d n c : Nat} (h : RB w wx g l A m cp (.slice (some ⟨d, 0, none⟩) n c) es) (j : Nat) (hj : j < es.length) :
    (wx.cell? ⟨d, j * 3, none⟩ = some (.int .i64 es[j].s) ∧ wx.cell? ⟨d, j * 3 + 1, none⟩ = some (.int .i64 es[j].b) ∧ wx.cell? ⟨d, j * 3 + 2, none⟩ = some (.int .i64 es[j].e)) ∧
    wx.frozen? ⟨d, j * 3, none⟩ = false ∧ wx.frozen? ⟨d, j * 3 + 1, none⟩ = false ∧ wx.frozen? ⟨d, j * 3 + 2, none⟩ = false := by
  have h0 := h.es.cellAt rcell_len j 0 hj (by decide) _ rfl
  have h1 := h.es.cellAt rcell_len j 1 hj (by decide) _ rfl
  have h2 := h.es.cellAt rcell_len j 2 hj (by decide) _ rfl
  exact ⟨⟨h0.1, h1.1, h2.1⟩, h0.2, h1.2, h2.2⟩
end

/-- An entry of a symbol whose numbers aren't known yet. -/
def raw (s : Nat) : En := ⟨s, 0, 0⟩
def none1 : En := ⟨-1, 0, 0⟩
/-- Where the walk stands when the first k symbols are laid, and j states of the next one. -/
def atE (l : Nat) (ps : List Int) (k j : Nat) : List En × Nat := lay (2 ^ l) (fe l ps) (List.replicate (fe l ps) none1 ++ (rr ps ps.length).map raw) ((ot ps k ++ List.replicate j k).map raw)
theorem atE_zero (l : Nat) (ps : List Int) : atE l ps 0 0 = (List.replicate (fe l ps) none1 ++ (rr ps ps.length).map raw, 0) := rfl
theorem atE_next (l : Nat) (ps : List Int) (k : Nat) : atE l ps (k + 1) 0 = atE l ps k (ps.getD k 0).toNat := by
  unfold atE
  rw [List.replicate_zero, List.append_nil, ot]
theorem atE_step (l : Nat) (ps : List Int) (k j : Nat) : atE l ps k (j + 1) = ((atE l ps k j).1.set (atE l ps k j).2 (raw k), skip (2 ^ l) (fe l ps) (2 ^ l) (nx (2 ^ l) (atE l ps k j).2)) := by
  unfold atE
  rw [List.replicate_succ', ← List.append_assoc, List.map_append, List.map_singleton, lay_snoc]
  rfl
section
variable {l : Nat} {ps : List Int}
theorem MayF.baseE (h : MayF l ps) : (List.replicate (fe l ps) none1 ++ (rr ps ps.length).map raw).length = 2 ^ l := h.base_len none1 raw
theorem MayF.atE_bd (h : MayF l ps) (k j : Nat) (hk : k < ps.length) (hj : j ≤ (ps.getD k 0).toNat) :
    (atE l ps k j).1.length = 2 ^ l ∧ (0 < fe l ps → (atE l ps k j).2 < fe l ps) ∧ (0 < (ps.getD k 0).toNat → 0 < fe l ps) := by
  have h1 := ot_mono ps (show k + 1 ≤ ps.length by omega)
  rw [ot, List.length_append, List.length_replicate, h.fe_eq] at h1
  have hS : ((ot ps k ++ List.replicate j k).map raw).length ≤ fe l ps := by rw [List.length_map, List.length_append, List.length_replicate]; omega
  refine ⟨lay_len h.l5 h.fe_le.1 _ h.baseE _ hS, fun h0 => lay_below h.l5 h.fe_le.1 h0 _ h.baseE _ hS, fun h0 => by omega⟩
/-- What is laid at last: the symbols of all states. -/
theorem MayF.atE_all (h : MayF l ps) : (atE l ps ps.length 0).1 = (syms l ps).map raw := by
  unfold atE syms
  rw [List.replicate_zero, List.append_nil]
  refine lay_map h.l5 h.fe_le.1 raw _ _ (by simpa using h.base_len 0 id) h.baseE ?_ _ h.fe_eq
  rw [List.drop_left' (by simp), List.drop_left' (by simp)]
end
/-- The entries whose numbers are known up to state i. -/
def mid (T : List En) (sy : List Nat) (i : Nat) : List En := T.take i ++ (sy.map raw).drop i
theorem mid_zero (T : List En) (sy : List Nat) : mid T sy 0 = sy.map raw := by simp [mid]
theorem mid_all (T : List En) (sy : List Nat) (h : T.length = sy.length) : mid T sy T.length = T := by
  unfold mid
  rw [List.take_length, List.drop_of_length_le (by simp; omega), List.append_nil]
theorem mid_length (T : List En) (sy : List Nat) (h : T.length = sy.length) (i : Nat) (hi : i ≤ T.length) : (mid T sy i).length = T.length := by
  unfold mid
  simp
  omega
theorem mid_get (T : List En) (sy : List Nat) (h : T.length = sy.length) (i : Nat) (hi : i < T.length) : (mid T sy i)[i]'(by rw [mid_length T sy h i (by omega)]; exact hi) = raw (sy.getD i 0) := by
  have hl : (T.take i).length = i := by simp; omega
  have hs : i < sy.length := by omega
  unfold mid
  rw [List.getElem_append_right (by omega)]
  simp only [hl, Nat.sub_self, List.getElem_drop, List.getElem_map, Nat.add_zero]
  rw [getD_of _ _ _ hs]
theorem mid_set (T : List En) (sy : List Nat) (h : T.length = sy.length) (i : Nat) (hi : i < T.length) : (mid T sy i).set i T[i] = mid T sy (i + 1) := by
  have hl : (T.take i).length = i := by simp; omega
  have hs : i < (sy.map raw).length := by simp; omega
  unfold mid
  rw [List.set_append_right _ _ (by omega), hl, Nat.sub_self, List.drop_eq_getElem_cons hs, List.set_cons_zero, List.take_succ_eq_append_getElem hi, List.append_assoc]
  rfl
end Go.Proofs.Ytchpaeelpaicbaa
