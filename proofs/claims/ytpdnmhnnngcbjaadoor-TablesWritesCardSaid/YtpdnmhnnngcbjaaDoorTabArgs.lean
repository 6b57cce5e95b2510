
/- What the rows' condition gives a walk: the four variables; a start that meets it. -/
import Derived.Test.YtpdnmhnnngcbjaaDoorTabPlain
import Derived.Test.YtpdnmhnnngcbjaaDoorTie
import Derived.Test.YtpdnmhnnngcbjaaDoorCards
import Derived.Lib.LaidTab
import Derived.Stop.LaidErr
import Derived.LaidMore
import Derived.LaidOnce
import Derived.SevenTiedAt
namespace Go.Proofs.YtpdnmhnnngcbjaaDoor
open Go.ChangeShapes Go.WideShapes Go.ChangeAt Go.RowKit

/-- What the rows list. -/
def laidL : List (String × DataW Unit) := Rows.tablesRowRow.laid
/-- The names. -/
def nm0 : String := ((laidL[0]?).map (·.1)).getD ""
def nm1 : String := ((laidL[1]?).map (·.1)).getD ""
def nm2 : String := ((laidL[2]?).map (·.1)).getD ""
def nm3 : String := ((laidL[3]?).map (·.1)).getD ""
/-- A row of ints, laid with no room behind. -/
def rowD {H : Type} (zs : List Int) : DataW H := .slice (lits .i64 zs) []
theorem laidL_tab : laidL = [(nm0, Lib.tabData .i64 [35, 31, 52]), (nm1, Lib.tabData .i64 [6, 5, 6]), (nm2, .agg (((List.range 3).map partsN).map rowD)), (nm3, Lib.tabData .i64 [9, 8, 9])] := by kernel_rfl

theorem door_met (os : Os) (args : Array Value) : laidMetH Tryd.prog laidL ((World.doorLaid Tryd.prog 400 os).forCall (fun _ _ => 0) ⟨#[], args, []⟩).memory :=
  laidMetH_of_parts3 (fuel := 8) (laidMet_of_run' 8 (by kernel_rfl) (by kernel_rfl)) (by kernel_rfl) (by kernel_rfl)

theorem lits_inj {H : Type} {k : IntKind} : ∀ {a b : List Int}, (lits k a : List (DataW H)) = lits k b → a = b
  | [], [], _ => rfl
  | [], y :: b, h => by simp [lits] at h
  | x :: a, [], h => by simp [lits] at h
  | x :: a, y :: b, h => by
    simp only [lits, List.map_cons, List.cons.injEq, DataW.lit.injEq, Lit.int.injEq, true_and] at h
    rw [h.1, lits_inj (H := H) (k := k) h.2]

/-- A table of rows: row for row. -/
theorem rows_of_tab {enc : TypeId × Value → Unit} {w : World} {held : Bool} {fuel : Nat} {t e f : TypeId} {n : Nat} {cs : List Value} {zss : List (List Int)} {p : List MemPlace}
    (ht : Tryd.prog.underlying t = some (.array n e)) (he : Tryd.prog.underlying e = some (.slice f)) (hf : Tryd.prog.underlying f = some (.int .i64)) (hcf : Tryd.prog.cellsOf f = 1) (hce : Tryd.prog.cellsOf e = 1) (hct : Tryd.prog.cellsOf t = n)
    (h : DataW.trod enc Tryd.prog w 0 (fun _ => true) held fuel t cs = some (.agg (zss.map rowD), p)) :
    ∀ i, i < n → ∃ zs, zss[i]? = some zs ∧ (0 < zs.length → ∃ a, (cs.drop i).take 1 = [.slice (some a) zs.length zs.length] ∧ DatE icel w 0 w.heap.size (some a) zs) := by
  cases fuel with
  | zero => simp [DataW.trod] at h
  | succ fuel =>
    simp only [DataW.trod, ht, hce, hct, Nat.mul_one] at h
    split at h
    · obtain ⟨xs, hm, hx⟩ := Option.map_eq_some_iff.1 h
      have hxs : xs.map (·.1) = zss.map rowD := by
        have := congrArg Prod.fst hx
        simpa using this
      intro i hi
      obtain ⟨b, hb, hfb⟩ := Lib.mapM_at hm i i (by simp [hi])
      have h2 : (xs.map (·.1))[i]? = some b.1 := by simp [hb]
      rw [hxs, List.getElem?_map] at h2
      obtain ⟨zs, hz, hzb⟩ := Option.map_eq_some_iff.1 h2
      obtain ⟨b1, b2⟩ := b
      obtain rfl : rowD zs = b1 := hzb
      refine ⟨zs, hz, fun h0 => ?_⟩
      rcases open_ints he hf hcf hfb with ⟨_, hx⟩ | ⟨a, l, c, ys, hcs, _, hl, hmx, hyl, hx, hcell, _⟩
      · have := congrArg Prod.fst hx
        simp [rowD] at this
      · have h3 := congrArg Prod.fst hx
        simp only [rowD, DataW.slice.injEq] at h3
        have h4 : zs = ys.take l := lits_inj h3.1
        have h5 : ys.drop l = [] := by
          have := congrArg List.length h3.2
          simp [lits] at this
          exact List.drop_of_length_le (by omega)
        have h6 : ys.length ≤ l := by simpa using h5
        simp only [if_true] at hyl
        have h7 : zs = ys := by rw [h4, List.take_of_length_le h6]
        subst h7
        obtain rfl : l = zs.length := by omega
        obtain rfl : c = zs.length := by omega
        refine ⟨a, hcs, fun _ => ?_⟩
        obtain ⟨d, off, rfl, hc'⟩ := ints_at hcell h0
        have hlt := World.block_lt_of_cell? w _ (hc' 0 h0)
        refine ⟨d, off, rfl, Nat.zero_le _, hlt, fun j hj => ?_⟩
        rw [hc' j hj]
        simp [icel, List.getD, hj]
    · cases h

theorem parts_cells {W : World} {rest : List (String × DataW Unit)} (h : laidMet Tryd.prog ((nm2, .agg (((List.range 3).map partsN).map rowD)) :: rest) W) :
    ∀ k, k < 3 → ∃ A, W.cell? ⟨2, k, none⟩ = some (.slice (some A) (partsN k).length (partsN k).length) ∧ DatE icel W 0 W.heap.size (some A) (partsN k) := by
  obtain ⟨ps, ⟨g', t', cs, fuel, p, q, hg', ht', hvar, hd, _, _⟩, _⟩ := h
  have hg : Tryd.prog.globalNamed nm2 = some 2 := by kernel_rfl
  obtain rfl := Option.some.inj (hg.symm.trans hg')
  obtain rfl := Option.some.inj ((show (Tryd.prog.globals[2]?).map (·.type) = some 102 by kernel_rfl).symm.trans ht')
  have hc := rows_of_tab (n := 3) Tryd.underlying102 Tryd.underlying22 Tryd.underlying3 (by kernel_rfl) (by kernel_rfl) (by kernel_rfl) hd
  intro k hk
  obtain ⟨zs, hz, hr⟩ := hc k hk
  have hzz : zs = partsN k := by
    rw [List.getElem?_map, List.getElem?_range hk] at hz
    exact (Option.some.inj hz).symm
  subst hzz
  obtain ⟨a, hcs, hda⟩ := hr (by rw [parts_len k hk]; omega)
  refine ⟨a, ?_, hda⟩
  have h1 := World.var?_cell hg hvar k
  have h2 : ((cs.toList.drop k).take 1)[0]? = cs[k]? := by rw [List.getElem?_take, if_pos (by decide), List.getElem?_drop, Nat.add_zero, Array.getElem?_toList]
  rw [hcs] at h2
  rw [h1, ← h2]
  rfl

theorem glob_of_laid {W : World} (h : laidMetH Tryd.prog laidL W) : Glob W.heap.size W := by
  have h0 : laidMet Tryd.prog laidL W := h
  rw [laidL_tab] at h0
  have t0 := Lib.tabIs_of_head (show Tryd.prog.globalNamed nm0 = some 3 by kernel_rfl) (show (Tryd.prog.globals[3]?).map (·.type) = some 74 by kernel_rfl) Tryd.underlying74 Tryd.underlying3 (by kernel_rfl) (by kernel_rfl) h0
  have t1 := Lib.tabIs_of_head (show Tryd.prog.globalNamed nm1 = some 1 by kernel_rfl) (show (Tryd.prog.globals[1]?).map (·.type) = some 74 by kernel_rfl) Tryd.underlying74 Tryd.underlying3 (by kernel_rfl) (by kernel_rfl) h0.tail
  have t3 := Lib.tabIs_of_head (show Tryd.prog.globalNamed nm3 = some 0 by kernel_rfl) (show (Tryd.prog.globals[0]?).map (·.type) = some 74 by kernel_rfl) Tryd.underlying74 Tryd.underlying3 (by kernel_rfl) (by kernel_rfl) h0.tail.tail.tail
  have c0 := fun i (hi : i < 3) => Lib.TabIs.cell t0 (show Tryd.prog.globalNamed nm0 = some 3 by kernel_rfl) i hi
  have c1 := fun i (hi : i < 3) => Lib.TabIs.cell t1 (show Tryd.prog.globalNamed nm1 = some 1 by kernel_rfl) i hi
  have c3 := fun i (hi : i < 3) => Lib.TabIs.cell t3 (show Tryd.prog.globalNamed nm3 = some 0 by kernel_rfl) i hi
  have f0 : ∀ k, k < 3 → ([35, 31, 52] : List Int).getD k 0 = (lastN k : Int) := by decide
  have f1 : ∀ k, k < 3 → ([6, 5, 6] : List Int).getD k 0 = (logN k : Int) := by decide
  have f3 : ∀ k, k < 3 → ([9, 8, 9] : List Int).getD k 0 = (mostN k : Int) := by decide
  have p2 := parts_cells h0.tail.tail
  refine ⟨fun k hk => (c0 k hk).trans (by rw [f0 k hk]), fun k hk => (c1 k hk).trans (by rw [f1 k hk]), fun k hk => (c3 k hk).trans (by rw [f3 k hk]), p2, ?_, Nat.le_refl _⟩
  obtain ⟨A2, q2, _⟩ := p2 0 (by decide)
  have b0 : (3 : Nat) < W.heap.size := World.block_lt_of_cell? W _ (c0 0 (by decide))
  have b1 : (1 : Nat) < W.heap.size := World.block_lt_of_cell? W _ (c1 0 (by decide))
  have b2 : (2 : Nat) < W.heap.size := World.block_lt_of_cell? W _ q2
  have b3 : (0 : Nat) < W.heap.size := World.block_lt_of_cell? W _ (c3 0 (by decide))
  omega
end Go.Proofs.YtpdnmhnnngcbjaaDoor
