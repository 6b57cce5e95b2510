
/- What the rows' condition gives a walk: the two tables; a start that meets it; the bounds of numbers that come in. -/
import Derived.Test.YtmominbmalhdoaaDoorFrmProg
import Derived.Test.YtmominbmalhdoaaDoorArgs
import Derived.Test.YtmominbmalhdoaaDoorTie
import Derived.Test.YtmominbmalhdoaaDoorCards
import Derived.Lib.LaidTab
import Derived.Stop.LaidErr
import Derived.LaidMore
import Derived.LaidOnce
import Derived.SevenTiedAt
namespace Go.Proofs.YtmominbmalhdoaaDoor
open Go.ChangeShapes Go.WideShapes Go.ChangeAt Go.RowKit

theorem u32_bounds {n : Int} (h : (Lit.int .u32 n).wf = true) : 0 ≤ n ∧ n ≤ 4294967295 := by simpa [Lit.wf, IntKind.min, IntKind.max, IntKind.signed, IntKind.bits] using h

/-- What the rows list. -/
def laidL : List (String × DataW Unit) := Rows.frameReadsRow.laid
/-- The names. -/
def nm0 : String := ((laidL[0]?).map (·.1)).getD ""
def nm1 : String := ((laidL[1]?).map (·.1)).getD ""
/-- A form as the row lists it. -/
def formD {H : Type} (k : Nat) : DataW H := .agg [.lit (.int .i64 (swN k : Int)), .lit (.int .u64 (frN k : Int))]
theorem laidL_tab : laidL = [(nm0, Lib.tabData .i64 [0, 1, 2, 4]), (nm1, .agg ((List.range 4).map formD))] := by kernel_rfl

theorem door_met (os : Os) (args : Array Value) : laidMetH Tryd.prog laidL ((World.doorLaid Tryd.prog 400 os).forCall (fun _ _ => 0) ⟨#[], args, []⟩).memory :=
  laidMetH_of_parts3 (fuel := 8) (laidMet_of_run' 8 (by kernel_rfl) (by kernel_rfl)) (by kernel_rfl) (by kernel_rfl)

/-- The second table, cell for cell. -/
theorem form_cells {W : World} {rest : List (String × DataW Unit)} (h : laidMet Tryd.prog ((nm1, .agg ((List.range 4).map formD)) :: rest) W) :
    ∀ k, k < 4 → W.cell? ⟨1, k * 2, none⟩ = some (.int .i64 (swN k : Int)) ∧ W.cell? ⟨1, k * 2 + 1, none⟩ = some (.int .u64 (frN k : Int)) := by
  obtain ⟨ps, ⟨g', t', cs, fuel, p, q, hg', ht', hvar, hd, _, _⟩, _⟩ := h
  have hg : Tryd.prog.globalNamed nm1 = some 1 := by kernel_rfl
  obtain rfl := Option.some.inj (hg.symm.trans hg')
  obtain rfl := Option.some.inj ((show (Tryd.prog.globals[1]?).map (·.type) = some 60 by kernel_rfl).symm.trans ht')
  intro k hk
  cases fuel with
  | zero => simp [DataW.trod] at hd
  | succ fuel =>
    have hce : Tryd.prog.cellsOf 59 = 2 := by kernel_rfl
    have hct : Tryd.prog.cellsOf 60 = 8 := by kernel_rfl
    simp only [DataW.trod, Tryd.underlying60, hce, hct] at hd
    split at hd
    · rename_i hcl
      obtain ⟨xs, hm, hx⟩ := Option.map_eq_some_iff.1 hd
      have hxs : xs.map (·.1) = (List.range 4).map formD := by
        have := congrArg Prod.fst hx
        simpa using this
      obtain ⟨b, hb, hfb⟩ := Lib.mapM_at hm k k (by simp [hk])
      have h2 : (xs.map (·.1))[k]? = some b.1 := by simp [hb]
      rw [hxs, List.getElem?_map, List.getElem?_range hk] at h2
      have hbk : formD k = b.1 := by simpa using h2
      obtain ⟨b1, b2⟩ := b
      dsimp only at hbk
      subst hbk
      obtain ⟨ys, n', _, hyx, hyc, hyl, hf⟩ := DataW.trod_struct Tryd.underlying59 hfb
      have hyl2 : ys.length = 2 := hyl
      match ys, hyl2 with
      | [y0, y1], _ =>
        have k1 : Tryd.prog.cellsOf 3 = 1 := by kernel_rfl
        have k2 : Tryd.prog.cellsOf 24 = 1 := by kernel_rfl
        have f0 : DataW.trod (fun _ => ()) Tryd.prog W 0 (fun _ => true) false n' 3 ((((cs.toList.drop (k * 2)).take 2).drop 0).take (Tryd.prog.cellsOf 3)) = some y0 := hf 0 _ rfl
        have f1 : DataW.trod (fun _ => ()) Tryd.prog W 0 (fun _ => true) false n' 24 ((((cs.toList.drop (k * 2)).take 2).drop 1).take (Tryd.prog.cellsOf 24)) = some y1 := hf 1 _ rfl
        rw [k1] at f0
        rw [k2] at f1
        obtain ⟨n0, g0, e0, _⟩ := DataW.trod_int Tryd.underlying3 (x := y0) f0
        obtain ⟨n1, g1, e1, _⟩ := DataW.trod_int Tryd.underlying24 (x := y1) f1
        have hfst := congrArg Prod.fst hyx
        rw [e0, e1] at hfst
        simp [formD] at hfst
        obtain ⟨rfl, rfl⟩ := hfst
        refine ⟨(World.var?_cell hg hvar (k * 2)).trans ?_, (World.var?_cell hg hvar (k * 2 + 1)).trans ?_⟩
        · have := congrArg (·[0]?) g0
          simpa [List.getElem?_take, List.getElem?_drop] using this
        · have := congrArg (·[0]?) g1
          simpa [List.getElem?_take, List.getElem?_drop] using this
    · cases hd

theorem glob_of_laid {W : World} (h : laidMetH Tryd.prog laidL W) : Glob W := by
  have h0 : laidMet Tryd.prog laidL W := h
  rw [laidL_tab] at h0
  have t0 := Lib.tabIs_of_head (show Tryd.prog.globalNamed nm0 = some 0 by kernel_rfl) (show (Tryd.prog.globals[0]?).map (·.type) = some 57 by kernel_rfl) Tryd.underlying57 Tryd.underlying3 (by kernel_rfl) (by kernel_rfl) h0
  have c0 := fun i (hi : i < 4) => Lib.TabIs.cell t0 (show Tryd.prog.globalNamed nm0 = some 0 by kernel_rfl) i hi
  have f0 : ∀ k, k < 4 → ([0, 1, 2, 4] : List Int).getD k 0 = (dwN k : Int) := by decide
  have c1 := form_cells h0.tail
  exact ⟨fun k hk => (c0 k hk).trans (by rw [f0 k hk]), c1, World.block_lt_of_cell? W _ (c1 0 (by decide)).1⟩
end Go.Proofs.YtmominbmalhdoaaDoor
