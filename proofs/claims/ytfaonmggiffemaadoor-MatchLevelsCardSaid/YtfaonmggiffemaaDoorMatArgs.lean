
/- What the rows' condition gives a walk: the table; a start that meets it. -/
import Derived.Test.YtfaonmggiffemaaDoorMatFind
import Derived.Test.YtfaonmggiffemaaDoorArgs
import Derived.Test.YtfaonmggiffemaaDoorTie
import Derived.Test.YtfaonmggiffemaaDoorCards
import Derived.Lib.LaidTab
import Derived.Stop.LaidErr
import Derived.LaidMore
import Derived.LaidOnce
import Derived.SevenTiedAt
namespace Go.Proofs.YtfaonmggiffemaaDoor
open Go.ChangeShapes Go.WideShapes Go.ChangeAt Go.RowKit

/-- What the rows list. -/
def laidL : List (String × DataW Unit) := Rows.matchPlansRow.laid
/-- The name. -/
def nm0 : String := ((laidL[0]?).map (·.1)).getD ""
/-- What a level spends, as the row lists it. -/
def effD {H : Type} (k : Nat) : DataW H := .agg [.lit (.int .i64 (effN k 0 : Int)), .lit (.int .i64 (effN k 1 : Int)), .lit (.int .i64 (effN k 2 : Int))]
theorem laidL_tab : laidL = [(nm0, .agg ((List.range 10).map effD))] := by kernel_rfl

theorem door_met (os : Os) (args : Array Value) : laidMetH Tryd.prog laidL ((World.doorLaid Tryd.prog 400 os).forCall (fun _ _ => 0) ⟨#[], args, []⟩).memory :=
  laidMetH_of_parts3 (fuel := 8) (laidMet_of_run' 8 (by kernel_rfl) (by kernel_rfl)) (by kernel_rfl) (by kernel_rfl)

/-- The table, cell for cell. -/
theorem eff_cells {W : World} {rest : List (String × DataW Unit)} (h : laidMet Tryd.prog ((nm0, .agg ((List.range 10).map effD)) :: rest) W) :
    ∀ k, k < 10 → W.cell? ⟨0, k * 3, none⟩ = some (.int .i64 (effN k 0 : Int)) ∧ W.cell? ⟨0, k * 3 + 1, none⟩ = some (.int .i64 (effN k 1 : Int)) ∧ W.cell? ⟨0, k * 3 + 2, none⟩ = some (.int .i64 (effN k 2 : Int)) := by
  obtain ⟨ps, ⟨g', t', cs, fuel, p, q, hg', ht', hvar, hd, _, _⟩, _⟩ := h
  have hg : Tryd.prog.globalNamed nm0 = some 0 := by kernel_rfl
  obtain rfl := Option.some.inj (hg.symm.trans hg')
  obtain rfl := Option.some.inj ((show (Tryd.prog.globals[0]?).map (·.type) = some 36 by kernel_rfl).symm.trans ht')
  intro k hk
  cases fuel with
  | zero => simp [DataW.trod] at hd
  | succ fuel =>
    have hce : Tryd.prog.cellsOf 35 = 3 := by kernel_rfl
    have hct : Tryd.prog.cellsOf 36 = 30 := by kernel_rfl
    simp only [DataW.trod, Tryd.underlying36, hce, hct] at hd
    split at hd
    · rename_i hcl
      obtain ⟨xs, hm, hx⟩ := Option.map_eq_some_iff.1 hd
      have hxs : xs.map (·.1) = (List.range 10).map effD := by
        have := congrArg Prod.fst hx
        simpa using this
      obtain ⟨b, hb, hfb⟩ := Lib.mapM_at hm k k (by simp [hk])
      have h2 : (xs.map (·.1))[k]? = some b.1 := by simp [hb]
      rw [hxs, List.getElem?_map, List.getElem?_range hk] at h2
      have hbk : effD k = b.1 := by simpa using h2
      obtain ⟨b1, b2⟩ := b
      dsimp only at hbk
      subst hbk
      obtain ⟨ys, n', _, hyx, hyc, hyl, hf⟩ := DataW.trod_struct Tryd.underlying35 hfb
      have hyl2 : ys.length = 3 := hyl
      match ys, hyl2 with
      | [y0, y1, y2], _ =>
        have k1 : Tryd.prog.cellsOf 3 = 1 := by kernel_rfl
        have f0 : DataW.trod (fun _ => ()) Tryd.prog W 0 (fun _ => true) false n' 3 ((((cs.toList.drop (k * 3)).take 3).drop 0).take (Tryd.prog.cellsOf 3)) = some y0 := hf 0 _ rfl
        have f1 : DataW.trod (fun _ => ()) Tryd.prog W 0 (fun _ => true) false n' 3 ((((cs.toList.drop (k * 3)).take 3).drop 1).take (Tryd.prog.cellsOf 3)) = some y1 := hf 1 _ rfl
        have f2 : DataW.trod (fun _ => ()) Tryd.prog W 0 (fun _ => true) false n' 3 ((((cs.toList.drop (k * 3)).take 3).drop 2).take (Tryd.prog.cellsOf 3)) = some y2 := hf 2 _ rfl
        rw [k1] at f0 f1 f2
        obtain ⟨n0, g0, e0, _⟩ := DataW.trod_int Tryd.underlying3 (x := y0) f0
        obtain ⟨n1, g1, e1, _⟩ := DataW.trod_int Tryd.underlying3 (x := y1) f1
        obtain ⟨n2, g2, e2, _⟩ := DataW.trod_int Tryd.underlying3 (x := y2) f2
        have hfst := congrArg Prod.fst hyx
        rw [e0, e1, e2] at hfst
        simp [effD] at hfst
        obtain ⟨rfl, rfl, rfl⟩ := hfst
        refine ⟨(World.var?_cell hg hvar (k * 3)).trans ?_, (World.var?_cell hg hvar (k * 3 + 1)).trans ?_, (World.var?_cell hg hvar (k * 3 + 2)).trans ?_⟩
        · have := congrArg (·[0]?) g0
          simpa [List.getElem?_take, List.getElem?_drop] using this
        · have := congrArg (·[0]?) g1
          simpa [List.getElem?_take, List.getElem?_drop] using this
        · have := congrArg (·[0]?) g2
          simpa [List.getElem?_take, List.getElem?_drop] using this
    · cases hd

theorem glob_of_laid {W : World} (h : laidMetH Tryd.prog laidL W) : Glob W := by
  have h0 : laidMet Tryd.prog laidL W := h
  rw [laidL_tab] at h0
  have c1 := eff_cells h0
  refine ⟨fun k hk i hi => ?_, World.block_lt_of_cell? W _ (c1 0 (by decide)).1⟩
  match i, hi with
  | 0, _ => exact (c1 k hk).1
  | 1, _ => exact (c1 k hk).2.1
  | 2, _ => exact (c1 k hk).2.2
end Go.Proofs.YtfaonmggiffemaaDoor
