
/- What the rows' condition gives a walk: the three tables; a start that meets it; the bounds of numbers that come in. -/
import Derived.Test.YtcekhmomilhmoaaDoorCodProg
import Derived.Test.YtcekhmomilhmoaaDoorTie
import Derived.Test.YtcekhmomilhmoaaDoorCards
import Derived.Lib.LaidTab
import Derived.Stop.LaidErr
import Derived.LaidMore
import Derived.LaidOnce
import Derived.SevenTiedAt
import Derived.ProofKit
import Derived.OpenShut
import Derived.ShutString
import Derived.ChangeOld
namespace Go.Proofs.YtcekhmomilhmoaaDoor
open Go.ChangeShapes Go.WideShapes Go.ChangeAt Go.RowKit

theorem own : ownKnob Tryd.prog.godebug = none := by kernel_rfl
theorem laidOut : laidOutB Tryd.prog = true := by kernel_rfl
theorem int_bounds {n : Int} (h : (Lit.int .i64 n).wf = true) : -9223372036854775808 ≤ n ∧ n ≤ 9223372036854775807 := by simpa [Lit.wf, IntKind.min, IntKind.max, IntKind.signed, IntKind.bits] using h
theorem u8_bounds {n : Int} (h : (Lit.int .u8 n).wf = true) : 0 ≤ n ∧ n ≤ 255 := by simpa [Lit.wf, IntKind.min, IntKind.max, IntKind.signed, IntKind.bits] using h
theorem u16_bounds {n : Int} (h : (Lit.int .u16 n).wf = true) : 0 ≤ n ∧ n ≤ 65535 := by simpa [Lit.wf, IntKind.min, IntKind.max, IntKind.signed, IntKind.bits] using h
theorem u32_bounds {n : Int} (h : (Lit.int .u32 n).wf = true) : 0 ≤ n ∧ n ≤ 4294967295 := by simpa [Lit.wf, IntKind.min, IntKind.max, IntKind.signed, IntKind.bits] using h

/-- What the rows list. -/
def laidL : List (String × DataW Unit) := Rows.codesTellRow.laid
/-- The names. -/
def nm0 : String := ((laidL[0]?).map (·.1)).getD ""
def nm1 : String := ((laidL[1]?).map (·.1)).getD ""
def nm2 : String := ((laidL[2]?).map (·.1)).getD ""
theorem laidL_tab : laidL = [(nm0, Lib.tabData .u32 [0, 1, 3]), (nm1, Lib.tabData .i64 [35, 31, 52]), (nm2, .agg (((List.range 3).map fun k => (addRow k).map fun (x : Nat) => (x : Int)).map (Lib.tabData .i64)))] := by kernel_rfl

theorem door_met (os : Os) (args : Array Value) : laidMetH Tryd.prog laidL ((World.doorLaid Tryd.prog 400 os).forCall (fun _ _ => 0) ⟨#[], args, []⟩).memory :=
  laidMetH_of_parts3 (fuel := 8) (laidMet_of_run' 8 (by kernel_rfl) (by kernel_rfl)) (by kernel_rfl) (by kernel_rfl)

/-- The third table, cell for cell. -/
theorem added_cells {W : World} {rest : List (String × DataW Unit)} (h : laidMet Tryd.prog ((nm2, .agg (((List.range 3).map fun k => (addRow k).map fun (x : Nat) => (x : Int)).map (Lib.tabData .i64))) :: rest) W) :
    ∀ k, k < 3 → ∀ c, c < 53 → W.cell? ⟨1, k * 53 + c, none⟩ = some (.int .i64 (addN k c : Int)) := by
  obtain ⟨ps, ⟨g', t', cs, fuel, p, q, hg', ht', hvar, hd, _, _⟩, _⟩ := h
  have hg : Tryd.prog.globalNamed nm2 = some 1 := by kernel_rfl
  obtain rfl := Option.some.inj (hg.symm.trans hg')
  obtain rfl := Option.some.inj ((show (Tryd.prog.globals[1]?).map (·.type) = some 42 by kernel_rfl).symm.trans ht')
  have hc := cells_of_tab2 (n := 3) (m := 53) (k := .i64) Tryd.underlying42 Tryd.underlying41 Tryd.underlying3 (by kernel_rfl) (by kernel_rfl) (by kernel_rfl) hd
  intro k hk c hc53
  obtain ⟨zs, hz, hcs⟩ := hc k hk
  have hzz : zs = (addRow k).map fun (x : Nat) => (x : Int) := by
    rw [List.getElem?_map, List.getElem?_range hk] at hz
    exact (Option.some.inj hz).symm
  have h1 := World.var?_cell hg hvar (k * 53 + c)
  have h2 : ((cs.toList.drop (k * 53)).take 53)[c]? = cs[k * 53 + c]? := by rw [List.getElem?_take, if_pos hc53, List.getElem?_drop, Array.getElem?_toList]
  rw [hcs, hzz] at h2
  have hlen := addRow_len k hk
  have h3 : cs[k * 53 + c]? = some (.int .i64 (addN k c : Int)) := by
    rw [← h2]
    simp [addN, List.getD, hlen, hc53]
  exact h1.trans h3

theorem glob_of_laid {W : World} (h : laidMetH Tryd.prog laidL W) : Glob W := by
  have h0 : laidMet Tryd.prog laidL W := h
  rw [laidL_tab] at h0
  have t0 := Lib.tabIs_of_head (show Tryd.prog.globalNamed nm0 = some 2 by kernel_rfl) (show (Tryd.prog.globals[2]?).map (·.type) = some 45 by kernel_rfl) Tryd.underlying45 Tryd.underlying23 (by kernel_rfl) (by kernel_rfl) h0
  have t1 := Lib.tabIs_of_head (show Tryd.prog.globalNamed nm1 = some 0 by kernel_rfl) (show (Tryd.prog.globals[0]?).map (·.type) = some 39 by kernel_rfl) Tryd.underlying39 Tryd.underlying3 (by kernel_rfl) (by kernel_rfl) h0.tail
  have c0 := fun i (hi : i < 3) => Lib.TabIs.cell t0 (show Tryd.prog.globalNamed nm0 = some 2 by kernel_rfl) i hi
  have c1 := fun i (hi : i < 3) => Lib.TabIs.cell t1 (show Tryd.prog.globalNamed nm1 = some 0 by kernel_rfl) i hi
  have f0 : ∀ k, k < 3 → ([0, 1, 3] : List Int).getD k 0 = (firstN k : Int) := by decide
  have f1 : ∀ k, k < 3 → ([35, 31, 52] : List Int).getD k 0 = (lastN k : Int) := by decide
  exact ⟨fun k hk => (c1 k hk).trans (by rw [f1 k hk]), added_cells h0.tail.tail, fun k hk => (c0 k hk).trans (by rw [f0 k hk]), World.block_lt_of_cell? W _ (c0 0 (by decide))⟩
end Go.Proofs.YtcekhmomilhmoaaDoor
