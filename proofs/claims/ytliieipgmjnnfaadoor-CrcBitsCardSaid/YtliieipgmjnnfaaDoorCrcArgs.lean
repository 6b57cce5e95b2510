/- An argument of type []byte as a slice that reads as a list of bytes; what the rows' condition gives a walk: the table; a start that meets it. -/
import Derived.Test.YtliieipgmjnnfaaDoorCrcAwake
import Derived.Test.YtliieipgmjnnfaaDoorShaMine
import Derived.Deep.RegionHeld3
import Derived.Deep.RegionWith
import Derived.Test.YtliieipgmjnnfaaDoorTie
import Derived.Test.YtliieipgmjnnfaaDoorCards
import Derived.Lib.LaidTab
import Derived.Stop.LaidErr
import Derived.LaidMore
import Derived.LaidOnce
import Derived.SevenTiedAt
import Derived.ProofKit
import Derived.OpenShut
import Derived.ShutString
import Derived.ChangeOld
namespace Go.Proofs.YtliieipgmjnnfaaDoor
open Go.ChangeShapes Go.WideShapes Go.ChangeAt Go.RowKit

/-- A slice of integers that came in: nil, or a row of 'cap' cells with the numbers zs, each of which fits its kind. -/
def IsRow (k : IntKind) (w : World) (a : Option Addr) (len cap : Nat) (zs : List Int) : Prop :=
  (a = none ∧ len = 0 ∧ cap = 0 ∧ zs = []) ∨
  ∃ x, a = some x ∧ len ≤ cap ∧ cap ≤ maxLen ∧ zs.length = cap ∧ (∀ i, i < zs.length → w.cell? (x.add i) = some (.int k (zs.getD i 0))) ∧ ∀ n ∈ zs, (Lit.int k n).wf = true

theorem byte_wf {n : Int} (h : (Lit.int .u8 n).wf = true) : ((UInt8.ofNat n.toNat).toNat : Int) = n := by
  have hx : 0 ≤ n ∧ n ≤ 255 := by simpa [Lit.wf, IntKind.min, IntKind.max, IntKind.signed, IntKind.bits] using h
  simp
  omega

/-- The bytes of such a slice. -/
theorem row_dat {w : World} {a : Option Addr} {len cap : Nat} {zs : List Int} (h : IsRow .u8 w a len cap zs) : ∃ xs : List UInt8, xs.length = len ∧ len ≤ cap ∧ cap ≤ maxLen ∧ Dat false w 0 w.heap.size a xs := by
  rcases h with ⟨rfl, rfl, rfl, rfl⟩ | ⟨x, rfl, hl, hm, hz, hc, hw⟩
  · exact ⟨[], rfl, Nat.le_refl _, Nat.zero_le _, Dat.nil _ _ _ _ _⟩
  · refine ⟨(zs.take len).map fun z => UInt8.ofNat z.toNat, by simp; omega, hl, hm, fun hx => ?_⟩
    have hlen : ((zs.take len).map fun z => UInt8.ofNat z.toNat).length = len := by simp; omega
    obtain ⟨b, off, rfl, hc'⟩ := ints_at hc (by omega)
    have hlt := World.block_lt_of_cell? w _ (hc' 0 (by omega))
    refine ⟨b, off, rfl, Nat.zero_le _, hlt, fun j hj => ?_, fun ho => by cases ho⟩
    rw [hc' j (by omega)]
    have hjz : j < zs.length := by omega
    have e : ((zs.take len).map fun z => UInt8.ofNat z.toNat).getD j 0 = UInt8.ofNat (zs[j]).toNat := by
      rw [List.getD_eq_getElem?_getD, List.getElem?_map, List.getElem?_take, if_pos (by omega), List.getElem?_eq_getElem hjz]
      rfl
    rw [e, cel, byte_wf (hw _ (List.getElem_mem hjz))]
    simp [List.getD, hjz]


/-- Such a slice, out of a row's condition. -/
theorem row_of_trod {H : Type} {enc : TypeId × Value → H} {W : World} {a : Option Addr} {len cap : Nat} {d : DataW H} {p : List MemPlace}
    (h : ∃ fuel, DataW.trod enc Tryd.prog W 0 (fun _ => true) true fuel 26 (Value.cells (.slice a len cap)).toList = some (d, p)) : ∃ zs, IsRow .u8 W a len cap zs := by
  obtain ⟨fuel, hf⟩ := h
  rcases open_ints Tryd.underlying26 Tryd.underlying5 (by kernel_rfl) hf with ⟨hcs, _⟩ | ⟨x, l, c, zs, hcs, _, hl, hm, hz, _, hcell, hwz⟩
  · simp [Value.cells] at hcs
    obtain ⟨rfl, rfl, rfl⟩ := hcs
    exact ⟨[], .inl ⟨rfl, rfl, rfl, rfl⟩⟩
  · simp [Value.cells] at hcs
    obtain ⟨rfl, rfl, rfl⟩ := hcs
    exact ⟨zs, .inr ⟨_, rfl, hl, hm, by simpa using hz, hcell, hwz⟩⟩

theorem own : ownKnob Tryd.prog.godebug = none := by kernel_rfl
theorem laidOut : laidOutB Tryd.prog = true := by kernel_rfl

theorem u8_info : (Tryd.prog.info? 5).map (fun i => (i.zero, i.size, i.bytes)) = some (some (.int .u8 0), 1, 1) := by kernel_rfl
/-- What the rows list. -/
def laidL : List (String × DataW Unit) := Rows.crcPiecesRow.laid
/-- The name. -/
def nm0 : String := ((laidL[0]?).map (·.1)).getD ""
theorem laidL_tab : laidL = [(nm0, Lib.tabData .u32 (tab.map fun x => (x.toNat : Int)))] := by kernel_rfl

theorem door_met (os : Os) (args : Array Value) : laidMetH Tryd.prog laidL ((World.doorLaid Tryd.prog 400 os).forCall (fun _ _ => 0) ⟨#[], args, []⟩).memory :=
  laidMetH_of_parts3 (fuel := 8) (laidMet_of_run' 8 (by kernel_rfl) (by kernel_rfl)) (by kernel_rfl) (by kernel_rfl)

theorem glob_of_laid {W : World} (h : laidMetH Tryd.prog laidL W) : Glob W := by
  have h0 : laidMet Tryd.prog laidL W := h
  rw [laidL_tab] at h0
  have t0 := Lib.tabIs_of_head (show Tryd.prog.globalNamed nm0 = some 0 by kernel_rfl) (show (Tryd.prog.globals[0]?).map (·.type) = some 42 by kernel_rfl) Tryd.underlying42 Tryd.underlying28 (by kernel_rfl) (by kernel_rfl) h0
  have e : ∀ (l : List UInt32) (i : Nat), i < l.length → (l.map fun x => (x.toNat : Int)).getD i 0 = ((l.getD i 0).toNat : Int) := by
    intro l i hi
    simp [List.getD, hi]
  have hk : tab.length = 16 := rfl
  have c0 := fun i (hi : i < 16) => (Lib.TabIs.cell t0 (show Tryd.prog.globalNamed nm0 = some 0 by kernel_rfl) i (by rw [List.length_map, hk]; exact hi)).trans (by rw [e _ _ (by rw [hk]; exact hi)])
  exact ⟨c0, World.block_lt_of_cell? W _ (c0 0 (by decide))⟩
end Go.Proofs.YtliieipgmjnnfaaDoor
