
/- What the rows' condition gives a walk: the two tables; digests, rows of digests, manifests as arguments. -/
import Derived.Test.YtieepdhajjibpaaDoorMrkRoot
import Derived.Test.YtieepdhajjibpaaDoorArgs
import Derived.Test.YtieepdhajjibpaaDoorTie
import Derived.Test.YtieepdhajjibpaaDoorCards
import Derived.Lib.LaidTab
import Derived.Stop.LaidErr
import Derived.LaidMore
import Derived.LaidOnce
import Derived.SevenTiedAt
import Derived.Lib.SmallJoins
import Derived.Deep.Slices
import Derived.Deep.Fields
import Derived.ChangeSame
namespace Go.Proofs.YtieepdhajjibpaaDoor
open Go.ChangeShapes Go.WideShapes Go.ChangeAt Go.RowKit Go.Deep

/-- What the rows list. -/
def laidL : List (String × DataW Unit) := Rows.merkleRootsRow.laid
/-- The two names. -/
def nm0 : String := ((laidL[0]?).map (·.1)).getD ""
def nm1 : String := ((laidL[1]?).map (·.1)).getD ""
theorem laidL_tab : laidL = [(nm0, Lib.tabData .u32 (iv.list.map fun x => (x.toNat : Int))), (nm1, Lib.tabData .u32 (kw.map fun x => (x.toNat : Int)))] := by kernel_rfl

theorem door_met (os : Os) (args : Array Value) : laidMetH Tryd.prog laidL ((World.doorLaid Tryd.prog 400 os).forCall (fun _ _ => 0) ⟨#[], args, []⟩).memory :=
  laidMetH_of_parts3 (fuel := 8) (laidMet_of_run' 8 (by kernel_rfl) (by kernel_rfl)) (by kernel_rfl) (by kernel_rfl)

theorem glob_of_laid {W : World} (h : laidMetH Tryd.prog laidL W) : Glob W := by
  have h0 : laidMet Tryd.prog laidL W := h
  rw [laidL_tab] at h0
  have t0 := Lib.tabIs_of_head (show Tryd.prog.globalNamed nm0 = some 0 by kernel_rfl) (show (Tryd.prog.globals[0]?).map (·.type) = some 88 by kernel_rfl) Tryd.underlying88 Tryd.underlying33 (by kernel_rfl) (by kernel_rfl) h0
  have t1 := Lib.tabIs_of_head (show Tryd.prog.globalNamed nm1 = some 1 by kernel_rfl) (show (Tryd.prog.globals[1]?).map (·.type) = some 76 by kernel_rfl) Tryd.underlying76 Tryd.underlying33 (by kernel_rfl) (by kernel_rfl) h0.tail
  have e : ∀ (l : List UInt32) (i : Nat), i < l.length → (l.map fun x => (x.toNat : Int)).getD i 0 = ((l.getD i 0).toNat : Int) := by
    intro l i hi
    simp [List.getD, hi]
  have c0 := fun i (hi : i < 8) => (Lib.TabIs.cell t0 (show Tryd.prog.globalNamed nm0 = some 0 by kernel_rfl) i (by simpa [V8.list] using hi)).trans (by rw [e _ _ (by simpa [V8.list] using hi)])
  have hk : kw.length = 64 := rfl
  have c1 := fun i (hi : i < 64) => (Lib.TabIs.cell t1 (show Tryd.prog.globalNamed nm1 = some 1 by kernel_rfl) i (by rw [List.length_map, hk]; exact hi)).trans (by rw [e _ _ (by rw [hk]; exact hi)])
  exact ⟨c0, c1, World.block_lt_of_cell? W _ (c1 0 (by decide))⟩

set_option maxRecDepth 100000 in
/-- Cells that read as a digest are one's. -/
theorem sum_cells {H : Type} {enc : TypeId × Value → H} {W : World} {l : List Value} {fuel : Nat} {y : DataW H × List MemPlace} (h : DataW.trod enc Tryd.prog W 0 (fun _ => true) true fuel 25 l = some y) : ∃ d : Dg, l = dcs d := by
  have hC : Tryd.prog.cellsOf 25 = 32 := by kernel_rfl
  have hC1 : Tryd.prog.cellsOf 5 = 1 := by kernel_rfl
  cases fuel with
  | zero => simp [DataW.trod] at h
  | succ fuel =>
    simp only [DataW.trod, Tryd.underlying25, hC, hC1, Nat.mul_one] at h
    split at h
    · rename_i hcl
      have hcl32 : l.length = 32 := by simpa using hcl
      obtain ⟨xs, hm, hx⟩ := Option.map_eq_some_iff.1 h
      obtain ⟨bs, hbl, hbs⟩ := list_of 32 (fun i (x : UInt8) => l[i]? = some (cel x)) (fun i hi => by
        obtain ⟨b, hb, hfb⟩ := Lib.mapM_at hm i i (by simp [hi])
        have hci : i < l.length := by omega
        have h2 : (l.drop i).take 1 = [l[i]] := by
          rw [List.drop_eq_getElem_cons hci, List.take_succ_cons, List.take_zero]
        rw [h2] at hfb
        obtain ⟨n, g, _, w⟩ := DataW.trod_int Tryd.underlying5 (x := b) hfb
        injection g with g
        exact ⟨UInt8.ofNat n.toNat, by rw [List.getElem?_eq_getElem hci, g, cel, byte_wf w]⟩)
      refine ⟨⟨bs, hbl⟩, List.ext_getElem? fun i => ?_⟩
      by_cases hi : i < bs.length
      · rw [hbs i hi]
        simp [dcs, hi]
      · rw [List.getElem?_eq_none (by omega), List.getElem?_eq_none (by rw [dcs_len]; omega)]
    · cases h
/-- A digest that is handed in. -/
theorem sum_of {H : Type} {enc : TypeId × Value → H} {W : World} {v : Value} {d : DataW H} {p : List MemPlace}
    (hv : Value.okWide Tryd.prog W .any 0 25 v) (h : DataW.Trod enc Tryd.prog W 0 (fun _ => true) true 25 v d p) : ∃ q : Dg, v = .agg (dcs q).toArray := by
  unfold Value.okWide at hv
  rw [Tryd.underlying25] at hv
  obtain ⟨cs, rfl, hsz, _⟩ := hv
  obtain ⟨fuel, hf⟩ := h
  obtain ⟨q, hq⟩ := sum_cells hf
  have hq' : cs.toList = dcs q := hq
  exact ⟨q, by rw [← hq']⟩
set_option maxRecDepth 100000 in
/-- A row of digests that is handed in. -/
theorem sums_of {H : Type} {enc : TypeId × Value → H} {W : World} {a : Option Addr} {len cap : Nat} {d : DataW H} {p : List MemPlace}
    (h : ∃ fuel, DataW.trod enc Tryd.prog W 0 (fun _ => true) true fuel 22 (Value.cells (.slice a len cap)).toList = some (d, p)) :
    ∃ qs : List Dg, qs.length = len ∧ len ≤ cap ∧ cap ≤ maxLen ∧ DatR 32 dcs W 0 W.heap.size a qs := by
  obtain ⟨fuel, h⟩ := h
  rcases open_slice Tryd.underlying22 h with ⟨hcs, _⟩ | ⟨ad, l, c, m, n, D, Pl, hcs, _, hl, hm, hmm, _, hi⟩
  · simp [Value.cells] at hcs
    obtain ⟨h1, h2, h3⟩ := hcs
    subst h1 h2 h3
    exact ⟨[], rfl, Nat.le_refl _, Nat.zero_le _, DatR.nil _ _ _ _ _ _⟩
  · simp [Value.cells] at hcs
    obtain ⟨h1, h2, h3⟩ := hcs
    subst h1 h2 h3
    have hlm : len ≤ m := by rw [hmm]; split <;> omega
    have hC : Tryd.prog.cellsOf 25 = 32 := by kernel_rfl
    rw [hC] at hi
    obtain ⟨rs, hrl, hrs⟩ := list_of len (fun i (r : Dg) => ∀ j v, (dcs r)[j]? = some v → W.cell? (ad.add (i * 32 + j)) = some v) (fun i hil => by
      obtain ⟨cs', hc', ht'⟩ := hi i (by omega)
      obtain ⟨q, hq⟩ := sum_cells ht'
      obtain ⟨_, hcl, hat⟩ := World.cells?_some hc'
      refine ⟨q, fun j v hv => ?_⟩
      rw [← hq] at hv
      have hj : j < cs'.length := by
        rcases Nat.lt_or_ge j cs'.length with z | z
        · exact z
        · rw [List.getElem?_eq_none z] at hv; cases hv
      have := hat j (by omega)
      rw [add_add] at this
      rw [this]
      first | exact hv | (rw [List.getElem?_eq_getElem hj] at hv; exact hv))
    refine ⟨rs, hrl, hl, hm, fun hpos => ?_⟩
    have h0 := hrs 0 hpos 0 _ (List.getElem?_eq_getElem (by rw [dcs_len]; omega))
    obtain ⟨b, o, spot⟩ := ad
    have hspot : spot = none := by simpa [Addr.add] using World.cell?_spot h0
    subst hspot
    have hb := World.block_lt_of_cell? W _ h0
    refine ⟨b, o, rfl, Nat.zero_le _, by simpa [Addr.add] using hb, fun j hj i v hv => ?_⟩
    have := hrs j hj i v hv
    rw [add_plain'] at this
    rw [Nat.add_assoc]
    exact this

theorem u32_bounds {n : Int} (h : (Lit.int .u32 n).wf = true) : 0 ≤ n ∧ n ≤ 4294967295 := by simpa [Lit.wf, IntKind.min, IntKind.max, IntKind.signed, IntKind.bits] using h
set_option maxRecDepth 100000 in
/-- A manifest that is handed in. -/
theorem man_of {H : Type} {enc : TypeId × Value → H} {W : World} {v : Value} {d : DataW H} {p : List MemPlace}
    (hv : Value.okWide Tryd.prog W .any 0 35 v) (h : DataW.Trod enc Tryd.prog W 0 (fun _ => true) true 35 v d p) :
    ∃ (s q : Nat) (a : Option Addr) (ls : List Dg) (cap : Nat), v = .agg #[.int .u64 (s : Int), .int .u32 (q : Int), .slice a ls.length cap] ∧ s < 18446744073709551616 ∧ q < 4294967296 ∧ ls.length ≤ cap ∧ cap ≤ maxLen ∧ DatR 32 dcs W 0 W.heap.size a ls := by
  obtain ⟨v0, v1, v2, y0, y1, y2, m, rfl, rfl, rfl, h0, h1, h2⟩ := Joins.open_agg3 Tryd.underlying35 (by kernel_rfl) (by kernel_rfl) hv h
  obtain ⟨n0, g0, _, w0⟩ := DataW.trod_int Tryd.underlying32 (x := y0) h0
  obtain ⟨n1, g1, _, w1⟩ := DataW.trod_int Tryd.underlying33 (x := y1) h1
  injection g0 with g0
  injection g1 with g1
  have hform : ∃ a len cap, v2 = .slice a len cap := by
    rcases open_slice Tryd.underlying22 h2 with ⟨hcs, _⟩ | ⟨ad, l, c, m', n, D, Pl, hcs, _⟩
    · injection hcs with hcs
      exact ⟨_, _, _, hcs⟩
    · injection hcs with hcs
      exact ⟨_, _, _, hcs⟩
  obtain ⟨a, len, cap, rfl⟩ := hform
  obtain ⟨ls, hlen, hl, hm, hd⟩ := sums_of (enc := enc) (W := W) (a := a) (len := len) (cap := cap) (d := y2.1) (p := y2.2) ⟨m, by simpa [Value.cells] using h2⟩
  subst hlen
  have b0 := u64_bounds w0
  have b1 := u32_bounds w1
  refine ⟨n0.toNat, n1.toNat, a, ls, cap, ?_, by omega, by omega, hl, hm, hd⟩
  rw [g0, g1, show ((n0.toNat : Nat) : Int) = n0 by omega, show ((n1.toNat : Nat) : Int) = n1 by omega]
end Go.Proofs.YtieepdhajjibpaaDoor
