
/- What the rows' condition gives a walk: the eight variables; a start that meets it. Arguments of sequences, and of three bytes. -/
import Derived.Test.YtlidnialggpcpaaGreatDoorSeqOld
import Derived.Test.YtlidnialggpcpaaGreatDoorSeqSmall
import Derived.Test.YtlidnialggpcpaaGreatDoorPileA
import Derived.Test.YtlidnialggpcpaaGreatDoorTie
import Derived.Test.YtlidnialggpcpaaGreatDoorCards
import Derived.Lib.LaidTab
import Derived.Lib.SmallJoins
import Derived.Stop.LaidErr
import Derived.LaidMore
import Derived.LaidOnce
import Derived.SevenTiedAt
import Derived.Deep.Slices
import Derived.Deep.Fields
import Derived.ChangeSame
namespace Go.Proofs.YtlidnialggpcpaaGreatDoor
open Go.ChangeShapes Go.WideShapes Go.ChangeAt Go.RowKit Go.Deep

/-- What the rows list. -/
def laidL : List (String × DataW Unit) := Rows.sequencesManyRow.laid
/-- The names. -/
def nm0 : String := ((laidL[0]?).map (·.1)).getD ""
def nm1 : String := ((laidL[1]?).map (·.1)).getD ""
def nm2 : String := ((laidL[2]?).map (·.1)).getD ""
def nm3 : String := ((laidL[3]?).map (·.1)).getD ""
def nm4 : String := ((laidL[4]?).map (·.1)).getD ""
def nm5 : String := ((laidL[5]?).map (·.1)).getD ""
def nm6 : String := ((laidL[6]?).map (·.1)).getD ""
def nm7 : String := ((laidL[7]?).map (·.1)).getD ""
/-- A row of ints, laid with no room behind. -/
def rowD {H : Type} (zs : List Int) : DataW H := .slice (lits .i64 zs) []
theorem laidL_tab : laidL = [(nm0, Lib.tabData .u32 [0, 1, 3]), (nm1, Lib.tabData .i64 [35, 31, 52]), (nm2, .agg (((List.range 3).map fun k => (cd.addRow k).map fun (x : Nat) => (x : Int)).map (Lib.tabData .i64))), (nm3, Lib.tabData .i64 [6, 5, 6]), (nm4, .agg (((List.range 3).map partsN).map rowD)), (nm5, Lib.tabData .i64 [9, 8, 9]), (nm6, Lib.tabData .i64 [1, 2, 0]), (nm7, Lib.tabData .i64 [0, 2, 1])] := by kernel_rfl

theorem door_met (os : Os) (args : Array Value) : laidMetH Tryz.prog laidL ((World.doorLaid Tryz.prog 400 os).forCall (fun _ _ => 0) ⟨#[], args, []⟩).memory :=
  laidMetH_of_parts3 (fuel := 8) (laidMet_of_run' 8 (by kernel_rfl) (by kernel_rfl)) (by kernel_rfl) (by kernel_rfl)

theorem lits_inj {H : Type} {k : IntKind} : ∀ {a b : List Int}, (lits k a : List (DataW H)) = lits k b → a = b
  | [], [], _ => rfl
  | [], y :: b, h => by simp [lits] at h
  | x :: a, [], h => by simp [lits] at h
  | x :: a, y :: b, h => by
    simp only [lits, List.map_cons, List.cons.injEq, DataW.lit.injEq, Lit.int.injEq, true_and] at h
    rw [h.1, lits_inj (H := H) (k := k) h.2]

/-- A table of rows: row for row. -/
theorem rows_of_tab {enc : TypeId × Value → Unit} {w : World} {held : Bool} {fuel : Nat} {t e f : TypeId} {n : Nat} {cs : List Value} {zss : List (List Int)} {p : List MemPlace}
    (ht : Tryz.prog.underlying t = some (.array n e)) (he : Tryz.prog.underlying e = some (.slice f)) (hf : Tryz.prog.underlying f = some (.int .i64)) (hcf : Tryz.prog.cellsOf f = 1) (hce : Tryz.prog.cellsOf e = 1) (hct : Tryz.prog.cellsOf t = n)
    (h : DataW.trod enc Tryz.prog w 0 (fun _ => true) held fuel t cs = some (.agg (zss.map rowD), p)) :
    ∀ i, i < n → ∃ zs, zss[i]? = some zs ∧ (0 < zs.length → ∃ a, (cs.drop i).take 1 = [.slice (some a) zs.length zs.length] ∧ DatE icel w 0 w.heap.size (some a) zs) := by
  cases fuel with
  | zero => simp [DataW.trod] at h
  | succ fuel =>
    simp only [DataW.trod, ht, hce, hct, Nat.mul_one] at h
    split at h
    · obtain ⟨xs, hm, hx⟩ := Option.map_eq_some_iff.1 h
      have hxs : xs.map (·.1) = zss.map rowD := by
        have := congrArg Prod.fst hx
        simpa using this
      intro i hi
      obtain ⟨b, hb, hfb⟩ := Lib.mapM_at hm i i (by simp [hi])
      have h2 : (xs.map (·.1))[i]? = some b.1 := by simp [hb]
      rw [hxs, List.getElem?_map] at h2
      obtain ⟨zs, hz, hzb⟩ := Option.map_eq_some_iff.1 h2
      obtain ⟨b1, b2⟩ := b
      obtain rfl : rowD zs = b1 := hzb
      refine ⟨zs, hz, fun h0 => ?_⟩
      rcases open_ints he hf hcf hfb with ⟨_, hx⟩ | ⟨a, l, c, ys, hcs, _, hl, hmx, hyl, hx, hcell, _⟩
      · have := congrArg Prod.fst hx
        simp [rowD] at this
      · have h3 := congrArg Prod.fst hx
        simp only [rowD, DataW.slice.injEq] at h3
        have h4 : zs = ys.take l := lits_inj h3.1
        have h5 : ys.drop l = [] := by
          have := congrArg List.length h3.2
          simp [lits] at this
          exact List.drop_of_length_le (by omega)
        have h6 : ys.length ≤ l := by simpa using h5
        simp only [if_true] at hyl
        have h7 : zs = ys := by rw [h4, List.take_of_length_le h6]
        subst h7
        obtain rfl : l = zs.length := by omega
        obtain rfl : c = zs.length := by omega
        refine ⟨a, hcs, fun _ => ?_⟩
        obtain ⟨d, off, rfl, hc'⟩ := ints_at hcell h0
        have hlt := World.block_lt_of_cell? w _ (hc' 0 h0)
        refine ⟨d, off, rfl, Nat.zero_le _, hlt, fun j hj => ?_⟩
        rw [hc' j hj]
        simp [icel, List.getD, hj]
    · cases h

theorem parts_cells {W : World} {rest : List (String × DataW Unit)} (h : laidMet Tryz.prog ((nm4, .agg (((List.range 3).map partsN).map rowD)) :: rest) W) :
    ∀ k, k < 3 → ∃ A, W.cell? ⟨6, k, none⟩ = some (.slice (some A) (partsN k).length (partsN k).length) ∧ DatE icel W 0 W.heap.size (some A) (partsN k) := by
  obtain ⟨ps, ⟨g', t', cs, fuel, p, q, hg', ht', hvar, hd, _, _⟩, _⟩ := h
  have hg : Tryz.prog.globalNamed nm4 = some 6 := by kernel_rfl
  obtain rfl := Option.some.inj (hg.symm.trans hg')
  obtain rfl := Option.some.inj ((show (Tryz.prog.globals[6]?).map (·.type) = some 203 by kernel_rfl).symm.trans ht')
  have hc := rows_of_tab (n := 3) Tryz.underlying203 Tryz.underlying72 Tryz.underlying3 (by kernel_rfl) (by kernel_rfl) (by kernel_rfl) hd
  intro k hk
  obtain ⟨zs, hz, hr⟩ := hc k hk
  have hzz : zs = partsN k := by
    rw [List.getElem?_map, List.getElem?_range hk] at hz
    exact (Option.some.inj hz).symm
  subst hzz
  obtain ⟨a, hcs, hda⟩ := hr (by rw [parts_len k hk]; omega)
  refine ⟨a, ?_, hda⟩
  have h1 := World.var?_cell hg hvar k
  have h2 : ((cs.toList.drop k).take 1)[0]? = cs[k]? := by rw [List.getElem?_take, if_pos (by decide), List.getElem?_drop, Nat.add_zero, Array.getElem?_toList]
  rw [hcs] at h2
  rw [h1, ← h2]
  rfl

/-- The third table, cell for cell. -/
theorem added_cells {W : World} {rest : List (String × DataW Unit)} (h : laidMet Tryz.prog ((nm2, .agg (((List.range 3).map fun k => (cd.addRow k).map fun (x : Nat) => (x : Int)).map (Lib.tabData .i64))) :: rest) W) :
    ∀ k, k < 3 → ∀ c, c < 53 → W.cell? ⟨4, k * 53 + c, none⟩ = some (.int .i64 (cd.addN k c : Int)) := by
  obtain ⟨ps, ⟨g', t', cs, fuel, p, q, hg', ht', hvar, hd, _, _⟩, _⟩ := h
  have hg : Tryz.prog.globalNamed nm2 = some 4 := by kernel_rfl
  obtain rfl := Option.some.inj (hg.symm.trans hg')
  obtain rfl := Option.some.inj ((show (Tryz.prog.globals[4]?).map (·.type) = some 188 by kernel_rfl).symm.trans ht')
  have hc := cd.cells_of_tab2 (n := 3) (m := 53) (k := .i64) Tryz.underlying188 Tryz.underlying187 Tryz.underlying3 (by kernel_rfl) (by kernel_rfl) (by kernel_rfl) hd
  intro k hk c hc53
  obtain ⟨zs, hz, hcs⟩ := hc k hk
  have hzz : zs = (cd.addRow k).map fun (x : Nat) => (x : Int) := by
    rw [List.getElem?_map, List.getElem?_range hk] at hz
    exact (Option.some.inj hz).symm
  have h1 := World.var?_cell hg hvar (k * 53 + c)
  have h2 : ((cs.toList.drop (k * 53)).take 53)[c]? = cs[k * 53 + c]? := by rw [List.getElem?_take, if_pos hc53, List.getElem?_drop, Array.getElem?_toList]
  rw [hcs, hzz] at h2
  have hlen := cd.addRow_len k hk
  have h3 : cs[k * 53 + c]? = some (.int .i64 (cd.addN k c : Int)) := by
    rw [← h2]
    simp [cd.addN, List.getD, hlen, hc53]
  exact h1.trans h3


theorem glob_of_laid {W : World} (h : laidMetH Tryz.prog laidL W) : GS W.heap.size W := by
  have h0 : laidMet Tryz.prog laidL W := h
  rw [laidL_tab] at h0
  have t0 := Lib.tabIs_of_head (show Tryz.prog.globalNamed nm0 = some 2 by kernel_rfl) (show (Tryz.prog.globals[2]?).map (·.type) = some 142 by kernel_rfl) Tryz.underlying142 Tryz.underlying43 (by kernel_rfl) (by kernel_rfl) h0
  have c0 := fun i (hi : i < 3) => Lib.TabIs.cell t0 (show Tryz.prog.globalNamed nm0 = some 2 by kernel_rfl) i hi
  have t1 := Lib.tabIs_of_head (show Tryz.prog.globalNamed nm1 = some 3 by kernel_rfl) (show (Tryz.prog.globals[3]?).map (·.type) = some 119 by kernel_rfl) Tryz.underlying119 Tryz.underlying3 (by kernel_rfl) (by kernel_rfl) h0.tail
  have c1 := fun i (hi : i < 3) => Lib.TabIs.cell t1 (show Tryz.prog.globalNamed nm1 = some 3 by kernel_rfl) i hi
  have t3 := Lib.tabIs_of_head (show Tryz.prog.globalNamed nm3 = some 5 by kernel_rfl) (show (Tryz.prog.globals[5]?).map (·.type) = some 119 by kernel_rfl) Tryz.underlying119 Tryz.underlying3 (by kernel_rfl) (by kernel_rfl) h0.tail.tail.tail
  have c3 := fun i (hi : i < 3) => Lib.TabIs.cell t3 (show Tryz.prog.globalNamed nm3 = some 5 by kernel_rfl) i hi
  have t5 := Lib.tabIs_of_head (show Tryz.prog.globalNamed nm5 = some 7 by kernel_rfl) (show (Tryz.prog.globals[7]?).map (·.type) = some 119 by kernel_rfl) Tryz.underlying119 Tryz.underlying3 (by kernel_rfl) (by kernel_rfl) h0.tail.tail.tail.tail.tail
  have c5 := fun i (hi : i < 3) => Lib.TabIs.cell t5 (show Tryz.prog.globalNamed nm5 = some 7 by kernel_rfl) i hi
  have t6 := Lib.tabIs_of_head (show Tryz.prog.globalNamed nm6 = some 0 by kernel_rfl) (show (Tryz.prog.globals[0]?).map (·.type) = some 119 by kernel_rfl) Tryz.underlying119 Tryz.underlying3 (by kernel_rfl) (by kernel_rfl) h0.tail.tail.tail.tail.tail.tail
  have c6 := fun i (hi : i < 3) => Lib.TabIs.cell t6 (show Tryz.prog.globalNamed nm6 = some 0 by kernel_rfl) i hi
  have t7 := Lib.tabIs_of_head (show Tryz.prog.globalNamed nm7 = some 1 by kernel_rfl) (show (Tryz.prog.globals[1]?).map (·.type) = some 119 by kernel_rfl) Tryz.underlying119 Tryz.underlying3 (by kernel_rfl) (by kernel_rfl) h0.tail.tail.tail.tail.tail.tail.tail
  have c7 := fun i (hi : i < 3) => Lib.TabIs.cell t7 (show Tryz.prog.globalNamed nm7 = some 1 by kernel_rfl) i hi
  have f0 : ∀ k, k < 3 → ([0, 1, 3] : List Int).getD k 0 = (cd.firstN k : Int) := by decide
  have f1 : ∀ k, k < 3 → ([35, 31, 52] : List Int).getD k 0 = (lastN k : Int) := by decide
  have f1' : ∀ k, k < 3 → ([35, 31, 52] : List Int).getD k 0 = (cd.lastN k : Int) := by decide
  have f3 : ∀ k, k < 3 → ([6, 5, 6] : List Int).getD k 0 = (logN k : Int) := by decide
  have f5 : ∀ k, k < 3 → ([9, 8, 9] : List Int).getD k 0 = (mostN k : Int) := by decide
  have f6 : ∀ k, k < 3 → ([1, 2, 0] : List Int).getD k 0 = (vo k : Int) := by decide
  have f7 : ∀ k, k < 3 → ([0, 2, 1] : List Int).getD k 0 = (so k : Int) := by decide
  have p4 := parts_cells h0.tail.tail.tail.tail
  have a2 := added_cells h0.tail.tail
  obtain ⟨A4, q4, _⟩ := p4 0 (by decide)
  have b0 : (2 : Nat) < W.heap.size := World.block_lt_of_cell? W _ (c0 0 (by decide))
  have b1 : (3 : Nat) < W.heap.size := World.block_lt_of_cell? W _ (c1 0 (by decide))
  have b3 : (5 : Nat) < W.heap.size := World.block_lt_of_cell? W _ (c3 0 (by decide))
  have b5 : (7 : Nat) < W.heap.size := World.block_lt_of_cell? W _ (c5 0 (by decide))
  have b6 : (0 : Nat) < W.heap.size := World.block_lt_of_cell? W _ (c6 0 (by decide))
  have b7 : (1 : Nat) < W.heap.size := World.block_lt_of_cell? W _ (c7 0 (by decide))
  have b2 : (4 : Nat) < W.heap.size := World.block_lt_of_cell? W _ (a2 0 (by decide) 0 (by decide))
  have b4 : (6 : Nat) < W.heap.size := World.block_lt_of_cell? W _ q4
  have h8 : 8 ≤ W.heap.size := by omega
  exact ⟨⟨fun k hk => (c1 k hk).trans (by rw [f1 k hk]), fun k hk => (c3 k hk).trans (by rw [f3 k hk]), fun k hk => (c5 k hk).trans (by rw [f5 k hk]), p4, h8, Nat.le_refl _⟩,
    ⟨fun k hk => (c1 k hk).trans (by rw [f1' k hk]), a2, fun k hk => (c0 k hk).trans (by rw [f0 k hk]), h8⟩, fun k hk => (c6 k hk).trans (by rw [f6 k hk]), fun k hk => (c7 k hk).trans (by rw [f7 k hk])⟩

/-! Arguments. -/
theorem u32_lt {n : Int} (h : (Lit.int .u32 n).wf = true) : n.toNat < 4294967296 ∧ ((n.toNat : Nat) : Int) = n := by
  have h' : 0 ≤ n ∧ n ≤ 4294967295 := by simpa [Lit.wf, IntKind.min, IntKind.max, IntKind.signed, IntKind.bits] using h
  omega
theorem small_of {a b c : Nat} (h0 : a < 4294967296) (h1 : b < 4294967296) (h2 : c < 4294967296) : (⟨a, b, c⟩ : Sq).Small := ⟨h0, h1, h2⟩
instance : Inhabited Sq := ⟨⟨0, 0, 0⟩⟩
set_option maxRecDepth 100000 in
theorem seqs_of {H : Type} {enc : TypeId × Value → H} {W : World} {a : Option Addr} {len cap : Nat} {d : DataW H} {p : List MemPlace}
    (h : ∃ fuel, DataW.trod enc Tryz.prog W 0 (fun _ => true) true fuel 24 (Value.cells (.slice a len cap)).toList = some (d, p)) :
    ∃ qs : List Sq, qs.length = len ∧ len ≤ cap ∧ cap ≤ maxLen ∧ (DatR 3 scell W 0 W.heap.size a qs ∧ ∀ q ∈ qs, q.Small) := by
  obtain ⟨fuel, h⟩ := h
  rcases open_slice Tryz.underlying24 h with ⟨hcs, _⟩ | ⟨ad, l, c, m, n, D, Pl, hcs, _, hl, hm, hmm, _, hi⟩
  · simp [Value.cells] at hcs
    obtain ⟨h1, h2, h3⟩ := hcs
    subst h1 h2 h3
    exact ⟨[], rfl, Nat.le_refl _, Nat.zero_le _, DatR.nil _ _ _ _ _ _, fun q hq => by cases hq⟩
  · simp [Value.cells] at hcs
    obtain ⟨h1, h2, h3⟩ := hcs
    subst h1 h2 h3
    have hlm : len ≤ m := by rw [hmm]; split <;> omega
    have hC : Tryz.prog.cellsOf 47 = 3 := by kernel_rfl
    rw [hC] at hi
    have hlist := list_of len (fun i (r : Sq) => (W.cell? (ad.add (i * 3)) = some (.int .u32 (r.l : Int)) ∧ W.cell? (ad.add (i * 3 + 1)) = some (.int .u32 (r.m : Int)) ∧ W.cell? (ad.add (i * 3 + 2)) = some (.int .u32 (r.o : Int))) ∧ r.Small) (fun i hil => by
      obtain ⟨cs', hc', ht'⟩ := hi i (by omega)
      obtain ⟨ys, n', _, _, _, hyl, hf⟩ := DataW.trod_struct Tryz.underlying47 ht'
      obtain ⟨_, hcl, hat⟩ := World.cells?_some hc'
      have hyl3 : ys.length = 3 := hyl
      match cs', hcl with
      | [e0, e1, e2], _ =>
        match ys, hyl3 with
        | [y0, y1, y2], _ =>
          have k3 : Tryz.prog.cellsOf 43 = 1 := by kernel_rfl
          have f0 : DataW.trod enc Tryz.prog W 0 (fun _ => true) true n' 43 (([e0, e1, e2].drop 0).take (Tryz.prog.cellsOf 43)) = some y0 := hf 0 _ rfl
          have f1 : DataW.trod enc Tryz.prog W 0 (fun _ => true) true n' 43 (([e0, e1, e2].drop 1).take (Tryz.prog.cellsOf 43)) = some y1 := hf 1 _ rfl
          have f2 : DataW.trod enc Tryz.prog W 0 (fun _ => true) true n' 43 (([e0, e1, e2].drop 2).take (Tryz.prog.cellsOf 43)) = some y2 := hf 2 _ rfl
          rw [k3] at f0 f1 f2
          obtain ⟨n0, g0, _, w0⟩ := DataW.trod_int Tryz.underlying43 (x := y0) f0
          obtain ⟨n1, g1, _, w1⟩ := DataW.trod_int Tryz.underlying43 (x := y1) f1
          obtain ⟨n2, g2, _, w2⟩ := DataW.trod_int Tryz.underlying43 (x := y2) f2
          have a0 : W.cell? (ad.add (i * 3)) = some e0 := by have := hat 0 (by omega); rw [add_add] at this; exact this
          have a1 : W.cell? (ad.add (i * 3 + 1)) = some e1 := by have := hat 1 (by omega); rw [add_add] at this; exact this
          have a2 : W.cell? (ad.add (i * 3 + 2)) = some e2 := by have := hat 2 (by omega); rw [add_add] at this; exact this
          injection g0 with g0
          injection g1 with g1
          injection g2 with g2
          exact ⟨⟨n0.toNat, n1.toNat, n2.toNat⟩, ⟨a0.trans (by rw [g0]; exact congrArg (fun z => some (Value.int .u32 z)) (u32_lt w0).2.symm), a1.trans (by rw [g1]; exact congrArg (fun z => some (Value.int .u32 z)) (u32_lt w1).2.symm), a2.trans (by rw [g2]; exact congrArg (fun z => some (Value.int .u32 z)) (u32_lt w2).2.symm)⟩, small_of (u32_lt w0).1 (u32_lt w1).1 (u32_lt w2).1⟩)
    obtain ⟨rs, hrl, hrs⟩ := hlist
    refine ⟨rs, hrl, hl, hm, fun hpos => ?_, fun q hq => ?_⟩
    · obtain ⟨b, o, spot⟩ := ad
      have hspot : spot = none := by simpa [Addr.add] using World.cell?_spot (hrs 0 hpos).1.1
      subst hspot
      have hb := World.block_lt_of_cell? W _ (hrs 0 hpos).1.1
      refine ⟨b, o, rfl, Nat.zero_le _, by simpa [Addr.add] using hb, fun j hj i v hv => ?_⟩
      obtain ⟨⟨q0, q1, q2⟩, _⟩ := hrs j hj
      rw [Go.WideShapes.add_plain] at q0 q1 q2
      have hi3 : i < 3 := by have := (List.getElem?_eq_some_iff.1 hv).1; exact this
      rcases (show i = 0 ∨ i = 1 ∨ i = 2 by omega) with rfl | rfl | rfl
      · injection hv with hv; rw [← hv]; exact q0
      · injection hv with hv; rw [← hv]; exact q1
      · injection hv with hv; rw [← hv]; exact q2
    · obtain ⟨i, hil, rfl⟩ := List.getElem_of_mem hq
      exact (hrs i hil).2
set_option maxRecDepth 100000 in
theorem seq_of {H : Type} {enc : TypeId × Value → H} {W : World} {v : Value} {d : DataW H} {p : List MemPlace}
    (hv : Value.okWide Tryz.prog W .any 0 47 v) (h : DataW.Trod enc Tryz.prog W 0 (fun _ => true) true 47 v d p) :
    ∃ q : Sq, v = .agg #[.int .u32 (q.l : Int), .int .u32 (q.m : Int), .int .u32 (q.o : Int)] ∧ q.Small := by
  obtain ⟨v0, v1, v2, y0, y1, y2, m, rfl, rfl, rfl, h0, h1, h2⟩ := Joins.open_agg3 Tryz.underlying47 (by kernel_rfl) (by kernel_rfl) hv h
  obtain ⟨n0, g0, _, w0⟩ := DataW.trod_int Tryz.underlying43 (x := y0) h0
  obtain ⟨n1, g1, _, w1⟩ := DataW.trod_int Tryz.underlying43 (x := y1) h1
  obtain ⟨n2, g2, _, w2⟩ := DataW.trod_int Tryz.underlying43 (x := y2) h2
  injection g0 with g0
  injection g1 with g1
  injection g2 with g2
  exact ⟨⟨n0.toNat, n1.toNat, n2.toNat⟩, by rw [g0, g1, g2]; show _ = Value.agg #[.int .u32 ((n0.toNat : Nat) : Int), .int .u32 ((n1.toNat : Nat) : Int), .int .u32 ((n2.toNat : Nat) : Int)]; rw [(u32_lt w0).2, (u32_lt w1).2, (u32_lt w2).2], small_of (u32_lt w0).1 (u32_lt w1).1 (u32_lt w2).1⟩
set_option maxRecDepth 100000 in
theorem kinds_of {H : Type} {enc : TypeId × Value → H} {W : World} {v : Value} {d : DataW H} {p : List MemPlace}
    (hv : Value.okWide Tryz.prog W .any 0 41 v) (h : DataW.Trod enc Tryz.prog W 0 (fun _ => true) true 41 v d p) :
    ∃ kb : Nat → Nat, v = .agg (kcells kb) ∧ ∀ k, k < 3 → kb k < 256 := by
  unfold Value.okWide at hv
  rw [Tryz.underlying41] at hv
  obtain ⟨cs, rfl, hsz, _⟩ := hv
  have hC : Tryz.prog.cellsOf 41 = 3 := by kernel_rfl
  have hC1 : Tryz.prog.cellsOf 5 = 1 := by kernel_rfl
  rw [hC] at hsz
  obtain ⟨fuel, hf⟩ := h
  cases fuel with
  | zero => simp [DataW.trod] at hf
  | succ fuel =>
    simp only [DataW.trod, Tryz.underlying41, hC, hC1, Nat.mul_one] at hf
    split at hf
    · obtain ⟨xs, hm, hx⟩ := Option.map_eq_some_iff.1 hf
      have hat : ∀ i, i < 3 → ∃ n : Nat, cs[i]? = some (.int .u8 (n : Int)) ∧ n < 256 := fun i hi => by
        obtain ⟨b, hb, hfb⟩ := Lib.mapM_at hm i i (by simp [hi])
        have hci : i < cs.size := by omega
        have h2 : ((Value.agg cs).cells.toList.drop i).take 1 = [cs[i]] := by
          show (cs.toList.drop i).take 1 = _
          rw [List.drop_eq_getElem_cons (by simpa using hci)]
          simp
        rw [h2] at hfb
        obtain ⟨n, g, _, w⟩ := DataW.trod_int Tryz.underlying5 (x := b) hfb
        injection g with g
        have hb := u8_bounds w
        exact ⟨n.toNat, by rw [Array.getElem?_eq_getElem hci, g]; simp; omega, by omega⟩
      obtain ⟨n0, q0, x0⟩ := hat 0 (by omega)
      obtain ⟨n1, q1, x1⟩ := hat 1 (by omega)
      obtain ⟨n2, q2, x2⟩ := hat 2 (by omega)
      refine ⟨fun k => if k = 0 then n0 else if k = 1 then n1 else n2, ?_, fun k hk => ?_⟩
      · congr 1
        apply Array.ext
        · rw [hsz]; rfl
        · intro i h1 h2
          have hi : i < 3 := by omega
          rcases (show i = 0 ∨ i = 1 ∨ i = 2 by omega) with rfl | rfl | rfl
          · rw [Array.getElem?_eq_getElem h1] at q0; injection q0
          · rw [Array.getElem?_eq_getElem h1] at q1; injection q1
          · rw [Array.getElem?_eq_getElem h1] at q2; injection q2
      · rcases (show k = 0 ∨ k = 1 ∨ k = 2 by omega) with rfl | rfl | rfl
        · exact x0
        · exact x1
        · exact x2
    · cases hf
end Go.Proofs.YtlidnialggpcpaaGreatDoor
