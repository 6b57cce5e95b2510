
/- The contract of the program's tableOf. -/
import Derived.Test.YtlidnialggpcpaaGreatDoorSeqEncW
import Derived.Test.YtlidnialggpcpaaGreatDoorPileF
namespace Go.Proofs.YtlidnialggpcpaaGreatDoor
open Go.RowKit

/-- The codes of a kind. -/
def codesOf13 (rs : List Cq) (k : Nat) : List Int := rs.map fun q => ((q.at k).c : Int)
/-- The codes of the first i rows, noughts behind them. -/
def codR (rs : List Cq) (k i : Nat) : List Int := (List.range rs.length).map fun j => if j < i then (((rs.getD j ⟨⟨0, 0, 0⟩, ⟨0, 0, 0⟩, ⟨0, 0, 0⟩⟩).at k).c : Int) else 0
theorem codR_len (rs : List Cq) (k i : Nat) : (codR rs k i).length = rs.length := by simp [codR]
theorem codR_get (rs : List Cq) (k i j : Nat) (h : j < (codR rs k i).length) : (codR rs k i)[j] = if j < i then (((rs.getD j ⟨⟨0, 0, 0⟩, ⟨0, 0, 0⟩, ⟨0, 0, 0⟩⟩).at k).c : Int) else 0 := by simp [codR]
theorem codR_zero (rs : List Cq) (k : Nat) : codR rs k 0 = List.replicate rs.length 0 := by
  apply List.ext_getElem
  · simp [codR]
  · intro j h1 h2
    rw [codR_get, if_neg (by omega)]
    simp
theorem codR_set (rs : List Cq) (k i : Nat) (hi : i < rs.length) : (codR rs k i).set i (((rs[i]).at k).c : Int) = codR rs k (i + 1) := by
  apply List.ext_getElem
  · simp [codR]
  · intro j h1 h2
    rw [List.getElem_set]
    split
    · next e =>
      subst e
      rw [codR_get, if_pos (by omega), List.getD_eq_getElem?_getD, List.getElem?_eq_getElem hi]
      rfl
    · next e =>
      rw [codR_get, codR_get]
      by_cases h : j < i
      · rw [if_pos h, if_pos (by omega)]
      · rw [if_neg h, if_neg (by omega)]
theorem codR_all (rs : List Cq) (k : Nat) : codR rs k rs.length = codesOf13 rs k := by
  apply List.ext_getElem
  · simp [codR, codesOf13]
  · intro j h1 h2
    have hj : j < rs.length := by rw [codR_len] at h1; exact h1
    rw [codR_get, if_pos hj, List.getD_eq_getElem?_getD, List.getElem?_eq_getElem hj]
    simp [codesOf13]
theorem DatR.coded {w : World} {lo hi : Nat} {A : Option Addr} {rs : List Cq} (h : DatR 9 Cq.list w lo hi A rs) (hx : 0 < rs.length) :
    ∃ d o, A = some ⟨d, o, none⟩ ∧ lo ≤ d ∧ d < hi ∧ ∀ j (hj : j < rs.length) i (_ : i < 9), w.cell? ⟨d, o + j * 9 + i, none⟩ = (rs[j].cells)[i]? := by
  obtain ⟨d, o, hA, h1, h2, hc⟩ := h hx
  refine ⟨d, o, hA, h1, h2, fun j hj i hi => ?_⟩
  have e : (rs[j].list)[i]? = (rs[j].cells)[i]? := by show (rs[j].cells.toList)[i]? = _; rw [Array.getElem?_toList]
  have hs : i < rs[j].cells.size := hi
  rw [Array.getElem?_eq_getElem hs] at e ⊢
  exact hc j hj i _ e
theorem has_of {es : List En} {rs : List Cq} {n : Nat} (h : HasAll es (oft (codesOf13 rs n))) (hc : ∀ q ∈ rs, (q.at n).c ≤ 52) : ∀ q ∈ rs, ∃ i, ∃ h : i < es.length, es[i].s = ((q.at n).c : Int) := fun q hq => by
  refine stF_at es.length (Nat.le_refl _) (h (q.at n).c (by have := hc q hq; omega) ?_)
  exact (oft_pos _ _).2 (List.mem_map.2 ⟨q, hq, rfl⟩)
theorem dat_weak13 {own : Bool} {w : World} {lo hi : Nat} {A : Option Addr} {xs : List UInt8} (h : Dat own w lo hi A xs) : Dat false w lo hi A xs := fun hx => by
  obtain ⟨d, o, h1, h2, h3, h4, _⟩ := h hx
  exact ⟨d, o, h1, h2, h3, h4, fun q => by cases q⟩
/-- What tableOf answers. -/
structure TofOk (n : Nat) (rs : List Cq) (w : World) (t : Tb) (A1 : Option Addr) (mode : Nat) (At : Option Addr) (told : List UInt8) : Prop where
  ok : TOk n t
  way : WayT n mode told t
  ent : DatR 3 ecell w 0 w.heap.size A1 t.es
  dat : Dat false w 0 w.heap.size At told
  has : ∀ q ∈ rs, (∃ i, ∃ h : i < t.es.length, t.es[i].s = ((q.at n).c : Int)) ∧ Rea t.es (q.at n).c
  one : (∀ q ∈ rs, ∀ p ∈ rs, (q.at n).c = (p.at n).c) → t.es.length = 1
  sm : told.length ≤ 100000
theorem tof_of_wr {w : World} {n : Nat} {rs : List Cq} {x : Wy} {es : List En} (hn : n < 3) (h : WrOk n (codesOf13 rs n) w x es) (hc : ∀ q ∈ rs, (q.at n).c ≤ 52) (hne : ¬ ∀ q ∈ rs, ∀ p ∈ rs, (q.at n).c = (p.at n).c) :
    ∃ (t : Tb) (mode : Nat) (told : List UInt8), x.log = (t.lg : Int) ∧ x.n = t.es.length ∧ x.mode = (mode : Int) ∧ x.tn = told.length ∧ TofOk n rs w t x.e mode x.t told := by
  have hhas := has_of h.has hc
  rcases h.how with ⟨m1, l0, tn1, _, s, hs, hes, hd⟩ | ⟨hg, _⟩
  · subst hes
    refine ⟨⟨0, [⟨(s : Int), 0, 0⟩]⟩, 1, [UInt8.ofNat s], l0, h.lies.len.symm, m1, tn1, tok_one hs, way_one hn hs, h.lies.ent, hd, fun q hq => ⟨hhas q hq, ?_⟩, fun _ => rfl, by simp⟩
    obtain ⟨i, hi, e⟩ := hhas q hq
    obtain rfl : i = 0 := by simpa using hi
    have e' : (s : Int) = ((q.at n).c : Int) := e
    rw [show (q.at n).c = s by omega]
    exact rea_one s
  · rcases hg with ⟨m0, hlg, he, tn0, t0, _⟩ | ⟨m2, l, ps, hm, hlg, hl, hp, he, htn, _, hd⟩
    · dsimp only at m0 hlg he tn0 t0
      subst he
      refine ⟨⟨logN n, tabG n⟩, 0, [], hlg, h.lies.len.symm, m0, tn0, tok_given hn, way_given n, h.lies.ent, fun q => by simp at q, fun q hq => ⟨hhas q hq, rea_tab (givenF hn) (hhas q hq)⟩, fun q => absurd q hne, by simp⟩
    · dsimp only at m2 hlg he htn hd
      subst he
      refine ⟨⟨l, tab l ps⟩, 2, bytesOf (wrC l ps), hlg, h.lies.len.symm, m2, htn, tok_tab (mayF hm) (by have := most_le n hn; omega) hp, way_told hm hl hp, h.lies.ent, dat_weak13 hd, fun q hq => ⟨hhas q hq, rea_tab (mayF hm) (hhas q hq)⟩, fun q => absurd q hne, by rw [bytesOf_length]; have := wrC_bound hm; omega⟩
section
variable {B : Nat} {w : World} {lo hi m c n : Nat} {A : Option Addr} {rs : List Cq}
/-- What stands in tableOf behind i codes. -/
structure TfI (B : Nat) (w wx : World) (lo hi : Nat) (A : Option Addr) (rs : List Cq) (n d i : Nat) : Prop where
  gs : GS B wx
  da : DatR 9 Cq.list wx lo hi A rs
  br : Box wx w.heap.size 27 #[.int .i64 0, .slice none 0 0]
  ow : OwE icel wx 3 (w.heap.size + 1) (.slice (some ⟨d, 0, none⟩) rs.length rs.length) (codR rs n i)
  be : Below w.heap.size w wx
set_option maxRecDepth 100000 in
set_option maxHeartbeats 4000000 in
theorem tableOf_any (hgl : GS B w) (hd : DatR 9 Cq.list w lo hi A rs) (hhi : hi ≤ w.heap.size) (hm : rs.length = m) (h0 : 0 < m) (hm2 : m ≤ 1000) (hn : n < 3) (hc : ∀ q ∈ rs, (q.at n).c ≤ lastN n) :
    Calls Tryz.prog 66 #[.int .i64 (n : Int), .slice A m c] w fun e w' => Below w.heap.size w w' ∧ ∃ (t : Tb) (A1 : Option Addr) (c1 : Nat) (mode : Nat) (At : Option Addr) (told : List UInt8) (ct : Nat),
      e = .returned (.tuple #[.agg #[.int .i64 (t.lg : Int), .slice A1 t.es.length c1], .int .i64 (mode : Int), .slice At told.length ct]) ∧ TofOk n rs w' t A1 mode At told ∧ LowA w.heap.size A1 := by
  have hBw := hgl.size
  have HC := Lib.hid hc
  have HM := Lib.hid hm
  obtain ⟨i0, hi0, hz0, hz1, hz2⟩ := info_parts int_info
  have HI := Lib.hid (And.intro hi0 (And.intro hz0 (And.intro hz1 hz2)))
  obtain ⟨W, hW⟩ : ∃ W, W = w.alloc (.cells #[.int .i64 0, .slice none 0 0] 27) := ⟨_, rfl⟩
  have hb : Below w.heap.size w W := by rw [hW]; exact (Below.refl _ _).alloc (Nat.le_refl _) _
  have hWs : W.heap.size = w.heap.size + 1 := by rw [hW]; simp
  have hbr : Box W w.heap.size 27 #[.int .i64 0, .slice none 0 0] := by rw [hW]; exact Box.new w _ _
  have HS := Lib.hid (And.intro (hgl.below hb hgl.size) (And.intro (hd.below hb hhi) (And.intro hbr hb)))
  have HWs := Lib.hid hWs
  have hnn : (n : Int) < 3 := by omega
  clear hgl hd hm hc hi0 hz0 hz1 hz2 hb hbr hWs
  go_enter Tryz.func66, Tryz.ntmps66
  go_upto_region 1 with (fail)
  rw [← hW]
  clear hW
  go_wp2_with (at_make; refine wpList_make_full _ rfl _ _ 72 rfl W.heap.size 3 i0 (.int .i64 0) 1 Tryz.underlying72 HI.out.1 HI.out.2.1 HI.out.2.2.1 .i64 .i64 _ _ m rfl rfl rfl rfl ?_ ?_ ?_ ?_)
  · first | omega | (rw [HI.out.2.2.2]; omega)
  · unfold maxLen; omega
  · exact Nat.le_refl _
  intro w1 ho hg
  have ho1 : OwE icel w1 3 W.heap.size (.slice (some ⟨W.heap.size, 0, none⟩) m m) (List.replicate m 0) := by
    unfold OwE
    rw [List.length_replicate, List.map_replicate]
    have h := ho
    rw [toList_madeCells_one] at h
    exact h
  obtain ⟨d, hdd⟩ : ∃ d, d = W.heap.size := ⟨_, rfl⟩
  have hdz : d < w1.heap.size := by have := (ho1.block W.heap.size rfl).2; omega
  have hI0 : TfI B w w1 lo hi A rs n d 0 := by
    have hb1 : Below W.heap.size W w1 := (Below.refl _ _).grown hg (Nat.le_refl _) (by simp)
    refine ⟨HS.out.1.below hb1 HS.out.1.size, HS.out.2.1.below hb1 (by have := HWs.out; omega), HS.out.2.2.1.below hb1 HS.out.2.2.1.lt, ?_, HS.out.2.2.2.trans (hb1.mono (by have := HWs.out; omega))⟩
    rw [codR_zero, HM.out, hdd]
    have := HWs.out
    rw [this] at ho1 ⊢
    exact ho1
  have HI0 := Lib.hid hI0
  have hdw : d = w.heap.size + 1 := by have := HWs.out; omega
  have HDw := Lib.hid hdw
  rw [← hdd]
  clear ho ho1 hg hI0 HI HS hdd hdw
  go_wp2_with fail
  go_loopg [8, 9, 20] m (fun gh i8 i9 ii wx => ∃ i : Nat, i + gh = m ∧ ii = .int .i64 (i : Int) ∧ d < wx.heap.size ∧ Hid (TfI B w wx lo hi A rs n d i))
  case atStart => exact ⟨0, by omega, rfl, hdz, HI0⟩
  case round =>
    obtain ⟨i, hi', rfl, hdx, HE⟩ := hrel
    have HK := Lib.hid hi'
    have him : i ≤ m := by omega
    clear hi' HI0
    by_cases hlt : i < m
    · obtain ⟨g', rfl⟩ : ∃ g', gk = g' + 1 := ⟨gk - 1, by have := HK.out; omega⟩
      have hki : (i : Int) < (m : Int) := by omega
      have hil : i < rs.length := by have := HM.out; omega
      obtain ⟨dd, oo, rfl, hd1, hd2, hcc⟩ := HE.out.da.coded (by omega)
      obtain ⟨q, hq⟩ : ∃ q, q = rs[i] := ⟨_, rfl⟩
      have x0 := hcc i hil 0 (by omega)
      have x1 := hcc i hil 1 (by omega)
      have x2 := hcc i hil 2 (by omega)
      have x3 := hcc i hil 3 (by omega)
      have x4 := hcc i hil 4 (by omega)
      have x5 := hcc i hil 5 (by omega)
      have x6 := hcc i hil 6 (by omega)
      have x7 := hcc i hil 7 (by omega)
      have x8 := hcc i hil 8 (by omega)
      rw [← hq] at x0 x1 x2 x3 x4 x5 x6 x7 x8
      simp [Cq.cells] at x0 x1 x2 x3 x4 x5 x6 x7 x8
      obtain ⟨V1, hV1⟩ : ∃ V1, V1 = wr.alloc (.cells q.cells 146) := ⟨_, rfl⟩
      have hbv1 : Below wr.heap.size wr V1 := by rw [hV1]; exact (Below.refl _ _).alloc (Nat.le_refl _) _
      have hxv1 : Box V1 wr.heap.size 146 q.cells := by rw [hV1]; exact Box.new wr _ _
      have y0 := (hxv1.cell (n * 3)).trans (q.cell hn).1
      have how1 := HE.out.ow.below hbv1 (Nat.le_refl _)
      have hil2 : i < (codR rs n i).length := by rw [codR_len]; exact hil
      have hc0 := how1.cellAt i hil2
      have hput := how1.put i ((q.at n).c : Int)
      rw [hq, codR_set rs n i hil, ← hq] at hput
      have hdV : d < V1.heap.size := by have := hbv1.size; omega
      have HF : Hid (TfI B w (V1.setCell ⟨d, i, none⟩ (.int .i64 ((q.at n).c : Int))) lo hi (some ⟨dd, oo, none⟩) rs n d (i + 1)) := by
        have hn' : ∀ j, j ≠ d → (V1.setCell ⟨d, i, none⟩ (.int .i64 ((q.at n).c : Int))).heap[j]? = V1.heap[j]? := fun j hj => Below.heap_setCell _ _ _ j hj
        have hw1 := HE.out.be.size
        have hdo := HDw.out
        exact ⟨(HE.out.gs.below hbv1 HE.out.gs.size).keep (fun j hj => hn' j (by omega)) (by simp [World.setCell]), (HE.out.da.below hbv1 (by omega)).keep fun j _ hj => hn' j (by omega), (HE.out.br.below hbv1 (by omega)).keep (hn' _ (by omega)), hput, (HE.out.be.trans (hbv1.mono hw1)).setCell (by show w.heap.size ≤ d; omega) _⟩
      obtain ⟨c0, c1⟩ := hc0
      clear hxv1 hbv1 how1 hput hcc HE hq
      go_upto_region 5 with (fail)
      change Code.wp _ _ _ _ (wr.alloc (.cells q.cells 146))
      rw [← hV1]
      clear hV1 x0 x1 x2 x3 x4 x5 x6 x7 x8
      go_wp2_with fail
      go_roundg g'
      case rel => exact ⟨i + 1, by have := HK.out; omega, by go_num, by simp [World.setCell]; omega, HF⟩
      case measure => omega
    · obtain rfl : i = m := by omega
      have hki : ¬ (i : Int) < (i : Int) := by omega
      have how := HE.out.ow
      rw [show codR rs n i = codesOf13 rs n by rw [← HM.out]; exact codR_all rs n] at how
      have hlen : (codesOf13 rs n).length = i := by unfold codesOf13; rw [List.length_map, HM.out]
      rw [HM.out] at how
      obtain ⟨Al, cl, hv, hcl, hdl⟩ := how.form
      injection hv with hv1 hv2 hv3
      subst hv1 hv3
      have hgs := HE.out.gs
      have hbe := HE.out.be
      have hbr := HE.out.br
      have hc52 : ∀ q ∈ rs, (q.at n).c ≤ 52 := fun q hq => by have := HC.out q hq; have := last_le n hn; omega
      obtain ⟨l, hl⟩ : ∃ l, l = codesOf13 rs n := ⟨_, rfl⟩
      rw [← hl] at hdl hlen how
      have HL := Lib.hid hl
      have HMi := Lib.hid (minZ_any (c := i) hdl hlen h0 (by omega))
      have HMa := Lib.hid (maxZ_any (c := i) hdl hlen h0 (by omega))
      have HDl := Lib.hid hdl
      have HLe := Lib.hid hlen
      have HF := Lib.hid (And.intro hgs (And.intro hbe hbr))
      have hd0 : ∀ z : 0 < l.length, wr.cell? ⟨d, 0, none⟩ = some (.int .i64 (l[0]'z)) := fun z => (how.cellAt 0 z).1
      have HC5 := Lib.hid hc52
      clear hl how hcl hv2 hgs hbe hbr hc52 HE hlen hdl
      go_wp2_with fail
      refine HMi.out.mono ?_
      rintro e w2 ⟨mn, rfl, hmn1, hmn2, rfl⟩
      go_wp2_with fail
      refine HMa.out.mono ?_
      rintro e w2 ⟨mx, rfl, hmx1, hmx2, rfl⟩
      by_cases hsame : mn = mx
      · have hall : ∀ x ∈ l, x = mn := fun x hx => by have := hmn2 x hx; have := hmx2 x hx; omega
        have hl0 : l[0]'(by have := HLe.out; omega) = mn := hall _ (List.getElem_mem _)
        have hmem : ∃ s : Nat, mn = (s : Int) ∧ s ≤ lastN n := by
          rw [HL.out] at hmn1
          obtain ⟨q, hq, he⟩ := List.mem_map.1 hmn1
          exact ⟨(q.at n).c, he.symm, HC.out q hq⟩
        obtain ⟨s, hs, hsl⟩ := hmem
        have hs52 := last_le n hn
        have hq0 : w2.cell? ⟨d, 0, none⟩ = some (.int .i64 (s : Int)) := by
          have := hd0 (by have := HLe.out; omega)
          rw [hl0, hs] at this
          exact this
        have hsw : IntKind.u8.wrap (s : Int) = (s : Int) := by rw [IntKind.wrap_u8]; omega
        have hAll : Hid (∀ q ∈ rs, (q.at n).c = s) := fun q hq => by
          have := hall ((q.at n).c : Int) (by rw [HL.out]; exact List.mem_map.2 ⟨q, hq, rfl⟩)
          omega
        have hi0' : (0 : Int) < (i : Int) := by omega
        subst hsame
        clear hall hl0 hd0 hmn1 hmn2 hmx1 hmx2 HMi HMa hs
        go_wp2_with fail
        refine (one_any (s : Int) _).mono ?_
        rintro e w3 ⟨v3, rfl, ho3, hB3⟩
        obtain ⟨A3, c3, rfl, hc3, hd3⟩ := ho3.form ecell_len
        have HL3 : Hid (LowA w.heap.size A3) := fun d o s e => by
          subst e
          have h1 := (ho3.block d rfl).1
          have h2 : w.heap.size < w2.heap.size := HF.out.2.2.lt
          omega
        have h8 : (UInt8.ofNat s).toNat = s := by rw [UInt8.toNat_ofNat']; omega
        obtain ⟨t0, t1, g0, g1⟩ := box2 (HF.out.2.2.below hB3 HF.out.2.2.lt)
        have hw3 : w.heap.size < w3.heap.size := (HF.out.2.2.below hB3 HF.out.2.2.lt).lt
        have hz2 := hB3.size
        have hlt2 : w.heap.size < w2.heap.size := HF.out.2.2.lt
        obtain ⟨W4, hW4⟩ : ∃ W4, W4 = (w3.setCell ⟨w.heap.size, 0, none⟩ (.int .i64 0)).setCell ⟨w.heap.size, 1, none⟩ (.slice A3 1 c3) := ⟨_, rfl⟩
        have hs4 : W4.heap.size = w3.heap.size := by rw [hW4]; simp
        have hbz : Below w.heap.size w W4 := by rw [hW4]; exact (((HF.out.2.1.trans (hB3.mono HF.out.2.1.size)).setCell (Nat.le_refl _) _).setCell (Nat.le_refl _) _)
        have hd4 : DatR 3 ecell W4 w2.heap.size w3.heap.size A3 [⟨(s : Int), 0, 0⟩] := by
          rw [hW4]
          exact hd3.keep fun j hj _ => by rw [Below.heap_setCell _ _ _ j (by show j ≠ w.heap.size; omega), Below.heap_setCell _ _ _ j (by show j ≠ w.heap.size; omega)]
        have hdo := dat_one W4 (UInt8.ofNat s) 5
        rw [show cel (UInt8.ofNat s) = .int .u8 (s : Int) by show Value.int .u8 ((UInt8.ofNat s).toNat : Int) = _; rw [h8], hs4] at hdo
        have hb4 : Below W4.heap.size W4 (W4.alloc (.cells #[.int .u8 (s : Int)] 5)) := (Below.refl _ _).alloc (Nat.le_refl _) _
        have HBz := Lib.hid (hbz.trans (hb4.mono hbz.size))
        have HD3 := Lib.hid ((hd4.below hb4 (by omega)).mono (Nat.zero_le _) (show w3.heap.size ≤ (W4.alloc (.cells #[.int .u8 (s : Int)] 5)).heap.size by rw [World.size_alloc, hs4]; omega))
        have HDo := Lib.hid ((dat_weak13 hdo).mono (Nat.zero_le _) (show w3.heap.size + 1 ≤ (W4.alloc (.cells #[.int .u8 (s : Int)] 5)).heap.size by rw [World.size_alloc, hs4]; omega))
        have HW4 := Lib.hid hW4
        have hbx4 : Box (W4.alloc (.cells #[.int .u8 (s : Int)] 5)) w.heap.size 27 #[.int .i64 0, .slice A3 1 c3] := by rw [hW4]; exact (((HF.out.2.2.below hB3 HF.out.2.2.lt).put 0 _).put 1 _).alloc _
        obtain ⟨p0, p1, _, _⟩ := box2 hbx4
        have HP := Lib.hid (And.intro p0 p1)
        clear hbx4 p0 p1
        clear ho3 hB3 hc3 hd3 hdo hb4 hbz hd4 hW4
        go_wp2_with fail
        rw [← HW4.out]
        refine bodyPost_ret (v := .tuple #[.agg #[.int .i64 0, .slice A3 1 c3], .int .i64 1, .slice (some ⟨w3.heap.size, 0, none⟩) 1 1]) (by simp [results, Tryz.results66, go_sem, HP.out.1, HP.out.2]) rfl ⟨HBz.out, ⟨0, [⟨(s : Int), 0, 0⟩]⟩, A3, c3, 1, some ⟨w3.heap.size, 0, none⟩, [UInt8.ofNat s], 1, rfl, ?_⟩
        refine ⟨?_, HL3.out⟩
        exact ⟨tok_one hsl, way_one hn hsl, HD3.out, HDo.out, fun q hq => by rw [hAll.out q hq]; exact ⟨⟨0, by simp, rfl⟩, rea_one s⟩, fun _ => rfl, by simp⟩
      · have hyes : codesB n l = true := codesB_iff.2 ⟨by have := HLe.out; omega, fun x hx => by
          rw [HL.out] at hx
          obtain ⟨q, hq, he⟩ := List.mem_map.1 hx
          have := HC.out q hq
          omega⟩
        have hne : Hid (¬ ∀ q ∈ rs, ∀ p ∈ rs, (q.at n).c = (p.at n).c) := fun hh => by
          rw [HL.out] at hmn1 hmx1
          obtain ⟨q, hq, he⟩ := List.mem_map.1 hmn1
          obtain ⟨p, hp, he2⟩ := List.mem_map.1 hmx1
          have := hh q hq p hp
          omega
        have hss : ∃ s : Nat, s < 53 ∧ (s : Int) ∈ codesOf13 rs n := by
          rw [HL.out] at hmn1
          obtain ⟨q, hq, he⟩ := List.mem_map.1 hmn1
          exact ⟨(q.at n).c, by have := HC5.out q hq; omega, List.mem_map.2 ⟨q, hq, rfl⟩⟩
        have HSs := Lib.hid hss
        have HWr := Lib.hid (writeT_low (c := i) hn HF.out.1.t HDl.out (Nat.le_refl _) HLe.out hm2 hyes)
        have hsf : (mn == mx) = false := by simp [hsame]
        clear hmn1 hmn2 hmx1 hmx2 HMi HMa hd0 hyes hss
        go_upto_region 10 with (fail)
        go_wp2_with fail
        refine HWr.out.mono ?_
        rintro e w3 ⟨x, es, rfl, hwr, hB3, hlo⟩
        have HLo : Hid (LowA w.heap.size x.e) := fun d o s e => by
          have h1 := hlo d o s e
          have h2 : w.heap.size < w2.heap.size := HF.out.2.2.lt
          omega
        clear hlo
        rw [HL.out] at hwr
        have hbx3 := HF.out.2.2.below hB3 HF.out.2.2.lt
        obtain ⟨t0, t1, g0, g1⟩ := box2 hbx3
        obtain ⟨s, hs53, hsl⟩ := HSs.out
        have hw3 : w.heap.size < w3.heap.size := hbx3.lt
        have hoff := hwr.off (g := w.heap.size) hs53 hsl (fun i y => box2_u8 hbx3)
        obtain ⟨W4, hW4⟩ : ∃ W4, W4 = (w3.setCell ⟨w.heap.size, 0, none⟩ (.int .i64 x.log)).setCell ⟨w.heap.size, 1, none⟩ (.slice x.e x.n x.c) := ⟨_, rfl⟩
        have hbz : Below w.heap.size w W4 := by rw [hW4]; exact (((HF.out.2.1.trans (hB3.mono HF.out.2.1.size)).setCell (Nat.le_refl _) _).setCell (Nat.le_refl _) _)
        have hw4 : WrOk n (codesOf13 rs n) W4 x es := by
          rw [hW4]
          exact (hwr.set hoff _).set hoff _
        have hb4 : Below W4.heap.size W4 (W4.alloc (.cells #[.int .i64 x.log, .slice x.e x.n x.c] 27)) := (Below.refl _ _).alloc (Nat.le_refl _) _
        have hbx4 : Box (W4.alloc (.cells #[.int .i64 x.log, .slice x.e x.n x.c] 27)) w.heap.size 27 #[.int .i64 x.log, .slice x.e x.n x.c] := by rw [hW4]; exact ((hbx3.put 0 _).put 1 _).alloc _
        obtain ⟨p0, p1, _, _⟩ := box2 hbx4
        have HP := Lib.hid (And.intro p0 p1)
        have HBz := Lib.hid (hbz.trans (hb4.mono hbz.size))
        have HOk := Lib.hid (tof_of_wr hn (hw4.below hb4) HC5.out hne.out)
        have HW4 := Lib.hid hW4
        clear hB3 hbx3 hwr hoff hbz hw4 hb4 hbx4 p0 p1 hW4
        go_wp2_with fail
        rw [← HW4.out]
        obtain ⟨t, mode, told, e1, e2, e3, e4, hok⟩ := HOk.out
        refine bodyPost_ret (v := .tuple #[.agg #[.int .i64 x.log, .slice x.e x.n x.c], .int .i64 x.mode, .slice x.t x.tn x.tc]) (by simp [results, Tryz.results66, go_sem, HP.out.1, HP.out.2]) rfl ⟨HBz.out, t, x.e, x.c, mode, x.t, told, x.tc, by rw [e1, e2, e3, e4], hok, HLo.out⟩
end
end Go.Proofs.YtlidnialggpcpaaGreatDoor
