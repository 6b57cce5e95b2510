
/- The contract of the program's sequence. -/
import Derived.Test.YtlidnialggpcpaaGreatDoorSeqOne
namespace Go.Proofs.YtlidnialggpcpaaGreatDoor
open Go.RowKit

section
variable {B : Nat} {w : World} {lo g hi : Nat} {xs : List UInt8} {left : Int} {x : Ts} {T : T3} {s : St}
/-- The boxes of sequence, and the reader, after k values. -/
structure SqI (B : Nat) (w wx : World) (lo g hi : Nat) (xs : List UInt8) (left : Int) (x : Ts) (T : T3) (s : St) (k : Nat) : Prop where
  gs : GS B wx
  bw : BW wx lo g xs (seqL xs T s left k)
  ti : TsIn wx hi x T
  bt : Box wx w.heap.size 29 x.cells
  bs : Box wx (w.heap.size + 1) 120 s.cells
  br : Box wx (w.heap.size + 1 + 1) 47 #[.int .u32 0, .int .u32 0, .int .u32 0]
  bn : Box wx (w.heap.size + 1 + 1 + 1) 142 (nums (seqX xs T s left) k)
  gr : w.grownBy wx (some g)
  sz : w.heap.size + 4 ≤ wx.heap.size
theorem index_three (a b c : Int) {k : Nat} (hk : k < 3) (W : World) (z : Int) (hz : (k = 0 → z = a) ∧ (k = 1 → z = b) ∧ (k = 2 → z = c)) :
    (Instr.index 119 (.agg #[.int .i64 a, .int .i64 b, .int .i64 c]) (.int .i64 (k : Int))).run Tryz.prog W = .ok (.int .i64 z) W := by
  obtain ⟨h0, h1, h2⟩ := hz
  obtain ⟨i0, hi0, hz0, hz1, hz2⟩ := info_parts int_info
  rcases (show k = 0 ∨ k = 1 ∨ k = 2 by omega) with rfl | rfl | rfl
  · rw [h0 rfl]; simp [Instr.index, run_underlying Tryz.underlying119, asIntOf, sizeOf, typeInfo, part, go_sem, hi0, hz1]
  · rw [h1 rfl]; simp [Instr.index, run_underlying Tryz.underlying119, asIntOf, sizeOf, typeInfo, part, go_sem, hi0, hz1]
  · rw [h2 rfl]; simp [Instr.index, run_underlying Tryz.underlying119, asIntOf, sizeOf, typeInfo, part, go_sem, hi0, hz1]
set_option maxRecDepth 100000 in
set_option maxHeartbeats 4000000 in
theorem sequence_any (hgl : GS B w) (h : BW w lo g xs left) (hB : B ≤ g) (hl : -100000000000 ≤ left) (hx : TsIn w hi x T) (hhi : hi ≤ w.heap.size) (hig : hi ≤ g) (hT : T3Ok T) (hs : StOk T s) :
    Calls Tryz.prog 52 #[x.val, .agg s.cells, .pointer (some ⟨g, 0, none⟩)] w fun e w' =>
      e = .returned (.tuple #[.agg #[.int .u32 (seqX xs T s left 2 : Int), .int .u32 (seqX xs T s left 1 : Int), .int .u32 (seqX xs T s left 0 : Int)], .int .i64 0]) ∧ BW w' lo g xs (seqL xs T s left 3) ∧ w.grownBy w' (some g) := by
  have hglt := h.lt
  obtain ⟨W, hW⟩ : ∃ W, W = (((w.alloc (.cells x.cells 29)).alloc (.cells s.cells 120)).alloc (.cells #[.int .u32 0, .int .u32 0, .int .u32 0] 47)).alloc (.cells #[.int .u32 0, .int .u32 0, .int .u32 0] 142) := ⟨_, rfl⟩
  have HS0 : Hid (SqI B w W lo g hi xs left x T s 0) := by
    rw [hW]
    have hb : Below w.heap.size w ((((w.alloc (.cells x.cells 29)).alloc (.cells s.cells 120)).alloc (.cells #[.int .u32 0, .int .u32 0, .int .u32 0] 47)).alloc (.cells #[.int .u32 0, .int .u32 0, .int .u32 0] 142)) := ((((Below.refl _ _).alloc (Nat.le_refl _) _).alloc (by simp) _).alloc (by simp; omega) _).alloc (by simp; omega) _
    have h1 := Box.new (w.alloc (.cells x.cells 29)) 120 s.cells
    have h2 := Box.new ((w.alloc (.cells x.cells 29)).alloc (.cells s.cells 120)) 47 #[.int .u32 0, .int .u32 0, .int .u32 0]
    have h3 := Box.new (((w.alloc (.cells x.cells 29)).alloc (.cells s.cells 120)).alloc (.cells #[.int .u32 0, .int .u32 0, .int .u32 0] 47)) 142 #[.int .u32 0, .int .u32 0, .int .u32 0]
    rw [World.size_alloc] at h1
    rw [World.size_alloc, World.size_alloc] at h2
    rw [World.size_alloc, World.size_alloc, World.size_alloc] at h3
    exact ⟨hgl.below hb hgl.size, h.below hb hglt, hx.below hb hhi, (((Box.new w _ _).alloc _).alloc _).alloc _, (h1.alloc _).alloc _, h2.alloc _, h3, grown_of_below hb _, by simp⟩
  have HT := Lib.hid hT
  have HSt := Lib.hid hs
  have hgB : B ≤ w.heap.size := hgl.size
  clear h hx hT hs hgl
  unfold Ts.val St.cells
  go_enter Tryz.func52, Tryz.ntmps52
  go_upto_region 2 with (fail)
  change Code.wp _ _ _ _ ((((w.alloc (.cells x.cells 29)).alloc (.cells s.cells 120)).alloc (.cells #[.int .u32 0, .int .u32 0, .int .u32 0] 47)).alloc (.cells #[.int .u32 0, .int .u32 0, .int .u32 0] 142))
  rw [← hW]
  clear hW
  have v0 := HS0.out.gs.v 0 (by decide)
  have v1 := HS0.out.gs.v 1 (by decide)
  have v2 := HS0.out.gs.v 2 (by decide)
  simp only [vo] at v0 v1 v2
  go_wp2_with fail
  clear v0 v1 v2
  go_loopg [10, 11, 12, 13, 15] 3 (fun gh i10 i11 i12 i13 i wx => ∃ k : Nat, k + gh = 3 ∧ i = .int .i64 (k : Int) ∧ Hid (SqI B w wx lo g hi xs left x T s k))
  case atStart => exact ⟨0, rfl, rfl, HS0⟩
  case round =>
    obtain ⟨k, hk, rfl, HS⟩ := hrel
    have HK := Lib.hid hk
    have hk3 : k ≤ 3 := by omega
    clear hk HS0
    by_cases hlt : k < 3
    · obtain ⟨g', rfl⟩ : ∃ g', gk = g' + 1 := ⟨gk - 1, by have := HK.out; omega⟩
      have hki : (k : Int) < 3 := by omega
      have hvi := fun W => index_three 1 2 0 hlt W (vo k : Int) ⟨fun e => by rw [e]; rfl, fun e => by rw [e]; rfl, fun e => by rw [e]; rfl⟩
      have hvk := vo_lt k
      have hsz := HS.out.sz
      have hlK := seqL_le xs T s left k
      have hTk := HT.out.tb hvk
      have hsk := HSt.out.at hvk
      obtain ⟨sy, b, e, hx, hsyl, _, _⟩ := hTk.ent _ hsk
      obtain ⟨hcode, hcdv, hend, hadd⟩ := cdv_lt xs hvk hsk hx hsyl (seqL xs T s left k)
      have hX : seqX xs T s left k = cd.beginN (vo k) sy + (bread xs (seqL xs T s left k) (cd.addN (vo k) sy : Int)).1 := by unfold seqX; rw [hcdv]
      have hL : seqL xs T s left (k + 1) = (bread xs (seqL xs T s left k) (cd.addN (vo k) sy : Int)).2 := by rw [seqL, hcdv]
      have hsy52 : sy ≤ 52 := by have := last_le _ hvk; omega
      have hnum := Lib.hid (nums_set (seqX xs T s left) hlt)
      have hnat := nums_at (seqX xs T s left) hlt
      have hlt32 := bread_lt xs (seqL xs T s left k) (cd.addN (vo k) sy)
      have HCo := Lib.hid (codeOf_any (w := wr.drew) (c := x.c (vo k)) (L := (x.l (vo k) : Int)) (HS.out.ti.d _ hvk) (by have := HS.out.gr.size; show hi ≤ wr.heap.size; omega) (HS.out.ti.n _ hvk).symm (by rw [HS.out.ti.n _ hvk]; exact hsk) (sy := sy) (by rw [hx]) (by omega) (by rw [HS.out.ti.n _ hvk]; have := hTk.small; omega))
      have HCc : Hid (∀ W', cd.Glob W' → Calls Tryz.prog 64 #[.int .i64 (vo k : Int), .int .i64 (sy : Int)] W' fun e w' => e = .returned (.tuple #[.int .u32 (cd.beginN (vo k) sy : Int), .int .i64 (cd.addN (vo k) sy : Int), .int .i64 0]) ∧ Below W'.heap.size W' w') := fun W' hW' => by
        have := cd.code_any (vo k : Int) (sy : Int) W' hW'
        rw [hcode] at this
        exact this
      have t0 := (HS.out.bt.cell (vo k * 2)).trans (x.at hvk).1
      have t1 := (HS.out.bt.cell (vo k * 2 + 1)).trans (x.at hvk).2
      have t2 := (HS.out.bs.cell (vo k)).trans (s.cell hvk)
      have hbr := fun W' (hW' : BW W' lo g xs (seqL xs T s left k)) => Lib.hid (bread_any (cd.addN (vo k) sy : Int) hW' (by omega))
      obtain ⟨X, hXX⟩ : ∃ X, X = seqX xs T s left k := ⟨_, rfl⟩
      rw [← hXX] at hnum hX
      have HXX := Lib.hid hXX
      clear hXX hcdv hcode hx hTk hsk
      generalize hK : vo k = K at *
      generalize cd.beginN K sy = bg at *
      generalize cd.addN K sy = ad at *
      go_wp2_with fail
      clear hvi
      have hKi : (K : Int) < 3 := by omega
      have hwl : ∀ j, j ≤ 3 → w.heap.size + j < wr.heap.size := fun j hj => by omega
      go_region_held3 (fun w' => w'.cell? ⟨w.heap.size, K * 2, none⟩ = some (.int .i64 (x.l K : Int)) ∧ w'.cell? ⟨w.heap.size, K * 2 + 1, none⟩ = some (.slice (x.A K) (x.n K) (x.c K)) ∧ w'.cell? ⟨w.heap.size + 1, K, none⟩ = some (.int .i64 (s.at K : Int)))
        (first | exact ⟨t0, t1, t2⟩ | exact ⟨m0, m1, m2⟩ | exact ⟨n0, n1, n2⟩ | go_keep)
        (first
        | (go_at_call 85; refine HCo.out.mono ?_; rintro e' w1 ⟨rfl, hB1⟩; have HB1 := Lib.hid (show Below wr.heap.size wr w1 from ⟨hB1.os, hB1.tape, hB1.output, hB1.size, hB1.block⟩); have m0 := (HB1.out.cell (p := ⟨w.heap.size, K * 2, none⟩) (hwl 0 (by omega))).trans t0; have m1 := (HB1.out.cell (p := ⟨w.heap.size, K * 2 + 1, none⟩) (hwl 0 (by omega))).trans t1; have m2 := (HB1.out.cell (p := ⟨w.heap.size + 1, K, none⟩) (hwl 1 (by omega))).trans t2; clear hB1)
        | (go_at_call 64; refine (HCc.out _ (HS.out.gs.below HB1.out (by have := HS.out.gs.size; omega)).c).mono ?_; rintro e' w2 ⟨rfl, hB2⟩; have HB2 := Lib.hid (HB1.out.trans (hB2.mono HB1.out.size)); have n0 := (HB2.out.cell (p := ⟨w.heap.size, K * 2, none⟩) (hwl 0 (by omega))).trans t0; have n1 := (HB2.out.cell (p := ⟨w.heap.size, K * 2 + 1, none⟩) (hwl 0 (by omega))).trans t1; have n2 := (HB2.out.cell (p := ⟨w.heap.size + 1, K, none⟩) (hwl 1 (by omega))).trans t2; clear hB2))
      all_goals
        have hb2 := HS.out.bw.below HB2.out (show g < wr.heap.size by omega)
        have HRd := hbr w2 hb2
        rw [← hL] at HRd
        obtain ⟨Y, hY⟩ : ∃ Y, Y = (bread xs (seqL xs T s left k) (ad : Int)).1 := ⟨_, rfl⟩
        rw [← hY] at HRd hlt32 hX
        have hw1 : IntKind.u32.wrap (Y : Int) = (Y : Int) := by rw [IntKind.wrap_u32']; omega
        have hw2 : IntKind.u32.wrap ((bg : Int) + (Y : Int)) = (X : Int) := by rw [IntKind.wrap_u32']; omega
        clear hY hX hL hend hlt32 t0 t1 t2 n0 n1 n2 m0 m1 m2
        go_wp2_with fail
        refine HRd.out.mono ?_
        rintro e3 w3 ⟨rfl, hb3, hs3⟩
        have hbl := HB2.out
        have hg3 : wr.grownBy w3 (some g) := grown_then (grown_of_below hbl _) hs3.1
        have HB3 := Lib.hid hb3
        have hne : ∀ j, j ≤ 3 → some (w.heap.size + j) ≠ some g := fun j _ h => by injection h with h; omega
        have HG3 := Lib.hid (HS.out.gs.grown hg3 (fun q hq => by injection hq with hq; omega))
        have HT3 := Lib.hid (HS.out.ti.keep (w' := w3) fun q hq => hg3.block q (by have := HS.out.gr.size; omega) (by intro h; injection h with h; omega))
        have HX0 := Lib.hid (HS.out.bt.grown hg3 (hne 0 (by omega)))
        have HX1 := Lib.hid (HS.out.bs.grown hg3 (hne 1 (by omega)))
        have HX2 := Lib.hid (HS.out.br.grown hg3 (hne 2 (by omega)))
        have hx3 := HS.out.bn.grown hg3 (hne 3 (by omega))
        have HX3 := Lib.hid hx3
        have HGr := Lib.hid (grown_then HS.out.gr hg3)
        have s0 := (hx3.cell K).trans hnat
        have s1 := hx3.free K
        have hz3 := hg3.size
        clear hb3 hs3 hg3 hx3 hbl hb2 HRd
        go_wp2_with fail
        go_roundg g'
        case rel =>
          have hn : ∀ j, j ≠ w.heap.size + 1 + 1 + 1 → ∀ v, (w3.setCell ⟨w.heap.size + 1 + 1 + 1, K, none⟩ v).heap[j]? = w3.heap[j]? := fun j hj v => Below.heap_setCell _ _ _ j hj
          refine ⟨k + 1, by have := HK.out; omega, by go_num, ⟨?_, ?_, ?_, HX0.out.keep (hn _ (by omega) _), HX1.out.keep (hn _ (by omega) _), HX2.out.keep (hn _ (by omega) _), ?_, ?_, ?_⟩⟩
          · exact HG3.out.keep (fun j hj => hn j (by omega) _) (by simp [World.setCell])
          · exact HB3.out.keep fun j _ hj => hn j (by omega) _
          · exact HT3.out.keep fun j hj => hn j (by omega) _
          · have := HX3.out.put K (.int .u32 (X : Int))
            rw [hnum.out] at this
            exact this
          · exact grown_set HGr.out (by show w.heap.size ≤ w.heap.size + 1 + 1 + 1; omega) _
          · simp [World.setCell]; omega
        case measure => omega
    · obtain rfl : k = 3 := by omega
      have hki : ¬ (3 : Int) < 3 := by omega
      have s0 := HS.out.bn.cell 0
      have s1 := HS.out.bn.cell 1
      have s2 := HS.out.bn.cell 2
      simp [nums] at s0 s1 s2
      have r0 := HS.out.br.free 0
      have r1 := HS.out.br.free 1
      have r2 := HS.out.br.free 2
      have hr0 := HS.out.br.cell 0
      have hr1 := HS.out.br.cell 1
      have hr2 := HS.out.br.cell 2
      simp at hr0 hr1 hr2
      obtain ⟨X0, hX0⟩ : ∃ X, X = seqX xs T s left 0 := ⟨_, rfl⟩
      obtain ⟨X1, hX1⟩ : ∃ X, X = seqX xs T s left 1 := ⟨_, rfl⟩
      obtain ⟨X2, hX2⟩ : ∃ X, X = seqX xs T s left 2 := ⟨_, rfl⟩
      rw [← hX2] at s0
      rw [← hX0] at s1
      rw [← hX1] at s2
      have HX := Lib.hid (And.intro hX0 (And.intro hX1 hX2))
      clear hX0 hX1 hX2
      have hsz := HS.out.sz
      have HF : Hid (BW (((wr.setCell ⟨w.heap.size + 1 + 1, 0, none⟩ (.int .u32 (X2 : Int))).setCell ⟨w.heap.size + 1 + 1, 1, none⟩ (.int .u32 (X1 : Int))).setCell ⟨w.heap.size + 1 + 1, 2, none⟩ (.int .u32 (X0 : Int))) lo g xs (seqL xs T s left 3) ∧ w.grownBy (((wr.setCell ⟨w.heap.size + 1 + 1, 0, none⟩ (.int .u32 (X2 : Int))).setCell ⟨w.heap.size + 1 + 1, 1, none⟩ (.int .u32 (X1 : Int))).setCell ⟨w.heap.size + 1 + 1, 2, none⟩ (.int .u32 (X0 : Int))) (some g)) := by
        refine ⟨HS.out.bw.keep fun j _ hj => ?_, grown_set (grown_set (grown_set HS.out.gr (by show w.heap.size ≤ w.heap.size + 1 + 1; omega) _) (by show w.heap.size ≤ w.heap.size + 1 + 1; omega) _) (by show w.heap.size ≤ w.heap.size + 1 + 1; omega) _⟩
        rw [Below.heap_setCell _ _ _ j (by show j ≠ w.heap.size + 1 + 1; omega), Below.heap_setCell _ _ _ j (by show j ≠ w.heap.size + 1 + 1; omega), Below.heap_setCell _ _ _ j (by show j ≠ w.heap.size + 1 + 1; omega)]
      go_wp2_with fail
      refine bodyPost_ret (v := .tuple #[.agg #[.int .u32 (X2 : Int), .int .u32 (X1 : Int), .int .u32 (X0 : Int)], .int .i64 0]) (by simp [results, Tryz.results52, go_sem, hr0, hr1, hr2]) rfl ⟨by rw [HX.out.1, HX.out.2.1, HX.out.2.2], HF.out.1, HF.out.2⟩
end
end Go.Proofs.YtlidnialggpcpaaGreatDoor
