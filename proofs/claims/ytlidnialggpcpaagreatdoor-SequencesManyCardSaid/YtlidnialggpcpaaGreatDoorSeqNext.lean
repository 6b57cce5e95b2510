
/- The contract of the program's next. -/
import Derived.Test.YtlidnialggpcpaaGreatDoorSeqSeq
namespace Go.Proofs.YtlidnialggpcpaaGreatDoor
open Go.RowKit

/-- The states that follow, one by one. -/
def nextL (xs : List UInt8) (T : T3) (s : St) (left : Int) : Nat → Int
  | 0 => left
  | k + 1 => (nxv xs (T.tb (so k)).es (s.at (so k)) (nextL xs T s left k)).2
def nextX (xs : List UInt8) (T : T3) (s : St) (left : Int) (k : Nat) : Nat := (nxv xs (T.tb (so k)).es (s.at (so k)) (nextL xs T s left k)).1
theorem nextv_eq (xs : List UInt8) (T : T3) (s : St) (left : Int) : nextv xs T s left = (⟨nextX xs T s left 0, nextX xs T s left 2, nextX xs T s left 1⟩, nextL xs T s left 3) := rfl
theorem nextL_le (xs : List UInt8) (T : T3) (s : St) (left : Int) : ∀ k, nextL xs T s left k ≤ left ∧ left - 56 * k ≤ nextL xs T s left k
  | 0 => by show left ≤ left ∧ left - 56 * (0 : Nat) ≤ left; omega
  | k + 1 => by
    have h1 := nextL_le xs T s left k
    have h2 := nxv_le xs (T.tb (so k)).es (s.at (so k)) (nextL xs T s left k)
    rw [nextL]
    omega
/-- The box of states after k of them. -/
def stc (s : St) (f : Nat → Nat) (k : Nat) : Array Value := #[.int .i64 (if 0 < k then (f 0 : Int) else s.l), .int .i64 (if 2 < k then (f 2 : Int) else s.o), .int .i64 (if 1 < k then (f 1 : Int) else s.m)]
theorem stc_set (s : St) (f : Nat → Nat) {k : Nat} (hk : k < 3) : (stc s f k).setIfInBounds (so k) (.int .i64 (f k : Int)) = stc s f (k + 1) := by
  rcases (show k = 0 ∨ k = 1 ∨ k = 2 by omega) with rfl | rfl | rfl <;> rfl
theorem stc_at (s : St) (f : Nat → Nat) {k : Nat} (hk : k < 3) : (stc s f k)[so k]? = some (.int .i64 (s.at (so k) : Int)) := by
  rcases (show k = 0 ∨ k = 1 ∨ k = 2 by omega) with rfl | rfl | rfl <;> rfl

section
variable {B : Nat} {w : World} {lo g hi : Nat} {xs : List UInt8} {left : Int} {x : Ts} {T : T3} {s : St}
/-- The boxes of next, and the reader, after k states. -/
structure NxI (B : Nat) (w wx : World) (lo g hi : Nat) (xs : List UInt8) (left : Int) (x : Ts) (T : T3) (s : St) (k : Nat) : Prop where
  gs : GS B wx
  bw : BW wx lo g xs (nextL xs T s left k)
  ti : TsIn wx hi x T
  bt : Box wx w.heap.size 29 x.cells
  bs : Box wx (w.heap.size + 1) 120 (stc s (nextX xs T s left) k)
  br : Box wx (w.heap.size + 1 + 1) 120 #[.int .i64 0, .int .i64 0, .int .i64 0]
  gr : w.grownBy wx (some g)
  sz : w.heap.size + 3 ≤ wx.heap.size
set_option maxRecDepth 100000 in
set_option maxHeartbeats 4000000 in
theorem nextT_any (hgl : GS B w) (h : BW w lo g xs left) (hB : B ≤ g) (hl : -100000000000 ≤ left) (hx : TsIn w hi x T) (hhi : hi ≤ w.heap.size) (hig : hi ≤ g) (hT : T3Ok T) (hs : StOk T s) :
    Calls Tryz.prog 51 #[x.val, .agg s.cells, .pointer (some ⟨g, 0, none⟩)] w fun e w' =>
      e = .returned (.agg #[.int .i64 (nextX xs T s left 0 : Int), .int .i64 (nextX xs T s left 2 : Int), .int .i64 (nextX xs T s left 1 : Int)]) ∧ BW w' lo g xs (nextL xs T s left 3) ∧ w.grownBy w' (some g) := by
  have hglt := h.lt
  obtain ⟨W, hW⟩ : ∃ W, W = ((w.alloc (.cells x.cells 29)).alloc (.cells s.cells 120)).alloc (.cells #[.int .i64 0, .int .i64 0, .int .i64 0] 120) := ⟨_, rfl⟩
  have HS0 : Hid (NxI B w W lo g hi xs left x T s 0) := by
    rw [hW]
    have hb : Below w.heap.size w (((w.alloc (.cells x.cells 29)).alloc (.cells s.cells 120)).alloc (.cells #[.int .i64 0, .int .i64 0, .int .i64 0] 120)) := (((Below.refl _ _).alloc (Nat.le_refl _) _).alloc (by simp) _).alloc (by simp; omega) _
    have h1 := Box.new (w.alloc (.cells x.cells 29)) 120 s.cells
    have h2 := Box.new ((w.alloc (.cells x.cells 29)).alloc (.cells s.cells 120)) 120 #[.int .i64 0, .int .i64 0, .int .i64 0]
    rw [World.size_alloc] at h1
    rw [World.size_alloc, World.size_alloc] at h2
    exact ⟨hgl.below hb hgl.size, h.below hb hglt, hx.below hb hhi, ((Box.new w _ _).alloc _).alloc _, h1.alloc _, h2, grown_of_below hb _, by simp⟩
  have HT := Lib.hid hT
  have HSt := Lib.hid hs
  have hgB : B ≤ w.heap.size := hgl.size
  clear h hx hT hs hgl
  unfold Ts.val St.cells
  go_enter Tryz.func51, Tryz.ntmps51
  go_upto_region 1 with (fail)
  change Code.wp _ _ _ _ (((w.alloc (.cells x.cells 29)).alloc (.cells s.cells 120)).alloc (.cells #[.int .i64 0, .int .i64 0, .int .i64 0] 120))
  rw [← hW]
  clear hW
  have v0 := HS0.out.gs.s 0 (by decide)
  have v1 := HS0.out.gs.s 1 (by decide)
  have v2 := HS0.out.gs.s 2 (by decide)
  simp only [so] at v0 v1 v2
  go_wp2_with fail
  clear v0 v1 v2
  go_loopg [8, 10] 3 (fun gh i8 i wx => ∃ k : Nat, k + gh = 3 ∧ i = .int .i64 (k : Int) ∧ Hid (NxI B w wx lo g hi xs left x T s k))
  case atStart => exact ⟨0, rfl, rfl, HS0⟩
  case round =>
    obtain ⟨k, hk, rfl, HS⟩ := hrel
    have HK := Lib.hid hk
    have hk3 : k ≤ 3 := by omega
    clear hk HS0
    by_cases hlt : k < 3
    · obtain ⟨g', rfl⟩ : ∃ g', gk = g' + 1 := ⟨gk - 1, by have := HK.out; omega⟩
      have hki : (k : Int) < 3 := by omega
      have hvi := fun W => index_three 0 2 1 hlt W (so k : Int) ⟨fun e => by rw [e]; rfl, fun e => by rw [e]; rfl, fun e => by rw [e]; rfl⟩
      have hvk := so_lt k
      have hsz := HS.out.sz
      have hlK := nextL_le xs T s left k
      have hTk := HT.out.tb hvk
      have hsk := HSt.out.at hvk
      obtain ⟨sy, b, e, hx, _, hb15, heb⟩ := hTk.ent _ hsk
      have hpb : 1 ≤ 2 ^ b := Nat.one_le_two_pow
      have he5 : e ≤ 65536 := by have := hTk.small; omega
      have hnx : nxv xs (T.tb (so k)).es (s.at (so k)) (nextL xs T s left k) = (e + (bread xs (nextL xs T s left k) (b : Int)).1, (bread xs (nextL xs T s left k) (b : Int)).2) := by
        unfold nxv
        rw [entAt_get hsk hx]
      have hX : nextX xs T s left k = e + (bread xs (nextL xs T s left k) (b : Int)).1 := by unfold nextX; rw [hnx]
      have hL : nextL xs T s left (k + 1) = (bread xs (nextL xs T s left k) (b : Int)).2 := by rw [nextL, hnx]
      have hnum := Lib.hid (stc_set s (nextX xs T s left) hlt)
      have t0 := (HS.out.bt.cell (so k * 2)).trans (x.at hvk).1
      have t1 := (HS.out.bt.cell (so k * 2 + 1)).trans (x.at hvk).2
      have t2 := (HS.out.bs.cell (so k)).trans (stc_at s (nextX xs T s left) hlt)
      have t3 := HS.out.bs.free (so k)
      have HCn := Lib.hid (next_any (w := wr.drew) (c := x.c (so k)) (x.l (so k) : Int) (s.at (so k)) (HS.out.bw.drawn 1) (by omega) (HS.out.ti.d _ hvk) (by have := HS.out.gr.size; show hi ≤ wr.heap.size; omega) (HS.out.ti.n _ hvk).symm (by rw [HS.out.ti.n _ hvk]; have := hTk.small; omega) (by rw [HS.out.ti.n _ hvk]; exact hsk) hx hb15 he5)
      rw [← hX, ← hL] at HCn
      obtain ⟨X, hXX⟩ : ∃ X, X = nextX xs T s left k := ⟨_, rfl⟩
      rw [← hXX] at hnum HCn
      have hnat := stc_at s (nextX xs T s left) hlt
      clear hXX hx hTk hsk hnx hX hL
      generalize hK : so k = K at *
      go_wp2_with fail
      clear hvi
      have hKi : (K : Int) < 3 := by omega
      have hgn : ∀ j, j ≤ 2 → some (w.heap.size + j) ≠ some g := fun j _ h => by injection h with h; omega
      go_region_with (go_at_call 84; refine HCn.out.mono ?_; rintro e' w1 ⟨rfl, hb1, hg1⟩; have HB1 := Lib.hid hb1; have HG1 := Lib.hid (show wr.grownBy w1 (some g) from ⟨hg1.os, hg1.tape, hg1.output, hg1.size, hg1.block⟩); have k0 := ((HS.out.bs.grown HG1.out (hgn 1 (by omega))).cell K).trans hnat; have k1 := (HS.out.bs.grown HG1.out (hgn 1 (by omega))).free K; clear hb1 hg1)
      all_goals
        have hg3 := HG1.out
        have HG3 := Lib.hid (HS.out.gs.grown hg3 (fun q hq => by injection hq with hq; omega))
        have HT3 := Lib.hid (HS.out.ti.keep (w' := w1) fun q hq => hg3.block q (by have := HS.out.gr.size; omega) (by intro h; injection h with h; omega))
        have HX0 := Lib.hid (HS.out.bt.grown hg3 (hgn 0 (by omega)))
        have HX1 := Lib.hid (HS.out.bs.grown hg3 (hgn 1 (by omega)))
        have HX2 := Lib.hid (HS.out.br.grown hg3 (hgn 2 (by omega)))
        have HGr := Lib.hid (grown_then HS.out.gr hg3)
        have hz3 := hg3.size
        clear hg3 k0 k1 t0 t1 t2 t3 HCn HG1
        go_wp2_with fail
        go_roundg g'
        case rel =>
          have hn : ∀ j, j ≠ w.heap.size + 1 → ∀ v, (w1.setCell ⟨w.heap.size + 1, K, none⟩ v).heap[j]? = w1.heap[j]? := fun j hj v => Below.heap_setCell _ _ _ j hj
          refine ⟨k + 1, by have := HK.out; omega, by go_num, ⟨?_, ?_, ?_, HX0.out.keep (hn _ (by omega) _), ?_, HX2.out.keep (hn _ (by omega) _), ?_, ?_⟩⟩
          · exact HG3.out.keep (fun j hj => hn j (by omega) _) (by simp [World.setCell])
          · exact HB1.out.keep fun j _ hj => hn j (by omega) _
          · exact HT3.out.keep fun j hj => hn j (by omega) _
          · have := HX1.out.put K (.int .i64 (X : Int))
            rw [hnum.out] at this
            exact this
          · exact grown_set HGr.out (by show w.heap.size ≤ w.heap.size + 1; omega) _
          · simp [World.setCell]; omega
        case measure => omega
    · obtain rfl : k = 3 := by omega
      have hki : ¬ (3 : Int) < 3 := by omega
      have s0 := HS.out.bs.cell 0
      have s1 := HS.out.bs.cell 1
      have s2 := HS.out.bs.cell 2
      simp [stc] at s0 s1 s2
      have r0 := HS.out.br.free 0
      have r1 := HS.out.br.free 1
      have r2 := HS.out.br.free 2
      have hr0 := HS.out.br.cell 0
      have hr1 := HS.out.br.cell 1
      have hr2 := HS.out.br.cell 2
      simp at hr0 hr1 hr2
      obtain ⟨X0, hX0⟩ : ∃ X, X = nextX xs T s left 0 := ⟨_, rfl⟩
      obtain ⟨X1, hX1⟩ : ∃ X, X = nextX xs T s left 1 := ⟨_, rfl⟩
      obtain ⟨X2, hX2⟩ : ∃ X, X = nextX xs T s left 2 := ⟨_, rfl⟩
      rw [← hX0] at s0
      rw [← hX2] at s1
      rw [← hX1] at s2
      have HX := Lib.hid (And.intro hX0 (And.intro hX1 hX2))
      clear hX0 hX1 hX2
      have hsz := HS.out.sz
      have HF : Hid (BW (((wr.setCell ⟨w.heap.size + 1 + 1, 0, none⟩ (.int .i64 (X0 : Int))).setCell ⟨w.heap.size + 1 + 1, 1, none⟩ (.int .i64 (X2 : Int))).setCell ⟨w.heap.size + 1 + 1, 2, none⟩ (.int .i64 (X1 : Int))) lo g xs (nextL xs T s left 3) ∧ w.grownBy (((wr.setCell ⟨w.heap.size + 1 + 1, 0, none⟩ (.int .i64 (X0 : Int))).setCell ⟨w.heap.size + 1 + 1, 1, none⟩ (.int .i64 (X2 : Int))).setCell ⟨w.heap.size + 1 + 1, 2, none⟩ (.int .i64 (X1 : Int))) (some g)) := by
        refine ⟨HS.out.bw.keep fun j _ hj => ?_, grown_set (grown_set (grown_set HS.out.gr (by show w.heap.size ≤ w.heap.size + 1 + 1; omega) _) (by show w.heap.size ≤ w.heap.size + 1 + 1; omega) _) (by show w.heap.size ≤ w.heap.size + 1 + 1; omega) _⟩
        rw [Below.heap_setCell _ _ _ j (by show j ≠ w.heap.size + 1 + 1; omega), Below.heap_setCell _ _ _ j (by show j ≠ w.heap.size + 1 + 1; omega), Below.heap_setCell _ _ _ j (by show j ≠ w.heap.size + 1 + 1; omega)]
      go_wp2_with fail
      refine bodyPost_ret (v := .agg #[.int .i64 (X0 : Int), .int .i64 (X2 : Int), .int .i64 (X1 : Int)]) (by simp [results, Tryz.results51, go_sem, hr0, hr1, hr2]) rfl ⟨by rw [HX.out.1, HX.out.2.1, HX.out.2.2], HF.out.1, HF.out.2⟩
end
end Go.Proofs.YtlidnialggpcpaaGreatDoor
