
/- The contract of the program's last: states of the last sequence. -/
import Derived.Test.YtlidnialggpcpaaGreatDoorSeqNext
import Derived.Test.YtlidnialggpcpaaGreatDoorPileD
import Derived.Test.YtlidnialggpcpaaGreatDoorSeqBackP
namespace Go.Proofs.YtlidnialggpcpaaGreatDoor
open Go.RowKit

def Cq.at (q : Cq) (k : Nat) : Cv := match k with
  | 0 => q.l
  | 1 => q.o
  | _ => q.m
def Cv.cells (v : Cv) : Array Value := #[.int .i64 (v.c : Int), .int .u32 (v.x : Int), .int .i64 (v.b : Int)]
/-- A coded sequence's nine cells. -/
def Cq.cells (q : Cq) : Array Value := #[.int .i64 (q.l.c : Int), .int .u32 (q.l.x : Int), .int .i64 (q.l.b : Int), .int .i64 (q.o.c : Int), .int .u32 (q.o.x : Int), .int .i64 (q.o.b : Int), .int .i64 (q.m.c : Int), .int .u32 (q.m.x : Int), .int .i64 (q.m.b : Int)]
def Cq.list (q : Cq) : List Value := q.cells.toList
theorem Cq.cell (q : Cq) {k : Nat} (h : k < 3) : q.cells[k * 3]? = some (.int .i64 ((q.at k).c : Int)) ∧ q.cells[k * 3 + 1]? = some (.int .u32 ((q.at k).x : Int)) ∧ q.cells[k * 3 + 2]? = some (.int .i64 ((q.at k).b : Int)) := by
  rcases (show k = 0 ∨ k = 1 ∨ k = 2 by omega) with rfl | rfl | rfl <;> exact ⟨rfl, rfl, rfl⟩
theorem value_info : (Tryz.prog.info? 144).map (fun i => (i.zero, i.size, i.bytes)) = some (some (.agg #[.int .i64 0, .int .u32 0, .int .i64 0]), 3, 24) := by kernel_rfl
theorem index_coded (q : Cq) {k : Nat} (hk : k < 3) (W : World) :
    (Instr.index 146 (.agg #[.int .i64 (q.l.c : Int), .int .u32 (q.l.x : Int), .int .i64 (q.l.b : Int), .int .i64 (q.o.c : Int), .int .u32 (q.o.x : Int), .int .i64 (q.o.b : Int), .int .i64 (q.m.c : Int), .int .u32 (q.m.x : Int), .int .i64 (q.m.b : Int)]) (.int .i64 (k : Int))).run Tryz.prog W = .ok (.agg #[.int .i64 ((q.at k).c : Int), .int .u32 ((q.at k).x : Int), .int .i64 ((q.at k).b : Int)]) W := by
  obtain ⟨i0, hi0, hi1⟩ := Option.map_eq_some_iff.1 value_info
  simp only [Prod.mk.injEq] at hi1
  obtain ⟨hz0, hz1, hz2⟩ := hi1
  rcases (show k = 0 ∨ k = 1 ∨ k = 2 by omega) with rfl | rfl | rfl <;> simp [Instr.index, run_underlying Tryz.underlying146, asIntOf, sizeOf, typeInfo, part, go_sem, hi0, hz1, Cq.at]
/-- What stands in the loop of last behind k kinds. -/
structure LtI (w wx : World) (hi : Nat) (x : Ts) (T : T3) (q : Cq) (f : Nat → Nat) (k : Nat) : Prop where
  ti : TsIn wx hi x T
  bt : Box wx w.heap.size 29 x.cells
  bc : Box wx (w.heap.size + 1) 146 q.cells
  br : Box wx (w.heap.size + 1 + 1) 120 #[iv 0, iv 0, iv 0]
  bs : Box wx (w.heap.size + 1 + 1 + 1) 120 (tri (fun k => iv (f k)) (fun _ => iv 0) k)
  be : Below w.heap.size w wx
  sz : w.heap.size + 4 ≤ wx.heap.size
  ok : ∀ j, j < k → f j < (T.tb j).es.length ∧ (entAt (T.tb j).es (f j)).1 = (q.at j).c
theorem tri_fun (f : Nat → Nat) (X : Nat) {k : Nat} (hk : k < 3) : (tri (fun k => iv (f k)) (fun _ => iv 0) k).setIfInBounds k (iv X) = tri (fun j => iv (if j = k then X else f j)) (fun _ => iv 0) (k + 1) := by
  rcases (show k = 0 ∨ k = 1 ∨ k = 2 by omega) with rfl | rfl | rfl <;> rfl
section
variable {w : World} {hi : Nat} {x : Ts} {T : T3} {q : Cq}
set_option maxRecDepth 100000 in
set_option maxHeartbeats 4000000 in
theorem last_coded (hx : TsIn w hi x T) (hhi : hi ≤ w.heap.size) (hT : T3Ok T) (hq : CqOk q) (hhas : ∀ k, k < 3 → ∃ i, ∃ h : i < (T.tb k).es.length, (T.tb k).es[i].s = ((q.at k).c : Int)) :
    Calls Tryz.prog 69 #[x.val, .agg q.cells] w fun e w' => ∃ s : St, e = .returned (.agg s.cells) ∧ AtQ T s q ∧ Below w.heap.size w w' := by
  obtain ⟨W, hW⟩ : ∃ W, W = (((w.alloc (.cells x.cells 29)).alloc (.cells q.cells 146)).alloc (.cells #[iv 0, iv 0, iv 0] 120)).alloc (.cells #[iv 0, iv 0, iv 0] 120) := ⟨_, rfl⟩
  have HS0 : Hid (LtI w W hi x T q (fun _ => 0) 0) := by
    rw [hW]
    have hb : Below w.heap.size w ((((w.alloc (.cells x.cells 29)).alloc (.cells q.cells 146)).alloc (.cells #[iv 0, iv 0, iv 0] 120)).alloc (.cells #[iv 0, iv 0, iv 0] 120)) := ((((Below.refl _ _).alloc (Nat.le_refl _) _).alloc (by simp) _).alloc (by simp; omega) _).alloc (by simp; omega) _
    have h1 := Box.new (w.alloc (.cells x.cells 29)) 146 q.cells
    have h2 := Box.new ((w.alloc (.cells x.cells 29)).alloc (.cells q.cells 146)) 120 #[iv 0, iv 0, iv 0]
    have h3 := Box.new (((w.alloc (.cells x.cells 29)).alloc (.cells q.cells 146)).alloc (.cells #[iv 0, iv 0, iv 0] 120)) 120 #[iv 0, iv 0, iv 0]
    rw [World.size_alloc] at h1
    rw [World.size_alloc, World.size_alloc] at h2
    rw [World.size_alloc, World.size_alloc, World.size_alloc] at h3
    exact ⟨hx.below hb hhi, (((Box.new w _ _).alloc _).alloc _).alloc _, (h1.alloc _).alloc _, h2.alloc _, h3, hb, by simp, fun j hj => absurd hj (by omega)⟩
  have HT := Lib.hid hT
  have HQ := Lib.hid hq
  have HH := Lib.hid hhas
  have hc0 := hq.l.c
  have hc1 := hq.o.c
  have hc2 := hq.m.c
  have hcb : ∀ k, k < 3 → (q.at k).c ≤ 52 := fun k hk => by
    have e0 := last_le 0 (by decide)
    have e1 := last_le 1 (by decide)
    have e2 := last_le 2 (by decide)
    rcases (show k = 0 ∨ k = 1 ∨ k = 2 by omega) with rfl | rfl | rfl
    · show q.l.c ≤ 52; omega
    · show q.o.c ≤ 52; omega
    · show q.m.c ≤ 52; omega
  have HCb := Lib.hid hcb
  clear hx hT hq hhas hc0 hc1 hc2 hcb
  unfold Ts.val Cq.cells
  go_enter Tryz.func69, Tryz.ntmps69
  go_upto_region 2 with (fail)
  change Code.wp _ _ _ _ ((((w.alloc (.cells x.cells 29)).alloc (.cells q.cells 146)).alloc (.cells #[iv 0, iv 0, iv 0] 120)).alloc (.cells #[iv 0, iv 0, iv 0] 120))
  rw [← hW]
  clear hW
  have b0 := HS0.out.bc.cell 0
  have b1 := HS0.out.bc.cell 1
  have b2 := HS0.out.bc.cell 2
  have b3 := HS0.out.bc.cell 3
  have b4 := HS0.out.bc.cell 4
  have b5 := HS0.out.bc.cell 5
  have b6 := HS0.out.bc.cell 6
  have b7 := HS0.out.bc.cell 7
  have b8 := HS0.out.bc.cell 8
  simp [Cq.cells] at b0 b1 b2 b3 b4 b5 b6 b7 b8
  go_wp2_with fail
  clear b0 b1 b2 b3 b4 b5 b6 b7 b8
  go_loopg [6, 7, 9] 3 (fun gh i6 i7 i wx => ∃ (k : Nat) (f : Nat → Nat), k + gh = 3 ∧ i = .int .i64 (k : Int) ∧ Hid (LtI w wx hi x T q f k))
  case atStart => exact ⟨0, fun _ => 0, rfl, rfl, HS0⟩
  case round =>
    obtain ⟨k, f, hk, rfl, HS⟩ := hrel
    have HK := Lib.hid hk
    have hk3 : k ≤ 3 := by omega
    clear hk HS0
    by_cases hlt : k < 3
    · obtain ⟨g', rfl⟩ : ∃ g', gk = g' + 1 := ⟨gk - 1, by have := HK.out; omega⟩
      have hki : (k : Int) < 3 := by omega
      have hvi := index_coded q hlt
      have hsz := HS.out.sz
      have hcc := HCb.out k hlt
      obtain ⟨W9, hW9⟩ : ∃ W9, W9 = wr.alloc (.cells #[.int .i64 ((q.at k).c : Int), .int .u32 ((q.at k).x : Int), .int .i64 ((q.at k).b : Int)] 144) := ⟨_, rfl⟩
      have hb9 : Below wr.heap.size wr W9 := by rw [hW9]; exact (Below.refl _ _).alloc (Nat.le_refl _) _
      have hx9 : Box W9 wr.heap.size 144 #[.int .i64 ((q.at k).c : Int), .int .u32 ((q.at k).x : Int), .int .i64 ((q.at k).b : Int)] := by rw [hW9]; exact Box.new wr _ _
      have hs9 : wr.heap.size < W9.heap.size := by rw [hW9, World.size_alloc]; omega
      have hti9 := HS.out.ti.below hb9 (by omega)
      have hTk := HT.out.tb hlt
      have hCall : Calls Tryz.prog 101 #[.agg #[.int .i64 (x.l k : Int), .slice (x.A k) (x.n k) (x.c k)], .int .u8 ((q.at k).c : Int)] W9.drew fun e w' => ∃ i, i < (T.tb k).es.length ∧ (entAt (T.tb k).es i).1 = (q.at k).c ∧ e = .returned (.tuple #[.int .i64 (i : Int), .int .i64 0]) ∧ Below W9.heap.size W9 w' := by
        refine (first_any (w := W9.drew) (x.l k : Int) ((q.at k).c : Int) (hti9.d k hlt) (hti9.n k hlt).symm (by rw [hti9.n k hlt]; have := hTk.small; omega) (by show hi ≤ W9.heap.size; omega)).mono ?_
        rintro e w' ⟨hB, ⟨i, hi', he, hs, _⟩ | ⟨hno, _⟩⟩
        · refine ⟨i, hi', ?_, he, ⟨hB.os, hB.tape, hB.output, hB.size, hB.block⟩⟩
          obtain ⟨sy, b, e', hxx, _⟩ := hTk.ent i hi'
          rw [entAt_get hi' hxx]
          rw [hxx] at hs
          show sy = _
          have hs' : (sy : Int) = ((q.at k).c : Int) := hs
          omega
        · obtain ⟨i, hi', hh⟩ := HH.out k hlt
          exact absurd hh (hno i hi')
      have HCall := Lib.hid hCall
      have hbt9 := HS.out.bt.below hb9 (by omega)
      have hbs9 := HS.out.bs.below hb9 (by omega)
      have t0 := (hbt9.cell (k * 2)).trans (x.at hlt).1
      have t1 := (hbt9.cell (k * 2 + 1)).trans (x.at hlt).2
      have t2 := hx9.cell 0
      simp at t2
      have HB9 := Lib.hid hb9
      have HT9 := Lib.hid hti9
      have hcw : IntKind.u8.wrap ((q.at k).c : Int) = ((q.at k).c : Int) := by rw [IntKind.wrap_u8]; omega
      have s0 := (hbs9.cell k).trans (tri_at _ _ hlt)
      have s1 := hbs9.free k
      clear hCall hb9 hx9 hti9 hTk hbt9
      go_upto_region 5 with (fail)
      rw [← hW9]
      clear hW9 hvi
      have hbq : w.heap.size + 1 + 1 + 1 < W9.heap.size := by omega
      go_region_with (go_at_call 101; refine HCall.out.mono ?_; rintro e' w1 ⟨i, hil, hic, rfl, hB1⟩; have hbs1 := hbs9.below hB1 (by omega); have k0 := (hbs1.cell k).trans (tri_at _ _ hlt); have k1 := hbs1.free k; have HB1 := Lib.hid hB1; have HS1 := Lib.hid hbs1; have HIl := Lib.hid (And.intro hil hic); clear hB1 hbs1 hil hic)
      all_goals
        have hb1 := HB9.out.trans (HB1.out.mono HB9.out.size)
        have hz1 := hb1.size
        have HF : Hid (LtI w (w1.setCell ⟨w.heap.size + 1 + 1 + 1, k, none⟩ (iv i)) hi x T q (fun j => if j = k then i else f j) (k + 1)) := by
          have hn : ∀ j, j ≠ w.heap.size + 1 + 1 + 1 → (w1.setCell ⟨w.heap.size + 1 + 1 + 1, k, none⟩ (iv i)).heap[j]? = w1.heap[j]? := fun j hj => Below.heap_setCell _ _ _ j hj
          refine ⟨(HS.out.ti.below hb1 (by omega)).keep fun j hj => hn j (by omega), (HS.out.bt.below hb1 (by omega)).keep (hn _ (by omega)), (HS.out.bc.below hb1 (by omega)).keep (hn _ (by omega)), (HS.out.br.below hb1 (by omega)).keep (hn _ (by omega)), ?_, (HS.out.be.trans (hb1.mono HS.out.be.size)).setCell (by show w.heap.size ≤ w.heap.size + 1 + 1 + 1; omega) _, by simp [World.setCell]; omega, fun j hj => ?_⟩
          · have := HS1.out.put k (iv i)
            rw [tri_fun f i hlt] at this
            exact this
          · by_cases e : j = k
            · subst e
              rw [if_pos rfl]
              exact HIl.out
            · rw [if_neg e]
              exact HS.out.ok j (by omega)
        clear hb1 t0 t1 t2 s0 s1 k0 k1 HCall HB9 HT9 HS
        go_wp2_with fail
        go_roundg g'
        case rel => exact ⟨k + 1, _, by have := HK.out; omega, by go_num, HF⟩
        case measure => omega
    · obtain rfl : k = 3 := by omega
      have hki : ¬ (3 : Int) < 3 := by omega
      have s0 := HS.out.bs.cell 0
      have s1 := HS.out.bs.cell 1
      have s2 := HS.out.bs.cell 2
      rw [tri_all] at s0 s1 s2
      simp at s0 s1 s2
      unfold iv at s0 s1 s2
      have r0 := HS.out.br.free 0
      have r1 := HS.out.br.free 1
      have r2 := HS.out.br.free 2
      have hr0 := HS.out.br.cell 0
      have hr1 := HS.out.br.cell 1
      have hr2 := HS.out.br.cell 2
      simp at hr0 hr1 hr2
      have hok0 := HS.out.ok 0 (by omega)
      have hok1 := HS.out.ok 1 (by omega)
      have hok2 := HS.out.ok 2 (by omega)
      have HF : Hid (AtQ T ⟨f 0, f 1, f 2⟩ q) := ⟨⟨hok0.1, hok1.1, hok2.1⟩, hok0.2, hok1.2, hok2.2⟩
      have HB := Lib.hid HS.out.be
      have hne1 : w.heap.size + 1 + 1 ≠ w.heap.size + 1 + 1 + 1 := by omega
      clear hok0 hok1 hok2 HS
      go_wp2_with fail
      refine bodyPost_ret (v := .agg #[.int .i64 (f 0 : Int), .int .i64 (f 1 : Int), .int .i64 (f 2 : Int)]) (by simp [results, Tryz.results69, go_sem, hr0, hr1, hr2]) rfl ⟨⟨f 0, f 1, f 2⟩, rfl, HF.out, ?_⟩
      exact ((HB.out.setCell (by show w.heap.size ≤ w.heap.size + 1 + 1; omega) _).setCell (by show w.heap.size ≤ w.heap.size + 1 + 1; omega) _).setCell (by show w.heap.size ≤ w.heap.size + 1 + 1; omega) _
end
end Go.Proofs.YtlidnialggpcpaaGreatDoor
