
/- The contracts of the program's start and codeOf. -/
import Derived.Test.YtlidnialggpcpaaGreatDoorSeqVal
namespace Go.Proofs.YtlidnialggpcpaaGreatDoor
open Go.RowKit

section
variable {w : World} {lo g : Nat} {xs : List UInt8} {left : Int} {x : Ts} {T : T3}
/-- The boxes of start, and the reader, after k tables. -/
structure StI (w wx : World) (lo g : Nat) (xs : List UInt8) (left : Int) (x : Ts) (T : T3) (k : Nat) : Prop where
  bw : BW wx lo g xs (startL xs T left k)
  bt : Box wx w.heap.size 29 x.cells
  br : Box wx (w.heap.size + 1) 120 #[iv 0, iv 0, iv 0]
  bs : Box wx (w.heap.size + 1 + 1) 120 (tri (fun k => iv (startX xs T left k)) (fun _ => iv 0) k)
  gr : w.grownBy wx (some g)
set_option maxRecDepth 100000 in
set_option maxHeartbeats 2000000 in
theorem startT_any (h : BW w lo g xs left) (hl : -100000000000 ≤ left) (hx : ∀ k, k < 3 → x.l k = (T.tb k).lg) (h15 : ∀ k, k < 3 → (T.tb k).lg ≤ 15) :
    Calls Tryz.prog 50 #[x.val, .pointer (some ⟨g, 0, none⟩)] w fun e w' =>
      e = .returned (.agg #[.int .i64 (startX xs T left 0 : Int), .int .i64 (startX xs T left 1 : Int), .int .i64 (startX xs T left 2 : Int)]) ∧ BW w' lo g xs (startL xs T left 3) ∧ w.grownBy w' (some g) := by
  have hglt := h.lt
  have HS0 : Hid (StI w (((w.alloc (.cells x.cells 29)).alloc (.cells #[iv 0, iv 0, iv 0] 120)).alloc (.cells #[iv 0, iv 0, iv 0] 120)) lo g xs left x T 0) := by
    have hb : Below w.heap.size w (((w.alloc (.cells x.cells 29)).alloc (.cells #[iv 0, iv 0, iv 0] 120)).alloc (.cells #[iv 0, iv 0, iv 0] 120)) := (((Below.refl _ _).alloc (Nat.le_refl _) _).alloc (by simp) _).alloc (by simp; omega) _
    have h1 := Box.new (w.alloc (.cells x.cells 29)) 120 #[iv 0, iv 0, iv 0]
    have h2 := Box.new ((w.alloc (.cells x.cells 29)).alloc (.cells #[iv 0, iv 0, iv 0] 120)) 120 #[iv 0, iv 0, iv 0]
    rw [World.size_alloc] at h1
    rw [World.size_alloc, World.size_alloc] at h2
    exact ⟨h.below hb hglt, ((Box.new w _ _).alloc _).alloc _, h1.alloc _, h2, ⟨hb.os, hb.tape, hb.output, hb.size, fun k hk _ => hb.block k hk⟩⟩
  have HX := Lib.hid hx
  have H15 := Lib.hid h15
  clear h hx h15
  go_enter Tryz.func50, Tryz.ntmps50
  unfold Ts.val
  go_wp2_with fail
  obtain ⟨W, hW⟩ : ∃ W, W = ((w.alloc (.cells x.cells 29)).alloc (.cells #[iv 0, iv 0, iv 0] 120)).alloc (.cells #[iv 0, iv 0, iv 0] 120) := ⟨_, rfl⟩
  rw [← hW] at HS0
  change Code.wp _ _ _ _ (((w.alloc (.cells x.cells 29)).alloc (.cells #[iv 0, iv 0, iv 0] 120)).alloc (.cells #[iv 0, iv 0, iv 0] 120))
  rw [← hW]
  clear hW
  go_loopg [6, 7] 3 (fun gh i0 i wx => ∃ k : Nat, k + gh = 3 ∧ i = .int .i64 (k : Int) ∧ Hid (StI w wx lo g xs left x T k))
  case atStart => exact ⟨0, rfl, rfl, HS0⟩
  case round =>
    obtain ⟨k, hk, rfl, HS⟩ := hrel
    have HK := Lib.hid hk
    have hk3 : k ≤ 3 := by omega
    clear hk HS0
    by_cases hlt : k < 3
    · obtain ⟨g', rfl⟩ : ∃ g', gk = g' + 1 := ⟨gk - 1, by have := HK.out; omega⟩
      have hki : (k : Int) < 3 := by omega
      have hsz := HS.out.gr.size
      have t0 := (HS.out.bt.cell (k * 2)).trans (x.at hlt).1
      have t1 := (HS.out.bt.cell (k * 2 + 1)).trans (x.at hlt).2
      have s0 := (HS.out.bs.cell k).trans (tri_at _ _ hlt)
      have s1 := HS.out.bs.free k
      have HC := Lib.hid (start_any (A := x.A k) (n := x.n k) (c := x.c k) (T.tb k).lg HS.out.bw (by have := startL_le xs T left k; omega) (H15.out k hlt))
      obtain ⟨X, hX⟩ : ∃ X, X = startX xs T left k := ⟨_, rfl⟩
      change Hid (Calls _ _ _ _ fun e w' => e = .returned (.int .i64 (startX xs T left k : Int)) ∧ BW w' lo g xs (startL xs T left (k + 1)) ∧ wr.grownBy w' (some g)) at HC
      rw [← HX.out k hlt, ← hX] at HC
      have HSt : Hid ((tri (fun k => iv (startX xs T left k)) (fun _ => iv 0) k).setIfInBounds k (.int .i64 (X : Int)) = tri (fun k => iv (startX xs T left k)) (fun _ => iv 0) (k + 1)) := by
        rw [hX]
        exact tri_set (fun k => iv (startX xs T left k)) (fun _ => iv 0) hlt
      clear hX
      go_wp2_with fail
      refine HC.out.mono ?_
      rintro e w1 ⟨rfl, hb, hg⟩
      have HB1 := Lib.hid hb
      have bt1 := HS.out.bt.grown hg (by intro h; injection h with h; omega)
      have br1 := HS.out.br.grown hg (by intro h; injection h with h; omega)
      have bs1 := HS.out.bs.grown hg (by intro h; injection h with h; omega)
      have HT1 := Lib.hid bt1
      have HR1 := Lib.hid br1
      have HS1 := Lib.hid bs1
      have HG1 := Lib.hid (grown_then HS.out.gr hg)
      have s2 := (bs1.cell k).trans (tri_at _ _ hlt)
      have s3 := bs1.free k
      clear hb hg bt1 br1 bs1 t0 t1 s0 s1
      go_wp2_with fail
      have hne0 : w.heap.size ≠ w.heap.size + 1 + 1 := by omega
      have hne1 : w.heap.size + 1 ≠ w.heap.size + 1 + 1 := by omega
      go_roundg g'
      case rel =>
        refine ⟨k + 1, by have := HK.out; omega, by go_num, ⟨?_, HT1.out.far hne0 _, HR1.out.far hne1 _, ?_, ?_⟩⟩
        · exact HB1.out.keep fun j _ hj => Below.heap_setCell _ _ _ j (by show j ≠ w.heap.size + 1 + 1; omega)
        · have := HS1.out.put k (.int .i64 (X : Int))
          rw [HSt.out] at this
          exact this
        · exact grown_set HG1.out (by show w.heap.size ≤ w.heap.size + 1 + 1; omega) _
      case measure => omega
    · obtain rfl : k = 3 := by omega
      have hki : ¬ (3 : Int) < 3 := by omega
      have s0 := HS.out.bs.cell 0
      have s1 := HS.out.bs.cell 1
      have s2 := HS.out.bs.cell 2
      rw [tri_all] at s0 s1 s2
      simp at s0 s1 s2
      have r0 := HS.out.br.free 0
      have r1 := HS.out.br.free 1
      have r2 := HS.out.br.free 2
      unfold iv at s0 s1 s2
      have hne1 : w.heap.size + 1 ≠ w.heap.size + 1 + 1 := by omega
      have HF : Hid (BW (((wr.setCell ⟨w.heap.size + 1, 0, none⟩ (iv (startX xs T left 0))).setCell ⟨w.heap.size + 1, 1, none⟩ (iv (startX xs T left 1))).setCell ⟨w.heap.size + 1, 2, none⟩ (iv (startX xs T left 2))) lo g xs (startL xs T left 3) ∧ w.grownBy (((wr.setCell ⟨w.heap.size + 1, 0, none⟩ (iv (startX xs T left 0))).setCell ⟨w.heap.size + 1, 1, none⟩ (iv (startX xs T left 1))).setCell ⟨w.heap.size + 1, 2, none⟩ (iv (startX xs T left 2))) (some g)) := by
        refine ⟨HS.out.bw.keep fun j _ hj => ?_, grown_set (grown_set (grown_set HS.out.gr (by show w.heap.size ≤ w.heap.size + 1; omega) _) (by show w.heap.size ≤ w.heap.size + 1; omega) _) (by show w.heap.size ≤ w.heap.size + 1; omega) _⟩
        rw [Below.heap_setCell _ _ _ j (by show j ≠ w.heap.size + 1; omega), Below.heap_setCell _ _ _ j (by show j ≠ w.heap.size + 1; omega), Below.heap_setCell _ _ _ j (by show j ≠ w.heap.size + 1; omega)]
      have hr0 := HS.out.br.cell 0
      have hr1 := HS.out.br.cell 1
      have hr2 := HS.out.br.cell 2
      simp at hr0 hr1 hr2
      obtain ⟨X0, hX0⟩ : ∃ X, X = startX xs T left 0 := ⟨_, rfl⟩
      rw [← hX0] at s0 HF
      have HX0 := Lib.hid hX0
      clear hX0
      obtain ⟨X1, hX1⟩ : ∃ X, X = startX xs T left 1 := ⟨_, rfl⟩
      rw [← hX1] at s1 HF
      have HX1 := Lib.hid hX1
      clear hX1
      obtain ⟨X2, hX2⟩ : ∃ X, X = startX xs T left 2 := ⟨_, rfl⟩
      rw [← hX2] at s2 HF
      have HX2 := Lib.hid hX2
      clear hX2
      go_wp2_with fail
      refine bodyPost_ret (v := .agg #[.int .i64 (X0 : Int), .int .i64 (X1 : Int), .int .i64 (X2 : Int)]) (by simp [results, Tryz.results50, go_sem, hr0, hr1, hr2]) rfl ⟨by rw [HX0.out, HX1.out, HX2.out], HF.out.1, HF.out.2⟩
end
end Go.Proofs.YtlidnialggpcpaaGreatDoor
