
/- The contract of the program's copied: new memory, the same tables. -/
import Derived.Test.YtlidnialggpcpaaGreatDoorSeqTabs
namespace Go.Proofs.YtlidnialggpcpaaGreatDoor
open Go.RowKit

theorem cloneR_nil {c : Nat} {w : World} : Calls Tryz.prog 45 #[.slice none 0 c] w fun e w' => e = .returned (.slice none 0 0) ∧ Below w.heap.size w w' := by
  have hq := Lib.run_eql_slice_nil (P := Tryz.prog) w 25 111 none 0 c 0 0 Tryz.underlying25
  go_enter Tryz.func45, Tryz.ntmps45
  go_wp2_with fail
  go_ret
  exact ⟨rfl, Below.refl _ _⟩
/-- A table that may count: none, or some entries that lie there. -/
def OldT (w : World) (hi : Nat) (A : Option Addr) (n : Nat) : Prop := (A = none ∧ n = 0) ∨ ∃ (a : Addr) (es : List En), A = some a ∧ DatR 3 ecell w 0 hi (some a) es ∧ es.length = n ∧ n ≤ 1000000
theorem cloneT_any {w : World} {hi n c : Nat} {A : Option Addr} (h : OldT w hi A n) (hhi : hi ≤ w.heap.size) :
    Calls Tryz.prog 45 #[.slice A n c] w fun e w' => ∃ A' n' c', e = .returned (.slice A' n' c') ∧ Below w.heap.size w w' := by
  rcases h with ⟨rfl, rfl⟩ | ⟨a, es, rfl, hd, hn, hb⟩
  · exact (cloneR_nil (c := c)).mono fun e w' ⟨h1, h2⟩ => ⟨none, 0, 0, h1, h2⟩
  · exact (cloneR_some (c := c) hd hn (by omega) hhi).mono fun e w' ⟨v, h1, h2, h3⟩ => by
      obtain ⟨A', n', c', rfl⟩ := h2.slice
      exact ⟨A', n', c', h1, h3⟩
section
variable {w : World} {hi : Nat} {x : Ts}
/-- What stands in the loop of copied behind k tables. -/
structure CpI (w wx : World) (x y : Ts) (k : Nat) : Prop where
  bt : Box wx w.heap.size 29 y.cells
  br : Box wx (w.heap.size + 1) 29 #[.int .i64 0, .slice none 0 0, .int .i64 0, .slice none 0 0, .int .i64 0, .slice none 0 0]
  be : Below w.heap.size w wx
  ol : ∀ j, k ≤ j → j < 3 → y.A j = x.A j ∧ y.n j = x.n j ∧ y.c j = x.c j
  sz : w.heap.size + 2 ≤ wx.heap.size
theorem Ts.cells_with (x : Ts) {k : Nat} (h : k < 3) (A : Option Addr) (n c : Nat) : x.cells.setIfInBounds (k * 2 + 1) (.slice A n c) = (x.with k (x.l k) A n c).cells := by
  rcases (show k = 0 ∨ k = 1 ∨ k = 2 by omega) with rfl | rfl | rfl <;> rfl
set_option maxRecDepth 100000 in
set_option maxHeartbeats 4000000 in
theorem copied_any (h : ∀ k, k < 3 → OldT w hi (x.A k) (x.n k)) (hhi : hi ≤ w.heap.size) :
    Calls Tryz.prog 19 #[x.val] w fun e w' => ∃ y : Ts, e = .returned y.val ∧ Below w.heap.size w w' := by
  obtain ⟨W, hW⟩ : ∃ W, W = (w.alloc (.cells x.cells 29)).alloc (.cells #[.int .i64 0, .slice none 0 0, .int .i64 0, .slice none 0 0, .int .i64 0, .slice none 0 0] 29) := ⟨_, rfl⟩
  have HI0 : Hid (CpI w W x x 0) := by
    rw [hW]
    have h1 := Box.new (w.alloc (.cells x.cells 29)) 29 #[.int .i64 0, .slice none 0 0, .int .i64 0, .slice none 0 0, .int .i64 0, .slice none 0 0]
    rw [World.size_alloc] at h1
    exact ⟨(Box.new w _ _).alloc _, h1, ((Below.refl _ _).alloc (Nat.le_refl _) _).alloc (by simp) _, fun _ _ _ => ⟨rfl, rfl, rfl⟩, by simp⟩
  have HO := Lib.hid h
  clear h
  unfold Ts.val
  go_enter Tryz.func19, Tryz.ntmps19
  go_upto_region 1 with (fail)
  change Code.wp _ _ _ _ ((w.alloc (.cells x.cells 29)).alloc (.cells #[.int .i64 0, .slice none 0 0, .int .i64 0, .slice none 0 0, .int .i64 0, .slice none 0 0] 29))
  rw [← hW]
  clear hW
  go_wp2_with fail
  go_loopg [3, 4] 3 (fun gh i3 i wx => ∃ (k : Nat) (y : Ts), k + gh = 3 ∧ i = .int .i64 (k : Int) ∧ Hid (CpI w wx x y k))
  case atStart => exact ⟨0, x, rfl, rfl, HI0⟩
  case round =>
    obtain ⟨k, y, hk, rfl, HI⟩ := hrel
    have HK := Lib.hid hk
    have hk3 : k ≤ 3 := by omega
    clear hk HI0
    by_cases hlt : k < 3
    · obtain ⟨g', rfl⟩ : ∃ g', gk = g' + 1 := ⟨gk - 1, by have := HK.out; omega⟩
      have hki : (k : Int) < 3 := by omega
      have hsz := HI.out.sz
      have t1 := (HI.out.bt.cell (k * 2 + 1)).trans (y.at hlt).2
      have hOld : OldT wr hi (y.A k) (y.n k) := by
        obtain ⟨e1, e2, _⟩ := HI.out.ol k (Nat.le_refl _) hlt
        rw [e1, e2]
        rcases HO.out k hlt with q | ⟨a, es, q1, q2, q3⟩
        · exact .inl q
        · exact .inr ⟨a, es, q1, q2.below HI.out.be hhi, q3⟩
      have HC := Lib.hid (cloneT_any (c := y.c k) hOld (by omega))
      clear hOld
      go_wp2_with fail
      refine HC.out.mono ?_
      rintro e w1 ⟨A', n', c', rfl, hB⟩
      have hbt := HI.out.bt.below hB (by omega)
      have HB := Lib.hid hB
      have s0 := (hbt.cell (k * 2 + 1)).trans (y.at hlt).2
      have s1 := hbt.free (k * 2 + 1)
      have HF : Hid (CpI w (w1.setCell ⟨w.heap.size, k * 2 + 1, none⟩ (.slice A' n' c')) x (y.with k (y.l k) A' n' c') (k + 1)) := by
        have hz := hB.size
        refine ⟨?_, ((HI.out.br.below hB (by omega)).far (by show w.heap.size + 1 ≠ w.heap.size; omega) _), ?_, ?_, by simp [World.setCell]; omega⟩
        · have := hbt.put (k * 2 + 1) (.slice A' n' c')
          rw [y.cells_with hlt] at this
          exact this
        · exact (HI.out.be.trans (hB.mono HI.out.be.size)).setCell (Nat.le_refl _) _
        · intro j hj hj3
          unfold Ts.with
          dsimp only
          rw [if_neg (by omega), if_neg (by omega), if_neg (by omega)]
          exact HI.out.ol j (by omega) hj3
      clear hB hbt t1 HI HC
      go_wp2_with fail
      go_roundg g'
      case rel => exact ⟨k + 1, _, by have := HK.out; omega, by go_num, HF⟩
      case measure => omega
    · obtain rfl : k = 3 := by omega
      have hki : ¬ (3 : Int) < 3 := by omega
      have hsz := HI.out.sz
      have s0 := HI.out.bt.cell 0
      have s1 := HI.out.bt.cell 1
      have s2 := HI.out.bt.cell 2
      have s3 := HI.out.bt.cell 3
      have s4 := HI.out.bt.cell 4
      have s5 := HI.out.bt.cell 5
      simp [Ts.cells] at s0 s1 s2 s3 s4 s5
      have c0 := HI.out.br.cell 0
      have c1 := HI.out.br.cell 1
      have c2 := HI.out.br.cell 2
      have c3 := HI.out.br.cell 3
      have c4 := HI.out.br.cell 4
      have c5 := HI.out.br.cell 5
      simp at c0 c1 c2 c3 c4 c5
      have f0 := HI.out.br.free 0
      have f1 := HI.out.br.free 1
      have f2 := HI.out.br.free 2
      have f3 := HI.out.br.free 3
      have f4 := HI.out.br.free 4
      have f5 := HI.out.br.free 5
      have HBe := Lib.hid HI.out.be
      clear HI
      go_wp2_with fail
      refine bodyPost_ret (v := y.val) (by simp [results, Tryz.results19, go_sem, Ts.val, c0, c1, c2, c3, c4, c5]) rfl ⟨⟨y, rfl⟩, ?_⟩
      exact (((((HBe.out.setCell (by show w.heap.size ≤ w.heap.size + 1; omega) _).setCell (by show w.heap.size ≤ w.heap.size + 1; omega) _).setCell (by show w.heap.size ≤ w.heap.size + 1; omega) _).setCell (by show w.heap.size ≤ w.heap.size + 1; omega) _).setCell (by show w.heap.size ≤ w.heap.size + 1; omega) _).setCell (by show w.heap.size ≤ w.heap.size + 1; omega) _
end
end Go.Proofs.YtlidnialggpcpaaGreatDoor
