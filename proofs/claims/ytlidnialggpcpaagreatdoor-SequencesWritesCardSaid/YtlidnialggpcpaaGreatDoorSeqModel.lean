
/- The contract of the law's modelOf: tables as the document has them. -/
import Derived.Test.YtlidnialggpcpaaGreatDoorSeqOld
import Derived.Test.YtlidnialggpcpaaGreatDoorSeqTabOf
namespace Go.Proofs.YtlidnialggpcpaaGreatDoor
open Go.RowKit

section
variable {w : World} {x : Ts}
set_option maxRecDepth 100000 in
set_option maxHeartbeats 4000000 in
theorem modelOf13_any (ho : ∀ k, k < 3 → OldP w (x.A k) (x.n k)) :
    Calls Tryz.prog 15 #[x.val] w fun e w' => ∃ y : Ts, e = .returned y.val ∧ Below w.heap.size w w' := by
  obtain ⟨W, hW⟩ : ∃ W, W = (w.alloc (.cells x.cells 29)).alloc (.cells #[.int .i64 0, .slice none 0 0, .int .i64 0, .slice none 0 0, .int .i64 0, .slice none 0 0] 36) := ⟨_, rfl⟩
  have hb : Below w.heap.size w W := by rw [hW]; exact ((Below.refl _ _).alloc (Nat.le_refl _) _).alloc (by simp) _
  have hWs : W.heap.size = w.heap.size + 2 := by rw [hW]; simp
  have hbx : Box W w.heap.size 29 x.cells := by rw [hW]; exact (Box.new w _ _).alloc _
  have hbr : Box W (w.heap.size + 1) 36 #[.int .i64 0, .slice none 0 0, .int .i64 0, .slice none 0 0, .int .i64 0, .slice none 0 0] := by
    rw [hW]
    have := Box.new (w.alloc (.cells x.cells 29)) 36 #[.int .i64 0, .slice none 0 0, .int .i64 0, .slice none 0 0, .int .i64 0, .slice none 0 0]
    rw [World.size_alloc] at this
    exact this
  have hT : ∀ k, k < 3 → ∀ W', Below W.heap.size W W' → Calls Tryz.prog 41 #[.agg #[.int .i64 (x.l k : Int), .slice (x.A k) (x.n k) (x.c k)]] W' fun e w' => ∃ A n c, e = .returned (.agg #[.int .i64 (x.l k : Int), .slice A n c]) ∧ Below W.heap.size W w' := fun k hk W' hB => by
    obtain ⟨es, h1, h2, h3, h4⟩ := (ho k hk).model
    have hz := hB.size
    refine (tabOf13_any (c := x.c k) (x.l k : Int) ((h1.below hb (Nat.le_refl _)).below hB (by omega)) h4 h2 (by omega) (by omega)).mono ?_
    rintro e w' ⟨v, rfl, hv, hB2⟩
    obtain ⟨A, n, c, rfl⟩ := hv.slice
    exact ⟨A, n, c, rfl, hB.trans (hB2.mono hz)⟩
  have HT0 := Lib.hid (hT 0 (by omega))
  have HT1 := Lib.hid (hT 1 (by omega))
  have HT2 := Lib.hid (hT 2 (by omega))
  have HB0 : Hid (Below W.heap.size W W.drew) := ⟨rfl, rfl, rfl, Nat.le_refl _, fun _ _ => rfl⟩
  have HX := Lib.hid (And.intro hbx (And.intro hbr (And.intro hb hWs)))
  obtain ⟨⟨t0, t1, t2, t3, t4, t5⟩, _⟩ := box6 hbx
  obtain ⟨⟨c0, c1, c2, c3, c4, c5⟩, f0, f1, f2, f3, f4, f5⟩ := box6 hbr
  have hw2 : w.heap.size + 1 < W.heap.size := by omega
  clear hT ho hbx hbr hb hWs
  unfold Ts.val
  go_enter Tryz.func15, Tryz.ntmps15
  go_upto_region 1 with (fail)
  change Code.wp _ _ _ _ ((w.alloc (.cells x.cells 29)).alloc (.cells #[.int .i64 0, .slice none 0 0, .int .i64 0, .slice none 0 0, .int .i64 0, .slice none 0 0] 36))
  rw [← hW]
  clear hW
  go_region_held3 (fun w' => (w'.cell? ⟨w.heap.size, 0, none⟩ = some (.int .i64 (x.l 0 : Int)) ∧ w'.cell? ⟨w.heap.size, 1, none⟩ = some (.slice (x.A 0) (x.n 0) (x.c 0)) ∧ w'.cell? ⟨w.heap.size, 2, none⟩ = some (.int .i64 (x.l 1 : Int)) ∧ w'.cell? ⟨w.heap.size, 3, none⟩ = some (.slice (x.A 1) (x.n 1) (x.c 1)) ∧ w'.cell? ⟨w.heap.size, 4, none⟩ = some (.int .i64 (x.l 2 : Int)) ∧ w'.cell? ⟨w.heap.size, 5, none⟩ = some (.slice (x.A 2) (x.n 2) (x.c 2))))
    (first | (with_reducible exact ⟨t0, t1, t2, t3, t4, t5⟩) | (with_reducible exact hS) | go_keep)
    (first
    | (go_at_call 41; (with_reducible refine (HT0.out _ HB0.out).mono ?_); rintro e' w1 ⟨A0, n0, e0, rfl, hB1⟩; clear HB0 HT0; have HB0 := Lib.hid hB1; have hS := (box6 (HX.out.1.below hB1 (by have := HX.out.2.2.2; omega))).1; obtain ⟨⟨c0, c1, c2, c3, c4, c5⟩, f0, f1, f2, f3, f4, f5⟩ := box6 (HX.out.2.1.below hB1 (by have := HX.out.2.2.2; omega)); clear hB1)
    | (go_at_call 41; (with_reducible refine (HT1.out _ HB0.out).mono ?_); rintro e' w1 ⟨A1, n1, e1, rfl, hB1⟩; clear HB0 HT1; have HB0 := Lib.hid hB1; have hS := (box6 (HX.out.1.below hB1 (by have := HX.out.2.2.2; omega))).1; obtain ⟨⟨c0, c1, c2, c3, c4, c5⟩, f0, f1, f2, f3, f4, f5⟩ := box6 (HX.out.2.1.below hB1 (by have := HX.out.2.2.2; omega)); clear hB1)
    | (go_at_call 41; (with_reducible refine (HT2.out _ HB0.out).mono ?_); rintro e' w1 ⟨A2, n2, e2, rfl, hB1⟩; clear HB0 HT2; have HB0 := Lib.hid hB1; have hS := (box6 (HX.out.1.below hB1 (by have := HX.out.2.2.2; omega))).1; obtain ⟨⟨c0, c1, c2, c3, c4, c5⟩, f0, f1, f2, f3, f4, f5⟩ := box6 (HX.out.2.1.below hB1 (by have := HX.out.2.2.2; omega)); clear hB1))
  all_goals
    have hbe : Below w.heap.size w w1 := HX.out.2.2.1.trans (HB0.out.mono (by have := HX.out.2.2.2; omega))
    have HBe := Lib.hid hbe
    clear hS hbe
    go_wp2_with fail
    refine bodyPost_ret (v := .agg #[.int .i64 (x.l 0 : Int), .slice A0 n0 e0, .int .i64 (x.l 1 : Int), .slice A1 n1 e1, .int .i64 (x.l 2 : Int), .slice A2 n2 e2]) (by simp [results, Tryz.results15, go_sem, c0, c1, c2, c3, c4, c5]) rfl ⟨⟨x.l, fun k => if k = 0 then A0 else if k = 1 then A1 else A2, fun k => if k = 0 then n0 else if k = 1 then n1 else n2, fun k => if k = 0 then e0 else if k = 1 then e1 else e2⟩, rfl, ?_⟩
    exact (((((HBe.out.setCell (by show w.heap.size ≤ w.heap.size + 1; omega) _).setCell (by show w.heap.size ≤ w.heap.size + 1; omega) _).setCell (by show w.heap.size ≤ w.heap.size + 1; omega) _).setCell (by show w.heap.size ≤ w.heap.size + 1; omega) _).setCell (by show w.heap.size ≤ w.heap.size + 1; omega) _).setCell (by show w.heap.size ≤ w.heap.size + 1; omega) _
end
end Go.Proofs.YtlidnialggpcpaaGreatDoor
