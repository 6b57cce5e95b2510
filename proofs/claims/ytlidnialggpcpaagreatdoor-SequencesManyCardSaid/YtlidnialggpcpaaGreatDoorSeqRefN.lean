
/- The contracts of the document's number, value, and of its Start and Next by bread. -/
import Derived.Test.YtlidnialggpcpaaGreatDoorSeqCount
import Derived.Test.YtlidnialggpcpaaGreatDoorSeqOne
import Derived.Test.YtlidnialggpcpaaGreatDoorPileA
import Derived.Test.YtlidnialggpcpaaGreatDoorPileD
import Derived.Test.YtlidnialggpcpaaGreatDoorPileF
namespace Go.Proofs.YtlidnialggpcpaaGreatDoor
open Go.RowKit

theorem rnum_none (m : Nat) (w : World) {xs : List UInt8} (h1 : 1 ≤ m) (h8 : m ≤ 8) (hs : xs.length < m) :
    Calls Tryz.prog 23 #[.agg #[.string (str xs), .int .i64 0], .int .i64 (m : Int)] w fun e w' => e = .returned (.tuple #[.agg #[.string (str xs), .int .i64 10], .int .u64 0]) ∧ Below w.heap.size w w' := by
  have h := cu.refNumber_yes xs (m : Int) (by omega) (by omega) w
  have e : cu.tk xs 0 (m : Int) true = (xs, 10, []) := by unfold cu.tk; rw [if_neg (by omega), if_neg (by simp), if_pos (by omega)]
  rw [e] at h
  exact h
theorem rnum_one (w : World) (f : UInt8) (r : List UInt8) :
    Calls Tryz.prog 23 #[.agg #[.string (str (f :: r)), .int .i64 0], .int .i64 1] w fun e w' => e = .returned (.tuple #[.agg #[.string (str r), .int .i64 0], .int .u64 (f.toNat : Int)]) ∧ Below w.heap.size w w' := by
  have h := cu.refNumber_yes (f :: r) 1 (by omega) (by omega) w
  have e : cu.tk (f :: r) 0 1 true = (r, 0, [f]) := by unfold cu.tk; rw [if_neg (by omega), if_neg (by simp), if_neg (by simp only [List.length_cons]; omega)]; rfl
  rw [e] at h
  have e2 : le [f] = f.toNat := by simp [le]
  rw [e2] at h
  exact h
theorem rnum_two (w : World) (f y : UInt8) (r : List UInt8) :
    Calls Tryz.prog 23 #[.agg #[.string (str (f :: y :: r)), .int .i64 0], .int .i64 2] w fun e w' => e = .returned (.tuple #[.agg #[.string (str r), .int .i64 0], .int .u64 ((f.toNat + 256 * y.toNat : Nat) : Int)]) ∧ Below w.heap.size w w' := by
  have h := cu.refNumber_yes (f :: y :: r) 2 (by omega) (by omega) w
  have e : cu.tk (f :: y :: r) 0 2 true = (r, 0, [f, y]) := by unfold cu.tk; rw [if_neg (by omega), if_neg (by simp), if_neg (by simp only [List.length_cons]; omega)]; rfl
  rw [e] at h
  have e2 : le [f, y] = f.toNat + 256 * y.toNat := by simp [le]
  rw [e2] at h
  exact h
/-- What the document's number answers. -/
def RCntPost (R : Except Int (Nat × List UInt8)) (w : World) (e : Ending) (w' : World) : Prop :=
  Below w.heap.size w w' ∧ match R with
    | .error er => ∃ (s : ByteArray) (z : Int), e = .returned (.tuple #[.agg #[.string s, .int .i64 er], .int .u64 z])
    | .ok (n, r) => e = .returned (.tuple #[.agg #[.string (str r), .int .i64 0], .int .u64 (n : Int)])
section
variable {w : World} {xs : List UInt8}
set_option maxRecDepth 100000 in
set_option maxHeartbeats 2000000 in
theorem rcount_any : Calls Tryz.prog 22 #[.agg #[.string (str xs), .int .i64 0]] w (RCntPost (countS xs) w) := by
  obtain ⟨W, hW⟩ : ∃ W, W = (w.alloc (.cells #[.string (str xs), .int .i64 0] 67)).alloc (.cells #[.string ⟨#[]⟩, .int .i64 0] 67) := ⟨_, rfl⟩
  have hb : Below w.heap.size w W := by rw [hW]; exact ((Below.refl _ _).alloc (Nat.le_refl _) _).alloc (by simp) _
  have hWs : W.heap.size = w.heap.size + 2 := by rw [hW]; simp
  have hx0 : Box W w.heap.size 67 #[.string (str xs), .int .i64 0] := by rw [hW]; exact (Box.new w _ _).alloc _
  have hx1 : Box W (w.heap.size + 1) 67 #[.string ⟨#[]⟩, .int .i64 0] := by
    rw [hW]
    have := Box.new (w.alloc (.cells #[.string (str xs), .int .i64 0] 67)) 67 #[.string ⟨#[]⟩, .int .i64 0]
    rw [World.size_alloc] at this
    exact this
  have HB := Lib.hid hb
  have HX0 := Lib.hid hx0
  have HX1 := Lib.hid hx1
  have HWs := Lib.hid hWs
  obtain ⟨q0, q1, _, _⟩ := box2 hx0
  clear hb hx0 hx1
  go_enter Tryz.func22, Tryz.ntmps22
  go_upto_region 1 with (fail)
  rw [← hW]
  clear hW
  rcases xs with _ | ⟨f, r⟩
  · have HN := Lib.hid (rnum_none 1 W (xs := []) (by omega) (by omega) (by simp))
    go_wp2_with fail
    refine HN.out.mono ?_
    rintro e w1 ⟨rfl, hB1⟩
    have y0 := HX0.out.below hB1 (by have := HWs.out; omega)
    have y1 := HX1.out.below hB1 (by have := HWs.out; omega)
    have HB1 := Lib.hid (HB.out.trans (hB1.mono (by have := HWs.out; omega)))
    have hz1 := hB1.size
    obtain ⟨u0, u1, f0, f1⟩ := box2 y0
    have HY1 := Lib.hid y1
    have HY0 := Lib.hid ((y0.put 0 (.string (str []))).put 1 (.int .i64 10))
    clear hB1 y0 y1 q0 q1
    obtain ⟨t0, t1, g0, g1⟩ := box2 HY1.out
    have hne : w.heap.size + 1 ≠ w.heap.size := by omega
    go_wp2_with fail
    refine bodyPost_ret (v := .tuple #[.agg #[.string (str []), .int .i64 10], .int .u64 0]) (by simp [results, Tryz.results22, go_sem, t0, t1]) rfl ⟨?_, _, _, rfl⟩
    exact (((HB1.out.setCell (Nat.le_refl _) _).setCell (Nat.le_refl _) _).setCell (by show w.heap.size ≤ w.heap.size + 1; omega) _).setCell (by show w.heap.size ≤ w.heap.size + 1; omega) _
  · have hf := f.toNat_lt
    have HN := Lib.hid (rnum_one W f r)
    obtain ⟨R, hR⟩ : ∃ R, R = countS (f :: r) := ⟨_, rfl⟩
    have HRc := Lib.hid hR
    rw [count_cons] at hR
    have HR := Lib.hid hR
    clear hR
    generalize f.toNat = F at *
    go_wp2_with fail
    refine HN.out.mono ?_
    rintro e w1 ⟨rfl, hB1⟩
    have y0 := HX0.out.below hB1 (by have := HWs.out; omega)
    have y1 := HX1.out.below hB1 (by have := HWs.out; omega)
    have HB1 := Lib.hid (HB.out.trans (hB1.mono (by have := HWs.out; omega)))
    have hz1 := hB1.size
    obtain ⟨u0, u1, f0, f1⟩ := box2 y0
    have HY1 := Lib.hid y1
    have HY0 := Lib.hid ((y0.put 0 (.string (str r))).put 1 (.int .i64 0))
    clear hB1 y0 y1 q0 q1
    by_cases h1 : F < 128
    · obtain ⟨t0, t1, g0, g1⟩ := box2 HY1.out
      have hR := HR.out
      rw [if_pos h1] at hR
      have HR1 := Lib.hid hR
      have hne : w.heap.size + 1 ≠ w.heap.size := by omega
      clear hR HR
      go_wp2_with fail
      rw [← HRc.out, HR1.out]
      refine bodyPost_ret (v := .tuple #[.agg #[.string (str r), .int .i64 0], .int .u64 (F : Int)]) (by simp [results, Tryz.results22, go_sem, t0, t1]) rfl ⟨?_, rfl⟩
      exact (((HB1.out.setCell (Nat.le_refl _) _).setCell (Nat.le_refl _) _).setCell (by show w.heap.size ≤ w.heap.size + 1; omega) _).setCell (by show w.heap.size ≤ w.heap.size + 1; omega) _
    · have hY2 := Lib.hid ((HY1.out.far (p := ⟨w.heap.size, 0, none⟩) (by show w.heap.size + 1 ≠ w.heap.size; omega) (.string (str r))).far (p := ⟨w.heap.size, 1, none⟩) (by show w.heap.size + 1 ≠ w.heap.size; omega) (.int .i64 0))
      have hB2 := Lib.hid ((HB1.out.setCell (p := ⟨w.heap.size, 0, none⟩) (Nat.le_refl _) (.string (str r))).setCell (p := ⟨w.heap.size, 1, none⟩) (Nat.le_refl _) (.int .i64 0))
      have hz2 : ((w1.setCell ⟨w.heap.size, 0, none⟩ (.string (str r))).setCell ⟨w.heap.size, 1, none⟩ (.int .i64 0)).heap.size = w1.heap.size := by simp [World.setCell]
      by_cases h2 : F < 255
      · have hR := HR.out
        rw [if_neg h1, if_pos h2] at hR
        clear HR
        go_upto_region 5 with (fail)
        generalize (w1.setCell ⟨w.heap.size, 0, none⟩ (.string (str r))).setCell ⟨w.heap.size, 1, none⟩ (.int .i64 0) = W2 at *
        have y0 := HY0.out
        obtain ⟨v0, v1, _, _⟩ := box2 y0
        clear y0 u0 u1 f0 f1
        rcases r with _ | ⟨x, r2⟩
        · have HN2 := Lib.hid (rnum_none 1 W2 (xs := []) (by omega) (by omega) (by simp))
          have HR1 := Lib.hid hR
          clear hR
          go_wp2_with fail
          refine HN2.out.mono ?_
          rintro e w3 ⟨rfl, hB3⟩
          have HB3 := Lib.hid ((hB2.out.trans (hB3.mono hB2.out.size)).alloc (hB2.out.trans (hB3.mono hB2.out.size)).size (.cells #[.string (str []), .int .i64 10] 67))
          obtain ⟨t0, t1, g0, g1⟩ := box2 ((hY2.out.below hB3 hY2.out.lt).alloc (.cells #[.string (str []), .int .i64 10] 67))
          clear hB3
          go_wp2_with fail
          rw [← HRc.out, HR1.out]
          refine bodyPost_ret (v := .tuple #[.agg #[.string (str []), .int .i64 10], .int .u64 (((F : Int) - 128) * 256)]) (by simp [results, Tryz.results22, go_sem, t0, t1]) rfl ⟨?_, _, _, rfl⟩
          exact (HB3.out.setCell (by show w.heap.size ≤ w.heap.size + 1; omega) _).setCell (by show w.heap.size ≤ w.heap.size + 1; omega) _
        · have HN2 := Lib.hid (rnum_one W2 x r2)
          have hx := x.toNat_lt
          obtain ⟨X, hX⟩ : ∃ X, X = x.toNat := ⟨_, rfl⟩
          dsimp only at hR
          rw [← hX] at HN2 hx hR
          have HR1 := Lib.hid hR
          clear hR hX
          have hv : Hid (((F : Int) - 128) * 256 + (X : Int) = (((F - 128) * 256 + X : Nat) : Int)) := Lib.hid (by omega)
          go_wp2_with fail
          refine HN2.out.mono ?_
          rintro e w3 ⟨rfl, hB3⟩
          have HB3 := Lib.hid ((hB2.out.trans (hB3.mono hB2.out.size)).alloc (hB2.out.trans (hB3.mono hB2.out.size)).size (.cells #[.string (str r2), .int .i64 0] 67))
          obtain ⟨t0, t1, g0, g1⟩ := box2 ((hY2.out.below hB3 hY2.out.lt).alloc (.cells #[.string (str r2), .int .i64 0] 67))
          clear hB3
          go_wp2_with fail
          rw [← HRc.out, HR1.out]
          refine bodyPost_ret (v := .tuple #[.agg #[.string (str r2), .int .i64 0], .int .u64 (((F : Int) - 128) * 256 + (X : Int))]) (by simp [results, Tryz.results22, go_sem, t0, t1]) rfl ⟨?_, by rw [hv.out]⟩
          exact (HB3.out.setCell (by show w.heap.size ≤ w.heap.size + 1; omega) _).setCell (by show w.heap.size ≤ w.heap.size + 1; omega) _
      · obtain rfl : F = 255 := by omega
        have hR := HR.out
        rw [if_neg h1, if_neg h2] at hR
        clear HR
        go_upto_region 7 with (fail)
        generalize (w1.setCell ⟨w.heap.size, 0, none⟩ (.string (str r))).setCell ⟨w.heap.size, 1, none⟩ (.int .i64 0) = W2 at *
        have y0 := HY0.out
        obtain ⟨v0, v1, _, _⟩ := box2 y0
        clear y0 u0 u1 f0 f1
        have hcase : (r.length < 2 ∧ R = .error 10) ∨ ∃ x y r2, r = x :: y :: r2 ∧ R = .ok (32512 + (UInt8.toNat x + 256 * UInt8.toNat y), r2) := by
          rcases r with _ | ⟨x, _ | ⟨y, r2⟩⟩
          · exact .inl ⟨by simp, hR⟩
          · exact .inl ⟨by simp, hR⟩
          · exact .inr ⟨x, y, r2, rfl, hR⟩
        clear hR
        rcases hcase with ⟨hl, hR⟩ | ⟨x, y, r2, rfl, hR⟩
        · have HN2 := Lib.hid (rnum_none 2 W2 (xs := r) (by omega) (by omega) hl)
          have HR1 := Lib.hid hR
          clear hR
          go_wp2_with fail
          refine HN2.out.mono ?_
          rintro e w3 ⟨rfl, hB3⟩
          have HB3 := Lib.hid ((hB2.out.trans (hB3.mono hB2.out.size)).alloc (hB2.out.trans (hB3.mono hB2.out.size)).size (.cells #[.string (str r), .int .i64 10] 67))
          obtain ⟨t0, t1, g0, g1⟩ := box2 ((hY2.out.below hB3 hY2.out.lt).alloc (.cells #[.string (str r), .int .i64 10] 67))
          clear hB3
          go_wp2_with fail
          rw [← HRc.out, HR1.out]
          refine bodyPost_ret (v := .tuple #[.agg #[.string (str r), .int .i64 10], .int .u64 32512]) (by simp [results, Tryz.results22, go_sem, t0, t1]) rfl ⟨?_, _, _, rfl⟩
          exact (HB3.out.setCell (by show w.heap.size ≤ w.heap.size + 1; omega) _).setCell (by show w.heap.size ≤ w.heap.size + 1; omega) _
        · have HN2 := Lib.hid (rnum_two W2 x y r2)
          have hx := x.toNat_lt
          have hy := y.toNat_lt
          obtain ⟨Z, hZ⟩ : ∃ Z, Z = x.toNat + 256 * y.toNat := ⟨_, rfl⟩
          rw [← hZ] at HN2 hR
          have HR1 := Lib.hid hR
          have hZ2 : Z < 65536 := by omega
          clear hR hZ
          have hv : Hid ((Z : Int) + 32512 = ((32512 + Z : Nat) : Int)) := Lib.hid (by omega)
          go_wp2_with fail
          refine HN2.out.mono ?_
          rintro e w3 ⟨rfl, hB3⟩
          have HB3 := Lib.hid ((hB2.out.trans (hB3.mono hB2.out.size)).alloc (hB2.out.trans (hB3.mono hB2.out.size)).size (.cells #[.string (str r2), .int .i64 0] 67))
          obtain ⟨t0, t1, g0, g1⟩ := box2 ((hY2.out.below hB3 hY2.out.lt).alloc (.cells #[.string (str r2), .int .i64 0] 67))
          clear hB3
          go_wp2_with fail
          rw [← HRc.out, HR1.out]
          refine bodyPost_ret (v := .tuple #[.agg #[.string (str r2), .int .i64 0], .int .u64 ((Z : Int) + 32512)]) (by simp [results, Tryz.results22, go_sem, t0, t1]) rfl ⟨?_, by rw [hv.out]⟩
          exact (HB3.out.setCell (by show w.heap.size ≤ w.heap.size + 1; omega) _).setCell (by show w.heap.size ≤ w.heap.size + 1; omega) _
end
end Go.Proofs.YtlidnialggpcpaaGreatDoor
