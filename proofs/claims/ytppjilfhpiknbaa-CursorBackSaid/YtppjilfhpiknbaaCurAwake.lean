/- The document's example for the cursor answers true, in whatever world, and nothing that was there has turned. -/
import Derived.Test.YtppjilfhpiknbaaCurRefNum
namespace Go.Proofs.Ytppjilfhpiknbaa
open Go.RowKit

/-- A new row of bytes. -/
theorem dat_new (w : World) (u : TypeId) (xs : List UInt8) (cs : Array Value) (hcs : cs = (xs.map cel).toArray) : Dat true (w.alloc (.cells cs u)) w.heap.size (w.heap.size + 1) (some ⟨w.heap.size, 0, none⟩) xs := fun _ =>
  ⟨w.heap.size, 0, rfl, Nat.le_refl _, by omega, fun j hj => by
    have h := (Box.new w u cs).cell (0 + j)
    rw [h, hcs]
    simp [List.getD, hj], fun _ j => (Box.new w u cs).free j⟩

theorem wnumber_at {w : World} {base g : Nat} {xs : List UInt8} (X : Int) (x : Nat) (m : Int) (hX : X = (x : Int)) (h : Wtr w base g xs) (hb : xs.length + 8 ≤ 1099511627776) :
    Calls Try.prog 19 #[.pointer (some ⟨g, 0, none⟩), .int .u64 X, .int .i64 m] w fun e w' => e = .returned (.tuple #[]) ∧ Wtr w' base g (xs ++ putw x m) ∧ Below base w w' := by
  subst hX
  exact wnumber_any x m h hb

set_option maxHeartbeats 800000 in
theorem awake_any (w : World) :
    Calls Try.prog 8 #[] w fun e w' => e = .returned (.bool true) ∧ Below w.heap.size w w' := by
  have HD1 := Lib.hid (dat_new w 5 [1, 2, 3] #[.int .u8 1, .int .u8 2, .int .u8 3] rfl)
  go_enter Try.func8, Try.ntmps8
  go_wp2_with fail
  refine (reader_any HD1.out rfl (by decide) (by simp)).mono ?_
  rintro e w1 ⟨g, rfl, hg, hr, hB⟩
  simp only [World.size_alloc] at hg hr hB
  have hB1 : Below w.heap.size w w1 := ((Below.refl _ _).alloc (Nat.le_refl _) _).trans (hB.mono (by omega))
  have HB1 := Lib.hid hB1
  have HR1 := Lib.hid hr
  have hg1 := hr.lt
  clear hB hB1 hr HD1
  go_wp2_with fail
  refine (number_any HR1.out).mono ?_
  rintro e w2 ⟨rfl, hr, hs⟩
  have ht : tk [1, 2, 3] 0 2 (wid 2) = ([3], 0, [1, 2]) := by decide
  rw [ht] at hr ⊢
  have HS2 := Lib.hid hs
  have HR2 := Lib.hid hr
  have hz2 : w1.heap.size ≤ w2.heap.size := Nat.le_of_eq hs.2.symm
  clear hs hr ht
  go_wp2_with fail
  refine (rd_left HR2.out).mono ?_
  rintro e w' ⟨he, rfl⟩
  obtain rfl : e = .returned (.int .i64 1) := he
  go_wp2_with fail
  refine (rd_end HR2.out).mono ?_
  rintro e w' ⟨he, rfl⟩
  obtain rfl : e = .returned (.int .i64 15) := he
  go_wp2_with fail
  refine (bytes_any HR2.out).mono ?_
  rintro e w3 ⟨v, rfl, hv, hr, hs⟩
  have ht : tk [3] 0 1 (decide ((0 : Int) ≤ 1)) = ([], 0, [3]) := by decide
  rw [ht] at hr hv
  obtain ⟨A, c, rfl, _, hd⟩ := hv
  obtain ⟨d, o, rfl, _, hdg, hc, _⟩ := hd (by decide)
  have hc3 : w3.cell? ⟨d, o + 0, none⟩ = some (.int .u8 3) := hc 0 (by decide)
  have HS3 := Lib.hid hs
  have HR3 := Lib.hid hr
  have HC3 := Lib.hid hc3
  have hz3 : w2.heap.size ≤ w3.heap.size := Nat.le_of_eq hs.2.symm
  clear hs hr ht hc hd hc3
  go_wp2_with fail
  refine (newWriter_any _).mono ?_
  rintro e w4 ⟨rfl, hw, hB⟩
  have HW4 := Lib.hid hw
  have HB4 := Lib.hid hB
  clear hw hB
  go_wp2_with fail
  refine (wnumber_at 513 513 2 (by decide) HW4.out (by decide)).mono ?_
  rintro e w5 ⟨rfl, hw, hB⟩
  have ht : [] ++ putw 513 2 = [1, 2] := by decide
  rw [ht] at hw
  have HW5 := Lib.hid hw
  have HB5 := Lib.hid hB
  have hz5 := hw.lt
  clear hw hB ht
  go_wp2_with fail
  refine (wbytes_any (HW5.out.alloc _) (dat_new w5 5 [9] #[.int .u8 9] rfl) rfl (by decide)).mono ?_
  rintro e w6 ⟨rfl, hw, hB⟩
  have hz4 := HB4.out.size
  have hz5' := HB5.out.size
  have hB6 : Below w3.heap.size w3 w6 := (HB4.out.trans (HB5.out.alloc (by omega) _)).trans hB
  have hr6 : RD true w6 (w.heap.size + 1) g [] 0 := HR3.out.below hB6 (by omega)
  have hc6 : w6.cell? ⟨d, o, none⟩ = some (.int .u8 3) := (hB6.cell (p := ⟨d, o, none⟩) (by show d < _; omega)).trans HC3.out
  have HW6 := Lib.hid hw
  have HR6 := Lib.hid hr6
  have hBB : Below w.heap.size w w6 := ((HB1.out.grown HS2.out.1 (by omega) (by intro k hk; injection hk with hk; omega)).grown HS3.out.1 (by omega) (by intro k hk; injection hk with hk; omega)).trans (hB6.mono (by omega))
  have HBB := Lib.hid hBB
  clear hw hB hB6 hr6 hBB hz4 hz5'
  go_wp2_with fail
  refine (rd_err HR6.out).mono ?_
  rintro e w' ⟨he, rfl⟩
  obtain rfl : e = .returned (.int .i64 0) := he
  go_wp2_with fail
  refine (out_any HW6.out (by decide)).mono ?_
  rintro e w7 ⟨v, rfl, ho, hB⟩
  obtain ⟨A, c, rfl, _, hd⟩ := ho.form
  have hcv : (convert 22 9 (.slice A 3 c)).run Try.prog w7 = .ok (.string ⟨#[1, 2, 9]⟩) w7 := run_str (P := Try.prog) w7 22 Try.underlying22 Try.underlying5 (c := c) hd rfl 9 Try.underlying9
  have HB7 := Lib.hid hB
  clear ho hd hB
  go_wp2_with fail
  go_ret
  exact ⟨rfl, HBB.out.trans (HB7.out.mono (by have := HBB.out.size; omega))⟩
end Go.Proofs.Ytppjilfhpiknbaa
