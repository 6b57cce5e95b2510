
/- The contracts of the document's answers for the cursor: Take, Number, End, Put. -/
import Derived.Test.YtmominbmalhdoaaDoorCurWrite
namespace Go.Proofs.YtmominbmalhdoaaDoor
open Go.RowKit

theorem str_size (xs : List UInt8) : (str xs).size = xs.length := by simp [str, ByteArray.size]
theorem str_take (xs : List UInt8) (k : Nat) : (str xs).extract 0 k = str (xs.take k) := by
  apply ByteArray.ext
  simp [str, ByteArray.data_extract]
theorem str_from (xs : List UInt8) (k n : Nat) (hn : n = xs.length) : (str xs).extract k n = str (xs.drop k) := by
  subst hn
  apply ByteArray.ext
  simp only [str, ByteArray.data_extract]
  apply Array.ext'
  simp only [List.extract_toArray, List.extract_eq_take_drop]
  exact List.take_of_length_le (by simp)
/-- The reader of the document as a value. -/
def rv (s : ByteArray) (x : Int) : Value := .agg #[.string s, .int .i64 x]

theorem refTake_err (s : ByteArray) (x m : Int) (w : World) (hx : x ≠ 0) :
    Calls Tryd.prog 35 #[.agg #[.string s, .int .i64 x], .int .i64 m] w fun e w' => e = .returned (.tuple #[.agg #[.string s, .int .i64 x], .string ⟨#[]⟩]) ∧ Below w.heap.size w w' := by
  have hb' : (x != 0) = true := by simpa using hx
  clear hx
  go_enter Tryd.func35, Tryd.ntmps35
  go_wp2
  exact bodyPost_ret (v := .tuple #[.agg #[.string s, .int .i64 x], .string ⟨#[]⟩]) (by simp [results, Tryd.results35, go_sem]) rfl ⟨rfl, (((Below.refl _ _).alloc (Nat.le_refl _) _).alloc (by simp) _)⟩

theorem refTake_arg (s : ByteArray) (m : Int) (hm : m < 0) (w : World) :
    Calls Tryd.prog 35 #[.agg #[.string s, .int .i64 0], .int .i64 m] w fun e w' => e = .returned (.tuple #[.agg #[.string s, .int .i64 1], .string ⟨#[]⟩]) ∧ Below w.heap.size w w' := by
  go_enter Tryd.func35, Tryd.ntmps35
  go_wp2
  exact bodyPost_ret (v := .tuple #[.agg #[.string s, .int .i64 1], .string ⟨#[]⟩]) (by simp [results, Tryd.results35, go_sem]) rfl ⟨rfl, by repeat (first | exact Below.refl _ _ | refine Below.alloc ?_ (by simp) _ | refine Below.setCell ?_ (by simp) _)⟩

theorem refTake_short (s : ByteArray) (m : Int) (hm : (s.size : Int) < m) (w : World) :
    Calls Tryd.prog 35 #[.agg #[.string s, .int .i64 0], .int .i64 m] w fun e w' => e = .returned (.tuple #[.agg #[.string s, .int .i64 10], .string ⟨#[]⟩]) ∧ Below w.heap.size w w' := by
  have h0 : 0 ≤ m := by omega
  go_enter Tryd.func35, Tryd.ntmps35
  go_wp2
  exact bodyPost_ret (v := .tuple #[.agg #[.string s, .int .i64 10], .string ⟨#[]⟩]) (by simp [results, Tryd.results35, go_sem]) rfl ⟨rfl, by repeat (first | exact Below.refl _ _ | refine Below.alloc ?_ (by simp) _ | refine Below.setCell ?_ (by simp) _)⟩

theorem refTake_ok (s : ByteArray) (k : Nat) (hk : k ≤ s.size) (w : World) :
    Calls Tryd.prog 35 #[.agg #[.string s, .int .i64 0], .int .i64 (k : Int)] w fun e w' => e = .returned (.tuple #[.agg #[.string (s.extract k s.size), .int .i64 0], .string (s.extract 0 k)]) ∧ Below w.heap.size w w' := by
  go_enter Tryd.func35, Tryd.ntmps35
  go_wp2
  exact bodyPost_ret (v := .tuple #[.agg #[.string (s.extract k s.size), .int .i64 0], .string (s.extract 0 k)]) (by simp [results, Tryd.results35, go_sem]) rfl ⟨rfl, by repeat (first | exact Below.refl _ _ | refine Below.alloc ?_ (by simp) _ | refine Below.setCell ?_ (by simp) _)⟩

theorem refTake_any (xs : List UInt8) (x m : Int) (w : World) :
    Calls Tryd.prog 35 #[.agg #[.string (str xs), .int .i64 x], .int .i64 m] w fun e w' =>
      e = .returned (.tuple #[.agg #[.string (str (tk xs x m (decide (0 ≤ m))).1), .int .i64 (tk xs x m (decide (0 ≤ m))).2.1], .string (str (tk xs x m (decide (0 ≤ m))).2.2)]) ∧ Below w.heap.size w w' := by
  by_cases hx : x = 0
  · subst hx
    by_cases hm : m < 0
    · have ht : tk xs 0 m (decide (0 ≤ m)) = (xs, 1, []) := by
        have : ¬ 0 ≤ m := by omega
        simp [tk, this]
      rw [ht]
      exact refTake_arg _ m hm w
    · obtain ⟨k, rfl⟩ := Int.eq_ofNat_of_zero_le (show 0 ≤ m by omega)
      by_cases hs : xs.length < k
      · have ht : tk xs 0 (k : Int) (decide ((0 : Int) ≤ (k : Int))) = (xs, 10, []) := by simp [tk, hs]
        rw [ht]
        exact refTake_short _ _ (by rw [str_size]; omega) w
      · have ht : tk xs 0 (k : Int) (decide ((0 : Int) ≤ (k : Int))) = (xs.drop k, 0, xs.take k) := by simp [tk, hs]
        rw [ht]
        have h := refTake_ok (str xs) k (by rw [str_size]; omega) w
        rw [str_take, str_from _ _ _ (str_size xs)] at h
        exact h
  · have ht : tk xs x m (decide (0 ≤ m)) = (xs, x, []) := by simp [tk, hx]
    rw [ht]
    exact refTake_err _ x m w hx

/-- Two new blocks, read behind a call that leaves what was there. -/
theorem two_boxes {w w1 : World} {c1 c2 : Array Value} {t1 t2 : TypeId} (hB : Below ((w.alloc (.cells c1 t1)).alloc (.cells c2 t2)).heap.size ((w.alloc (.cells c1 t1)).alloc (.cells c2 t2)) w1) :
    Box w1 w.heap.size t1 c1 ∧ Box w1 (w.heap.size + 1) t2 c2 ∧ w.heap.size + 2 ≤ w1.heap.size ∧ Below w.heap.size w w1 := by
  have hs := hB.size
  simp only [World.size_alloc] at hs
  have h1 := ((Box.new w t1 c1).alloc (.cells c2 t2)).below hB (by simp only [World.size_alloc]; omega)
  have h2 := Box.new (w.alloc (.cells c1 t1)) t2 c2
  have h2' := h2.below hB (by simp only [World.size_alloc]; omega)
  simp only [World.size_alloc] at h2'
  exact ⟨h1, h2', by omega, (((Below.refl _ _).alloc (Nat.le_refl _) _).alloc (by simp) _).trans (hB.mono (by simp only [World.size_alloc]; omega))⟩

set_option maxHeartbeats 400000 in
theorem refNumber_err (xs : List UInt8) (x m : Int) (hx : x ≠ 0) (w : World) :
    Calls Tryd.prog 24 #[.agg #[.string (str xs), .int .i64 x], .int .i64 m] w fun e w' =>
      e = .returned (.tuple #[.agg #[.string (str xs), .int .i64 x], .int .u64 0]) ∧ Below w.heap.size w w' := by
  have hb : (x == 0) = false := by simpa using hx
  generalize str xs = S
  go_enter Tryd.func24, Tryd.ntmps24
  go_wp2_with (go_at_call 35; refine (refTake_err _ _ _ _ hx).mono ?_; rintro e w1 ⟨rfl, hB⟩; obtain ⟨hb1, hb2, hs1, hb3⟩ := two_boxes hB; have hc0 : w1.cell? ⟨w.heap.size, 0, none⟩ = some (.string S) := hb1.cell 0; have hc1 : w1.cell? ⟨w.heap.size, 1, none⟩ = some (.int .i64 x) := hb1.cell 1; have hd0 : w1.cell? ⟨w.heap.size + 1, 0, none⟩ = some (.string ⟨#[]⟩) := hb2.cell 0; have hd1 : w1.cell? ⟨w.heap.size + 1, 1, none⟩ = some (.int .i64 0) := hb2.cell 1; have hf0 := hb1.free 0; have hf1 := hb1.free 1; have hg0 := hb2.free 0; have hg1 := hb2.free 1; have HB := Lib.hid hb3; clear hB hb1 hb2 hb3)
  go_loop [7, 8, 9] (fun x m i => x = .int .u64 0 ∧ m = .int .u64 1 ∧ i = .int .i64 0) (fun _ _ _ => 0)
  case atStart => exact ⟨rfl, rfl, rfl⟩
  case round =>
    obtain ⟨rfl, rfl, rfl⟩ := hrel
    go_wp2
    exact bodyPost_ret (v := .tuple #[.agg #[.string S, .int .i64 x], .int .u64 0]) (by simp [results, Tryd.results24, go_sem, *]) rfl ⟨rfl, by repeat (first | exact HB.out | refine Below.setCell ?_ (by simp) _)⟩

set_option maxHeartbeats 400000 in
theorem refNumber_low (xs : List UInt8) (m : Int) (hm : m < 1) (w : World) :
    Calls Tryd.prog 24 #[.agg #[.string (str xs), .int .i64 0], .int .i64 m] w fun e w' =>
      e = .returned (.tuple #[.agg #[.string (str xs), .int .i64 1], .int .u64 0]) ∧ Below w.heap.size w w' := by
  generalize str xs = S
  go_enter Tryd.func24, Tryd.ntmps24
  go_wp2_with (go_at_call 35; refine (refTake_err _ _ _ _ (by decide)).mono ?_; rintro e w1 ⟨rfl, hB⟩; obtain ⟨hb1, hb2, hs1, hb3⟩ := two_boxes hB; have hc0 : w1.cell? ⟨w.heap.size, 0, none⟩ = some (.string S) := hb1.cell 0; have hc1 : w1.cell? ⟨w.heap.size, 1, none⟩ = some (.int .i64 1) := hb1.cell 1; have hd0 : w1.cell? ⟨w.heap.size + 1, 0, none⟩ = some (.string ⟨#[]⟩) := hb2.cell 0; have hd1 : w1.cell? ⟨w.heap.size + 1, 1, none⟩ = some (.int .i64 0) := hb2.cell 1; have hf0 := hb1.free 0; have hf1 := hb1.free 1; have hg0 := hb2.free 0; have hg1 := hb2.free 1; have HB := Lib.hid hb3; clear hB hb1 hb2 hb3)
  go_loop [7, 8, 9] (fun x m i => x = .int .u64 0 ∧ m = .int .u64 1 ∧ i = .int .i64 0) (fun _ _ _ => 0)
  case atStart => exact ⟨rfl, rfl, rfl⟩
  case round =>
    obtain ⟨rfl, rfl, rfl⟩ := hrel
    go_wp2
    exact bodyPost_ret (v := .tuple #[.agg #[.string S, .int .i64 1], .int .u64 0]) (by simp [results, Tryd.results24, go_sem, *]) rfl ⟨rfl, by repeat (first | exact HB.out | refine Below.setCell ?_ (by simp) _)⟩

set_option maxHeartbeats 400000 in
theorem refNumber_high (xs : List UInt8) (m : Int) (hm : 8 < m) (w : World) :
    Calls Tryd.prog 24 #[.agg #[.string (str xs), .int .i64 0], .int .i64 m] w fun e w' =>
      e = .returned (.tuple #[.agg #[.string (str xs), .int .i64 1], .int .u64 0]) ∧ Below w.heap.size w w' := by
  have h1 : 1 ≤ m := by omega
  have hd : decide (8 < m) = true := decide_eq_true hm
  generalize str xs = S
  go_enter Tryd.func24, Tryd.ntmps24
  go_wp2_with (go_at_call 35; refine (refTake_err _ _ _ _ (by decide)).mono ?_; rintro e w1 ⟨rfl, hB⟩; obtain ⟨hb1, hb2, hs1, hb3⟩ := two_boxes hB; have hc0 : w1.cell? ⟨w.heap.size, 0, none⟩ = some (.string S) := hb1.cell 0; have hc1 : w1.cell? ⟨w.heap.size, 1, none⟩ = some (.int .i64 1) := hb1.cell 1; have hd0 : w1.cell? ⟨w.heap.size + 1, 0, none⟩ = some (.string ⟨#[]⟩) := hb2.cell 0; have hd1 : w1.cell? ⟨w.heap.size + 1, 1, none⟩ = some (.int .i64 0) := hb2.cell 1; have hf0 := hb1.free 0; have hf1 := hb1.free 1; have hg0 := hb2.free 0; have hg1 := hb2.free 1; have HB := Lib.hid hb3; clear hB hb1 hb2 hb3)
  go_loop [7, 8, 9] (fun x m i => x = .int .u64 0 ∧ m = .int .u64 1 ∧ i = .int .i64 0) (fun _ _ _ => 0)
  case atStart => exact ⟨rfl, rfl, rfl⟩
  case round =>
    obtain ⟨rfl, rfl, rfl⟩ := hrel
    go_wp2
    exact bodyPost_ret (v := .tuple #[.agg #[.string S, .int .i64 1], .int .u64 0]) (by simp [results, Tryd.results24, go_sem, *]) rfl ⟨rfl, by repeat (first | exact HB.out | refine Below.setCell ?_ (by simp) _)⟩
end Go.Proofs.YtmominbmalhdoaaDoor
