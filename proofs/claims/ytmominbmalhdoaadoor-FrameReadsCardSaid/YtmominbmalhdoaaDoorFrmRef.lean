
/- The contracts of the document's window and Number; of its Read: of any bytes it tells what hdr says. -/
import Derived.Test.YtmominbmalhdoaaDoorFrmRead
import Derived.Test.YtmominbmalhdoaaDoorCurRefNum
namespace Go.Proofs.YtmominbmalhdoaaDoor
open Go.RowKit

/-- The document's next number, told by rdn. -/
theorem refNum_any (s : List UInt8 × Int) (m : Nat) (h1 : 1 ≤ m) (hm : m ≤ 8) (w : World) :
    Calls Tryd.prog 24 #[.agg #[.string (str s.1), .int .i64 s.2], .int .i64 (m : Int)] w fun e w' =>
      e = .returned (.tuple #[.agg #[.string (str (rdn s m).1.1), .int .i64 (rdn s m).1.2], .int .u64 ((rdn s m).2 : Int)]) ∧ Below w.heap.size w w' := by
  have hr : rdn s m = (((tk s.1 s.2 m true).1, (tk s.1 s.2 m true).2.1), le (tk s.1 s.2 m true).2.2) := by unfold rdn; rw [if_neg (by omega)]
  have h := refNumber_any s.1 s.2 (m : Int) w
  rw [show wid (m : Int) = true by unfold wid; simp; omega] at h
  rw [hr]
  exact h

theorem pow_lt41 (i : Nat) (h : i < 32) : 2 ^ (10 + i) ≤ 2199023255552 := Nat.le_trans (Nat.pow_le_pow_right (by omega) (show 10 + i ≤ 41 by omega)) (by decide)

set_option maxRecDepth 100000 in
theorem refWindow_any (x : Nat) (hx : x < 256) (w : World) :
    Calls Tryd.prog 25 #[.int .u64 (x : Int)] w fun e w' => e = .returned (.int .u64 (winN x : Int)) ∧ w = w' := by
  obtain ⟨q, hq⟩ : ∃ q, q = x / 8 := ⟨_, rfl⟩
  obtain ⟨r, hr⟩ : ∃ r, r = x % 8 := ⟨_, rfl⟩
  obtain ⟨P, hP1, hP2, hP3, hP4⟩ := win_parts q r (by omega) (by omega)
  have hqi : (x : Int) / 8 = (q : Int) := by omega
  have hri : (x : Int) % 8 = (r : Int) := by omega
  obtain ⟨V, hV⟩ : ∃ V, V = winN x := ⟨_, rfl⟩
  have HV : Hid (V = P + P / 8 * r) := by unfold Hid; rw [hV]; unfold winN; rw [← hq, ← hr, hP3]
  rw [← hV]
  have hq32 : q < 32 := by omega
  have hr8 : r < 8 := by omega
  have HP3 := Lib.hid hP3
  clear hV hq hr hP3 hP4
  obtain ⟨Y, hY⟩ : ∃ Y, Y = P / 8 * r := ⟨_, rfl⟩
  have hY2 : (P : Int) / 8 * (r : Int) = (Y : Int) := by rw [hY, Int.natCast_mul, Int.natCast_ediv]; rfl
  rw [← hY] at HV hP2
  clear hY
  go_enter Tryd.func25, Tryd.ntmps25
  go_wp2_with fail
  go_loopg [3, 4] q (fun gh y i wx => ∃ j Z : Nat, w = wx ∧ j + gh = q ∧ i = .int .u64 (j : Int) ∧ y = .int .u64 (Z : Int) ∧ Hid (Z = 2 ^ (10 + j)))
  case atStart => exact ⟨0, 1024, rfl, by omega, rfl, rfl, rfl⟩
  case round =>
    obtain ⟨j, Z, rfl, hj, rfl, rfl, HZ⟩ := hrel
    have HJ := Lib.hid hj
    have hjq : j ≤ q := by omega
    clear hj
    by_cases hlt : j < q
    · have hZl : Z ≤ 1099511627776 := by
        have h := pow_lt41 (j + 1) (by omega)
        have h2 : 2 ^ (10 + (j + 1)) = 2 * 2 ^ (10 + j) := by rw [show 10 + (j + 1) = (10 + j) + 1 by omega, Nat.pow_succ]; omega
        rw [h2, ← HZ.out] at h
        omega
      go_wp2_with fail
      go_roundg (q - (j + 1))
      case measure => have := HJ.out; omega
      case rel => exact ⟨j + 1, 2 * Z, rfl, by omega, by go_num, by go_num, by unfold Hid; rw [HZ.out, show 10 + (j + 1) = (10 + j) + 1 by omega, Nat.pow_succ]; omega⟩
    · obtain rfl : j = q := by omega
      obtain rfl : Z = P := by rw [HZ.out, HP3.out]
      have hlt2 : ¬ (j : Int) < (j : Int) := by omega
      clear HZ HP3
      go_wp2_with fail
      go_ret
      exact ⟨by rw [HV.out]; rfl, rfl⟩
end Go.Proofs.YtmominbmalhdoaaDoor
