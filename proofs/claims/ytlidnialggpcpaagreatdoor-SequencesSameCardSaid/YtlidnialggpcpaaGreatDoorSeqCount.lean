
/- The contract of the program's readCount. -/
import Derived.Test.YtlidnialggpcpaaGreatDoorSeqVal
import Derived.Test.YtlidnialggpcpaaGreatDoorPileA
namespace Go.Proofs.YtlidnialggpcpaaGreatDoor
open Go.RowKit

section
variable {own : Bool} {w : World} {lo g : Nat} {xs r : List UInt8} {f y : UInt8}
theorem num_none (m : Nat) (h : cu.RD own w lo g xs 0) (h1 : 1 ≤ m) (h8 : m ≤ 8) (hs : xs.length < m) :
    Calls Tryz.prog 43 #[.pointer (some ⟨g, 0, none⟩), .int .i64 (m : Int)] w fun e w' => e = .returned (.int .u64 0) ∧ cu.RD own w' lo g xs 10 ∧ cu.Stp w w' g := by
  have h := cu.number_yes (m := (m : Int)) h (by omega) (by omega)
  have e : cu.tk xs 0 (m : Int) true = (xs, 10, []) := by unfold cu.tk; rw [if_neg (by omega), if_neg (by simp), if_pos (by omega)]
  rw [e] at h
  exact h
theorem num_one (h : cu.RD own w lo g (f :: r) 0) :
    Calls Tryz.prog 43 #[.pointer (some ⟨g, 0, none⟩), .int .i64 1] w fun e w' => e = .returned (.int .u64 (f.toNat : Int)) ∧ cu.RD own w' lo g r 0 ∧ cu.Stp w w' g := by
  have h := cu.number_yes (m := 1) h (by omega) (by omega)
  have e : cu.tk (f :: r) 0 1 true = (r, 0, [f]) := by unfold cu.tk; rw [if_neg (by omega), if_neg (by simp), if_neg (by simp only [List.length_cons]; omega)]; rfl
  rw [e] at h
  have e2 : le [f] = f.toNat := by simp [le]
  rw [e2] at h
  exact h
theorem num_two (h : cu.RD own w lo g (f :: y :: r) 0) :
    Calls Tryz.prog 43 #[.pointer (some ⟨g, 0, none⟩), .int .i64 2] w fun e w' => e = .returned (.int .u64 ((f.toNat + 256 * y.toNat : Nat) : Int)) ∧ cu.RD own w' lo g r 0 ∧ cu.Stp w w' g := by
  have h := cu.number_yes (m := 2) h (by omega) (by omega)
  have e : cu.tk (f :: y :: r) 0 2 true = (r, 0, [f, y]) := by unfold cu.tk; rw [if_neg (by omega), if_neg (by simp), if_neg (by simp only [List.length_cons]; omega)]; rfl
  rw [e] at h
  have e2 : le [f, y] = f.toNat + 256 * y.toNat := by simp [le]
  rw [e2] at h
  exact h
theorem cStp.trans {w w1 w2 : World} {g : Nat} (h : cu.Stp w w1 g) (h2 : cu.Stp w1 w2 g) : cu.Stp w w2 g := ⟨grown_then h.1 h2.1, h2.2.trans h.2⟩

theorem count_cons (f : UInt8) (r : List UInt8) : countS (f :: r) = if f.toNat < 128 then .ok (f.toNat, r) else if f.toNat < 255 then (match r with
      | [] => .error 10
      | x :: r2 => .ok ((f.toNat - 128) * 256 + x.toNat, r2)) else (match r with
      | x :: y :: r2 => .ok (32512 + (x.toNat + 256 * y.toNat), r2)
      | _ => .error 10) := rfl
/-- What readCount answers. -/
def CntPost (own : Bool) (R : Except Int (Nat × List UInt8)) (w : World) (lo g : Nat) (e : Ending) (w' : World) : Prop :=
  cu.Stp w w' g ∧ match R with
    | .error er => ∃ z : Int, e = .returned (.tuple #[.int .i64 z, .int .i64 er])
    | .ok (n, r) => e = .returned (.tuple #[.int .i64 (n : Int), .int .i64 0]) ∧ cu.RD own w' lo g r 0
set_option maxRecDepth 100000 in
set_option maxHeartbeats 2000000 in
theorem count_any (h : cu.RD own w lo g xs 0) :
    Calls Tryz.prog 17 #[.pointer (some ⟨g, 0, none⟩)] w (CntPost own (countS xs) w lo g) := by
  rcases xs with _ | ⟨f, r⟩
  · have HN := Lib.hid (num_none 1 h (by omega) (by omega) (by simp))
    clear h
    go_enter Tryz.func17, Tryz.ntmps17
    go_wp2_with fail
    refine HN.out.mono ?_
    rintro e w1 ⟨rfl, hr, hs⟩
    have HE := Lib.hid (cu.rd_err hr)
    have HS := Lib.hid hs
    clear hr hs
    go_wp2_with (refine HE.out.mono ?_; rintro e' w' ⟨rfl, rfl⟩)
    go_ret2
    exact ⟨HS.out, _, rfl⟩
  · have hf := f.toNat_lt
    have HN := Lib.hid (num_one h)
    have hw1 : IntKind.i64.wrap (f.toNat : Int) = (f.toNat : Int) := IntWalk.i64_in _ (by omega)
    obtain ⟨R, hR⟩ : ∃ R, R = countS (f :: r) := ⟨_, rfl⟩
    rw [← hR]
    rw [count_cons] at hR
    clear h
    generalize f.toNat = F at *
    by_cases h1 : F < 128
    · rw [if_pos h1] at hR
      have HR := Lib.hid hR
      have hne : ((F : Int) == 255) = false := by simp; omega
      have hge : ¬ (128 : Int) ≤ (F : Int) := by omega
      clear hR
      go_enter Tryz.func17, Tryz.ntmps17
      go_wp2_with fail
      refine HN.out.mono ?_
      rintro e w1 ⟨rfl, hr, hs⟩
      have HE := Lib.hid (cu.rd_err hr)
      have HS := Lib.hid hs
      have HD := Lib.hid hr
      clear hr hs
      go_wp2_with (refine HE.out.mono ?_; rintro e' w' ⟨rfl, rfl⟩)
      go_ret2
      rw [HR.out]
      exact ⟨HS.out, rfl, HD.out⟩
    · rw [if_neg h1] at hR
      by_cases h2 : F < 255
      · rw [if_pos h2] at hR
        have hne : ((F : Int) == 255) = false := by simp; omega
        have hge : (128 : Int) ≤ (F : Int) := by omega
        have HR := Lib.hid hR
        clear hR
        go_enter Tryz.func17, Tryz.ntmps17
        go_wp2_with fail
        refine HN.out.mono ?_
        rintro e w1 ⟨rfl, hr, hs⟩
        have HS := Lib.hid hs
        rcases r with _ | ⟨x, r2⟩
        · have HN2 := Lib.hid (num_none 1 hr (by omega) (by omega) (by simp))
          clear hr hs
          go_wp2_with fail
          refine HN2.out.mono ?_
          rintro e w2 ⟨rfl, hr, hs⟩
          have HE := Lib.hid (cu.rd_err hr)
          have HS2 := Lib.hid (cStp.trans HS.out hs)
          clear hr hs
          go_wp2_with (refine HE.out.mono ?_; rintro e' w' ⟨rfl, rfl⟩)
          go_ret2
          rw [HR.out]
          exact ⟨HS2.out, _, rfl⟩
        · have HN2 := Lib.hid (num_one hr)
          have hx := x.toNat_lt
          have hw2 : IntKind.i64.wrap (x.toNat : Int) = (x.toNat : Int) := IntWalk.i64_in _ (by omega)
          clear hr hs
          obtain ⟨X, hX⟩ : ∃ X, X = x.toNat := ⟨_, rfl⟩
          rw [← hX] at HN2 hx hw2
          have HX : Hid (((F : Int) - 128) * 256 + (X : Int) = (((F - 128) * 256 + x.toNat : Nat) : Int)) := by rw [hX]; show ((F : Int) - 128) * 256 + (x.toNat : Int) = _; omega
          clear hX
          go_wp2_with fail
          refine HN2.out.mono ?_
          rintro e w2 ⟨rfl, hr, hs⟩
          have HE := Lib.hid (cu.rd_err hr)
          have HS2 := Lib.hid (cStp.trans HS.out hs)
          have HD := Lib.hid hr
          clear hr hs
          go_wp2_with (refine HE.out.mono ?_; rintro e' w' ⟨rfl, rfl⟩)
          go_ret2
          rw [HR.out]
          refine ⟨HS2.out, ?_, HD.out⟩
          show Ending.returned (.tuple #[.int .i64 (((F : Int) - 128) * 256 + (X : Int)), .int .i64 0]) = _
          rw [HX.out]
      · rw [if_neg h2] at hR
        obtain rfl : F = 255 := by omega
        have HR := Lib.hid hR
        clear hR
        go_enter Tryz.func17, Tryz.ntmps17
        go_wp2_with fail
        refine HN.out.mono ?_
        rintro e w1 ⟨rfl, hr, hs⟩
        have HS := Lib.hid hs
        have hcase : (r.length < 2 ∧ R = .error 10) ∨ ∃ x y r2, r = x :: y :: r2 ∧ R = .ok (32512 + (UInt8.toNat x + 256 * UInt8.toNat y), r2) := by
          rcases r with _ | ⟨x, _ | ⟨y, r2⟩⟩
          · exact .inl ⟨by simp, HR.out⟩
          · exact .inl ⟨by simp, HR.out⟩
          · exact .inr ⟨x, y, r2, rfl, HR.out⟩
        clear HR
        rcases hcase with ⟨hl, hR⟩ | ⟨x, y, r2, rfl, hR⟩
        · have HN2 := Lib.hid (num_none 2 hr (by omega) (by omega) hl)
          have HR := Lib.hid hR
          clear hr hs hR
          go_wp2_with fail
          refine HN2.out.mono ?_
          rintro e w2 ⟨rfl, hr, hs⟩
          have HE := Lib.hid (cu.rd_err hr)
          have HS2 := Lib.hid (cStp.trans HS.out hs)
          clear hr hs
          go_wp2_with (refine HE.out.mono ?_; rintro e' w' ⟨rfl, rfl⟩)
          go_ret2
          rw [HR.out]
          exact ⟨HS2.out, _, rfl⟩
        · have HN2 := Lib.hid (num_two hr)
          have HR := Lib.hid hR
          have hx := x.toNat_lt
          have hy := y.toNat_lt
          clear hr hs hR
          obtain ⟨Z, hZ⟩ : ∃ Z, Z = x.toNat + 256 * y.toNat := ⟨_, rfl⟩
          rw [← hZ] at HN2 HR
          have hZ2 : Z < 65536 := by omega
          have hw2 : IntKind.i64.wrap (Z : Int) = (Z : Int) := IntWalk.i64_in _ (by omega)
          clear hZ
          go_wp2_with fail
          refine HN2.out.mono ?_
          rintro e w2 ⟨rfl, hr, hs⟩
          have HE := Lib.hid (cu.rd_err hr)
          have HS2 := Lib.hid (cStp.trans HS.out hs)
          have HD := Lib.hid hr
          clear hr hs
          go_wp2_with (refine HE.out.mono ?_; rintro e' w' ⟨rfl, rfl⟩)
          go_ret2
          rw [HR.out]
          exact ⟨HS2.out, by rw [Int.natCast_add]; rfl, HD.out⟩
end
end Go.Proofs.YtlidnialggpcpaaGreatDoor
