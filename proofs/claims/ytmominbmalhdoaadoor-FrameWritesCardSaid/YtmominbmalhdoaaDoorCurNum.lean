
/- The contracts of the Reader's Bytes and Number, of any reader and of nil. -/
import Derived.Test.YtmominbmalhdoaaDoorCurTake
namespace Go.Proofs.YtmominbmalhdoaaDoor
open Go.RowKit

theorem tk_len (xs : List UInt8) (x m : Int) (may : Bool) (h : may = true → m ≤ 8) : (tk xs x m may).2.2.length ≤ 8 := by
  unfold tk
  repeat' split
  all_goals simp_all

set_option maxHeartbeats 400000 in
theorem number_yes {own : Bool} {w : World} {lo g : Nat} {xs : List UInt8} {x m : Int} (h : RD own w lo g xs x) (h1 : 1 ≤ m) (h8 : m ≤ 8) :
    Calls Tryd.prog 18 #[.pointer (some ⟨g, 0, none⟩), .int .i64 m] w fun e w' =>
      e = .returned (.int .u64 (le (tk xs x m true).2.2 : Nat)) ∧ RD own w' lo g (tk xs x m true).1 (tk xs x m true).2.1 ∧ Stp w w' g := by
  have hT := Lib.hid (take_any h (m := m) (may := true) (by omega))
  have hl := tk_len xs x m true (by omega)
  clear h
  generalize tk xs x m true = t at *
  obtain ⟨ys, e', out⟩ := t
  dsimp only at *
  go_enter Tryd.func18, Tryd.ntmps18
  go_wp2_with (first | (go_at_call 34; refine (isWidth_yes _ _ h1 h8).mono ?_; rintro e w' ⟨rfl, rfl⟩) | (go_at_call 33; refine hT.out.mono ?_; rintro e w1 ⟨v, rfl, ⟨A, c, rfl, _, hd⟩, hq⟩))
  have Hd := Lib.hid hd
  have Hq := Lib.hid hq
  clear hd hq hT
  go_loop [5, 14] (fun x i => ∃ k : Nat, k ≤ out.length ∧ i = .int .i64 k ∧ x = .int .u64 (le (out.take k) : Nat)) (fun _ i => out.length - (intOf i).toNat)
  case atStart => exact ⟨0, Nat.zero_le _, rfl, rfl⟩
  case round =>
    obtain ⟨k, hk, rfl, rfl⟩ := hrel
    by_cases hlt : k < out.length
    · obtain ⟨d, o, rfl, _, _, hc, _⟩ := Hd.out (by omega)
      have hck := hc k hlt
      have hb := (out.getD k 0).toNat_lt
      have hX := le_lt (out.take k)
      unfold cel at hck
      clear hc Hd
      go_wp2
      go_round
      case rel =>
        have hlen : (out.take k).length = k := by simp; omega
        refine ⟨k + 1, by omega, by go_num, ?_⟩
        rw [hlen] at hX
        rw [List.take_succ_eq_append_getElem hlt, le_snoc, hlen, or_step _ _ k hX (out[k].toNat_lt) (by omega)]
      case measure => simp [intOf]; omega
    · go_wp2
      go_ret
      exact ⟨by rw [List.take_of_length_le (by omega)]; rfl, Hq.out⟩

theorem number_no {own : Bool} {w : World} {lo g : Nat} {xs : List UInt8} {x m : Int} (h : RD own w lo g xs x) (hm : m < 1 ∨ 8 < m) :
    Calls Tryd.prog 18 #[.pointer (some ⟨g, 0, none⟩), .int .i64 m] w fun e w' =>
      e = .returned (.int .u64 (le (tk xs x m false).2.2 : Nat)) ∧ RD own w' lo g (tk xs x m false).1 (tk xs x m false).2.1 ∧ Stp w w' g := by
  have hT := Lib.hid (take_any h (m := m) (may := false) (by simp))
  have hl : (tk xs x m false).2.2 = [] := by unfold tk; split <;> simp
  clear h
  generalize tk xs x m false = t at *
  obtain ⟨ys, e', out⟩ := t
  dsimp only at *
  subst hl
  go_enter Tryd.func18, Tryd.ntmps18
  go_wp2_with (first | (go_at_call 34; refine (isWidth_no _ _ hm).mono ?_; rintro e w' ⟨rfl, rfl⟩) | (go_at_call 33; refine hT.out.mono ?_; rintro e w1 ⟨v, rfl, ⟨A, c, rfl, _, _⟩, hq⟩))
  have Hq := Lib.hid hq
  clear hq hT
  go_loop [5, 14] (fun x i => i = .int .i64 0 ∧ x = .int .u64 0) (fun _ i => 0)
  case atStart => exact ⟨rfl, rfl⟩
  case round =>
    obtain ⟨rfl, rfl⟩ := hrel
    go_wp2
    go_ret
    exact ⟨rfl, Hq.out⟩

theorem number_nil (m : Int) (w : World) :
    Calls Tryd.prog 18 #[.pointer none, .int .i64 m] w fun e w' => e = .returned (.int .u64 0) ∧ w = w' := by
  have hW : ∃ b, ∀ W, Calls Tryd.prog 34 #[.int .i64 m] W fun e w' => e = .returned (.bool b) ∧ W = w' := by
    by_cases h : 1 ≤ m ∧ m ≤ 8
    · exact ⟨true, fun W => isWidth_yes _ _ h.1 h.2⟩
    · exact ⟨false, fun W => isWidth_no _ _ (by omega)⟩
  obtain ⟨b, hb⟩ := hW
  have HB := Lib.hid hb
  clear hb
  go_enter Tryd.func18, Tryd.ntmps18
  go_wp2_with (first | (go_at_call 34; refine (HB.out _).mono ?_; rintro e w' ⟨rfl, rfl⟩) | (go_at_call 33; refine (take_nil _ _ _).mono ?_; rintro e w1 ⟨rfl, rfl⟩))
  go_loop [5, 14] (fun x i => i = .int .i64 0 ∧ x = .int .u64 0) (fun _ i => 0)
  case atStart => exact ⟨rfl, rfl⟩
  case round =>
    obtain ⟨rfl, rfl⟩ := hrel
    go_wp2
    go_ret
    exact ⟨rfl, rfl⟩

/-- Whether a number may have m bytes. -/
def wid (m : Int) : Bool := decide (1 ≤ m ∧ m ≤ 8)

theorem number_any {own : Bool} {w : World} {lo g : Nat} {xs : List UInt8} {x m : Int} (h : RD own w lo g xs x) :
    Calls Tryd.prog 18 #[.pointer (some ⟨g, 0, none⟩), .int .i64 m] w fun e w' =>
      e = .returned (.int .u64 (le (tk xs x m (wid m)).2.2 : Nat)) ∧ RD own w' lo g (tk xs x m (wid m)).1 (tk xs x m (wid m)).2.1 ∧ Stp w w' g := by
  by_cases hm : 1 ≤ m ∧ m ≤ 8
  · have hw : wid m = true := by simp [wid, hm]
    rw [hw]
    exact number_yes h hm.1 hm.2
  · have hw : wid m = false := by simp only [wid, decide_eq_false_iff_not]; exact hm
    rw [hw]
    exact number_no h (by omega)
end Go.Proofs.YtmominbmalhdoaaDoor
