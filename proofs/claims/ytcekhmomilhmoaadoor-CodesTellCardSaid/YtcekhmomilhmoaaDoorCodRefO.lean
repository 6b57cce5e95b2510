
/- The contracts of the document's Code and Of. -/
import Derived.Test.YtcekhmomilhmoaaDoorCodRef
namespace Go.Proofs.YtcekhmomilhmoaaDoor
open Go.RowKit

/-- A row of a kind that there is: its cells. -/
theorem made_cells {f : Nat → Value} {g : Nat → Nat} {n : Nat} {w w' : World} {e : Ending} {xs : List Nat} (h : Made f w w' e xs) (hx : xs = (List.range (lastN n + 1)).map g) :
    ∃ d o c, e = .returned (.slice (some ⟨d, o, none⟩) (lastN n + 1) c) ∧ w.heap.size ≤ d ∧ d < w'.heap.size ∧ (∀ j, j ≤ lastN n → w'.cell? ⟨d, o + j, none⟩ = some (f (g j))) ∧ Below w.heap.size w w' := by
  obtain ⟨A, c, rfl, hd, hB⟩ := h
  have hl : xs.length = lastN n + 1 := by rw [hx]; simp
  obtain ⟨d, o, rfl, h1, h2, hc⟩ := hd (by omega)
  refine ⟨d, o, c, by rw [hl], h1, h2, fun j hj => ?_, hB⟩
  subst hx
  rw [hc j (by omega)]
  simp

theorem begins_at (n : Nat) (w : World) (hn : n < 3) :
    Calls Tryd.prog 11 #[.int .i64 (n : Int)] w fun e w' => ∃ d o c, e = .returned (.slice (some ⟨d, o, none⟩) (lastN n + 1) c) ∧ w.heap.size ≤ d ∧ d < w'.heap.size ∧ (∀ j, j ≤ lastN n → w'.cell? ⟨d, o + j, none⟩ = some (.int .u32 (beginN n j : Int))) ∧ Below w.heap.size w w' :=
  (begins_any (n : Int) w).mono fun _ _ h => made_cells h (by unfold begs; rw [if_neg (by omega)]; rfl)
theorem adds_at (n : Nat) (w : World) (hn : n < 3) :
    Calls Tryd.prog 16 #[.int .i64 (n : Int)] w fun e w' => ∃ d o c, e = .returned (.slice (some ⟨d, o, none⟩) (lastN n + 1) c) ∧ w.heap.size ≤ d ∧ d < w'.heap.size ∧ (∀ j, j ≤ lastN n → w'.cell? ⟨d, o + j, none⟩ = some (.int .i64 (addN n j : Int))) ∧ Below w.heap.size w w' :=
  (adds_any (n : Int) w).mono fun _ _ h => made_cells h (by unfold adds; rw [if_neg (by omega)]; rfl)
theorem begins_not (k : Int) (w : World) (hk : k < 0 ∨ 2 < k) :
    Calls Tryd.prog 11 #[.int .i64 k] w fun e w' => ∃ A c, e = .returned (.slice A 0 c) ∧ Below w.heap.size w w' :=
  (begins_any k w).mono fun _ _ ⟨A, c, he, _, hB⟩ => by
    have hz : begs k = [] := by unfold begs; rw [if_pos hk]
    rw [hz] at he
    exact ⟨A, c, he, hB⟩

set_option maxRecDepth 100000 in
set_option maxHeartbeats 1000000 in
theorem refCode_any (k c : Int) (w : World) :
    Calls Tryd.prog 9 #[.int .i64 k, .int .i64 c] w fun e w' => e = .returned (ansC (codeN k c)) ∧ Below w.heap.size w w' := by
  by_cases hb : 0 ≤ k ∧ k ≤ 2
  · obtain ⟨n, rfl⟩ := Int.eq_ofNat_of_zero_le hb.1
    have hn : n < 3 := by omega
    have hz : codeN (n : Int) c = if c < 0 ∨ (lastN n : Int) < c then (0, 0, 17) else (beginN n c.toNat, addN n c.toNat, 0) := by unfold codeN; rw [if_neg (by omega)]; rfl
    rw [hz]
    have hl := last_le n hn
    have HB := Lib.hid (fun W => begins_at n W hn)
    have HA := Lib.hid (fun W => adds_at n W hn)
    clear hz hb
    by_cases hc : 0 ≤ c ∧ c ≤ (lastN n : Int)
    · rw [if_neg (by omega)]
      obtain ⟨m, rfl⟩ := Int.eq_ofNat_of_zero_le hc.1
      have hm : m ≤ lastN n := by omega
      rw [show ((m : Int)).toNat = m from rfl]
      obtain ⟨b, hbb⟩ : ∃ b, b = beginN n m := ⟨_, rfl⟩
      obtain ⟨a, haa⟩ : ∃ a, a = addN n m := ⟨_, rfl⟩
      obtain ⟨l, hll⟩ : ∃ l, l = lastN n := ⟨_, rfl⟩
      rw [← hbb, ← haa]
      rw [← hll] at hm hl hc HB HA
      have HBB := Lib.hid hbb
      have HAA := Lib.hid haa
      clear hbb haa hc hll
      have hml : (m : Int) < (l : Int) + 1 := by omega
      have hd1 : decide ((m : Int) ≥ (l : Int) + 1) = false := by simp; omega
      go_enter Tryd.func9, Tryd.ntmps9
      go_upto_region 6 with (go_at_call 11; refine (HB.out _).mono ?_; rintro e' w1 ⟨d1, o1, c1, rfl, hg1, hg2, hc1, hB1⟩; have q1 := (hc1 m hm).trans (by rw [← HBB.out]); have HB1 := Lib.hid hB1; clear hc1 hB1)
      go_region_with ((go_at_call 16; refine (HA.out _).mono ?_; rintro e' w2 ⟨d2, o2, c2, rfl, hg3, hg4, hc2, hB2⟩; have s1 : w2.cell? ⟨d1, o1 + m, none⟩ = some (.int .u32 (b : Int)) := (hB2.cell (p := ⟨d1, o1 + m, none⟩) (by exact hg2)).trans q1; have q2 : w2.cell? ⟨d2, o2 + m, none⟩ = some (.int .i64 (a : Int)) := (hc2 m hm).trans (by rw [← HAA.out]); have HB2 : Hid (Below w1.heap.size w1 w2) := (⟨hB2.os, hB2.tape, hB2.output, hB2.size, hB2.block⟩ : Below w1.heap.size w1 w2); clear hc2 hB2))
      all_goals (go_wp2_with fail; go_ret3; exact ⟨rfl, HB1.out.trans (HB2.out.mono HB1.out.size)⟩)
    · rw [if_pos (by omega)]
      obtain ⟨l, hll⟩ : ∃ l, l = lastN n := ⟨_, rfl⟩
      rw [← hll] at hl hc HB HA
      clear hll
      rcases Int.lt_or_le c 0 with h0 | h0
      · clear hc
        go_enter Tryd.func9, Tryd.ntmps9
        go_wp2_with (go_at_call 11; refine (HB.out _).mono ?_; rintro e' w1 ⟨d1, o1, c1, rfl, hg1, hg2, hc1, hB1⟩; have HB1 := Lib.hid hB1; clear hc1 hB1)
        go_ret3
        exact ⟨rfl, HB1.out⟩
      · obtain ⟨m, rfl⟩ := Int.eq_ofNat_of_zero_le h0
        have hml : ¬ (m : Int) < (l : Int) + 1 := by omega
        have hd1 : decide ((m : Int) ≥ (l : Int) + 1) = true := by simp; omega
        clear hc h0
        go_enter Tryd.func9, Tryd.ntmps9
        go_wp2_with (go_at_call 11; refine (HB.out _).mono ?_; rintro e' w1 ⟨d1, o1, c1, rfl, hg1, hg2, hc1, hB1⟩; have HB1 := Lib.hid hB1; clear hc1 hB1)
        go_ret3
        exact ⟨rfl, HB1.out⟩
  · have hz : codeN k c = (0, 0, 1) := by unfold codeN; rw [if_pos (by omega)]
    rw [hz]
    have HB := Lib.hid (fun W => begins_not k W (by omega))
    clear hz hb
    go_enter Tryd.func9, Tryd.ntmps9
    go_wp2_with (go_at_call 11; refine (HB.out _).mono ?_; rintro e' w1 ⟨A1, c1, rfl, hB1⟩; have HB1 := Lib.hid hB1; clear hB1)
    go_ret3
    exact ⟨rfl, HB1.out⟩

set_option maxRecDepth 100000 in
set_option maxHeartbeats 1000000 in
theorem refOf_any (k : Int) (v : Nat) (w : World) (hv : v < 4294967296) :
    Calls Tryd.prog 13 #[.int .i64 k, .int .u32 (v : Int)] w fun e w' => e = .returned (ansO (ofN k v)) ∧ Below w.heap.size w w' := by
  by_cases hb : 0 ≤ k ∧ k ≤ 2
  · obtain ⟨n, rfl⟩ := Int.eq_ofNat_of_zero_le hb.1
    have hn : n < 3 := by omega
    have hl := last_le n hn
    have HB := Lib.hid (fun W => begins_at n W hn)
    have HA := Lib.hid (fun W => adds_at n W hn)
    have hz : ofN (n : Int) v = scan n v (lastN n + 1) 0 := by unfold ofN; rw [if_neg (by omega)]; rfl
    rw [hz]
    clear hz hb
    obtain ⟨l, hll⟩ : ∃ l, l = lastN n := ⟨_, rfl⟩
    have HL := Lib.hid hll
    obtain ⟨Z, hZ⟩ : ∃ Z, Z = scan n v (l + 1) 0 := ⟨_, rfl⟩
    have HZ := Lib.hid hZ
    rw [← hll, ← hZ]
    rw [← hll] at hl HB HA
    clear hZ hll
    go_enter Tryd.func13, Tryd.ntmps13
    go_wp2_with (first
      | (go_at_call 11; refine (HB.out _).mono ?_; rintro e' w1 ⟨d1, o1, c1, rfl, hg1, hg2, hc1, hB1⟩; have HC1 := Lib.hid hc1; have HB1 := Lib.hid hB1; clear hc1 hB1)
      | (go_at_call 16; refine (HA.out _).mono ?_; rintro e' w2 ⟨d2, o2, c2, rfl, hg3, hg4, hc2, hB2⟩; have HC2 := Lib.hid hc2; have HB2 := Lib.hid hB2; clear hc2 hB2))
    go_loopg [9] (l + 1) (fun gh i wx => ∃ j : Nat, j + gh = l + 1 ∧ i = .int .i64 (j : Int) ∧ Z = scan n v gh j ∧ Below w2.heap.size w2 wx)
    case atStart => exact ⟨0, by omega, rfl, HZ.out, Below.refl _ _⟩
    case round =>
      obtain ⟨j, hj, rfl, hzz, hBx⟩ := hrel
      have HJ := Lib.hid hj
      have HZZ := Lib.hid hzz
      have HBX := Lib.hid hBx
      have hs := hBx.size
      have hjl : j ≤ l + 1 := by omega
      clear hj hzz hBx
      by_cases hlt : j < l + 1
      · obtain ⟨g, rfl⟩ : ∃ g, gk = g + 1 := ⟨gk - 1, by have := HJ.out; omega⟩
        have hjl' : j ≤ l := by omega
        have hjN : j ≤ lastN n := by have := HL.out; omega
        have ha := add_le n hn j (by have := last_le n hn; omega)
        have q1 : wr.cell? ⟨d1, o1 + j, none⟩ = some (.int .u32 (beginN n j : Int)) := (HBX.out.cell (p := ⟨d1, o1 + j, none⟩) (by have := HB2.out.size; exact Nat.lt_of_lt_of_le hg2 this)).trans ((HB2.out.cell (p := ⟨d1, o1 + j, none⟩) (by exact hg2)).trans (HC1.out j hjl'))
        have q2 : wr.cell? ⟨d2, o2 + j, none⟩ = some (.int .i64 (addN n j : Int)) := (HBX.out.cell (p := ⟨d2, o2 + j, none⟩) (by exact hg4)).trans (HC2.out j hjl')
        obtain ⟨b, hbb⟩ : ∃ b, b = beginN n j := ⟨_, rfl⟩
        obtain ⟨a, haa⟩ : ∃ a, a = addN n j := ⟨_, rfl⟩
        have HQ : Hid (Z = if b ≤ v ∧ v - b < 2 ^ a then (j, v - b, 0) else scan n v g (j + 1)) := by rw [hbb, haa]; exact HZZ.out
        rw [← hbb] at q1
        rw [← haa] at q2 ha
        clear hbb haa HZZ
        have hp := pow_u32 a ha
        obtain ⟨s, hs2⟩ : ∃ s, s = 2 ^ a := ⟨_, rfl⟩
        rw [← hs2] at hp HQ
        clear hs2
        have hjlt : (j : Int) < (l : Int) + 1 := by omega
        by_cases hge : b ≤ v
        · have hsub : IntKind.u32.wrap ((v : Int) - (b : Int)) = ((v - b : Nat) : Int) := by rw [IntKind.wrap_u32']; omega
          have hd1 : decide ((v : Int) ≥ (b : Int)) = true := by simp; omega
          by_cases hin : v - b < s
          · have HQ2 : Hid (Z = (j, v - b, 0)) := by
              show Z = (j, v - b, 0)
              rw [HQ.out, if_pos ⟨hge, hin⟩]
            clear HQ
            go_upto_region 8 with fail
            go_quiet (fail)
            go_wp2_with fail
            go_quiet (fail)
            go_wp2_with fail
            go_ret3
            exact ⟨by rw [HQ2.out]; rfl, below_drawn (below_drawn (HB1.out.trans ((HB2.out.trans (HBX.out.mono HB2.out.size)).mono HB1.out.size)) _) _⟩
          · have HQ2 : Hid (Z = scan n v g (j + 1)) := by
              show Z = scan n v g (j + 1)
              rw [HQ.out, if_neg (by omega)]
            clear HQ
            go_upto_region 8 with fail
            go_quiet (fail)
            go_wp2_with fail
            go_roundg g
            case measure => omega
            case rel => exact ⟨j + 1, by have := HJ.out; omega, by go_num, HQ2.out, below_drawn HBX.out _⟩
        · have HQ2 : Hid (Z = scan n v g (j + 1)) := by
            show Z = scan n v g (j + 1)
            rw [HQ.out, if_neg (by omega)]
          have hd1 : decide ((v : Int) ≥ (b : Int)) = false := by simp; omega
          clear HQ
          go_upto_region 8 with fail
          go_quiet (fail)
          go_wp2_with fail
          go_roundg g
          case measure => omega
          case rel => exact ⟨j + 1, by have := HJ.out; omega, by go_num, HQ2.out, below_drawn HBX.out _⟩
      · have hg : gk = 0 := by have := HJ.out; omega
        have HQ2 : Hid (Z = (0, 0, 17)) := by
          have hz := HZZ.out
          rw [hg] at hz
          exact hz
        clear HZZ
        have hjlt : ¬ (j : Int) < (l : Int) + 1 := by omega
        go_wp2_with fail
        go_ret3
        exact ⟨by rw [HQ2.out]; rfl, HB1.out.trans ((HB2.out.trans (HBX.out.mono HB2.out.size)).mono HB1.out.size)⟩
  · have hz : ofN k v = (0, 0, 1) := by unfold ofN; rw [if_pos (by omega)]
    rw [hz]
    have HB := Lib.hid (fun W => begins_not k W (by omega))
    clear hz hb
    go_enter Tryd.func13, Tryd.ntmps13
    go_wp2_with (go_at_call 11; refine (HB.out _).mono ?_; rintro e' w1 ⟨A1, c1, rfl, hB1⟩; have HB1 := Lib.hid hB1; clear hB1)
    go_ret3
    exact ⟨rfl, HB1.out⟩
end Go.Proofs.YtcekhmomilhmoaaDoor
