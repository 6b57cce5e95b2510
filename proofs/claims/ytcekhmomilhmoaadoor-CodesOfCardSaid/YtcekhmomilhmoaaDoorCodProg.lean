
/- The contracts of the program's isKind, size, begin, Last, Code and Of. -/
import Derived.Test.YtcekhmomilhmoaaDoorCodPlain
import Derived.Test.YtcekhmomilhmoaaDoorRows
import Derived.WalkKit
import Derived.WalkSpells
import Derived.WalkLawsBesides
import Derived.Laws.BitsAllLaws
import Derived.Lib.Hide
import Derived.Outline
import Derived.BigQuiet
import Derived.Deep.LoopGhost
import Derived.Deep.CutRange
import Derived.Deep.DeepCutAuto
import Derived.Deep.RegionHeld3
import Derived.Deep.RegionWith
namespace Go.Proofs.YtcekhmomilhmoaaDoor
open Go.RowKit

theorem quiet_one {P : Program} {f : FuncId} {args : Array Value} {w : World} {n : Nat} {v : Value}
    (h : Calls P f args (w.drewN n) fun e w' => e = .returned v ∧ w.drewN n = w') : Calls P f args (w.drewN n) fun e w'' => e = .returned v ∧ ∃ m, w'' = w.drewN m :=
  h.mono fun _ _ ⟨he, hm⟩ => ⟨he, n, hm.symm⟩
theorem below_drawn {B : Nat} {a w : World} (h : Below B a w) (n : Nat) : Below B a (w.drewN n) := ⟨h.os, h.tape, h.output, h.size, h.block⟩

theorem isKind_any (k : Int) (w : World) :
    Calls Tryd.prog 14 #[.int .i64 k] w fun e w' => e = .returned (.bool (decide (0 ≤ k ∧ k ≤ 2))) ∧ w = w' := by
  by_cases h0 : 0 ≤ k
  · by_cases h2 : k ≤ 2
    · rw [show decide (0 ≤ k ∧ k ≤ 2) = true by simp [h0, h2]]
      go_enter Tryd.func14, Tryd.ntmps14
      go_wp2
      go_ret
      exact ⟨rfl, rfl⟩
    · rw [show decide (0 ≤ k ∧ k ≤ 2) = false by simp [h2]]
      have hd : decide (k ≤ 2) = false := by simp; omega
      go_enter Tryd.func14, Tryd.ntmps14
      go_wp2
      go_ret
      exact ⟨rfl, rfl⟩
  · rw [show decide (0 ≤ k ∧ k ≤ 2) = false by simp [h0]]
    go_enter Tryd.func14, Tryd.ntmps14
    go_wp2
    go_ret
    exact ⟨rfl, rfl⟩

theorem pow_u32 (n : Nat) (h : n ≤ 31) : IntKind.u32.wrap ((2 : Int) ^ n) = ((2 ^ n : Nat) : Int) := by
  have hp : 2 ^ n ≤ 2 ^ 31 := Nat.pow_le_pow_right (by omega) h
  rw [show (2 : Int) ^ n = ((2 ^ n : Nat) : Int) by simp, IntKind.wrap_u32']
  generalize 2 ^ n = X at hp ⊢
  omega

theorem size_any (k c : Nat) (w : World) (hgl : Glob w) (hk : k < 3) (hc : c < 53) :
    Calls Tryd.prog 17 #[.int .i64 (k : Int), .int .i64 (c : Int)] w fun e w' => e = .returned (.int .u32 ((2 ^ addN k c : Nat) : Int)) ∧ w = w' := by
  have q := hgl.2.1 k hk c hc
  have ha := add_le k hk c hc
  obtain ⟨n, hn⟩ : ∃ n, n = addN k c := ⟨_, rfl⟩
  rw [← hn] at q ha ⊢
  have hp := pow_u32 n ha
  clear hn hgl
  go_enter Tryd.func17, Tryd.ntmps17
  go_wp2
  go_ret
  exact ⟨rfl, rfl⟩

set_option maxRecDepth 100000 in
set_option maxHeartbeats 1000000 in
theorem begin_any (k c : Nat) (w : World) (hgl : Glob w) (hk : k < 3) (hc : c ≤ lastN k) :
    Calls Tryd.prog 15 #[.int .i64 (k : Int), .int .i64 (c : Int)] w fun e w' => e = .returned (.int .u32 (beginN k c : Int)) ∧ w = w' := by
  have HG := Lib.hid hgl
  have q := hgl.2.2.1 k hk
  have hl := last_le k hk
  clear hgl
  go_enter Tryd.func15, Tryd.ntmps15
  go_wp2_with fail
  go_loopg [5, 11] c (fun gh y i wx => ∃ j : Nat, w = wx ∧ j + gh = c ∧ i = .int .i64 (j : Int) ∧ y = .int .u32 (beginN k j : Int))
  case atStart => exact ⟨0, rfl, by omega, rfl, rfl⟩
  case round =>
    obtain ⟨j, rfl, hj, rfl, rfl⟩ := hrel
    have HJ := Lib.hid hj
    have hjc : j ≤ c := by omega
    clear hj
    by_cases hlt : j < c
    · have he := end_le k hk j (by omega)
      obtain ⟨b, hb⟩ : ∃ b, b = beginN k j := ⟨_, rfl⟩
      obtain ⟨s, hs⟩ : ∃ s, s = 2 ^ addN k j := ⟨_, rfl⟩
      have HB : Hid (beginN k (j + 1) = b + s) := by rw [hb, hs]; rfl
      have HZ : Hid (∀ W, Glob W → Calls Tryd.prog 17 #[.int .i64 (k : Int), .int .i64 (j : Int)] W fun e w' => e = .returned (.int .u32 (s : Int)) ∧ W = w') := fun W hW => by rw [hs]; exact size_any k j W hW hk (by omega)
      rw [← hb, ← hs] at he
      rw [← hb]
      clear hb hs
      have hwr : IntKind.u32.wrap ((b : Int) + (s : Int)) = ((b + s : Nat) : Int) := by
        rw [IntKind.wrap_u32']
        have h1 := HB.out
        have h2 := end_le k hk (j + 1) (by omega)
        have h3 : 0 < 2 ^ addN k (j + 1) := Nat.two_pow_pos _
        omega
      go_wp2_with (go_at_call 17; refine (HZ.out _ HG.out).mono ?_; rintro e' w' ⟨rfl, rfl⟩)
      go_roundg (c - (j + 1))
      case measure => have := HJ.out; omega
      case rel => exact ⟨j + 1, rfl, by omega, by go_num, by rw [HB.out, Int.natCast_add]⟩
    · obtain rfl : j = c := by omega
      go_wp2_with fail
      go_ret
      exact ⟨rfl, rfl⟩

theorem last_any (k : Int) (w : World) (hgl : Glob w) :
    Calls Tryd.prog 10 #[.int .i64 k] w fun e w' => e = .returned (.int .i64 (lastZ k)) ∧ w = w' := by
  by_cases hb : 0 ≤ k ∧ k ≤ 2
  · obtain ⟨n, rfl⟩ := Int.eq_ofNat_of_zero_le hb.1
    have hn : n < 3 := by omega
    have q := hgl.1 n hn
    have hz : lastZ (n : Int) = (lastN n : Int) := by unfold lastZ; rw [if_neg (by omega)]; rfl
    rw [hz]
    have HI : Hid (∀ W, Calls Tryd.prog 14 #[.int .i64 (n : Int)] W fun e w' => e = .returned (.bool true) ∧ W = w') := fun W => by
      have := isKind_any (n : Int) W
      rwa [decide_eq_true hb] at this
    obtain ⟨l, hl⟩ : ∃ l, l = lastN n := ⟨_, rfl⟩
    rw [← hl] at q ⊢
    clear hl hz hb hgl
    go_enter Tryd.func10, Tryd.ntmps10
    go_wp2_with (go_at_call 14; refine (HI.out _).mono ?_; rintro e' w' ⟨rfl, rfl⟩)
    go_ret
    exact ⟨rfl, rfl⟩
  · have hz : lastZ k = -1 := by unfold lastZ; rw [if_pos (by omega)]
    rw [hz]
    have HI : Hid (∀ W, Calls Tryd.prog 14 #[.int .i64 k] W fun e w' => e = .returned (.bool false) ∧ W = w') := fun W => by
      have := isKind_any k W
      rwa [decide_eq_false hb] at this
    clear hz hb hgl
    go_enter Tryd.func10, Tryd.ntmps10
    go_wp2_with (go_at_call 14; refine (HI.out _).mono ?_; rintro e' w' ⟨rfl, rfl⟩)
    go_ret
    exact ⟨rfl, rfl⟩

/-- A code's answer. -/
def ansC (x : Nat × Nat × Nat) : Value := .tuple #[.int .u32 (x.1 : Int), .int .i64 (x.2.1 : Int), .int .i64 (x.2.2 : Int)]
/-- A value's answer. -/
def ansO (x : Nat × Nat × Nat) : Value := .tuple #[.int .i64 (x.1 : Int), .int .u32 (x.2.1 : Int), .int .i64 (x.2.2 : Int)]

set_option maxRecDepth 100000 in
set_option maxHeartbeats 1000000 in
theorem code_any (k c : Int) (w : World) (hgl : Glob w) :
    Calls Tryd.prog 8 #[.int .i64 k, .int .i64 c] w fun e w' => e = .returned (ansC (codeN k c)) ∧ Below w.heap.size w w' := by
  by_cases hb : 0 ≤ k ∧ k ≤ 2
  · obtain ⟨n, rfl⟩ := Int.eq_ofNat_of_zero_le hb.1
    have hn : n < 3 := by omega
    have q := hgl.1 n hn
    have HG := Lib.hid hgl
    have HI : Hid (∀ W, Calls Tryd.prog 14 #[.int .i64 (n : Int)] W fun e w' => e = .returned (.bool true) ∧ W = w') := fun W => by
      have := isKind_any (n : Int) W
      rwa [decide_eq_true hb] at this
    have hz : codeN (n : Int) c = if c < 0 ∨ (lastN n : Int) < c then (0, 0, 17) else (beginN n c.toNat, addN n c.toNat, 0) := by unfold codeN; rw [if_neg (by omega)]; rfl
    rw [hz]
    clear hz
    by_cases hc : 0 ≤ c ∧ c ≤ (lastN n : Int)
    · rw [if_neg (by omega)]
      obtain ⟨m, rfl⟩ := Int.eq_ofNat_of_zero_le hc.1
      have hl := last_le n hn
      have hm : m ≤ lastN n := by omega
      have q1 := hgl.2.1 n hn m (by omega)
      have HB : Hid (∀ W, Glob W → Calls Tryd.prog 15 #[.int .i64 (n : Int), .int .i64 (m : Int)] W fun e w' => e = .returned (.int .u32 (beginN n m : Int)) ∧ W = w') := fun W hW => begin_any n m W hW hn hm
      rw [show ((m : Int)).toNat = m from rfl]
      generalize beginN n m = b at *
      generalize addN n m = a at *
      generalize lastN n = l at *
      have hml : (m : Int) ≤ (l : Int) := by omega
      have hm53 : m < 53 := by omega
      have hd : decide ((l : Int) < (m : Int)) = false := by simp; omega
      clear hgl hb hc hm
      go_enter Tryd.func8, Tryd.ntmps8
      go_wp2_with (first
        | (go_at_call 14; refine (HI.out _).mono ?_; rintro e' w' ⟨rfl, rfl⟩)
        | (go_at_call 15; refine (HB.out _ HG.out).mono ?_; rintro e' w' ⟨rfl, rfl⟩))
      go_quiet ((go_at_call 15; exact quiet_one (HB.out (w.drewN _) (show Glob (w.drewN _) from HG.out))))
      go_wp2
      go_ret3
      exact ⟨rfl, below_drawn (Below.refl _ _) _⟩
    · rw [if_pos (by omega)]
      rcases Int.lt_or_le c 0 with h0 | h0
      · generalize lastN n = l at *
        clear hgl hb hc
        go_enter Tryd.func8, Tryd.ntmps8
        go_wp2_with (go_at_call 14; refine (HI.out _).mono ?_; rintro e' w' ⟨rfl, rfl⟩)
        go_ret3
        exact ⟨rfl, Below.refl _ _⟩
      · obtain ⟨m, rfl⟩ := Int.eq_ofNat_of_zero_le h0
        have hlm : lastN n < m := by omega
        generalize lastN n = l at *
        clear hgl hb hc h0
        go_enter Tryd.func8, Tryd.ntmps8
        go_wp2_with (go_at_call 14; refine (HI.out _).mono ?_; rintro e' w' ⟨rfl, rfl⟩)
        go_ret3
        exact ⟨rfl, Below.refl _ _⟩
  · have hz : codeN k c = (0, 0, 1) := by unfold codeN; rw [if_pos (by omega)]
    rw [hz]
    have HI : Hid (∀ W, Calls Tryd.prog 14 #[.int .i64 k] W fun e w' => e = .returned (.bool false) ∧ W = w') := fun W => by
      have := isKind_any k W
      rwa [decide_eq_false hb] at this
    clear hz hb hgl
    go_enter Tryd.func8, Tryd.ntmps8
    go_wp2_with (go_at_call 14; refine (HI.out _).mono ?_; rintro e' w' ⟨rfl, rfl⟩)
    go_ret3
    exact ⟨rfl, Below.refl _ _⟩

set_option maxRecDepth 100000 in
set_option maxHeartbeats 1000000 in
theorem of_any (k : Int) (v : Nat) (w : World) (hgl : Glob w) (hv : v < 4294967296) :
    Calls Tryd.prog 12 #[.int .i64 k, .int .u32 (v : Int)] w fun e w' => e = .returned (ansO (ofN k v)) ∧ w = w' := by
  by_cases hb : 0 ≤ k ∧ k ≤ 2
  · obtain ⟨n, rfl⟩ := Int.eq_ofNat_of_zero_le hb.1
    have hn : n < 3 := by omega
    have q := hgl.1 n hn
    have q2 := hgl.2.2.1 n hn
    have HG := Lib.hid hgl
    have hl := last_le n hn
    have hf3 := first_le n hn
    have HI : Hid (∀ W, Calls Tryd.prog 14 #[.int .i64 (n : Int)] W fun e w' => e = .returned (.bool true) ∧ W = w') := fun W => by
      have := isKind_any (n : Int) W
      rwa [decide_eq_true hb] at this
    have hz : ofN (n : Int) v = scan n v (lastN n + 1) 0 := by unfold ofN; rw [if_neg (by omega)]; rfl
    rw [hz]
    clear hz hb hgl
    rcases Nat.lt_or_ge v (firstN n) with hlo | hlo
    · rw [scan_low hlo]
      generalize lastN n = l at *
      generalize firstN n = f at *
      go_enter Tryd.func12, Tryd.ntmps12
      go_wp2_with (go_at_call 14; refine (HI.out _).mono ?_; rintro e' w' ⟨rfl, rfl⟩)
      go_ret3
      exact ⟨rfl, rfl⟩
    · obtain ⟨l, hll⟩ : ∃ l, l = lastN n := ⟨_, rfl⟩
      obtain ⟨f, hff⟩ : ∃ f, f = firstN n := ⟨_, rfl⟩
      have HF := Lib.hid hff
      have HL := Lib.hid hll
      obtain ⟨Z, hZ⟩ : ∃ Z, Z = scan n v (l + 1) 0 := ⟨_, rfl⟩
      have HZ := Lib.hid hZ
      rw [← hll, ← hZ]
      rw [← hll] at q hl
      rw [← hff] at q2 hlo hf3
      clear hZ hff hll
      have hsub : IntKind.u32.wrap ((v : Int) - (f : Int)) = ((v - f : Nat) : Int) := by rw [IntKind.wrap_u32']; omega
      go_enter Tryd.func12, Tryd.ntmps12
      go_wp2_with (go_at_call 14; refine (HI.out _).mono ?_; rintro e' w' ⟨rfl, rfl⟩)
      rw [show decide (v < f) = false by simp; omega]
      go_loopg [7, 29] (l + 1) (fun gh y i wx => ∃ j : Nat, w = wx ∧ j + gh = l + 1 ∧ i = .int .i64 (j : Int) ∧ y = .int .u32 ((v - beginN n j : Nat) : Int) ∧ beginN n j ≤ v ∧ Z = scan n v gh j)
      case atStart => exact ⟨0, rfl, by omega, rfl, by rw [HF.out]; rfl, by rw [HF.out] at hlo; exact hlo, HZ.out⟩
      case round =>
        obtain ⟨j, rfl, hj, rfl, rfl, hbv, hzz⟩ := hrel
        have HJ := Lib.hid hj
        have HZZ := Lib.hid hzz
        have hjl : j ≤ l + 1 := by omega
        clear hj hzz
        by_cases hlt : j < l + 1
        · have hjN : j ≤ lastN n := by have := HL.out; omega
          obtain ⟨g, rfl⟩ : ∃ g, gk = g + 1 := ⟨gk - 1, by have := HJ.out; omega⟩
          obtain ⟨b, hbb⟩ : ∃ b, b = beginN n j := ⟨_, rfl⟩
          obtain ⟨s, hs⟩ : ∃ s, s = 2 ^ addN n j := ⟨_, rfl⟩
          have HB : Hid (beginN n (j + 1) = b + s) := by rw [hbb, hs]; rfl
          have HS : Hid (∀ W, Glob W → Calls Tryd.prog 17 #[.int .i64 (n : Int), .int .i64 (j : Int)] W fun e w' => e = .returned (.int .u32 (s : Int)) ∧ W = w') := fun W hW => by rw [hs]; exact size_any n j W hW hn (by omega)
          have he := end_le n hn j hjN
          rw [← hbb, ← hs] at he
          rw [← hbb] at hbv ⊢
          have HQ : Hid (Z = if b ≤ v ∧ v - b < s then (j, v - b, 0) else scan n v g (j + 1)) := by rw [hbb, hs]; exact HZZ.out
          clear hbb hs HZZ
          obtain ⟨d, hd⟩ : ∃ d, d = v - b := ⟨_, rfl⟩
          rw [← hd]
          have HD := Lib.hid hd
          clear hd
          by_cases hin : d < s
          · have HQ2 : Hid (Z = (j, d, 0)) := by
              have hd := HD.out
              show Z = (j, d, 0)
              rw [HQ.out, if_pos ⟨hbv, by omega⟩, hd]
            clear HQ
            go_wp2_with (go_at_call 17; refine (HS.out _ HG.out).mono ?_; rintro e' w' ⟨rfl, rfl⟩)
            go_ret3
            exact ⟨by rw [HQ2.out]; rfl, rfl⟩
          · have HQ2 : Hid (Z = scan n v g (j + 1)) := by
              have hd := HD.out
              show Z = scan n v g (j + 1)
              rw [HQ.out, if_neg (by omega)]
            clear HQ
            have hsu : IntKind.u32.wrap ((d : Int) - (s : Int)) = ((d - s : Nat) : Int) := by have := HD.out; rw [IntKind.wrap_u32']; omega
            go_wp2_with (go_at_call 17; refine (HS.out _ HG.out).mono ?_; rintro e' w' ⟨rfl, rfl⟩)
            go_roundg g
            case measure => omega
            case rel =>
              have := HD.out
              exact ⟨j + 1, rfl, by have := HJ.out; omega, by go_num, by rw [HB.out, show d - s = v - (b + s) by omega], by rw [HB.out]; omega, HQ2.out⟩
        · have hg : gk = 0 := by have := HJ.out; omega
          have HQ2 : Hid (Z = (0, 0, 17)) := by
            have hz := HZZ.out
            rw [hg] at hz
            exact hz
          clear HZZ
          go_wp2_with fail
          go_ret3
          exact ⟨by rw [HQ2.out]; rfl, rfl⟩
  · have hz : ofN k v = (0, 0, 1) := by unfold ofN; rw [if_pos (by omega)]
    rw [hz]
    have HI : Hid (∀ W, Calls Tryd.prog 14 #[.int .i64 k] W fun e w' => e = .returned (.bool false) ∧ W = w') := fun W => by
      have := isKind_any k W
      rwa [decide_eq_false hb] at this
    clear hz hb hgl
    go_enter Tryd.func12, Tryd.ntmps12
    go_wp2_with (go_at_call 14; refine (HI.out _).mono ?_; rintro e' w' ⟨rfl, rfl⟩)
    go_ret3
    exact ⟨rfl, rfl⟩
end Go.Proofs.YtcekhmomilhmoaaDoor
