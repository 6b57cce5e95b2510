
/- The library's Backward over a slice of bytes: the contract of its iterator. -/
import Derived.RangeFuncNested
import Derived.RangeFuncBound
import Derived.RangeFuncCalls
import Derived.RangeFuncLeaves
import Derived.Shelf.Abstract
import Derived.Shelf.RegionOpen
import Derived.WalkKit
import Derived.OwnWalkIn
import Derived.TacticsInMore
import Derived.LoopNIn
import Derived.LoopIn
import Derived.Test.YtjpjbbbpmhcgnaaHufP
namespace Go.Proofs.Ytjpjbbbpmhcgnaa
open Go.RowKit Go.Shelf
attribute [local go_sem] Oper.semAt_some

/-- A place in a list of so many. -/
abbrev Pl (m : Nat) := {i : Nat // i < m}
/-- What a round of the loop must keep: what lies below n₀, and block b. -/
def KpB (n₀ b : Nat) (W W' : World) : Prop := ∀ k, (k < n₀ ∨ k = b) → W'.heap[k]? = W.heap[k]?
theorem KpB.refl (n₀ b : Nat) (W : World) : KpB n₀ b W W := fun _ _ => rfl
theorem KpB.trans {n₀ b : Nat} {A B C : World} (h : KpB n₀ b A B) (k : KpB n₀ b B C) : KpB n₀ b A C := fun i hi => (k i hi).trans (h i hi)
theorem KpB.row {n₀ b : Nat} {w : World} (hn : n₀ ≤ w.heap.size) (hb : b < w.heap.size) (W : World) (l : Nat) (o o' : Obj) (hl : w.heap.size ≤ l) (_ : W.heap[l]? = some o) (_ : o.isCells = false) (_ : o.isWalk = false) : KpB n₀ b W (W.putObj l o') :=
  fun k hk => World.putObj_heap_other (by omega)

section
variable {own : Bool} {A : Option Addr} {c m n₀ : Nat} {xs : List UInt8}
/-- The symbols that have come: all from the end. -/
def backs (m k : Nat) : List Nat := (List.range k).map fun j => m - 1 - j
theorem backs_succ (m k : Nat) : backs m (k + 1) = backs m k ++ [m - 1 - k] := by simp [backs, List.range_succ]
theorem backs_len (m k : Nat) : (backs m k).length = k := by simp [backs]

set_option maxRecDepth 100000 in
set_option maxHeartbeats 2000000 in
theorem back1_in (F : Fence) (n : Nat) (hf : F.fn 61) (hro : F.round = none) (hn : 1 ≤ n) (l Bs : Nat) (hm : xs.length = m) (hmb : m ≤ 1000000000) (J Jx : List (Pl m) → World → Prop)
    (hY : ∀ pre x W, J pre W → pre.length < m → YieldAt F (n - 1) Try.prog l #[.int .i64 (x.1 : Int), cel (xs.getD x.1 0)] W fun e W' =>
      (e = .returned (.bool true) ∧ J (pre ++ [x]) W' ∧ KpB n₀ Bs W W') ∨ (e = .returned (.bool false) ∧ Jx (pre ++ [x]) W'))
    (W : World) (hBs : W.cell? ⟨Bs, 0, none⟩ = some (.slice A m c)) (hd : Dat own W 0 n₀ A xs) (h0 : J [] W) :
    CallsIn F n Try.prog 61 #[.func (.yield l) #[] #[], .pointer (some ⟨Bs, 0, none⟩)] W fun e W' => (∃ v, e = .returned v) ∧
      ((∃ ys, ys.map (·.1) = backs m m ∧ J ys W') ∨ (∃ pre, True ∧ Jx pre W')) := by
  have HD := Lib.hid (And.intro hd hm)
  have HY := Lib.hid hY
  have HB := Lib.hid hBs
  clear hY hd hm
  refine callsIn_of_wp Try.func61 rfl hf ?_ hro
  simp only [Try.ntmps61, List.size_toArray, List.length_cons, List.length_nil, Nat.reduceAdd, Nat.reduceSub, Array.replicate_succ, Array.replicate_zero, List.push_toArray, List.append_toArray, List.nil_append, List.cons_append]
  gi_wp2
  clear hBs
  gi_loopw [3] (fun i wr => ∃ j : Nat, j ≤ m ∧ i = .int .i64 ((j : Int) - 1) ∧ (∃ pre : List (Pl m), pre.map (·.1) = backs m (m - j) ∧ J pre wr) ∧ KpB n₀ Bs W wr)
    (fun i _ => (intOf i + 1).toNat)
  case atStart => exact ⟨m, Nat.le_refl _, rfl, ⟨[], by rw [Nat.sub_self]; rfl, h0⟩, KpB.refl _ _ _⟩
  case round =>
    obtain ⟨j, hj, rfl, ⟨pre, hp, hJ⟩, hK⟩ := hrel
    have hBs : wr.cell? ⟨Bs, 0, none⟩ = some (.slice A m c) := (World.cell?_of_block (hK Bs (.inr rfl))).trans HB.out
    have hd : Dat own wr 0 n₀ A xs := HD.out.1.keep fun k _ hk => hK k (.inl hk)
    cases j with
    | zero =>
      have hz : ¬ (0 : Int) ≤ ((0 : Nat) : Int) - 1 := by omega
      gi_wp2
      go_end0
      exact ⟨⟨_, rfl⟩, .inl ⟨pre, hp, hJ⟩⟩
    | succ j =>
      have hpl : pre.length = m - (j + 1) := by
        have := congrArg List.length hp
        rw [List.length_map, backs_len] at this
        exact this
      obtain ⟨fn, tmps, assign, body, hy, hR⟩ := HY.out pre ⟨j, by omega⟩ wr hJ (by omega)
      dsimp only at hy
      have hjx : j < xs.length := by have := HD.out.2; omega
      obtain ⟨dd, oo, rfl, _, _, hc, _⟩ := hd (by omega)
      have hcj := hc j hjx
      rw [show (((j + 1 : Nat) : Int) - 1) = (j : Int) by omega]
      have HPn : Hid (pre.map (·.1) ++ [j] = backs m (m - j)) := by
        show _ = _
        rw [hp, show m - j = m - (j + 1) + 1 by omega, backs_succ, show m - 1 - (m - (j + 1)) = j by omega]
      clear hc hp hd
      generalize xs.getD j 0 = z at *
      unfold cel at hy hcj
      have hjm : (j : Int) < (m : Int) := by omega
      have hj0 : (0 : Int) ≤ (j : Int) := by omega
      gi_wp2
      refine hR.mono ?_
      rintro e W3 (⟨rfl, hJ3, hk3⟩ | ⟨rfl, hJx3⟩)
      · gi_wp2
        go_roundw
        case rel => exact ⟨j, by omega, by simp, ⟨pre ++ [⟨j, by omega⟩], by rw [List.map_append]; exact HPn.out, hJ3⟩, hK.trans hk3⟩
        case measure => simp [intOf]
      · gi_wp2
        refine bodyPost_ret (results_none rfl _ _ _) rfl ?_
        exact ⟨⟨_, rfl⟩, .inr ⟨_, trivial, hJx3⟩⟩

set_option maxHeartbeats 1000000 in
theorem backward_any (A : Option Addr) (n c : Nat) (w : World) :
    Calls Try.prog 45 #[.slice A n c] w fun e w' => e = .returned (.func (.func 61) #[] #[.pointer (some ⟨w.heap.size, 0, none⟩)]) ∧ w' = w.alloc (.cells #[.slice A n c] 22) := by
  have hmf : ∀ (fn : Fn) (first cap : Array Value) (w : World), (Instr.makeFunc fn first cap).run Try.prog w = .ok (.func fn first cap) w := fun _ _ _ _ => rfl
  go_enter Try.func45, Try.ntmps45
  go_wp2
  go_ret
  exact ⟨rfl, rfl⟩

theorem back_stops (F : Fence) (n : Nat) (hf : F.fn 61) (hro : F.round = none) (hn : 1 ≤ n) (Bs : Nat) (hm : xs.length = m) (hmb : m ≤ 1000000000) (w : World) (hBs : Bs < w.heap.size) (hn₀ : n₀ ≤ w.heap.size)
    (hc : w.cell? ⟨Bs, 0, none⟩ = some (.slice A m c)) (hd : Dat own w 0 n₀ A xs) :
    SeqStopsK F n Try.prog 61 #[.pointer (some ⟨Bs, 0, none⟩)] (fun x : Pl m => #[Value.int .i64 (x.1 : Int), cel (xs.getD x.1 0)]) (KpB n₀ Bs) (fun ys => ys.map (·.1) = backs m m) (fun _ => True) m w := fun l J Jx W hW _ _ hY h0 =>
  back1_in F n hf hro hn l Bs hm hmb J Jx hY W ((hW.cell (p := ⟨Bs, 0, none⟩) hBs).trans hc) (hd.below hW hn₀) h0
end
end Go.Proofs.Ytjpjbbbpmhcgnaa
