
/- The library's Backward over rows of coded sequences, and over states: the contracts of its iterators. -/
import Derived.RangeFuncNested
import Derived.RangeFuncBound
import Derived.RangeFuncCalls
import Derived.RangeFuncLeaves
import Derived.Shelf.Abstract
import Derived.Shelf.RegionOpen
import Derived.WalkKit
import Derived.OwnWalkIn
import Derived.TacticsInMore
import Derived.LoopNIn
import Derived.LoopIn
import Derived.Test.YtlidnialggpcpaaGreatDoorSeqEncP
namespace Go.Proofs.YtlidnialggpcpaaGreatDoor
open Go.RowKit Go.Shelf
attribute [local go_sem] Oper.semAt_some

/-- A place in a list of so many. -/
abbrev Pl (m : Nat) := {i : Nat // i < m}
/-- What a round of the loop must keep: the blocks of P. -/
def KpP (P : Nat → Prop) (W W' : World) : Prop := ∀ k, P k → W'.heap[k]? = W.heap[k]?
theorem KpP.refl (P : Nat → Prop) (W : World) : KpP P W W := fun _ _ => rfl
theorem KpP.trans {P : Nat → Prop} {A B C : World} (h : KpP P A B) (k : KpP P B C) : KpP P A C := fun i hi => (k i hi).trans (h i hi)
theorem KpP.row {P : Nat → Prop} {w : World} (hP : ∀ k, P k → k < w.heap.size) (W : World) (l : Nat) (o o' : Obj) (hl : w.heap.size ≤ l) (_ : W.heap[l]? = some o) (_ : o.isCells = false) (_ : o.isWalk = false) : KpP P W (W.putObj l o') :=
  fun k hk => World.putObj_heap_other (by have := hP k hk; omega)
/-- The places that have come: all from the end. -/
def backs (m k : Nat) : List Nat := (List.range k).map fun j => m - 1 - j
theorem backs_succ (m k : Nat) : backs m (k + 1) = backs m k ++ [m - 1 - k] := by simp [backs, List.range_succ]
theorem backs_len (m k : Nat) : (backs m k).length = k := by simp [backs]
def cq0 : Cq := ⟨⟨0, 0, 0⟩, ⟨0, 0, 0⟩, ⟨0, 0, 0⟩⟩
def cqAt (rs : List Cq) (j : Nat) : Cq := rs.getD j cq0
theorem cqAt_eq {rs : List Cq} {j : Nat} (h : j < rs.length) : rs[j] = cqAt rs j := by unfold cqAt; rw [List.getD_eq_getElem?_getD, List.getElem?_eq_getElem h, Option.getD_some]

section
variable {c m : Nat} {rs : List Cq}
set_option maxRecDepth 100000 in
set_option maxHeartbeats 2000000 in
theorem backC_in (F : Fence) (n : Nat) (hf : F.fn 100) (hro : F.round = none) (hn : 1 ≤ n) (l Bs dd oo : Nat) (hm : rs.length = m) (hmb : m ≤ 1000000000) (P : Nat → Prop) (hPb : P Bs) (hPd : P dd) (J Jx : List (Pl m) → World → Prop)
    (hY : ∀ pre x W, J pre W → pre.length < m → YieldAt F (n - 1) Tryz.prog l #[.int .i64 (x.1 : Int), .agg (cqAt rs x.1).cells] W fun e W' =>
      (e = .returned (.bool true) ∧ J (pre ++ [x]) W' ∧ KpP P W W') ∨ (e = .returned (.bool false) ∧ Jx (pre ++ [x]) W'))
    (W : World) (hBs : W.cell? ⟨Bs, 0, none⟩ = some (.slice (some ⟨dd, oo, none⟩) m c)) (hc : ∀ j (hj : j < rs.length) i (_ : i < 9), W.cell? ⟨dd, oo + j * 9 + i, none⟩ = (rs[j].cells)[i]?) (h0 : J [] W) :
    CallsIn F n Tryz.prog 100 #[.func (.yield l) #[] #[], .pointer (some ⟨Bs, 0, none⟩)] W fun e W' => (∃ v, e = .returned v) ∧
      ((∃ ys, (ys.map (·.1) = backs m m) ∧ J ys W') ∨ (∃ pre, True ∧ Jx pre W')) := by
  have HD := Lib.hid hc
  have HM := Lib.hid hm
  have HY := Lib.hid hY
  have HB := Lib.hid hBs
  clear hY hc hm
  refine callsIn_of_wp Tryz.func100 rfl hf ?_ hro
  simp only [Tryz.ntmps100, List.size_toArray, List.length_cons, List.length_nil, Nat.reduceAdd, Nat.reduceSub, Array.replicate_succ, Array.replicate_zero, List.push_toArray, List.append_toArray, List.nil_append, List.cons_append]
  gi_wp2
  clear hBs
  gi_loopw [3] (fun i wr => ∃ j : Nat, j ≤ m ∧ i = .int .i64 ((j : Int) - 1) ∧ (∃ pre : List (Pl m), pre.map (·.1) = backs m (m - j) ∧ J pre wr) ∧ KpP P W wr)
    (fun i _ => (intOf i + 1).toNat)
  case atStart => exact ⟨m, Nat.le_refl _, rfl, ⟨[], by rw [Nat.sub_self]; rfl, h0⟩, KpP.refl _ _⟩
  case round =>
    obtain ⟨j, hj, rfl, ⟨pre, hp, hJ⟩, hK⟩ := hrel
    have hBs : wr.cell? ⟨Bs, 0, none⟩ = some (.slice (some ⟨dd, oo, none⟩) m c) := (World.cell?_of_block (hK Bs hPb)).trans HB.out
    cases j with
    | zero =>
      have hz : ¬ (0 : Int) ≤ ((0 : Nat) : Int) - 1 := by omega
      gi_wp2
      go_end0
      exact ⟨⟨_, rfl⟩, .inl ⟨pre, hp, hJ⟩⟩
    | succ j =>
      have hpl : pre.length = m - (j + 1) := by
        have := congrArg List.length hp
        rw [List.length_map, backs_len] at this
        exact this
      obtain ⟨fn, tmps, assign, body, hy, hR⟩ := HY.out pre ⟨j, by omega⟩ wr hJ (by omega)
      dsimp only at hy
      have hjm' : j < m := by omega
      have hjx : j < rs.length := by have := HM.out; omega
      have x0 := (World.cell?_of_block (hK dd hPd)).trans (HD.out j hjx 0 (by omega))
      have x1 := (World.cell?_of_block (hK dd hPd)).trans (HD.out j hjx 1 (by omega))
      have x2 := (World.cell?_of_block (hK dd hPd)).trans (HD.out j hjx 2 (by omega))
      have x3 := (World.cell?_of_block (hK dd hPd)).trans (HD.out j hjx 3 (by omega))
      have x4 := (World.cell?_of_block (hK dd hPd)).trans (HD.out j hjx 4 (by omega))
      have x5 := (World.cell?_of_block (hK dd hPd)).trans (HD.out j hjx 5 (by omega))
      have x6 := (World.cell?_of_block (hK dd hPd)).trans (HD.out j hjx 6 (by omega))
      have x7 := (World.cell?_of_block (hK dd hPd)).trans (HD.out j hjx 7 (by omega))
      have x8 := (World.cell?_of_block (hK dd hPd)).trans (HD.out j hjx 8 (by omega))
      have hqq : rs[j] = cqAt rs j := cqAt_eq hjx
      rw [hqq] at x0 x1 x2 x3 x4 x5 x6 x7 x8
      rw [show (((j + 1 : Nat) : Int) - 1) = (j : Int) by omega]
      have HPn : Hid (pre.map (·.1) ++ [j] = backs m (m - j)) := by
        show _ = _
        rw [hp, show m - j = m - (j + 1) + 1 by omega, backs_succ, show m - 1 - (m - (j + 1)) = j by omega]
      clear hp
      clear hqq
      generalize cqAt rs j = q at *
      unfold Cq.cells at hy
      simp [Cq.cells] at x0 x1 x2 x3 x4 x5 x6 x7 x8
      have hjm : (j : Int) < (m : Int) := by omega
      have hj0 : (0 : Int) ≤ (j : Int) := by omega
      gi_wp2
      refine hR.mono ?_
      rintro e W3 (⟨rfl, hJ3, hk3⟩ | ⟨rfl, hJx3⟩)
      · gi_wp2
        go_roundw
        case rel => exact ⟨j, by omega, by simp, ⟨pre ++ [⟨j, by omega⟩], by rw [List.map_append]; exact HPn.out, hJ3⟩, hK.trans hk3⟩
        case measure => simp [intOf]
      · gi_wp2
        refine bodyPost_ret (results_none rfl _ _ _) rfl ?_
        exact ⟨⟨_, rfl⟩, .inr ⟨_, trivial, hJx3⟩⟩

set_option maxHeartbeats 1000000 in
theorem backwardC_any (A : Option Addr) (n c : Nat) (w : World) :
    Calls Tryz.prog 68 #[.slice A n c] w fun e w' => e = .returned (.func (.func 100) #[] #[.pointer (some ⟨w.heap.size, 0, none⟩)]) ∧ w' = w.alloc (.cells #[.slice A n c] 90) := by
  have hmf : ∀ (fn : Fn) (first cap : Array Value) (w : World), (Instr.makeFunc fn first cap).run Tryz.prog w = .ok (.func fn first cap) w := fun _ _ _ _ => rfl
  go_enter Tryz.func68, Tryz.ntmps68
  go_wp2
  go_ret
  exact ⟨rfl, rfl⟩

theorem backC_stops (F : Fence) (n : Nat) (hf : F.fn 100) (hro : F.round = none) (hn : 1 ≤ n) (Bs dd oo : Nat) (hm : rs.length = m) (hmb : m ≤ 1000000000) (P : Nat → Prop) (hPb : P Bs) (hPd : P dd) (w : World) (hBs : Bs < w.heap.size) (hdd : dd < w.heap.size)
    (hcb : w.cell? ⟨Bs, 0, none⟩ = some (.slice (some ⟨dd, oo, none⟩) m c)) (hc : ∀ j (hj : j < rs.length) i (_ : i < 9), w.cell? ⟨dd, oo + j * 9 + i, none⟩ = (rs[j].cells)[i]?) :
    SeqStopsK F n Tryz.prog 100 #[.pointer (some ⟨Bs, 0, none⟩)] (fun x : Pl m => #[Value.int .i64 (x.1 : Int), .agg (cqAt rs x.1).cells]) (KpP P) (fun ys => ys.map (·.1) = backs m m) (fun _ => True) m w := fun l J Jx W hW _ _ hY h0 =>
  backC_in F n hf hro hn l Bs dd oo hm hmb P hPb hPd J Jx hY W ((hW.cell (p := ⟨Bs, 0, none⟩) hBs).trans hcb) (fun j hj i hi => (hW.cell (p := ⟨dd, _, none⟩) hdd).trans (hc j hj i hi)) h0
end

section
variable {c m : Nat} {f : Nat → Int}
set_option maxRecDepth 100000 in
set_option maxHeartbeats 2000000 in
theorem backI_in (F : Fence) (n : Nat) (hf : F.fn 104) (hro : F.round = none) (hn : 1 ≤ n) (l Bs dd oo : Nat) (hm : True) (hmb : m ≤ 1000000000) (P : Nat → Prop) (hPb : P Bs) (hPd : P dd) (J Jx : List (Pl m) → World → Prop)
    (hY : ∀ pre x W, J pre W → pre.length < m → YieldAt F (n - 1) Tryz.prog l #[.int .i64 (x.1 : Int), .int .i64 (f x.1)] W fun e W' =>
      (e = .returned (.bool true) ∧ J (pre ++ [x]) W' ∧ KpP P W W') ∨ (e = .returned (.bool false) ∧ Jx (pre ++ [x]) W'))
    (W : World) (hBs : W.cell? ⟨Bs, 0, none⟩ = some (.slice (some ⟨dd, oo, none⟩) m c)) (hc : ∀ j (_ : j < m), W.cell? ⟨dd, oo + j, none⟩ = some (.int .i64 (f j))) (h0 : J [] W) :
    CallsIn F n Tryz.prog 104 #[.func (.yield l) #[] #[], .pointer (some ⟨Bs, 0, none⟩)] W fun e W' => (∃ v, e = .returned v) ∧
      ((∃ ys, (ys.map (·.1) = backs m m) ∧ J ys W') ∨ (∃ pre, True ∧ Jx pre W')) := by
  have HD := Lib.hid hc
  have HM := Lib.hid hm
  have HY := Lib.hid hY
  have HB := Lib.hid hBs
  clear hY hc hm
  refine callsIn_of_wp Tryz.func104 rfl hf ?_ hro
  simp only [Tryz.ntmps104, List.size_toArray, List.length_cons, List.length_nil, Nat.reduceAdd, Nat.reduceSub, Array.replicate_succ, Array.replicate_zero, List.push_toArray, List.append_toArray, List.nil_append, List.cons_append]
  gi_wp2
  clear hBs
  gi_loopw [3] (fun i wr => ∃ j : Nat, j ≤ m ∧ i = .int .i64 ((j : Int) - 1) ∧ (∃ pre : List (Pl m), pre.map (·.1) = backs m (m - j) ∧ J pre wr) ∧ KpP P W wr)
    (fun i _ => (intOf i + 1).toNat)
  case atStart => exact ⟨m, Nat.le_refl _, rfl, ⟨[], by rw [Nat.sub_self]; rfl, h0⟩, KpP.refl _ _⟩
  case round =>
    obtain ⟨j, hj, rfl, ⟨pre, hp, hJ⟩, hK⟩ := hrel
    have hBs : wr.cell? ⟨Bs, 0, none⟩ = some (.slice (some ⟨dd, oo, none⟩) m c) := (World.cell?_of_block (hK Bs hPb)).trans HB.out
    cases j with
    | zero =>
      have hz : ¬ (0 : Int) ≤ ((0 : Nat) : Int) - 1 := by omega
      gi_wp2
      go_end0
      exact ⟨⟨_, rfl⟩, .inl ⟨pre, hp, hJ⟩⟩
    | succ j =>
      have hpl : pre.length = m - (j + 1) := by
        have := congrArg List.length hp
        rw [List.length_map, backs_len] at this
        exact this
      obtain ⟨fn, tmps, assign, body, hy, hR⟩ := HY.out pre ⟨j, by omega⟩ wr hJ (by omega)
      dsimp only at hy
      have hjm' : j < m := by omega
      have x0 := (World.cell?_of_block (hK dd hPd)).trans (HD.out j hjm')
      rw [show (((j + 1 : Nat) : Int) - 1) = (j : Int) by omega]
      have HPn : Hid (pre.map (·.1) ++ [j] = backs m (m - j)) := by
        show _ = _
        rw [hp, show m - j = m - (j + 1) + 1 by omega, backs_succ, show m - 1 - (m - (j + 1)) = j by omega]
      clear hp
      generalize f j = z at *
      have hjm : (j : Int) < (m : Int) := by omega
      have hj0 : (0 : Int) ≤ (j : Int) := by omega
      gi_wp2
      refine hR.mono ?_
      rintro e W3 (⟨rfl, hJ3, hk3⟩ | ⟨rfl, hJx3⟩)
      · gi_wp2
        go_roundw
        case rel => exact ⟨j, by omega, by simp, ⟨pre ++ [⟨j, by omega⟩], by rw [List.map_append]; exact HPn.out, hJ3⟩, hK.trans hk3⟩
        case measure => simp [intOf]
      · gi_wp2
        refine bodyPost_ret (results_none rfl _ _ _) rfl ?_
        exact ⟨⟨_, rfl⟩, .inr ⟨_, trivial, hJx3⟩⟩

set_option maxHeartbeats 1000000 in
theorem backwardI_any (A : Option Addr) (n c : Nat) (w : World) :
    Calls Tryz.prog 72 #[.slice A n c] w fun e w' => e = .returned (.func (.func 104) #[] #[.pointer (some ⟨w.heap.size, 0, none⟩)]) ∧ w' = w.alloc (.cells #[.slice A n c] 72) := by
  have hmf : ∀ (fn : Fn) (first cap : Array Value) (w : World), (Instr.makeFunc fn first cap).run Tryz.prog w = .ok (.func fn first cap) w := fun _ _ _ _ => rfl
  go_enter Tryz.func72, Tryz.ntmps72
  go_wp2
  go_ret
  exact ⟨rfl, rfl⟩

theorem backI_stops (F : Fence) (n : Nat) (hf : F.fn 104) (hro : F.round = none) (hn : 1 ≤ n) (Bs dd oo : Nat) (hm : True) (hmb : m ≤ 1000000000) (P : Nat → Prop) (hPb : P Bs) (hPd : P dd) (w : World) (hBs : Bs < w.heap.size) (hdd : dd < w.heap.size)
    (hcb : w.cell? ⟨Bs, 0, none⟩ = some (.slice (some ⟨dd, oo, none⟩) m c)) (hc : ∀ j (_ : j < m), w.cell? ⟨dd, oo + j, none⟩ = some (.int .i64 (f j))) :
    SeqStopsK F n Tryz.prog 104 #[.pointer (some ⟨Bs, 0, none⟩)] (fun x : Pl m => #[Value.int .i64 (x.1 : Int), .int .i64 (f x.1)]) (KpP P) (fun ys => ys.map (·.1) = backs m m) (fun _ => True) m w := fun l J Jx W hW _ _ hY h0 =>
  backI_in F n hf hro hn l Bs dd oo hm hmb P hPb hPd J Jx hY W ((hW.cell (p := ⟨Bs, 0, none⟩) hBs).trans hcb) (fun j hj => (hW.cell (p := ⟨dd, _, none⟩) hdd).trans (hc j hj)) h0
end
end Go.Proofs.YtlidnialggpcpaaGreatDoor
