
/- The contract of the program's end: what stands behind so many bytes. -/
import Derived.Test.YtieepdhajjibpaaDoorShaSpec
import Derived.Test.YtieepdhajjibpaaDoorShaMine
import Derived.Deep.RegionHeld3
import Derived.Deep.LoopGhost
import Derived.Deep.CutRange
import Derived.Deep.DeepCutAuto
import Derived.Outline
namespace Go.Proofs.YtieepdhajjibpaaDoor
open Go.RowKit

theorem u8_info : (Tryd.prog.info? 5).map (fun i => (i.zero, i.size, i.bytes)) = some (some (.int .u8 0), 1, 1) := by kernel_rfl

/-- A value that is a slice. -/
theorem Mine.slice {w : World} {u base : Nat} {v : Value} {xs : List UInt8} (h : Mine w u base v xs) : ∃ A n c, v = .slice A n c ∧ n = xs.length := by
  obtain ⟨A, c, hv, _⟩ := h.form
  exact ⟨A, _, c, hv, rfl⟩

theorem dat_byte (w : World) (x : UInt8) (u : TypeId) : Dat true (w.alloc (.cells #[cel x] u)) w.heap.size (w.heap.size + 1) (some ⟨w.heap.size, 0, none⟩) [x] := fun _ =>
  ⟨w.heap.size, 0, rfl, Nat.le_refl _, by omega, fun j hj => by
    have h := (Box.new w u #[cel x]).cell (0 + j)
    have hj0 : j = 0 := by simp at hj; omega
    subst hj0
    exact h, fun _ j => (Box.new w u #[cel x]).free j⟩

/-- What stands behind n bytes. -/
def tail8 (n : Nat) : List UInt8 := [128] ++ List.replicate (padz n) 0 ++ be8 (8 * n) 8

set_option maxRecDepth 100000 in
set_option maxHeartbeats 2000000 in
theorem end_any (n : Nat) (hn : n ≤ 1000000000000000) (w : World) :
    Calls Tryd.prog 52 #[.int .u64 (n : Int)] w fun e w' => (∃ v, e = .returned v ∧ Mine w' 5 w.heap.size v (tail8 n)) ∧ Below w.heap.size w w' := by
  obtain ⟨i0, hi0, hz0, hz1, hz2⟩ := info_parts u8_info
  go_enter Tryd.func52, Tryd.ntmps52
  go_upto_region 1 with fail
  go_cut [3] (fun p wx => w = wx ∧ p = .int .u64 (padz n : Int))
  case first =>
    go_wp2_with fail
    go_meet
    refine ⟨rfl, ?_⟩
    congr 1
    unfold padz
    omega
  case rest =>
    obtain ⟨rfl, rfl⟩ := hcut
    have hpz : padz n < 64 := by unfold padz; omega
    obtain ⟨z, hz⟩ : ∃ z, z = padz n := ⟨_, rfl⟩
    rw [← hz] at hpz ⊢
    have HZ := Lib.hid hz
    clear hz
    have hmk := run_make (P := Tryd.prog) w 23 5 i0 (.int .u8 0) Tryd.underlying23 hi0 hz0 .u64 .u64 (1 + (z : Int)) (1 + (z : Int) + 8) (by omega) (by omega) (by rw [hz2]; omega) (by omega)
    rw [show (1 + (z : Int)).toNat = 1 + z by omega, show (1 + (z : Int) + 8).toNat = 9 + z by omega, hz1, Nat.mul_one] at hmk
    obtain ⟨C, hC⟩ : ∃ C, C = madeCells (Value.cells (.int .u8 0)) (9 + z) := ⟨_, rfl⟩
    rw [← hC] at hmk
    have hCs : C.size = 9 + z := by rw [hC]; exact size_madeCells _ _
    have hCg : ∀ j, j < 9 + z → C[j]? = some (.int .u8 0) := by
      intro j hj
      rw [hC]
      simp [madeCells, Value.cells, hj, Nat.mod_one]
    clear hC
    have HC := Lib.hid hCg
    have hb := Box.new w 5 C
    have c0 : (w.alloc (.cells C 5)).cell? ⟨w.heap.size, 0, none⟩ = some (.int .u8 0) := (hb.cell 0).trans (hCg 0 (by omega))
    have f0 := hb.free 0
    have HBx := Lib.hid hb
    clear hCg hb
    have hlen : 0 < 1 + (z : Int) := by omega
    go_upto_region 3 with fail
    go_cut [4] (fun p wx => ∃ A m c, p = .slice A m c ∧ m = 1 + z ∧ Mine wx 5 w.heap.size p ([128] ++ List.replicate z 0) ∧ Below w.heap.size w wx)
    case first =>
      go_wp2_with fail
      go_meet
      refine ⟨_, _, _, rfl, rfl, ?_, (Below.refl _ _).alloc (Nat.le_refl _) _⟩
      have hp := Box.new w 5 (C.setIfInBounds 0 (.int .u8 128))
      refine .inr ⟨w.heap.size, 9 + z, by simp; omega, Nat.le_refl _, ⟨_, _, hp⟩, by simp; omega, by unfold maxLen; omega, fun j hj => ⟨?_, hp.free j⟩, fun j hj => ?_⟩
      · rw [hp.cell]
        simp [hCs]
        omega
      · rw [hp.cell]
        have hj' : j < 1 + z := by simpa [Nat.add_comm] using hj
        rcases j with _ | j
        · rw [Array.getElem?_setIfInBounds_self_of_lt (by omega)]
          rfl
        · have e : ([128] ++ List.replicate z 0 : List UInt8).getD (j + 1) 0 = 0 := by
            simp only [List.getD, List.singleton_append, List.getElem?_cons_succ, List.getElem?_replicate]
            split <;> rfl
          rw [e, Array.getElem?_setIfInBounds_ne (by omega), HC.out (j + 1) (by omega)]
          rfl
    case rest =>
      obtain ⟨A, m, c, rfl, rfl, hm, hB⟩ := hcut
      have HM := Lib.hid hm
      have HB := Lib.hid hB
      have hz1' := hB.size
      clear hm hB HBx c0 f0 hmk HC
      have HW : Hid (∃ k : Nat, k = 0 ∧ Mine wc 5 w.heap.size (.slice A (1 + z) c) ([128] ++ List.replicate z 0 ++ be8 (8 * n) k) ∧ Below w.heap.size w wc) := ⟨0, rfl, by simpa [be8] using HM.out, HB.out⟩
      clear HM HB
      go_wp2_with fail
      go_loopg [4, 23] 8 (fun gh b i wx => ∃ k : Nat, k + gh = 8 ∧ i = .int .i64 k ∧ Mine wx 5 w.heap.size b ([128] ++ List.replicate z 0 ++ be8 (8 * n) k) ∧ Below w.heap.size w wx)
      case atStart =>
        obtain ⟨k, rfl, h1, h2⟩ := HW.out
        exact ⟨0, rfl, rfl, h1, h2⟩
      case round =>
        obtain ⟨k, hk, rfl, hm, hB⟩ := hrel
        have HK := Lib.hid hk
        have hk8 : k ≤ 8 := by omega
        obtain ⟨A2, n2, c2, hv2, hn2⟩ := hm.slice
        subst hv2
        have HM2 := Lib.hid hm
        have HBr := Lib.hid hB
        have HN2 := Lib.hid hn2
        have hsz2 := hB.size
        clear hm hB hn2 hk HW
        by_cases hk7 : k < 8
        · have e0 : (8 * (7 - (k : Int))).toNat = 56 - 8 * k := by omega
          have HDk : Hid (Dat true (wr.alloc (.cells #[.int .u8 (8 * (n : Int) / 2 ^ (56 - 8 * k) % 256)] 5)) wr.heap.size (wr.heap.size + 1) (some ⟨wr.heap.size, 0, none⟩) [UInt8.ofNat (8 * n / 2 ^ (56 - 8 * k) % 256)]) := by
            have e : (8 * (n : Int)) / 2 ^ (56 - 8 * k) % 256 = (((UInt8.ofNat (8 * n / 2 ^ (56 - 8 * k) % 256)).toNat : Nat) : Int) := by
              simp
            rw [e]
            exact dat_byte wr _ _
          go_wp2_with (at_builtin; refine list_mine_app _ rfl _ _ 23 rfl i0 Tryd.underlying23 hi0 hz0 hz1 hz2 rfl (HM2.out.alloc _) rfl HDk.out (by simp) rfl ?_ ?_ ?_)
          · simp only [List.length_append, List.length_replicate, be8_length, List.length_singleton]
            omega
          · simp only [World.size_alloc]; omega
          intro v4 w4 ho hgr hat
          have HO := Lib.hid ho
          have HB4 : Hid (Below w.heap.size w w4) := (HBr.out.alloc hsz2 _).grown hgr (by simp; omega) (fun j hj => (HM2.out.block j hj).1)
          clear ho hgr hat
          go_wp2_with fail
          go_roundg (8 - (k + 1))
          case measure => have := HK.out; omega
          case rel =>
            refine ⟨k + 1, by omega, by go_num, ?_, HB4.out⟩
            have := HO.out
            rw [be8, ← List.append_assoc]
            simpa using this
        · have hk8' : k = 8 := by omega
          subst hk8'
          go_wp2_with fail
          go_ret
          refine ⟨⟨_, rfl, ?_⟩, HBr.out⟩
          unfold tail8
          rw [← HZ.out]
          exact HM2.out
end Go.Proofs.YtieepdhajjibpaaDoor
