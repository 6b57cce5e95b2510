
/- The contracts of the document's Begins, Adds, Code and Of. -/
import Derived.Test.YtcekhmomilhmoaaDoorCodProg
import Derived.Test.YtcekhmomilhmoaaDoorEls
namespace Go.Proofs.YtcekhmomilhmoaaDoor
open Go.RowKit

/-- A number of 32 bits, an int. -/
def cu (n : Nat) : Value := .int .u32 (n : Int)
def ci (n : Nat) : Value := .int .i64 (n : Int)
/-- All beginnings, all that is added. -/
def begs (k : Int) : List Nat := if k < 0 ∨ 2 < k then [] else (List.range (lastN k.toNat + 1)).map (beginN k.toNat)
def adds (k : Int) : List Nat := if k < 0 ∨ 2 < k then [] else (List.range (lastN k.toNat + 1)).map (addN k.toNat)

theorem begs_zero : begs 0 = [0, 1, 2, 3, 4, 5, 6, 7, 8, 9, 10, 11, 12, 13, 14, 15, 16, 18, 20, 22, 24, 28, 32, 40, 48, 64, 128, 256, 512, 1024, 2048, 4096, 8192, 16384, 32768, 65536] := by decide +kernel
theorem begs_two : begs 2 = [3, 4, 5, 6, 7, 8, 9, 10, 11, 12, 13, 14, 15, 16, 17, 18, 19, 20, 21, 22, 23, 24, 25, 26, 27, 28, 29, 30, 31, 32, 33, 34, 35, 37, 39, 41, 43, 47, 51, 59, 67, 83, 99, 131, 259, 515, 1027, 2051, 4099, 8195, 16387, 32771, 65539] := by decide +kernel
theorem begs_one : begs 1 = (List.range 32).map (2 ^ ·) := by decide +kernel
theorem adds_zero : adds 0 = [0, 0, 0, 0, 0, 0, 0, 0, 0, 0, 0, 0, 0, 0, 0, 0, 1, 1, 1, 1, 2, 2, 3, 3, 4, 6, 7, 8, 9, 10, 11, 12, 13, 14, 15, 16] := by decide +kernel
theorem adds_two : adds 2 = [0, 0, 0, 0, 0, 0, 0, 0, 0, 0, 0, 0, 0, 0, 0, 0, 0, 0, 0, 0, 0, 0, 0, 0, 0, 0, 0, 0, 0, 0, 0, 0, 1, 1, 1, 1, 2, 2, 3, 3, 4, 4, 5, 7, 8, 9, 10, 11, 12, 13, 14, 15, 16] := by decide +kernel
theorem adds_one : adds 1 = List.range 32 := by decide +kernel

/-- A new row. -/
theorem datE_row {α : Type} (f : α → Value) (w : World) (xs : List α) (u : TypeId) (fr : Nat × Nat) (cs : Array Value) (h : cs = (xs.map f).toArray) : DatE f (w.alloc (.cells cs u fr)) w.heap.size (w.heap.size + 1) (some ⟨w.heap.size, 0, none⟩) xs := fun _ =>
  ⟨w.heap.size, 0, rfl, Nat.le_refl _, by omega, fun j hj => by
    rw [Nat.zero_add, cell_of_row _ _ j _ u fr (heap_alloc_new w _), h]
    simp [hj]⟩

/-- A slice that was made, of these elements. -/
def Made (f : Nat → Value) (w w' : World) (e : Ending) (xs : List Nat) : Prop :=
  ∃ A c, e = .returned (.slice A xs.length c) ∧ DatE f w' w.heap.size w'.heap.size A xs ∧ Below w.heap.size w w'

theorem grow_own {f : Nat → Value} {u : TypeId} {w wx w1 : World} {v : Value} {xs : List Nat} {o : Obj} (hB : Below w.heap.size w wx) (hO : OwE f wx u w.heap.size v xs) (hg : (wx.alloc o).grownBy w1 v.ownBlock) : Below w.heap.size w w1 :=
  (hB.alloc hB.size _).grown hg (Nat.le_trans hB.size (by simp)) fun k hk => (hO.block k hk).1
theorem cu_one (n : Nat) : (cu n).oneCell' = true := rfl
theorem ci_one (n : Nat) : (ci n).oneCell' = true := rfl
theorem u32_info : (Tryd.prog.info? 23).map (fun i => (i.zero, i.size, i.bytes)) = some (some (.int .u32 0), 1, 4) := by kernel_rfl
theorem int_info : (Tryd.prog.info? 3).map (fun i => (i.zero, i.size, i.bytes)) = some (some (.int .i64 0), 1, 8) := by kernel_rfl

set_option maxRecDepth 100000 in
set_option maxHeartbeats 1000000 in
theorem begins_any (k : Int) (w : World) :
    Calls Tryd.prog 11 #[.int .i64 k] w fun e w' => Made cu w w' e (begs k) := by
  by_cases h0 : k = 0
  · subst h0
    go_enter Tryd.func11, Tryd.ntmps11
    go_wp2
    go_ret
    rw [begs_zero]
    refine ⟨_, _, rfl, (datE_row cu w _ 23 (0, 0) _ (by rfl)).mono (Nat.le_refl _) (by simp), (Below.refl _ _).alloc (Nat.le_refl _) _⟩
  by_cases h2 : k = 2
  · subst h2
    go_enter Tryd.func11, Tryd.ntmps11
    go_wp2
    go_ret
    rw [begs_two]
    refine ⟨_, _, rfl, (datE_row cu w _ 23 (0, 0) _ (by rfl)).mono (Nat.le_refl _) (by simp), (Below.refl _ _).alloc (Nat.le_refl _) _⟩
  have e0 : (k == 0) = false := by simp; omega
  have e2 : (k == 2) = false := by simp; omega
  by_cases h1 : k = 1
  · subst h1
    obtain ⟨i0, hi0, hz0, hz1, hz2⟩ := info_parts u32_info
    rw [begs_one]
    go_enter Tryd.func11, Tryd.ntmps11
    go_wp2_with fail
    go_loopg [3, 4, 5] 32 (fun gh v y i wx => ∃ j : Nat, j + gh = 32 ∧ i = .int .i64 (j : Int) ∧ y = .int .u32 ((2 ^ j % 4294967296 : Nat) : Int) ∧ OwE cu wx 23 w.heap.size v ((List.range j).map (2 ^ ·)) ∧ Below w.heap.size w wx)
    case atStart => exact ⟨0, rfl, rfl, rfl, OwE.nil _ _ _ _, Below.refl _ _⟩
    case round =>
      obtain ⟨j, hj, rfl, rfl, ho, hB⟩ := hrel
      have HJ := Lib.hid hj
      have hj32 : j ≤ 32 := by omega
      clear hj
      by_cases hlt : j < 32
      · have hp : 2 ^ j ≤ 2 ^ 31 := Nat.pow_le_pow_right (by omega) (by omega)
        have HN : Hid (2 ^ (j + 1) % 4294967296 = (2 ^ j % 4294967296) * 2 % 4294967296) := by unfold Hid; rw [Nat.pow_succ]; omega
        have HE : Hid ((2 : Nat) ^ j = 2 ^ j % 4294967296) := by show (2 : Nat) ^ j = 2 ^ j % 4294967296; exact (Nat.mod_eq_of_lt (Nat.lt_of_le_of_lt hp (by decide))).symm
        obtain ⟨y, hy⟩ : ∃ y, y = 2 ^ j % 4294967296 := ⟨_, rfl⟩
        rw [← hy] at HN HE
        rw [← hy]
        have hy4 : y < 4294967296 := by omega
        have hwr : IntKind.u32.wrap ((y : Int) * 2) = ((y * 2 % 4294967296 : Nat) : Int) := by rw [IntKind.wrap_u32']; omega
        clear hy hp
        have hw2 := hB.size
        have HA := Lib.hid (ho.alloc (.cells #[.int .u32 (y : Int)] 23))
        have HD1 := Lib.hid (datE_one cu wr y 23 _ rfl)
        have HO2 := Lib.hid ho
        have HB2 := Lib.hid hB
        clear ho hB
        go_wp2_with (at_builtin; refine list_appE cu_one _ rfl _ _ 28 rfl i0 (.int .u32 0) 4 Tryd.underlying28 hi0 hz0 hz1 hz2 rfl (by decide) rfl HA.out rfl HD1.out rfl ?_ ?_ ?_)
        · simp; omega
        · simp; omega
        intro v1 w1 ho1 hg1 _
        have HG := Lib.hid (grow_own HB2.out HO2.out hg1)
        have HO3 := Lib.hid ho1
        clear ho1 hg1
        go_wp2_with fail
        go_roundg (32 - (j + 1))
        case measure => have := HJ.out; omega
        case rel => exact ⟨j + 1, by omega, by go_num, by rw [HN.out]; simp, by rw [List.range_succ, List.map_append]; show OwE cu _ _ _ _ (_ ++ [2 ^ j]); rw [HE.out]; exact HO3.out, HG.out⟩
      · obtain rfl : j = 32 := by omega
        obtain ⟨A, c, rfl, hc, hd⟩ := ho.form
        rw [List.length_map, List.length_range] at hc
        go_wp2_with fail
        go_ret
        exact ⟨A, c, by simp, hd, hB⟩
  · have e1 : (k == 1) = false := by simp; omega
    have hz : begs k = [] := by unfold begs; rw [if_pos (by omega)]
    rw [hz]
    go_enter Tryd.func11, Tryd.ntmps11
    go_wp2_with fail
    go_loopg [3, 4, 5] 0 (fun _ v y i wx => w = wx ∧ i = .int .i64 0 ∧ v = .slice none 0 0)
    case atStart => exact ⟨rfl, rfl, rfl⟩
    case round =>
      obtain ⟨rfl, rfl, rfl⟩ := hrel
      go_wp2_with fail
      go_ret
      exact ⟨_, _, rfl, DatE.nil _ _ _ _ _, Below.refl _ _⟩

set_option maxRecDepth 100000 in
set_option maxHeartbeats 1000000 in
theorem adds_any (k : Int) (w : World) :
    Calls Tryd.prog 16 #[.int .i64 k] w fun e w' => Made ci w w' e (adds k) := by
  by_cases h0 : k = 0
  · subst h0
    go_enter Tryd.func16, Tryd.ntmps16
    go_wp2
    go_ret
    rw [adds_zero]
    refine ⟨_, _, rfl, (datE_row ci w _ 3 (0, 0) _ (by rfl)).mono (Nat.le_refl _) (by simp), (Below.refl _ _).alloc (Nat.le_refl _) _⟩
  by_cases h2 : k = 2
  · subst h2
    go_enter Tryd.func16, Tryd.ntmps16
    go_wp2
    go_ret
    rw [adds_two]
    refine ⟨_, _, rfl, (datE_row ci w _ 3 (0, 0) _ (by rfl)).mono (Nat.le_refl _) (by simp), (Below.refl _ _).alloc (Nat.le_refl _) _⟩
  have e0 : (k == 0) = false := by simp; omega
  have e2 : (k == 2) = false := by simp; omega
  by_cases h1 : k = 1
  · subst h1
    obtain ⟨i0, hi0, hz0, hz1, hz2⟩ := info_parts int_info
    rw [adds_one]
    go_enter Tryd.func16, Tryd.ntmps16
    go_wp2_with fail
    go_loopg [3, 4] 32 (fun gh v i wx => ∃ j : Nat, j + gh = 32 ∧ i = .int .i64 (j : Int) ∧ OwE ci wx 3 w.heap.size v (List.range j) ∧ Below w.heap.size w wx)
    case atStart => exact ⟨0, rfl, rfl, OwE.nil _ _ _ _, Below.refl _ _⟩
    case round =>
      obtain ⟨j, hj, rfl, ho, hB⟩ := hrel
      have HJ := Lib.hid hj
      have hj32 : j ≤ 32 := by omega
      clear hj
      by_cases hlt : j < 32
      · have hw2 := hB.size
        have HA := Lib.hid (ho.alloc (.cells #[.int .i64 (j : Int)] 3))
        have HD1 := Lib.hid (datE_one ci wr j 3 _ rfl)
        have HO2 := Lib.hid ho
        have HB2 := Lib.hid hB
        clear ho hB
        go_wp2_with (at_builtin; refine list_appE ci_one _ rfl _ _ 43 rfl i0 (.int .i64 0) 8 Tryd.underlying43 hi0 hz0 hz1 hz2 rfl (by decide) rfl HA.out rfl HD1.out rfl ?_ ?_ ?_)
        · simp; omega
        · simp; omega
        intro v1 w1 ho1 hg1 _
        have HG := Lib.hid (grow_own HB2.out HO2.out hg1)
        have HO3 := Lib.hid ho1
        clear ho1 hg1
        go_wp2_with fail
        go_roundg (32 - (j + 1))
        case measure => have := HJ.out; omega
        case rel => exact ⟨j + 1, by omega, by go_num, by rw [List.range_succ]; exact HO3.out, HG.out⟩
      · obtain rfl : j = 32 := by omega
        obtain ⟨A, c, rfl, hc, hd⟩ := ho.form
        rw [List.length_range] at hc
        go_wp2_with fail
        go_ret
        exact ⟨A, c, by simp, hd, hB⟩
  · have e1 : (k == 1) = false := by simp; omega
    have hz : adds k = [] := by unfold adds; rw [if_pos (by omega)]
    rw [hz]
    go_enter Tryd.func16, Tryd.ntmps16
    go_wp2_with fail
    go_loopg [3, 4] 0 (fun _ v i wx => w = wx ∧ i = .int .i64 0 ∧ v = .slice none 0 0)
    case atStart => exact ⟨rfl, rfl, rfl⟩
    case round =>
      obtain ⟨rfl, rfl, rfl⟩ := hrel
      go_wp2_with fail
      go_ret
      exact ⟨_, _, rfl, DatE.nil _ _ _ _ _, Below.refl _ _⟩
end Go.Proofs.YtcekhmomilhmoaaDoor
