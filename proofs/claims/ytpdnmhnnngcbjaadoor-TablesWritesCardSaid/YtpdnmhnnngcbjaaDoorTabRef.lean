
/- The contracts of the document's tables: Given, Default, Most, Same, One; of how many codes there are; of the law's tableOf. -/
import Derived.Test.YtpdnmhnnngcbjaaDoorTabWrite
import Derived.Test.YtpdnmhnnngcbjaaDoorPileD
import Derived.Test.YtpdnmhnnngcbjaaDoorPileC
namespace Go.Proofs.YtpdnmhnnngcbjaaDoor
open Go.RowKit

def cu (n : Nat) : Value := .int .u32 (n : Int)
theorem cu_one (n : Nat) : (cu n).oneCell' = true := rfl
theorem u32_info : (Tryd.prog.info? 50).map (fun i => (i.zero, i.size, i.bytes)) = some (some (.int .u32 0), 1, 4) := by kernel_rfl

/-- How many codes a kind has. -/
def manyZ (k : Int) : Nat := if k < 0 ∨ 2 < k then 0 else lastN k.toNat + 1
theorem manyZ_nat {n : Nat} (h : n < 3) : manyZ (n : Int) = lastN n + 1 := by unfold manyZ; rw [if_neg (by omega)]; rfl

set_option maxRecDepth 100000 in
set_option maxHeartbeats 1000000 in
theorem begins_any (k : Int) (w : World) :
    Calls Tryd.prog 8 #[.int .i64 k] w fun e w' => ∃ A c, e = .returned (.slice A (manyZ k) c) ∧ Below w.heap.size w w' := by
  by_cases h0 : k = 0
  · subst h0
    go_enter Tryd.func8, Tryd.ntmps8
    go_wp2
    go_ret
    exact ⟨_, _, rfl, (Below.refl _ _).alloc (Nat.le_refl _) _⟩
  by_cases h2 : k = 2
  · subst h2
    go_enter Tryd.func8, Tryd.ntmps8
    go_wp2
    go_ret
    exact ⟨_, _, rfl, (Below.refl _ _).alloc (Nat.le_refl _) _⟩
  have e0 : (k == 0) = false := by simp; omega
  have e2 : (k == 2) = false := by simp; omega
  by_cases h1 : k = 1
  · subst h1
    obtain ⟨i0, hi0, hz0, hz1, hz2⟩ := info_parts u32_info
    go_enter Tryd.func8, Tryd.ntmps8
    go_wp2_with fail
    go_loopg [3, 4, 5] 32 (fun gh v y i wx => ∃ (j Y : Nat) (L : List Nat), j + gh = 32 ∧ L.length = j ∧ i = .int .i64 (j : Int) ∧ y = .int .u32 (Y : Int) ∧ OwE cu wx 50 w.heap.size v L ∧ Below w.heap.size w wx)
    case atStart => exact ⟨0, 1, [], rfl, rfl, rfl, rfl, OwE.nil _ _ _ _, Below.refl _ _⟩
    case round =>
      obtain ⟨j, Y, L, hj, hL, rfl, rfl, ho, hB⟩ := hrel
      have HJ := Lib.hid hj
      have HLn := Lib.hid hL
      have hj32 : j ≤ 32 := by omega
      clear hj
      by_cases hlt : j < 32
      · have hL2 : L.length + 1 ≤ 1099511627776 := by omega
        obtain ⟨Z, hZ⟩ : ∃ Z : Nat, IntKind.u32.wrap ((Y : Int) * 2) = (Z : Int) := ⟨(IntKind.u32.wrap ((Y : Int) * 2)).toNat, by rw [IntKind.wrap_u32']; omega⟩
        have hw2 := hB.size
        have HA := Lib.hid (ho.alloc (.cells #[.int .u32 (Y : Int)] 50))
        have HD1 := Lib.hid (datE_one cu wr Y 50 _ rfl)
        have HO2 := Lib.hid ho
        have HB2 := Lib.hid hB
        clear ho hB hL
        go_wp2_with (at_builtin; refine list_appE cu_one _ rfl _ _ 31 rfl i0 (.int .u32 0) 4 Tryd.underlying31 hi0 hz0 hz1 hz2 rfl (by decide) rfl HA.out rfl HD1.out rfl ?_ ?_ ?_)
        · exact hL2
        · simp; omega
        intro v1 w1 ho1 hg1 _
        have HG := Lib.hid ((HB2.out.alloc HB2.out.size (.cells #[.int .u32 (Y : Int)] 50)).grown hg1 (HB2.out.alloc HB2.out.size _).size fun k hk => (HO2.out.block k hk).1)
        have HO3 := Lib.hid ho1
        clear ho1 hg1
        go_wp2_with fail
        go_roundg (32 - (j + 1))
        case measure => have := HJ.out; omega
        case rel => exact ⟨j + 1, Z, _, by omega, by rw [List.length_append, HLn.out]; rfl, by go_num, rfl, HO3.out, HG.out⟩
      · obtain rfl : j = 32 := by omega
        obtain ⟨A, c, rfl, hc, hd⟩ := ho.form
        rw [hL] at hc ⊢
        go_wp2_with fail
        go_ret
        exact ⟨A, c, rfl, hB⟩
  · have e1 : (k == 1) = false := by simp; omega
    have hz : manyZ k = 0 := by unfold manyZ; rw [if_pos (by omega)]
    rw [hz]
    go_enter Tryd.func8, Tryd.ntmps8
    go_wp2_with fail
    go_loopg [3, 4, 5] 0 (fun _ v y i wx => w = wx ∧ i = .int .i64 0 ∧ v = .slice none 0 0)
    case atStart => exact ⟨rfl, rfl, rfl⟩
    case round =>
      obtain ⟨rfl, rfl, rfl⟩ := hrel
      go_wp2_with fail
      go_ret
      exact ⟨_, _, rfl, Below.refl _ _⟩

theorem refMost_any (n : Nat) (w : World) (hn : n < 3) :
    Calls Tryd.prog 24 #[.int .i64 (n : Int)] w fun e w' => e = .returned (.int .i64 (mostN n : Int)) ∧ w = w' := by
  rcases (show n = 0 ∨ n = 1 ∨ n = 2 by omega) with rfl | rfl | rfl
  all_goals
    go_enter Tryd.func24, Tryd.ntmps24
    go_wp2
    go_ret
    exact ⟨rfl, rfl⟩

theorem datE_row2 {α : Type} (f : α → Value) (w : World) (o : Obj) (xs : List α) (u : TypeId) (cs : Array Value) (h : cs.toList = xs.map f) :
    DatE f ((w.alloc o).alloc (.cells cs u)) w.heap.size ((w.alloc o).alloc (.cells cs u)).heap.size (some ⟨w.heap.size + 1, 0, none⟩) xs := by
  have h1 := datE_row f (w.alloc o) xs u cs h
  rw [World.size_alloc] at h1
  exact h1.mono (by omega) (by simp)
set_option maxRecDepth 100000 in
set_option maxHeartbeats 2000000 in
theorem refGiven_any (n : Nat) (w : World) (hn : n < 3) :
    Calls Tryd.prog 41 #[.int .i64 (n : Int)] w fun e w' => ∃ d c, e = .returned (.agg #[.int .i64 (logN n : Int), .slice (some ⟨d, 0, none⟩) (partsN n).length c]) ∧ (partsN n).length ≤ c ∧ DatE icel w' w.heap.size w'.heap.size (some ⟨d, 0, none⟩) (partsN n) ∧ Below w.heap.size w w' := by
  rcases (show n = 0 ∨ n = 1 ∨ n = 2 by omega) with rfl | rfl | rfl
  all_goals
    go_enter Tryd.func41, Tryd.ntmps41
    go_wp2
    refine bodyPost_ret (v := .agg #[.int .i64 (logN _ : Int), .slice (some ⟨w.heap.size + 1, 0, none⟩) (partsN _).length (partsN _).length]) (by simp [results, Tryd.results41, go_sem]; exact ⟨rfl, rfl⟩) rfl ⟨w.heap.size + 1, _, rfl, Nat.le_refl _, ?_, ?_⟩
    · exact datE_row2 icel w _ _ _ _ rfl
    · exact ((Below.refl _ _).alloc (Nat.le_refl _) _).alloc (by simp) _

theorem refOneT_any (s : Int) (w : World) :
    Calls Tryd.prog 22 #[.int .i64 s] w fun r w' => ∃ v, r = .returned (.agg #[.int .i64 0, v]) ∧ OwR 3 rcell w' 68 w.heap.size v [⟨s, 0, 0⟩] ∧ Below w.heap.size w w' := by
  go_enter Tryd.func22, Tryd.ntmps22
  go_wp2_with fail
  refine bodyPost_ret (v := .agg #[.int .i64 0, .slice (some ⟨w.heap.size + 1, 0, none⟩) 1 1]) (by simp [results, Tryd.results22, go_sem]) rfl ⟨_, rfl, ?_, ?_⟩
  · refine ⟨rfl, .inr ⟨w.heap.size + 1, 1, #[.int .i64 s, .int .i64 0, .int .i64 0], rfl, by omega, ?_, Nat.le_refl _, by decide, rfl, rfl⟩⟩
    have := heap_alloc_new (w.alloc (.cells #[.int .i64 0, .slice (some ⟨w.heap.size + 1, 0, none⟩) 1 1] 35)) (.cells #[.int .i64 s, .int .i64 0, .int .i64 0] 68)
    rw [World.size_alloc] at this
    exact this
  · exact ((Below.refl _ _).alloc (Nat.le_refl _) _).alloc (by simp) _

set_option maxRecDepth 100000 in
set_option maxHeartbeats 1000000 in
theorem same12_yes {w : World} {lo hi lo2 hi2 n c c2 : Nat} {A A2 : Option Addr} {es : List En} (L : Int) (hd : DatR 3 rcell w lo hi A es) (hd2 : DatR 3 rcell w lo2 hi2 A2 es) (hn : es.length = n) (hn2 : n ≤ 65536) (hhi : hi ≤ w.heap.size) (hhi2 : hi2 ≤ w.heap.size) :
    Calls Tryd.prog 10 #[.agg #[.int .i64 L, .slice A n c], .agg #[.int .i64 L, .slice A2 n c2]] w fun e w' => e = .returned (.bool true) ∧ Below w.heap.size w w' := by
  have hb0 := (Box.new w 35 #[.int .i64 L, .slice A n c]).alloc (.cells #[.int .i64 L, .slice A2 n c2] 35)
  have hb1 := Box.new (w.alloc (.cells #[.int .i64 L, .slice A n c] 35)) 35 #[.int .i64 L, .slice A2 n c2]
  rw [World.size_alloc] at hb1
  have hB : Below w.heap.size w ((w.alloc (.cells #[.int .i64 L, .slice A n c] 35)).alloc (.cells #[.int .i64 L, .slice A2 n c2] 35)) := ((Below.refl _ _).alloc (Nat.le_refl _) _).alloc (by simp) _
  have HD := Lib.hid (hd.below hB hhi)
  have HD2 := Lib.hid (hd2.below hB hhi2)
  have HN := Lib.hid hn
  have HB := Lib.hid hB
  obtain ⟨t0, t1, _, _⟩ := box2 hb0
  obtain ⟨r0, r1, _, _⟩ := box2 hb1
  clear hd hd2 hn hb0 hb1 hB
  go_enter Tryd.func10, Tryd.ntmps10
  go_wp2_with fail
  generalize (w.alloc (.cells #[.int .i64 L, .slice A n c] 35)).alloc (.cells #[.int .i64 L, .slice A2 n c2] 35) = W at *
  go_loopg [5] n (fun gh v wx => ∃ i q : Nat, i + gh = n ∧ v = .int .i64 (i : Int) ∧ wx = W.drewN q)
  case atStart => exact ⟨0, 0, by omega, rfl, rfl⟩
  case round =>
    obtain ⟨i, q, hi, rfl, rfl⟩ := hrel
    have HI := Lib.hid hi
    have hin : i ≤ n := by omega
    clear hi
    by_cases hlt : i < n
    · obtain ⟨g', rfl⟩ : ∃ g', gk = g' + 1 := ⟨gk - 1, by have := HI.out; omega⟩
      have hil : i < es.length := by have := HN.out; omega
      have hki : (i : Int) < (n : Int) := by omega
      have hi0 : (0 : Int) ≤ (i : Int) := by omega
      obtain ⟨d, o, rfl, _, _, hc⟩ := HD.out.ref (by omega)
      obtain ⟨d2, o2, rfl, _, _, hc2⟩ := HD2.out.ref (by omega)
      obtain ⟨p0, p1, p2⟩ := hc i hil
      obtain ⟨y0, y1, y2⟩ := hc2 i hil
      clear hc hc2
      generalize es[i] = x at *
      obtain ⟨s9, b9, e9⟩ := x
      simp only at p0 p1 p2 y0 y1 y2
      go_wp2_with fail
      go_quiet (fail)
      go_wp2_with fail
      go_roundg g'
      case rel => exact ⟨i + 1, _, by have := HI.out; omega, by go_num, rfl⟩
      case measure => omega
    · obtain rfl : i = n := by omega
      have hki : ¬ (i : Int) < (i : Int) := by omega
      go_wp2_with fail
      go_ret
      exact ⟨rfl, below_drewN HB.out _⟩
end Go.Proofs.YtpdnmhnnngcbjaaDoor
