
/- The contracts of the program's countsOf and part. -/
import Derived.Test.YtjpjbbbpmhcgnaaHufFourP
import Derived.Test.YtjpjbbbpmhcgnaaPileA
import Derived.Deep.RegionHeld3
import Derived.Deep.RegionWith
import Derived.Deep.LoopGhost
namespace Go.Proofs.Ytjpjbbbpmhcgnaa
open Go.RowKit

theorem info_int3 : (Try.prog.info? 3).map (·.size) = some 1 := by kernel_rfl
theorem idx3_zero (x y z : Int) (W : World) : (Instr.index 86 (.agg #[.int .i64 x, .int .i64 y, .int .i64 z]) (.int .i64 0)).run Try.prog W = .ok (.int .i64 x) W := by
  obtain ⟨i0, hi0, hi1⟩ := Option.map_eq_some_iff.1 info_int3
  simp [Instr.index, run_underlying Try.underlying86, asIntOf, sizeOf, typeInfo, hi0, hi1, part, go_sem]
theorem idx3_one (x y z : Int) (W : World) : (Instr.index 86 (.agg #[.int .i64 x, .int .i64 y, .int .i64 z]) (.int .i64 1)).run Try.prog W = .ok (.int .i64 y) W := by
  obtain ⟨i0, hi0, hi1⟩ := Option.map_eq_some_iff.1 info_int3
  simp [Instr.index, run_underlying Try.underlying86, asIntOf, sizeOf, typeInfo, hi0, hi1, part, go_sem]
theorem idx3_two (x y z : Int) (W : World) : (Instr.index 86 (.agg #[.int .i64 x, .int .i64 y, .int .i64 z]) (.int .i64 2)).run Try.prog W = .ok (.int .i64 z) W := by
  obtain ⟨i0, hi0, hi1⟩ := Option.map_eq_some_iff.1 info_int3
  simp [Instr.index, run_underlying Try.underlying86, asIntOf, sizeOf, typeInfo, hi0, hi1, part, go_sem]
theorem cu.Sl.keep {own : Bool} {w w' : World} {lo hi : Nat} {v : Value} {xs : List UInt8} (h : cu.Sl own w lo hi v xs) (he : ∀ k, lo ≤ k → k < hi → w'.heap[k]? = w.heap[k]?) : cu.Sl own w' lo hi v xs := by
  obtain ⟨A, c, hv, hc, hd⟩ := h
  exact ⟨A, c, hv, hc, hd.keep he⟩

section
variable {w : World}
set_option maxRecDepth 100000 in
set_option maxHeartbeats 2000000 in
theorem countsOf_any (n : Nat) (hn : n ≤ 1000000000000) :
    Calls Try.prog 23 #[.int .i64 (n : Int)] w fun e w' => Below w.heap.size w w' ∧
      ((3 * kF n ≤ n ∧ e = .returned (.tuple #[.agg #[.int .i64 (kF n : Nat), .int .i64 (kF n : Nat), .int .i64 (kF n : Nat), .int .i64 (n - 3 * kF n : Nat)], .bool true])) ∨
       (n < 3 * kF n ∧ e = .returned (.tuple #[.agg #[.int .i64 0, .int .i64 0, .int .i64 0, .int .i64 0], .bool false]))) := by
  obtain ⟨k, hk⟩ : ∃ k, k = kF n := ⟨_, rfl⟩
  rw [← hk]
  have hkn : ((n : Int) + 4 - 1) / 4 = (k : Int) := by rw [hk]; unfold kF; omega
  have hkl : k ≤ n + 1 := by rw [hk]; unfold kF; omega
  have hk0 : (0 : Int) ≤ (k : Int) := by omega
  clear hk
  by_cases h : 3 * k ≤ n
  · have h1 : ¬ (n : Int) - 3 * (k : Int) < 0 := by omega
    have h2 : Hid (((n - 3 * k : Nat) : Int) = (n : Int) - 3 * (k : Int)) := by show _ = _; omega
    refine (show Calls Try.prog 23 #[.int .i64 (n : Int)] w fun e w' => Below w.heap.size w w' ∧ e = .returned (.tuple #[.agg #[.int .i64 (k : Int), .int .i64 (k : Int), .int .i64 (k : Int), .int .i64 ((n : Int) - 3 * (k : Int))], .bool true]) from ?_).mono fun e w' ⟨hB, he⟩ => ⟨hB, .inl ⟨h, by rw [h2.out]; exact he⟩⟩
    clear h h2
    go_enter Try.func23, Try.ntmps23
    go_wp2_with fail
    refine bodyPost_ret (v := .tuple #[.agg #[.int .i64 (k : Int), .int .i64 (k : Int), .int .i64 (k : Int), .int .i64 ((n : Int) - 3 * (k : Int))], .bool true]) (by simp [results, Try.results23, go_sem]) rfl ⟨?_, rfl⟩
    exact (Below.refl _ _).alloc (Nat.le_refl _) _
  · have h1 : (n : Int) - 3 * (k : Int) < 0 := by omega
    refine (show Calls Try.prog 23 #[.int .i64 (n : Int)] w fun e w' => Below w.heap.size w w' ∧ e = .returned (.tuple #[.agg #[.int .i64 0, .int .i64 0, .int .i64 0, .int .i64 0], .bool false]) from ?_).mono fun e w' ⟨hB, he⟩ => ⟨hB, .inr ⟨by omega, he⟩⟩
    clear h
    go_enter Try.func23, Try.ntmps23
    go_wp2_with fail
    refine bodyPost_ret (v := .tuple #[.agg #[.int .i64 0, .int .i64 0, .int .i64 0, .int .i64 0], .bool false]) (by simp [results, Try.results23, go_sem]) rfl ⟨?_, rfl⟩
    exact (Below.refl _ _).alloc (Nat.le_refl _) _

/-- The number j where i have been read. -/
def nvz (xs : List UInt8) (i j : Nat) : Int := if j < i then (numV xs j : Int) else 0
/-- The blocks of a reader's bytes in an array of four, so many of them. -/
def PB (xs : List UInt8) (wx : World) (lo g p : Nat) : Nat → Prop
  | 0 => Box wx p 48 #[.slice none 0 0, .slice none 0 0, .slice none 0 0, .slice none 0 0]
  | 1 => ∃ v0, Box wx p 48 #[v0, .slice none 0 0, .slice none 0 0, .slice none 0 0] ∧ cu.Sl true wx lo g v0 (ptV xs 0)
  | 2 => ∃ v0 v1, Box wx p 48 #[v0, v1, .slice none 0 0, .slice none 0 0] ∧ cu.Sl true wx lo g v0 (ptV xs 0) ∧ cu.Sl true wx lo g v1 (ptV xs 1)
  | _ => ∃ v0 v1 v2, Box wx p 48 #[v0, v1, v2, .slice none 0 0] ∧ cu.Sl true wx lo g v0 (ptV xs 0) ∧ cu.Sl true wx lo g v1 (ptV xs 1) ∧ cu.Sl true wx lo g v2 (ptV xs 2)
/-- What part answers. -/
def PartPost (xs : List UInt8) (w : World) (e : Ending) (w' : World) : Prop :=
  Below w.heap.size w w' ∧ ∃ v0 v1 v2 v3 er, e = .returned (.tuple #[.agg #[v0, v1, v2, v3], .int .i64 er]) ∧
    ((SplitOk xs ∧ er = 0 ∧ cu.Sl true w' w.heap.size w'.heap.size v0 (ptF xs 0) ∧ cu.Sl true w' w.heap.size w'.heap.size v1 (ptF xs 1) ∧ cu.Sl true w' w.heap.size w'.heap.size v2 (ptF xs 2) ∧ cu.Sl true w' w.heap.size w'.heap.size v3 (ptF xs 3)) ∨ (¬ SplitOk xs ∧ er = 10 ∧ (∃ P n c, v0 = .slice P n c) ∧ (∃ P n c, v1 = .slice P n c) ∧ (∃ P n c, v2 = .slice P n c) ∧ ∃ P n c, v3 = .slice P n c))

set_option maxRecDepth 100000 in
set_option maxHeartbeats 4000000 in
theorem part_any {own : Bool} {lo hi m c : Nat} {A : Option Addr} {xs : List UInt8} (hd : Dat own w lo hi A xs) (hm : xs.length = m) (hmb : m ≤ 1099511627776) (hhi : hi ≤ w.heap.size) :
    Calls Try.prog 24 #[.slice A m c] w (PartPost xs w) := by
  have hlx := hm
  have HRd := fun W (h : Below w.heap.size w W) => Lib.hid (cu.reader_any (w := W) (c := c) (hd.below h hhi) hm (by omega) (by have := h.size; omega))
  clear hd
  go_enter Try.func24, Try.ntmps24
  go_wp2_with fail
  refine (HRd _ ((Below.refl _ w).alloc (Nat.le_refl _) _)).out.mono ?_
  rintro e w1 ⟨g, rfl, hg, hR, hB1⟩
  have hB1 := hB1
  rw [World.size_alloc] at hg hR hB1
  have hs1 := hB1.size
  rw [World.size_alloc] at hs1
  have hg1 := hR.lt
  have hr0 : Box w1 w.heap.size 48 #[.slice none 0 0, .slice none 0 0, .slice none 0 0, .slice none 0 0] := (Box.new w _ _).below hB1 (by omega)
  have hBw : Below w.heap.size w w1 := ((Below.refl _ w).alloc (Nat.le_refl _) _).trans (hB1.mono (by omega))
  have H1 := Lib.hid (And.intro hR (And.intro hr0 hBw))
  clear hR hr0 hBw hB1 HRd
  go_wp2_with fail
  have hbs := Box.new w1 86 #[.int .i64 0, .int .i64 0, .int .i64 0]
  have H2 := Lib.hid (And.intro (H1.out.1.alloc (.cells #[.int .i64 0, .int .i64 0, .int .i64 0] 86)) (And.intro (H1.out.2.1.alloc (.cells #[.int .i64 0, .int .i64 0, .int .i64 0] 86)) (And.intro hbs (H1.out.2.2.alloc (by omega) (.cells #[.int .i64 0, .int .i64 0, .int .i64 0] 86)))))
  clear hbs
  generalize w1.alloc (.cells #[.int .i64 0, .int .i64 0, .int .i64 0] 86) = w2 at *
  go_loopg [12] 3 (fun gh vi wx => ∃ i : Nat, vi = .int .i64 (i : Int) ∧ i + gh = 3 ∧ cu.RD true wx (w.heap.size + 1) g (numS xs i).1 (numS xs i).2 ∧
    Box wx w.heap.size 48 #[.slice none 0 0, .slice none 0 0, .slice none 0 0, .slice none 0 0] ∧ Box wx w1.heap.size 86 #[.int .i64 (nvz xs i 0), .int .i64 (nvz xs i 1), .int .i64 (nvz xs i 2)] ∧ Below w.heap.size w wx)
  case atStart => exact ⟨0, rfl, rfl, H2.out.1, H2.out.2.1, H2.out.2.2.1, H2.out.2.2.2⟩
  case round =>
    clear H2 H1
    obtain ⟨i, rfl, hi, hR, hb0, hbs, hB⟩ := hrel
    by_cases hlt : i < 3
    · obtain ⟨g', rfl⟩ : ∃ g', gk = g' + 1 := ⟨gk - 1, by omega⟩
      have HN := Lib.hid (cu.number_yes (m := 2) hR (by omega) (by omega))
      have hn16 := numV_lt (xs := xs) i
      rw [show le (cu.tk (numS xs i).1 (numS xs i).2 2 true).2.2 = numV xs i from rfl, show ((cu.tk (numS xs i).1 (numS xs i).2 2 true).1) = (numS xs (i + 1)).1 from rfl, show ((cu.tk (numS xs i).1 (numS xs i).2 2 true).2.1) = (numS xs (i + 1)).2 from rfl] at HN
      have HX := Lib.hid (And.intro hb0 (And.intro hbs hB))
      have hbl := hbs.lt
      have hwn : IntKind.i64.wrap (numV xs i : Int) = (numV xs i : Int) := IntWalk.i64_in _ (by omega)
      have hnz : nvz xs (i + 1) i = (numV xs i : Int) := by unfold nvz; rw [if_pos (by omega)]
      have hnx : ∀ j, j ≠ i → nvz xs (i + 1) j = nvz xs i j := fun j hj => by
        unfold nvz
        by_cases h : j < i
        · rw [if_pos h, if_pos (by omega)]
        · rw [if_neg h, if_neg (by omega)]
      have HNz := Lib.hid (And.intro hnz hnx)
      clear hR hb0 hbs hB hnz hnx
      generalize numV xs i = V at *
      have hiz : (i : Int) < 3 := by omega
      rcases (show i = 0 ∨ i = 1 ∨ i = 2 by omega) with rfl | rfl | rfl
      · go_wp2_with (go_at_call 40; refine HN.out.mono ?_; rintro e w4 ⟨rfl, hR4, hS4⟩; have e4 := HX.out.2.1.grown hS4.1 (by intro e; injection e with e; omega); have c0 : w4.cell? ⟨w1.heap.size, 0, none⟩ = some (.int .i64 (nvz xs 0 0)) := e4.cell 0; have f0 := e4.free 0; have he4 := Lib.hid e4; clear e4)
        go_roundg g'
        case measure => omega
        case rel =>
          refine ⟨0 + 1, by go_num, by omega, hR4.far (.inr (by exact hg1)) hg _, (HX.out.1.grown hS4.1 (by intro e; injection e with e; omega)).far (by show w.heap.size ≠ w1.heap.size; omega) _, ?_, (HX.out.2.2.trans (Below.grown (Below.refl _ wr) hS4.1 HX.out.2.2.size (by intro k e; injection e with e; omega))).setCell (by show w.heap.size ≤ w1.heap.size; omega) _⟩
          have hp := he4.out.put 0 (.int .i64 (V : Int))
          rw [HNz.out.1, HNz.out.2 1 (by decide), HNz.out.2 2 (by decide)]
          exact hp
      · go_wp2_with (go_at_call 40; refine HN.out.mono ?_; rintro e w4 ⟨rfl, hR4, hS4⟩; have e4 := HX.out.2.1.grown hS4.1 (by intro e; injection e with e; omega); have c0 : w4.cell? ⟨w1.heap.size, 1, none⟩ = some (.int .i64 (nvz xs 1 1)) := e4.cell 1; have f0 := e4.free 1; have he4 := Lib.hid e4; clear e4)
        go_roundg g'
        case measure => omega
        case rel =>
          refine ⟨1 + 1, by go_num, by omega, hR4.far (.inr (by exact hg1)) hg _, (HX.out.1.grown hS4.1 (by intro e; injection e with e; omega)).far (by show w.heap.size ≠ w1.heap.size; omega) _, ?_, (HX.out.2.2.trans (Below.grown (Below.refl _ wr) hS4.1 HX.out.2.2.size (by intro k e; injection e with e; omega))).setCell (by show w.heap.size ≤ w1.heap.size; omega) _⟩
          have hp := he4.out.put 1 (.int .i64 (V : Int))
          rw [HNz.out.1, HNz.out.2 0 (by decide), HNz.out.2 2 (by decide)]
          exact hp
      · go_wp2_with (go_at_call 40; refine HN.out.mono ?_; rintro e w4 ⟨rfl, hR4, hS4⟩; have e4 := HX.out.2.1.grown hS4.1 (by intro e; injection e with e; omega); have c0 : w4.cell? ⟨w1.heap.size, 2, none⟩ = some (.int .i64 (nvz xs 2 2)) := e4.cell 2; have f0 := e4.free 2; have he4 := Lib.hid e4; clear e4)
        go_roundg g'
        case measure => omega
        case rel =>
          refine ⟨2 + 1, by go_num, by omega, hR4.far (.inr (by exact hg1)) hg _, (HX.out.1.grown hS4.1 (by intro e; injection e with e; omega)).far (by show w.heap.size ≠ w1.heap.size; omega) _, ?_, (HX.out.2.2.trans (Below.grown (Below.refl _ wr) hS4.1 HX.out.2.2.size (by intro k e; injection e with e; omega))).setCell (by show w.heap.size ≤ w1.heap.size; omega) _⟩
          have hp := he4.out.put 2 (.int .i64 (V : Int))
          rw [HNz.out.1, HNz.out.2 0 (by decide), HNz.out.2 1 (by decide)]
          exact hp
    · obtain rfl : i = 3 := by omega
      have hiz : ¬ ((3 : Nat) : Int) < 3 := by decide
      have c0 : wr.cell? ⟨w1.heap.size, 0, none⟩ = some (.int .i64 (numV xs 0 : Int)) := hbs.cell 0
      have c1 : wr.cell? ⟨w1.heap.size, 1, none⟩ = some (.int .i64 (numV xs 1 : Int)) := hbs.cell 1
      have c2 : wr.cell? ⟨w1.heap.size, 2, none⟩ = some (.int .i64 (numV xs 2 : Int)) := hbs.cell 2
      have hbl := hbs.lt
      have hv0 := numV_lt (xs := xs) 0
      have hv1 := numV_lt (xs := xs) 1
      have hv2 := numV_lt (xs := xs) 2
      have hRl := hR.lt
      have hp0 := Box.new wr 48 #[.slice none 0 0, .slice none 0 0, .slice none 0 0, .slice none 0 0]
      have H3 := Lib.hid (And.intro (hR.alloc (.cells #[.slice none 0 0, .slice none 0 0, .slice none 0 0, .slice none 0 0] 48)) (And.intro (hb0.alloc (.cells #[.slice none 0 0, .slice none 0 0, .slice none 0 0, .slice none 0 0] 48)) (And.intro hp0 (hB.alloc hB.size (.cells #[.slice none 0 0, .slice none 0 0, .slice none 0 0, .slice none 0 0] 48)))))
      clear hR hb0 hbs hB hp0
      go_wp2_with fail
      generalize wr.alloc (.cells #[.slice none 0 0, .slice none 0 0, .slice none 0 0, .slice none 0 0] 48) = w3 at *
      have HP : Hid (wr.heap.size = wr.heap.size) := rfl
      obtain ⟨p, hp⟩ : ∃ p, p = wr.heap.size := ⟨_, rfl⟩
      rw [← hp] at H3 hRl hbl ⊢
      have hRp : g < p := hRl
      clear hp HP c0 c1 c2
      go_loopg [22] 3 (fun gh vi wx => ∃ i : Nat, vi = .int .i64 (i : Int) ∧ i + gh = 3 ∧ cu.RD true wx (w.heap.size + 1) g (ptS xs i).1 (ptS xs i).2 ∧
        Box wx w.heap.size 48 #[.slice none 0 0, .slice none 0 0, .slice none 0 0, .slice none 0 0] ∧ PB xs wx (w.heap.size + 1) g p i ∧ Below w.heap.size w wx)
      case atStart => exact ⟨0, rfl, rfl, H3.out.1, H3.out.2.1, H3.out.2.2.1, H3.out.2.2.2⟩
      case round =>
        clear H3
        obtain ⟨i, rfl, hi, hR, hb0, hPB, hB⟩ := hrel
        by_cases hlt : i < 3
        · obtain ⟨g', rfl⟩ : ∃ g', gk = g' + 1 := ⟨gk - 1, by omega⟩
          have hdec : decide ((0 : Int) ≤ (numV xs i : Int)) = true := decide_eq_true (by omega)
          have HN := Lib.hid (cu.bytes_any (m := (numV xs i : Int)) hR)
          rw [hdec] at HN
          rw [show (cu.tk (ptS xs i).1 (ptS xs i).2 (numV xs i : Int) true).2.2 = ptV xs i from rfl, show ((cu.tk (ptS xs i).1 (ptS xs i).2 (numV xs i : Int) true).1) = (ptS xs (i + 1)).1 from rfl, show ((cu.tk (ptS xs i).1 (ptS xs i).2 (numV xs i : Int) true).2.1) = (ptS xs (i + 1)).2 from rfl] at HN
          have HX := Lib.hid (And.intro hb0 hB)
          clear hR hb0 hB hdec
          have hidx0 := idx3_zero (numV xs 0 : Int) (numV xs 1 : Int) (numV xs 2 : Int)
          have hidx1 := idx3_one (numV xs 0 : Int) (numV xs 1 : Int) (numV xs 2 : Int)
          have hidx2 := idx3_two (numV xs 0 : Int) (numV xs 1 : Int) (numV xs 2 : Int)
          have hiz : (i : Int) < 3 := by omega
          rcases (show i = 0 ∨ i = 1 ∨ i = 2 by omega) with rfl | rfl | rfl
          · simp only [PB] at hPB
            have HPB := Lib.hid hPB
            have hpl := hPB.lt
            clear hPB
            go_wp2_with (go_at_call 41; refine HN.out.mono ?_; rintro e w4 ⟨v4, rfl, ⟨A4, c4, rfl, hc4, hD4⟩, hR4, hT4⟩; have e4 := HPB.out.grown hT4.1 (by intro e; injection e with e; omega); have c0 : w4.cell? ⟨p, 0, none⟩ = some (.slice none 0 0) := e4.cell 0; have f0 := e4.free 0; have he4 := Lib.hid e4; clear e4)
            go_roundg g'
            case measure => omega
            case rel =>
              have hk4 : ∀ (z : Value) k, w.heap.size + 1 ≤ k → k < g → (w4.setCell ⟨p, 0, none⟩ z).heap[k]? = wr.heap[k]? := fun z k h1 h2 => (Below.heap_setCell w4 _ z k (by show k ≠ p; omega)).trans (hT4.1.block k (by omega) (by intro e; injection e with e; omega))
              have hk5 : ∀ (z : Value) k, w.heap.size + 1 ≤ k → k < g → (w4.setCell ⟨p, 0, none⟩ z).heap[k]? = w4.heap[k]? := fun z k h1 h2 => Below.heap_setCell w4 _ z k (by show k ≠ p; omega)
              exact ⟨0 + 1, by go_num, by omega, hR4.far (.inr (by exact hRp)) hg _, (HX.out.1.grown hT4.1 (by intro e; injection e with e; omega)).far (by show w.heap.size ≠ p; omega) _, ⟨_, he4.out.put 0 (.slice A4 (ptV xs 0).length c4), ⟨A4, c4, rfl, hc4, hD4.keep (hk5 _)⟩⟩, (HX.out.2.trans (Below.grown (Below.refl _ wr) hT4.1 HX.out.2.size (by intro k e; injection e with e; omega))).setCell (by show w.heap.size ≤ p; omega) _⟩
          · simp only [PB] at hPB
            obtain ⟨v0, hPB, hS0⟩ := hPB
            have HPB := Lib.hid hPB
            have hpl := hPB.lt
            clear hPB
            go_wp2_with (go_at_call 41; refine HN.out.mono ?_; rintro e w4 ⟨v4, rfl, ⟨A4, c4, rfl, hc4, hD4⟩, hR4, hT4⟩; have e4 := HPB.out.grown hT4.1 (by intro e; injection e with e; omega); have c0 : w4.cell? ⟨p, 1, none⟩ = some (.slice none 0 0) := e4.cell 1; have f0 := e4.free 1; have he4 := Lib.hid e4; clear e4)
            go_roundg g'
            case measure => omega
            case rel =>
              have hk4 : ∀ (z : Value) k, w.heap.size + 1 ≤ k → k < g → (w4.setCell ⟨p, 1, none⟩ z).heap[k]? = wr.heap[k]? := fun z k h1 h2 => (Below.heap_setCell w4 _ z k (by show k ≠ p; omega)).trans (hT4.1.block k (by omega) (by intro e; injection e with e; omega))
              have hk5 : ∀ (z : Value) k, w.heap.size + 1 ≤ k → k < g → (w4.setCell ⟨p, 1, none⟩ z).heap[k]? = w4.heap[k]? := fun z k h1 h2 => Below.heap_setCell w4 _ z k (by show k ≠ p; omega)
              exact ⟨1 + 1, by go_num, by omega, hR4.far (.inr (by exact hRp)) hg _, (HX.out.1.grown hT4.1 (by intro e; injection e with e; omega)).far (by show w.heap.size ≠ p; omega) _, ⟨_, _, he4.out.put 1 (.slice A4 (ptV xs 1).length c4), hS0.keep (hk4 _), ⟨A4, c4, rfl, hc4, hD4.keep (hk5 _)⟩⟩, (HX.out.2.trans (Below.grown (Below.refl _ wr) hT4.1 HX.out.2.size (by intro k e; injection e with e; omega))).setCell (by show w.heap.size ≤ p; omega) _⟩
          · simp only [PB] at hPB
            obtain ⟨v0, v1, hPB, hS0, hS1⟩ := hPB
            have HPB := Lib.hid hPB
            have hpl := hPB.lt
            clear hPB
            go_wp2_with (go_at_call 41; refine HN.out.mono ?_; rintro e w4 ⟨v4, rfl, ⟨A4, c4, rfl, hc4, hD4⟩, hR4, hT4⟩; have e4 := HPB.out.grown hT4.1 (by intro e; injection e with e; omega); have c0 : w4.cell? ⟨p, 2, none⟩ = some (.slice none 0 0) := e4.cell 2; have f0 := e4.free 2; have he4 := Lib.hid e4; clear e4)
            go_roundg g'
            case measure => omega
            case rel =>
              have hk4 : ∀ (z : Value) k, w.heap.size + 1 ≤ k → k < g → (w4.setCell ⟨p, 2, none⟩ z).heap[k]? = wr.heap[k]? := fun z k h1 h2 => (Below.heap_setCell w4 _ z k (by show k ≠ p; omega)).trans (hT4.1.block k (by omega) (by intro e; injection e with e; omega))
              have hk5 : ∀ (z : Value) k, w.heap.size + 1 ≤ k → k < g → (w4.setCell ⟨p, 2, none⟩ z).heap[k]? = w4.heap[k]? := fun z k h1 h2 => Below.heap_setCell w4 _ z k (by show k ≠ p; omega)
              exact ⟨2 + 1, by go_num, by omega, hR4.far (.inr (by exact hRp)) hg _, (HX.out.1.grown hT4.1 (by intro e; injection e with e; omega)).far (by show w.heap.size ≠ p; omega) _, ⟨_, _, _, he4.out.put 2 (.slice A4 (ptV xs 2).length c4), hS0.keep (hk4 _), hS1.keep (hk4 _), ⟨A4, c4, rfl, hc4, hD4.keep (hk5 _)⟩⟩, (HX.out.2.trans (Below.grown (Below.refl _ wr) hT4.1 HX.out.2.size (by intro k e; injection e with e; omega))).setCell (by show w.heap.size ≤ p; omega) _⟩
        · obtain rfl : i = 3 := by omega
          have hiz : ¬ ((3 : Nat) : Int) < 3 := by decide
          simp only [PB] at hPB
          obtain ⟨_, _, _, hPB, ⟨A0, c0, rfl, hc0, hD0⟩, ⟨A1, c1, rfl, hc1, hD1⟩, ⟨A2, c2, rfl, hc2, hD2⟩⟩ := hPB
          have HPB := Lib.hid (And.intro hPB (And.intro hb0 hB))
          have HDs := Lib.hid (And.intro (And.intro hc0 hD0) (And.intro (And.intro hc1 hD1) (And.intro hc2 hD2)))
          have hpl := hPB.lt
          have HLf := Lib.hid (cu.rd_left hR)
          have hdec : decide ((0 : Int) ≤ ((ptS xs 3).1.length : Int)) = true := decide_eq_true (by omega)
          have HN := Lib.hid (cu.bytes_any (m := ((ptS xs 3).1.length : Int)) hR)
          rw [hdec] at HN
          have hT : (SplitOk xs ∧ cu.tk (ptS xs 3).1 (ptS xs 3).2 ((ptS xs 3).1.length : Int) true = (((xs.drop 6).drop (offF xs 3)).drop ((xs.drop 6).drop (offF xs 3)).length, 0, ptF xs 3)) ∨ (¬ SplitOk xs ∧ cu.tk (ptS xs 3).1 (ptS xs 3).2 ((ptS xs 3).1.length : Int) true = ((ptS xs 3).1, 10, [])) := by
            by_cases h : SplitOk xs
            · refine .inl ⟨h, ?_⟩
              rw [ptS_ok h 3 (Nat.le_refl _)]
              have := tk_ok ((xs.drop 6).drop (offF xs 3)) _ (Nat.le_refl _)
              rw [List.take_length] at this
              exact this
            · refine .inr ⟨h, ?_⟩
              rw [ptS_bad h, tk_err]
          have hV : ∀ i, i < 3 → SplitOk xs → ptV xs i = ptF xs i := fun i h1 h2 => ptV_ok h2 i h1
          have HT := Lib.hid (And.intro hT hV)
          clear hR hPB hb0 hB hdec hT hV hc0 hD0 hc1 hD1 hc2 hD2
          obtain ⟨T, hTe⟩ : ∃ T, T = cu.tk (ptS xs 3).1 (ptS xs 3).2 ((ptS xs 3).1.length : Int) true := ⟨_, rfl⟩
          rw [← hTe] at HN HT
          obtain ⟨T1, T2, T3⟩ := T
          clear hTe
          dsimp only at HN HT
          generalize (ptS xs 3).1.length = q at *
          generalize hl0 : (ptV xs 0).length = l0 at *
          generalize hl1 : (ptV xs 1).length = l1 at *
          generalize hl2 : (ptV xs 2).length = l2 at *
          have HL := Lib.hid (And.intro hl0 (And.intro hl1 hl2))
          clear hl0 hl1 hl2
          go_wp2_with (first | (go_at_call 42; refine HLf.out.mono ?_; rintro e w4 ⟨rfl, rfl⟩) | (go_at_call 41; refine HN.out.mono ?_; rintro e w4 ⟨v4, rfl, ⟨A4, c4, rfl, hc4, hD4⟩, hR4, hT4⟩; have e4 := HPB.out.1.grown hT4.1 (by intro e; injection e with e; omega); have d0 : w4.cell? ⟨p, 3, none⟩ = some (.slice none 0 0) := e4.cell 3; have f0 := e4.free 3; have he4 := Lib.hid e4; clear e4))
          have h5 := he4.out.put 3 (.slice A4 T3.length c4)
          have h6 := (HPB.out.2.1.grown hT4.1 (by intro e; injection e with e; omega)).far (p := ⟨p, 3, none⟩) (by show w.heap.size ≠ p; omega) (.slice A4 T3.length c4)
          have h7 := hR4.far (p := ⟨p, 3, none⟩) (.inr (by exact hRp)) hg (.slice A4 T3.length c4)
          have h8 := (HPB.out.2.2.trans (Below.grown (Below.refl _ wr) hT4.1 HPB.out.2.2.size (by intro k e; injection e with e; omega))).setCell (p := ⟨p, 3, none⟩) (by show w.heap.size ≤ p; omega) (.slice A4 T3.length c4)
          have h9 : ∀ k, w.heap.size + 1 ≤ k → k < g → (w4.setCell ⟨p, 3, none⟩ (.slice A4 T3.length c4)).heap[k]? = wr.heap[k]? := fun k h1 h2 => (Below.heap_setCell w4 _ _ k (by show k ≠ p; omega)).trans (hT4.1.block k (by omega) (by intro e; injection e with e; omega))
          have h10 := hD4.keep (w' := w4.setCell ⟨p, 3, none⟩ (.slice A4 T3.length c4)) (fun k h1 h2 => Below.heap_setCell w4 _ _ k (by show k ≠ p; omega))
          have HDD := Lib.hid (And.intro (HDs.out.1.2.keep h9) (And.intro (HDs.out.2.1.2.keep h9) (And.intro (HDs.out.2.2.2.keep h9) (And.intro h10 hc4))))
          have H6 := Lib.hid (And.intro h5 (And.intro h6 (And.intro h7 h8)))
          clear h5 h6 h7 h8 h9 h10 d0 f0 he4 hD4 hR4 hT4 hc4 HN HLf
          generalize w4.setCell ⟨p, 3, none⟩ (.slice A4 T3.length c4) = w6 at *
          have k0 : w6.cell? ⟨p, 0, none⟩ = some (.slice A0 l0 c0) := H6.out.1.cell 0
          have k1 : w6.cell? ⟨p, 1, none⟩ = some (.slice A1 l1 c1) := H6.out.1.cell 1
          have k2 : w6.cell? ⟨p, 2, none⟩ = some (.slice A2 l2 c2) := H6.out.1.cell 2
          have k3 : w6.cell? ⟨p, 3, none⟩ = some (.slice A4 T3.length c4) := H6.out.1.cell 3
          have r0 : w6.cell? ⟨w.heap.size, 0, none⟩ = some (.slice none 0 0) := H6.out.2.1.cell 0
          have r1 : w6.cell? ⟨w.heap.size, 1, none⟩ = some (.slice none 0 0) := H6.out.2.1.cell 1
          have r2 : w6.cell? ⟨w.heap.size, 2, none⟩ = some (.slice none 0 0) := H6.out.2.1.cell 2
          have r3 : w6.cell? ⟨w.heap.size, 3, none⟩ = some (.slice none 0 0) := H6.out.2.1.cell 3
          have f0 := H6.out.2.1.free 0
          have f1 := H6.out.2.1.free 1
          have f2 := H6.out.2.1.free 2
          have f3 := H6.out.2.1.free 3
          have hpr : w.heap.size ≠ p := by omega
          generalize hl3 : T3.length = l3 at *
          have HL3 := Lib.hid hl3
          clear hl3
          have HE := Lib.hid (cu.rd_err (show cu.RD true w6.drew (w.heap.size + 1) g T1 T2 from H6.out.2.2.1))
          go_region_with (go_at_call 43; refine HE.out.mono ?_; rintro e' w' ⟨rfl, rfl⟩)
          all_goals
            go_wp2_with fail
            have HW : Hid (Box ((((w6.setCell ⟨w.heap.size, 0, none⟩ (.slice A0 l0 c0)).setCell ⟨w.heap.size, 1, none⟩ (.slice A1 l1 c1)).setCell ⟨w.heap.size, 2, none⟩ (.slice A2 l2 c2)).setCell ⟨w.heap.size, 3, none⟩ (.slice A4 l3 c4)).drew w.heap.size 48 #[.slice A0 l0 c0, .slice A1 l1 c1, .slice A2 l2 c2, .slice A4 l3 c4] ∧
                Below w.heap.size w ((((w6.setCell ⟨w.heap.size, 0, none⟩ (.slice A0 l0 c0)).setCell ⟨w.heap.size, 1, none⟩ (.slice A1 l1 c1)).setCell ⟨w.heap.size, 2, none⟩ (.slice A2 l2 c2)).setCell ⟨w.heap.size, 3, none⟩ (.slice A4 l3 c4)).drew ∧
                (w.heap.size + 1 ≤ g ∧ g ≤ ((((w6.setCell ⟨w.heap.size, 0, none⟩ (.slice A0 l0 c0)).setCell ⟨w.heap.size, 1, none⟩ (.slice A1 l1 c1)).setCell ⟨w.heap.size, 2, none⟩ (.slice A2 l2 c2)).setCell ⟨w.heap.size, 3, none⟩ (.slice A4 l3 c4)).drew.heap.size) ∧
                ∀ k, w.heap.size + 1 ≤ k → k < g → ((((w6.setCell ⟨w.heap.size, 0, none⟩ (.slice A0 l0 c0)).setCell ⟨w.heap.size, 1, none⟩ (.slice A1 l1 c1)).setCell ⟨w.heap.size, 2, none⟩ (.slice A2 l2 c2)).setCell ⟨w.heap.size, 3, none⟩ (.slice A4 l3 c4)).drew.heap[k]? = w6.heap[k]?) := by
              have hb := (((H6.out.2.2.2.setCell (p := ⟨w.heap.size, 0, none⟩) (Nat.le_refl _) (.slice A0 l0 c0)).setCell (p := ⟨w.heap.size, 1, none⟩) (Nat.le_refl _) (.slice A1 l1 c1)).setCell (p := ⟨w.heap.size, 2, none⟩) (Nat.le_refl _) (.slice A2 l2 c2)).setCell (p := ⟨w.heap.size, 3, none⟩) (Nat.le_refl _) (.slice A4 l3 c4)
              have hgl := H6.out.2.2.1.lt
              refine ⟨(((H6.out.2.1.put 0 _).put 1 _).put 2 _).put 3 _, hb.drew, ⟨hg, ?_⟩, fun k h1 h2 => ?_⟩
              · simp [World.drew, World.setCell]; omega
              · show ((((w6.setCell _ _).setCell _ _).setCell _ _).setCell _ _).heap[k]? = _
                rw [Below.heap_setCell _ _ _ k (by show k ≠ w.heap.size; omega), Below.heap_setCell _ _ _ k (by show k ≠ w.heap.size; omega), Below.heap_setCell _ _ _ k (by show k ≠ w.heap.size; omega), Below.heap_setCell _ _ _ k (by show k ≠ w.heap.size; omega)]
            clear k0 k1 k2 k3 r0 r1 r2 r3 f0 f1 f2 f3 HE
            generalize World.drew _ = w9 at HW ⊢
            have r0 : w9.cell? ⟨w.heap.size, 0, none⟩ = some (.slice A0 l0 c0) := HW.out.1.cell 0
            have r1 : w9.cell? ⟨w.heap.size, 1, none⟩ = some (.slice A1 l1 c1) := HW.out.1.cell 1
            have r2 : w9.cell? ⟨w.heap.size, 2, none⟩ = some (.slice A2 l2 c2) := HW.out.1.cell 2
            have r3 : w9.cell? ⟨w.heap.size, 3, none⟩ = some (.slice A4 l3 c4) := HW.out.1.cell 3
            refine bodyPost_ret (v := .tuple #[.agg #[.slice A0 l0 c0, .slice A1 l1 c1, .slice A2 l2 c2, .slice A4 l3 c4], .int .i64 T2]) (by simp [results, Try.results24, go_sem, r0, r1, r2, r3]) rfl ⟨HW.out.2.1, _, _, _, _, _, rfl, ?_⟩
            obtain ⟨-, -, ⟨hgg, hgs⟩, hk⟩ := HW.out
            obtain ⟨hq0, hq1, hq2⟩ := HL.out
            obtain ⟨e0, e1, e2, e3, hc4⟩ := HDD.out
            have m0 := (e0.keep hk).mono (show w.heap.size ≤ w.heap.size + 1 by omega) hgs
            have m1 := (e1.keep hk).mono (show w.heap.size ≤ w.heap.size + 1 by omega) hgs
            have m2 := (e2.keep hk).mono (show w.heap.size ≤ w.heap.size + 1 by omega) hgs
            have m3 := (e3.keep hk).mono (show w.heap.size ≤ w.heap.size + 1 by omega) hgs
            obtain ⟨hT, hV⟩ := HT.out
            rcases hT with ⟨hs, hT⟩ | ⟨hs, hT⟩
            · simp only [Prod.mk.injEq] at hT
              obtain ⟨_, h2, h3⟩ := hT
              refine .inl ⟨hs, h2, ?_, ?_, ?_, ?_⟩
              · rw [← hV 0 (by omega) hs]
                exact ⟨A0, c0, by rw [hq0], by rw [hq0]; exact HDs.out.1.1, m0⟩
              · rw [← hV 1 (by omega) hs]
                exact ⟨A1, c1, by rw [hq1], by rw [hq1]; exact HDs.out.2.1.1, m1⟩
              · rw [← hV 2 (by omega) hs]
                exact ⟨A2, c2, by rw [hq2], by rw [hq2]; exact HDs.out.2.2.1, m2⟩
              · rw [← h3]
                exact ⟨A4, c4, by rw [HL3.out], by rw [HL3.out]; exact hc4, m3⟩
            · simp only [Prod.mk.injEq] at hT
              exact .inr ⟨hs, hT.2.1, ⟨_, _, _, rfl⟩, ⟨_, _, _, rfl⟩, ⟨_, _, _, rfl⟩, ⟨_, _, _, rfl⟩⟩
end
end Go.Proofs.Ytjpjbbbpmhcgnaa
