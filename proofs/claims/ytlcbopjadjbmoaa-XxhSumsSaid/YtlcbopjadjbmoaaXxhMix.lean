/- The contracts of the program's start, mix, joined. -/
import Derived.Test.YtlcbopjadjbmoaaXxhRest
import Derived.Test.YtlcbopjadjbmoaaXxhCells
import Derived.Deep.RegionLaw
import Derived.Deep.RegionHeld3
namespace Go.Proofs.Ytlcbopjadjbmoaa
open Go.RowKit

def z4 : Array Value := #[.int .u64 0, .int .u64 0, .int .u64 0, .int .u64 0]

set_option maxRecDepth 100000 in
theorem start_any (w : World) :
    Calls Try.prog 13 #[] w fun e w' => e = .returned (.agg v0.cells) ∧ Below w.heap.size w w' := by
  have e1 : IntKind.u64.wrap (11400714785074694791 + 14029467366897019727) = (v0.a.toNat : Int) := by decide +kernel
  have e4 : IntKind.u64.wrap (0 - 11400714785074694791) = (v0.d.toNat : Int) := by decide +kernel
  go_enter Try.func13, Try.ntmps13
  go_wp2_with fail
  have e2 : Value.agg #[.int .u64 (IntKind.u64.wrap 25430182151971714518), .int .u64 14029467366897019727, .int .u64 0, .int .u64 (IntKind.u64.wrap (-11400714785074694791))] = .agg v0.cells := by
    rw [show (25430182151971714518 : Int) = 11400714785074694791 + 14029467366897019727 by rfl, e1, show (-11400714785074694791 : Int) = 0 - 11400714785074694791 by rfl, e4]
    rfl
  refine bodyPost_ret (v := .agg v0.cells) ?_ rfl ⟨rfl, ((Below.refl _ _).alloc (Nat.le_refl _) _).alloc (by simp) _⟩
  rw [← e2]
  simp [results, Try.results13, go_sem]

/-- Where a stripe goes in: the numbers, the bytes, the result. -/
def Mix (w wx : World) (v : V4) (bs : List UInt8) : Prop :=
  Box wx w.heap.size 39 v.cells ∧ Box wx (w.heap.size + 1) 40 (bcells bs) ∧ Box wx (w.heap.size + 2) 39 z4 ∧ Below w.heap.size w wx
theorem Mix.low {w wx : World} {v v' : V4} {bs : List UInt8} (h : Mix w wx v bs) (i : Nat) (u : Value) (hc : v.cells.setIfInBounds i u = v'.cells) : Mix w (wx.setCell ⟨w.heap.size, i, none⟩ u) v' bs :=
  ⟨by rw [← hc]; exact h.1.put i u, h.2.1.far (by show _ ≠ w.heap.size; omega) u, h.2.2.1.far (by show _ ≠ w.heap.size; omega) u, h.2.2.2.setCell (Nat.le_refl _) u⟩

set_option maxRecDepth 100000 in
set_option maxHeartbeats 1000000 in
theorem mix_any (v : V4) (bs : List UInt8) (hl : bs.length = 32) (w : World) :
    Calls Try.prog 14 #[.agg v.cells, .agg (bcells bs)] w fun e w' => e = .returned (.agg (stripe v bs 0).cells) ∧ Below w.heap.size w w' := by
  have hbs : (bcells bs).size = 32 := by simp [bcells, hl]
  have HLb := Lib.hid hl
  obtain ⟨B, hB⟩ : ∃ B, B = bcells bs := ⟨_, rfl⟩
  rw [← hB] at hbs ⊢
  have HBc := Lib.hid hB
  obtain ⟨S, hS⟩ : ∃ S, S = v.cells := ⟨_, rfl⟩
  rw [← hS]
  have hSs : S.size = 4 := by rw [hS]; rfl
  have hSo : S.all (·.oneCell') = true := by rw [hS]; exact V4.cells_one v
  have HS := Lib.hid hS
  clear hS hB hl
  go_enter Try.func14, Try.ntmps14
  go_upto_region 0 with fail
  go_cut [2, 3, 4] (fun p q r wx => p = .pointer (some ⟨w.heap.size, 0, none⟩) ∧ q = .pointer (some ⟨w.heap.size + 1, 0, none⟩) ∧ r = .pointer (some ⟨w.heap.size + 2, 0, none⟩) ∧ Mix w wx v bs)
  case first =>
    go_wp2_with fail
    go_meet
    have z1 : (w.alloc (.cells S 39)).heap.size = w.heap.size + 1 := by simp
    have z2 : ((w.alloc (.cells S 39)).alloc (.cells B 40)).heap.size = w.heap.size + 2 := by simp
    have b1 := Box.new (w.alloc (.cells S 39)) 40 B
    have b2 := Box.new ((w.alloc (.cells S 39)).alloc (.cells B 40)) 39 z4
    rw [z1] at b1
    rw [z2] at b2
    unfold Mix
    rw [← HS.out, ← HBc.out]
    exact ⟨rfl, by simp, by simp, ((Box.new w _ S).alloc _).alloc _, b1.alloc _, b2, (((Below.refl _ _).alloc (Nat.le_refl _) _).alloc (by simp) _).alloc (by simp; omega) _⟩
  case rest =>
    obtain ⟨rfl, rfl, rfl, hm⟩ := hcut
    have HM := Lib.hid hm
    have hb0 : Hid (Box wc w.heap.size 39 S) := by unfold Hid; rw [HS.out]; exact hm.1
    clear hm
    go_upto_region 1 with fail
    go_cut [7, 8] (fun p q wx => wc = wx ∧ p = .agg S ∧ q = .int .i64 0)
    case first =>
      go_wp2_with (refine wpList_load_row rfl 39 _ rfl w.heap.size rfl 39 S (0, 0) _ hb0.out Try.underlying39 rfl (by rw [hSs]; kernel_rfl) ?_)
      go_meet
      exact ⟨rfl, rfl, rfl⟩
    case rest =>
      obtain ⟨rfl, rfl, rfl⟩ := hcut
      go_wp2_with fail
      go_loopg [8] 4 (fun gh t wx => ∃ k : Nat, k + gh = 4 ∧ t = .int .i64 k ∧ Mix w wx (v.part (stripe v bs 0) k) bs)
      case atStart => exact ⟨0, rfl, rfl, HM.out⟩
      case round =>
        obtain ⟨k, hk, rfl, hm⟩ := hrel
        have HK := Lib.hid hk
        have HMr := Lib.hid hm
        have hk4 : k ≤ 4 := by omega
        clear hk hm HM hb0
        by_cases hlt : k < 4
        · have hki : (k : Int) < 4 := by omega
          obtain ⟨x, hx⟩ : ∃ x, x = v.get k := ⟨_, rfl⟩
          have hix := fun W => run_index_agg (P := Try.prog) W 39 28 4 .u64 Try.underlying39 Try.underlying28 (by kernel_rfl) S .i64 (k : Int) (.int .u64 (x.toNat : Int)) (by omega) hki (by rw [hx, HS.out]; exact V4.cells_get v k hlt)
          have wf := HMr.out.1.free k
          obtain ⟨y, hy⟩ : ∃ y, y = (((v.part (stripe v bs 0) k).get k).toNat : Int) := ⟨_, rfl⟩
          have q : wr.cell? ⟨w.heap.size, k, none⟩ = some (.int .u64 y) := by rw [hy]; exact (HMr.out.1.cell k).trans (V4.cells_get _ k hlt)
          clear hy
          obtain ⟨z, hz⟩ : ∃ z, z = num bs (8 * k) 8 := ⟨_, rfl⟩
          have HN : Hid (∀ c, Calls Try.prog 22 #[.slice (some ⟨w.heap.size + 1, 8 * k, none⟩) 8 c] wr fun e w' => e = .returned (.int .u64 (z.toNat : Int)) ∧ wr = w') := fun c => by
            rw [hz]
            exact number_any (dat_box HMr.out.2.1 (8 * k) 8 (by rw [HLb.out]; omega)) (by rw [List.length_take, List.length_drop, HLb.out]; omega) (Nat.le_refl _)
          have HG : Hid ((stripe v bs 0).get k = rnd x z) := by unfold Hid; rw [stripe_get v bs 0 k hlt, hx, hz, Nat.zero_add]
          have hset := V4.part_set v (stripe v bs 0) k hlt
          rw [HG.out] at hset
          have HSt := Lib.hid hset
          clear hx hz hset
          rcases (show k = 0 ∨ k = 1 ∨ k = 2 ∨ k = 3 by omega) with rfl | rfl | rfl | rfl
          · have hix2 : ∀ W, (Instr.index 39 (.agg S) (.int .i64 0)).run Try.prog W = .ok (.int .u64 (x.toNat : Int)) W := hix
            clear hix
            go_wp2_with (first
              | (go_at_call 22; refine (HN.out _).mono ?_; rintro e' w' ⟨rfl, rfl⟩)
              | (go_at_call 21; refine (round_any _ _ _).mono ?_; rintro e' w' ⟨rfl, rfl⟩))
            go_roundg 3
            case measure => have := HK.out; omega
            case rel => exact ⟨1, rfl, rfl, HMr.out.low 0 _ HSt.out⟩
          · have hix2 : ∀ W, (Instr.index 39 (.agg S) (.int .i64 1)).run Try.prog W = .ok (.int .u64 (x.toNat : Int)) W := hix
            clear hix
            go_wp2_with (first
              | (go_at_call 22; refine (HN.out _).mono ?_; rintro e' w' ⟨rfl, rfl⟩)
              | (go_at_call 21; refine (round_any _ _ _).mono ?_; rintro e' w' ⟨rfl, rfl⟩))
            go_roundg 2
            case measure => have := HK.out; omega
            case rel => exact ⟨2, rfl, rfl, HMr.out.low 1 _ HSt.out⟩
          · have hix2 : ∀ W, (Instr.index 39 (.agg S) (.int .i64 2)).run Try.prog W = .ok (.int .u64 (x.toNat : Int)) W := hix
            clear hix
            go_wp2_with (first
              | (go_at_call 22; refine (HN.out _).mono ?_; rintro e' w' ⟨rfl, rfl⟩)
              | (go_at_call 21; refine (round_any _ _ _).mono ?_; rintro e' w' ⟨rfl, rfl⟩))
            go_roundg 1
            case measure => have := HK.out; omega
            case rel => exact ⟨3, rfl, rfl, HMr.out.low 2 _ HSt.out⟩
          · have hix2 : ∀ W, (Instr.index 39 (.agg S) (.int .i64 3)).run Try.prog W = .ok (.int .u64 (x.toNat : Int)) W := hix
            clear hix
            go_wp2_with (first
              | (go_at_call 22; refine (HN.out _).mono ?_; rintro e' w' ⟨rfl, rfl⟩)
              | (go_at_call 21; refine (round_any _ _ _).mono ?_; rintro e' w' ⟨rfl, rfl⟩))
            go_roundg 0
            case measure => have := HK.out; omega
            case rel => exact ⟨4, rfl, rfl, HMr.out.low 3 _ HSt.out⟩
        · have hk : k = 4 := by omega
          subst hk
          obtain ⟨V, hV⟩ : ∃ V, V = stripe v bs 0 := ⟨_, rfl⟩
          have HMz : Hid (Mix w wr V bs) := by have := HMr.out; rw [V4.part_four, ← hV] at this; exact this
          have HVz := Lib.hid hV
          clear hV HMr HK
          obtain ⟨R, hR⟩ : ∃ R, R = V.cells := ⟨_, rfl⟩
          have hb0 : Hid (Box wr w.heap.size 39 R) := by unfold Hid; rw [hR]; exact HMz.out.1
          have hRs : R.size = 4 := by rw [hR]; rfl
          have hRo : R.all (·.oneCell') = true := by rw [hR]; exact V4.cells_one _
          have hb2 : Hid (Box wr (w.heap.size + 2) 39 z4) := HMz.out.2.2.1
          have HR := Lib.hid hR
          clear hR
          go_wp2_with (first
            | (refine wpList_load_row rfl 39 _ rfl w.heap.size rfl 39 R (0, 0) _ hb0.out Try.underlying39 rfl (by rw [hRs]; kernel_rfl) ?_)
            | (refine wpList_store_row rfl 39 _ _ rfl (w.heap.size + 2) R rfl rfl 39 _ hb2.out (by rw [hRs]; kernel_rfl) (by rw [hRs]; rfl) hRo ?_))
          refine bodyPost_ret (v := .agg R) (results_cell_row Try.results14 _ _ (w.heap.size + 2) 39 R (0, 0) _ rfl (setRow_heap _ _ _ _ _ _ hb2.out) Try.underlying39 rfl (by rw [hRs]; kernel_rfl)) rfl ⟨by rw [HR.out, HVz.out], ?_⟩
          exact below_row HMz.out.2.2.2 (by omega) _

/-- Where the numbers are joined. -/
def Jnd (w wx : World) (v : V4) : Prop := Box wx w.heap.size 39 v.cells ∧ Below w.heap.size w wx
theorem Jnd.drawn {w wx : World} {v : V4} (h : Jnd w wx v) (n : Nat) : Jnd w (wx.drewN n) v := ⟨h.1, below_drawn h.2 n⟩

attribute [local go_sem high] q_xor q_or q_add q_mul q_mul1 q_mul2 q_mul3 q_mul5 q_add3 q_add4
set_option maxRecDepth 100000 in
set_option maxHeartbeats 1000000 in
theorem joined_any (v : V4) (w : World) :
    Calls Try.prog 15 #[.agg v.cells] w fun e w' => e = .returned (.int .u64 ((joinN v 4).toNat : Int)) ∧ Below w.heap.size w w' := by
  obtain ⟨S, hS⟩ : ∃ S, S = v.cells := ⟨_, rfl⟩
  rw [← hS]
  have hSs : S.size = 4 := by rw [hS]; rfl
  have HS := Lib.hid hS
  clear hS
  go_enter Try.func15, Try.ntmps15
  go_upto_region 1 with fail
  have hb := Box.new w 39 S
  have hB : Below w.heap.size w (w.alloc (.cells S 39)) := (Below.refl _ _).alloc (Nat.le_refl _) _
  obtain ⟨w1, hw1⟩ : ∃ w1, w1 = w.alloc (.cells S 39) := ⟨_, rfl⟩
  rw [← hw1] at hb hB ⊢
  clear hw1
  have HJ : Hid (Jnd w w1 v) := by unfold Hid Jnd; rw [← HS.out]; exact ⟨hb, hB⟩
  rw [HS.out] at hb
  have q0 : w1.cell? ⟨w.heap.size, 0, none⟩ = some (.int .u64 (v.a.toNat : Int)) := hb.cell 0
  have q1 : w1.cell? ⟨w.heap.size, 1, none⟩ = some (.int .u64 (v.b.toNat : Int)) := hb.cell 1
  have q2 : w1.cell? ⟨w.heap.size, 2, none⟩ = some (.int .u64 (v.c.toNat : Int)) := hb.cell 2
  have q3 : w1.cell? ⟨w.heap.size, 3, none⟩ = some (.int .u64 (v.d.toNat : Int)) := hb.cell 3
  clear hb hB
  go_quiet ((go_at_call 23; refine Calls.quiet_of_same ((turned_any _ _ _ (by decide) (by decide)).mono fun _ _ hh => ⟨hh.1, hh.2.symm⟩)))
  have HB2 : Hid (Below w.heap.size w (w1.drewN nq)) := below_drawn HJ.out.2 nq
  clear HJ HS hSs
  go_wp2_with fail
  obtain ⟨w2, hw2⟩ : ∃ w2, w2 = w1.drewN nq := ⟨_, rfl⟩
  rw [← hw2] at HB2 ⊢
  clear hw2 q0 q1 q2 q3
  go_loopg [3, 22] 4 (fun gh y t wx => ∃ k : Nat, k + gh = 4 ∧ w2 = wx ∧ t = .int .i64 k ∧ y = .int .u64 ((joinN v k).toNat : Int))
  case atStart => exact ⟨0, rfl, rfl, rfl, rfl⟩
  case round =>
    obtain ⟨k, hk, rfl, rfl, rfl⟩ := hrel
    have HK := Lib.hid hk
    have hk4 : k ≤ 4 := by omega
    clear hk
    obtain ⟨y, hy⟩ : ∃ y, y = joinN v k := ⟨_, rfl⟩
    rw [← hy]
    have HY := Lib.hid hy
    clear hy
    by_cases hlt : k < 4
    · obtain ⟨x, hx⟩ : ∃ x, x = v.get k := ⟨_, rfl⟩
      have HM : Hid (joinN v (k + 1) = merge y x) := by rw [hx, HY.out]; rfl
      have hix := fun W => run_index_agg (P := Try.prog) W 39 28 4 .u64 Try.underlying39 Try.underlying28 (by kernel_rfl) v.cells .i64 (k : Int) (.int .u64 (x.toNat : Int)) (by omega) (by omega) (by rw [hx]; exact V4.cells_get v k hlt)
      clear hx HY
      rcases (show k = 0 ∨ k = 1 ∨ k = 2 ∨ k = 3 by omega) with rfl | rfl | rfl | rfl
      · have hix2 : ∀ W, (Instr.index 39 (.agg #[.int .u64 (v.a.toNat : Int), .int .u64 (v.b.toNat : Int), .int .u64 (v.c.toNat : Int), .int .u64 (v.d.toNat : Int)]) (.int .i64 0)).run Try.prog W = .ok (.int .u64 (x.toNat : Int)) W := hix
        clear hix
        go_wp2_with (go_at_call 21; refine (round0_any _ _).mono ?_; rintro e' w' ⟨rfl, rfl⟩)
        go_roundg 3
        case measure => have := HK.out; omega
        case rel => exact ⟨1, rfl, rfl, rfl, by rw [HM.out]; rfl⟩
      · have hix2 : ∀ W, (Instr.index 39 (.agg #[.int .u64 (v.a.toNat : Int), .int .u64 (v.b.toNat : Int), .int .u64 (v.c.toNat : Int), .int .u64 (v.d.toNat : Int)]) (.int .i64 1)).run Try.prog W = .ok (.int .u64 (x.toNat : Int)) W := hix
        clear hix
        go_wp2_with (go_at_call 21; refine (round0_any _ _).mono ?_; rintro e' w' ⟨rfl, rfl⟩)
        go_roundg 2
        case measure => have := HK.out; omega
        case rel => exact ⟨2, rfl, rfl, rfl, by rw [HM.out]; rfl⟩
      · have hix2 : ∀ W, (Instr.index 39 (.agg #[.int .u64 (v.a.toNat : Int), .int .u64 (v.b.toNat : Int), .int .u64 (v.c.toNat : Int), .int .u64 (v.d.toNat : Int)]) (.int .i64 2)).run Try.prog W = .ok (.int .u64 (x.toNat : Int)) W := hix
        clear hix
        go_wp2_with (go_at_call 21; refine (round0_any _ _).mono ?_; rintro e' w' ⟨rfl, rfl⟩)
        go_roundg 1
        case measure => have := HK.out; omega
        case rel => exact ⟨3, rfl, rfl, rfl, by rw [HM.out]; rfl⟩
      · have hix2 : ∀ W, (Instr.index 39 (.agg #[.int .u64 (v.a.toNat : Int), .int .u64 (v.b.toNat : Int), .int .u64 (v.c.toNat : Int), .int .u64 (v.d.toNat : Int)]) (.int .i64 3)).run Try.prog W = .ok (.int .u64 (x.toNat : Int)) W := hix
        clear hix
        go_wp2_with (go_at_call 21; refine (round0_any _ _).mono ?_; rintro e' w' ⟨rfl, rfl⟩)
        go_roundg 0
        case measure => have := HK.out; omega
        case rel => exact ⟨4, rfl, rfl, rfl, by rw [HM.out]; rfl⟩
    · have hk : k = 4 := by omega
      subst hk
      go_wp2_with fail
      go_ret
      exact ⟨by rw [HY.out]; rfl, HB2.out⟩
end Go.Proofs.Ytlcbopjadjbmoaa
