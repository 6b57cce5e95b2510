
/- The contract of the program's cost. -/
import Derived.Test.YtpdnmhnnngcbjaaDoorTabCostP
import Derived.Test.YtpdnmhnnngcbjaaDoorTabRead
import Derived.Great.Ranges
import Derived.StillTailTactics
import Derived.IntWalk
import Derived.Test.YtpdnmhnnngcbjaaDoorPileA
namespace Go.Proofs.YtpdnmhnnngcbjaaDoor
open Go.RowKit

theorem a53_zero_int : (Tryd.prog.info? 106).map (·.zero) = some (some (.agg (a53 .i64 fun _ => 0))) := by kernel_rfl
theorem a53_zero_u32 : (Tryd.prog.info? 51).map (·.zero) = some (some (.agg (a53 .u32 fun _ => 0))) := by kernel_rfl

theorem info_u32n : (Tryd.prog.info? 50).map (·.size) = some 1 := by kernel_rfl
theorem idx53 (f : Nat → Nat) (i : Nat) (hi : i < 53) (W : World) : (Instr.index 51 (.agg (a53 .u32 f)) (.int .i64 (i : Int))).run Tryd.prog W = .ok (.int .u32 (f i : Int)) W := by
  obtain ⟨i0, hi0, hi1⟩ := Option.map_eq_some_iff.1 info_u32n
  have h2 := a53_get .u32 f i hi
  simp [Instr.index, run_underlying Tryd.underlying51, asIntOf, sizeOf, typeInfo, hi0, hi1, part, go_sem, h2]
  intro h
  omega

/-- A way, as its cells. -/
structure Wy where
  log : Int
  e : Option Addr
  n : Nat
  c : Nat
  mode : Int
  t : Option Addr
  tn : Nat
  tc : Nat
def wcells (x : Wy) : Array Value := #[.int .i64 x.log, .slice x.e x.n x.c, .int .i64 x.mode, .slice x.t x.tn x.tc]

/-- What a way costs. -/
def costV (x : Wy) (es : List En) (f : Nat → Nat) : Int := cvT es f 53 0 (8 * (x.tn : Int) + x.log)
/-- What cost has made so far. -/
def CM (w wx : World) (x : Wy) (f g h : Nat → Nat) : Prop :=
  Box wx w.heap.size 54 (wcells x) ∧ Box wx (w.heap.size + 1) 51 (a53 .u32 f) ∧ Box wx (w.heap.size + 2) 106 (a53 .i64 g) ∧ Box wx (w.heap.size + 3) 106 (a53 .i64 h) ∧ Below w.heap.size w wx

set_option maxRecDepth 100000 in
set_option maxHeartbeats 2000000 in
theorem cost_any {w : World} {lo hi : Nat} {es : List En} (x : Wy) (f : Nat → Nat) (hd : DatR 3 ecell w lo hi x.e es) (hhi : hi ≤ w.heap.size) (hN : es.length = x.n) (hN2 : x.n ≤ 65536) (hes : Small es) (hf : ∀ s, f s ≤ 4294967295) (hL : 0 ≤ x.log ∧ x.log ≤ 15) (ht : x.tn ≤ 1000000) :
    Calls Tryd.prog 38 #[.agg (wcells x), .agg (a53 .u32 f)] w fun e w' => e = .returned (.int .i64 (costV x es f)) ∧ Below w.heap.size w w' := by
  obtain ⟨L, E, N, ce, mode, T, tn, tc⟩ := x
  simp only at hd hN hN2 hL ht
  have HD := Lib.hid hd
  have HN := Lib.hid hN
  have HEs := Lib.hid hes
  have HF := Lib.hid hf
  clear hd hN hes hf
  unfold costV
  simp only [wcells]
  obtain ⟨S0, hS0⟩ : ∃ S0 : Int, S0 = 8 * (tn : Int) + L := ⟨_, rfl⟩
  rw [← hS0]
  obtain ⟨V, hV⟩ : ∃ V, V = cvT es f 53 0 S0 := ⟨_, rfl⟩
  rw [← hV]
  have HV := Lib.hid hV
  have HS0 := Lib.hid hS0
  clear hV hS0
  go_enter Tryd.func38, Tryd.ntmps38
  go_upto_region 2 with (first
    | (refine Go.Great.wpList_boxTo rfl 51 _ rfl _ rfl (w.heap.size + 1) (by simp) (a53 .u32 f) (a53_cells _ _) ?_)
    | (refine wpList_alloc_z rfl 106 rfl (a53 .i64 fun _ => 0) a53_zero_int ?_))
  have hcm : CM w ((((w.alloc (.cells #[.int .i64 L, .slice E N ce, .int .i64 mode, .slice T tn tc] 54)).alloc (.cells (a53 .u32 f) 51)).alloc (.cells (a53 .i64 fun _ => 0) 106)).alloc (.cells (a53 .i64 fun _ => 0) 106)) ⟨L, E, N, ce, mode, T, tn, tc⟩ f (stF es 0) (btF es 0) := by
    have h1 := Box.new (w.alloc (.cells #[.int .i64 L, .slice E N ce, .int .i64 mode, .slice T tn tc] 54)) 51 (a53 .u32 f)
    have h2 := Box.new ((w.alloc (.cells #[.int .i64 L, .slice E N ce, .int .i64 mode, .slice T tn tc] 54)).alloc (.cells (a53 .u32 f) 51)) 106 (a53 .i64 fun _ => 0)
    have h3 := Box.new (((w.alloc (.cells #[.int .i64 L, .slice E N ce, .int .i64 mode, .slice T tn tc] 54)).alloc (.cells (a53 .u32 f) 51)).alloc (.cells (a53 .i64 fun _ => 0) 106)) 106 (a53 .i64 fun _ => 0)
    simp only [World.size_alloc] at h1 h2 h3
    exact ⟨(((Box.new w _ _).alloc _).alloc _).alloc _, (h1.alloc _).alloc _, h2.alloc _, h3, ((((Below.refl _ _).alloc (Nat.le_refl _) _).alloc (by simp) _).alloc (by simp; omega) _).alloc (by simp; omega) _⟩
  have HCM := Lib.hid hcm
  clear hcm
  generalize (((w.alloc (.cells #[.int .i64 L, .slice E N ce, .int .i64 mode, .slice T tn tc] 54)).alloc (.cells (a53 .u32 f) 51)).alloc (.cells (a53 .i64 fun _ => 0) 106)).alloc (.cells (a53 .i64 fun _ => 0) 106) = W at *
  have hw0 : W.cell? ⟨w.heap.size, 0, none⟩ = some (.int .i64 L) := HCM.out.1.cell 0
  have hw1 : W.cell? ⟨w.heap.size, 1, none⟩ = some (.slice E N ce) := HCM.out.1.cell 1
  go_wp2_with fail
  clear hw0 hw1
  go_loopg [16] N (fun gh i wx => ∃ j : Nat, j + gh = N ∧ i = .int .i64 (j : Int) ∧ CM w wx ⟨L, E, N, ce, mode, T, tn, tc⟩ f (stF es j) (btF es j))
  case atStart => exact ⟨0, by omega, rfl, HCM.out⟩
  case round =>
    clear HCM
    obtain ⟨j, hj, rfl, hcm⟩ := hrel
    have HCM := Lib.hid hcm
    have HJ := Lib.hid hj
    have hjN : j ≤ N := by omega
    clear hcm hj
    by_cases hlt : j < N
    · obtain ⟨g', rfl⟩ : ∃ g', gk = g' + 1 := ⟨gk - 1, by have := HJ.out; omega⟩
      have hki : (j : Int) < (N : Int) := by omega
      have hjl : j < es.length := by have := HN.out; omega
      obtain ⟨d, o, rfl, _, hdhi, hc⟩ := (HD.out.below HCM.out.2.2.2.2 hhi).ent (by omega)
      obtain ⟨e0, e1, e2⟩ := hc j hjl
      obtain ⟨s, b, hs, hb, hs53, hb15⟩ := HEs.out j
      have hg := getD_of es j ⟨0, 0, 0⟩ hjl
      have HS1 := Lib.hid (stF_step es j s hs)
      have HS2 := Lib.hid (btF_step es j s b hs hb)
      rw [hg] at hs hb
      rw [hs] at e0
      rw [hb] at e1
      have hst := stF_le es j s
      have hbt := btF_le es (fun i => by obtain ⟨_, b', _, h, _, h'⟩ := HEs.out i; omega) j s
      generalize es[j].e = e9 at *
      have c2 := (HCM.out.2.2.1.cell s).trans (a53_get _ _ s hs53)
      have f2 := HCM.out.2.2.1.free s
      have hlt2 := HCM.out.2.2.1.lt
      have hlt3 := HCM.out.2.2.2.1.lt
      have hput := HCM.out.2.2.1.put s (.int .i64 ((stF es j s + 1 : Nat) : Int))
      rw [a53_set, HS1.out] at hput
      have HPut := Lib.hid hput
      have hs53z : (s : Int) < 53 := by omega
      have hd1 : d < wr.heap.size := by have := HCM.out.2.2.2.2.size; omega
      clear hc hg hput hs hb
      obtain ⟨x, hx⟩ : ∃ x, x = stF es j s := ⟨_, rfl⟩
      rw [← hx] at c2 hst HPut
      clear hx
      go_upto_region 6 with (fail)
      have hbe := Box.new (wr.setCell ⟨w.heap.size + 1 + 1, s, none⟩ (.int .i64 ((x : Int) + 1))) 41 #[.int .u8 (s : Int), .int .i64 (b : Int), .int .i64 e9]
      rw [show (wr.setCell ⟨w.heap.size + 1 + 1, s, none⟩ (.int .i64 ((x : Int) + 1))).heap.size = wr.heap.size by simp] at hbe
      have hcm5 : CM w ((wr.setCell ⟨w.heap.size + 1 + 1, s, none⟩ (.int .i64 ((x : Int) + 1))).alloc (.cells #[.int .u8 (s : Int), .int .i64 (b : Int), .int .i64 e9] 41)) ⟨L, some ⟨d, o, none⟩, N, ce, mode, T, tn, tc⟩ f (stF es (j + 1)) (btF es j) :=
        ⟨(HCM.out.1.far (by show w.heap.size ≠ w.heap.size + 1 + 1; omega) _).alloc _, (HCM.out.2.1.far (by show w.heap.size + 1 ≠ w.heap.size + 1 + 1; omega) _).alloc _, HPut.out.alloc _, (HCM.out.2.2.2.1.far (by show w.heap.size + 3 ≠ w.heap.size + 1 + 1; omega) _).alloc _,
          (HCM.out.2.2.2.2.setCell (by show w.heap.size ≤ w.heap.size + 1 + 1; omega) _).alloc (by simp; omega) _⟩
      have HCM5 := Lib.hid hcm5
      have HBE := Lib.hid hbe
      have hs5 : wr.heap.size < ((wr.setCell ⟨w.heap.size + 1 + 1, s, none⟩ (.int .i64 ((x : Int) + 1))).alloc (.cells #[.int .u8 (s : Int), .int .i64 (b : Int), .int .i64 e9] 41)).heap.size := by simp
      clear hcm5 hbe HPut HCM c2 f2 e0 e1 e2 hst hlt2 hlt3
      generalize ((wr.setCell ⟨w.heap.size + 1 + 1, s, none⟩ (.int .i64 ((x : Int) + 1))).alloc (.cells #[.int .u8 (s : Int), .int .i64 (b : Int), .int .i64 e9] 41)) = W5 at *
      have q0 : W5.cell? ⟨wr.heap.size, 0, none⟩ = some (.int .u8 (s : Int)) := HBE.out.cell 0
      have q1 : W5.cell? ⟨wr.heap.size, 1, none⟩ = some (.int .i64 (b : Int)) := HBE.out.cell 1
      have c3 := (HCM5.out.2.2.2.1.cell s).trans (a53_get _ _ s hs53)
      have f3 := HCM5.out.2.2.2.1.free s
      have hput := HCM5.out.2.2.2.1.put s (.int .i64 ((btF es j s + b : Nat) : Int))
      rw [a53_set, HS2.out] at hput
      have HPut := Lib.hid hput
      obtain ⟨y, hy⟩ : ∃ y, y = btF es j s := ⟨_, rfl⟩
      rw [← hy] at c3 hbt HPut
      have ew : IntKind.i64.wrap ((y : Int) + (b : Int)) = (y : Int) + (b : Int) := IntWalk.i64_in _ (by omega)
      generalize wr.heap.size = g9 at *
      clear hy hput
      go_still_tail 8, (by kernel_rfl)
      change wpList _ _ _ _ _ W5.drew
      go_wp2
      go_roundg g'
      case rel =>
        refine ⟨j + 1, by have := HJ.out; omega, by go_num, HCM5.out.1.far (by show w.heap.size ≠ w.heap.size + 3; omega) _, HCM5.out.2.1.far (by show w.heap.size + 1 ≠ w.heap.size + 3; omega) _, HCM5.out.2.2.1.far (by show w.heap.size + 2 ≠ w.heap.size + 3; omega) _, HPut.out, (show Below w.heap.size w W5.drew from below_drewN HCM5.out.2.2.2.2 1).setCell (by show w.heap.size ≤ w.heap.size + 3; omega) _⟩
      case measure => omega
    · obtain rfl : j = N := by omega
      have hki : ¬ (j : Int) < (j : Int) := by omega
      have hw0 : wr.cell? ⟨w.heap.size, 0, none⟩ = some (.int .i64 L) := HCM.out.1.cell 0
      have hw3 : wr.cell? ⟨w.heap.size, 3, none⟩ = some (.slice T tn tc) := HCM.out.1.cell 3
      go_upto_region 9 with (fail)
      clear hw0 hw3
      have hS0 := HS0.out
      rw [← hS0]
      have hS0l : 0 ≤ S0 ∧ S0 ≤ 10000000 := by omega
      clear hS0 HJ hlt hki hL
      go_wp2_with (refine wpList_load_row rfl 51 _ rfl (w.heap.size + 1) rfl 51 (a53 .u32 f) (0, 0) _ HCM.out.2.1 Tryd.underlying51 rfl (by rw [a53_size]; kernel_rfl) ?_)
      have hbn : ∀ i, (es.getD i ⟨0, 0, 0⟩).b ≤ 15 := fun i => by obtain ⟨_, b', _, h, _, h'⟩ := HEs.out i; omega
      have HBn := Lib.hid hbn
      clear hbn
      go_loopg [9, 44] 53 (fun gh S v wx => ∃ (i q : Nat) (s : Int), i + gh = 53 ∧ v = .int .i64 (i : Int) ∧ S = .int .i64 s ∧ 0 ≤ s ∧ s ≤ 10000000 + i * 4503599627370496 ∧ cvT es f gh i s = V ∧ wx = wr.drewN q)
      case atStart => exact ⟨0, 0, S0, rfl, rfl, rfl, hS0l.1, by have := hS0l.2; omega, HV.out.symm, rfl⟩
      case round =>
        obtain ⟨i, q, s, hi, rfl, rfl, hs0, hs1, hall, rfl⟩ := hrel
        have HI := Lib.hid hi
        have HAll := Lib.hid hall
        have hi53 : i ≤ 53 := by omega
        clear hi hall
        by_cases hlt : i < 53
        · obtain ⟨g', rfl⟩ : ∃ g', gk = g' + 1 := ⟨gk - 1, by have := HI.out; omega⟩
          have hki : (i : Int) < 53 := by omega
          have hix := idx53 f i hlt
          have hfi := HF.out i
          have c2 := (HCM.out.2.2.1.cell i).trans (a53_get _ _ i hlt)
          have c3 := (HCM.out.2.2.2.1.cell i).trans (a53_get _ _ i hlt)
          have hst := stF_le es j i
          have hbt := btF_le es HBn.out j i
          obtain ⟨F, hFe⟩ : ∃ F, F = f i := ⟨_, rfl⟩
          obtain ⟨X, hXe⟩ : ∃ X, X = stF es j i := ⟨_, rfl⟩
          obtain ⟨Y, hYe⟩ : ∃ Y, Y = btF es j i := ⟨_, rfl⟩
          rw [← hFe] at hix hfi
          rw [← hXe] at c2 hst
          rw [← hYe] at c3 hbt
          have HFe := Lib.hid hFe
          have HXe := Lib.hid hXe
          have HYe := Lib.hid hYe
          clear hFe hXe hYe
          have hstep := HAll.out
          rw [cvT, HN.out, ← HXe.out, ← HFe.out, ← HYe.out] at hstep
          clear HAll
          by_cases hF0 : F = 0
          · subst hF0
            rw [if_pos rfl] at hstep
            have HSt := Lib.hid hstep
            clear hstep
            go_wp2_with fail
            go_roundg g'
            case rel => exact ⟨i + 1, q, s, by have := HI.out; omega, by go_num, rfl, hs0, by omega, HSt.out, rfl⟩
            case measure => omega
          · have hF0b : ((F : Int) == 0) = false := by simp; omega
            rw [if_neg hF0] at hstep
            by_cases hX0 : X = 0
            · subst hX0
              rw [if_pos rfl] at hstep
              have HSt := Lib.hid hstep
              clear hstep
              go_wp2_with fail
              go_ret
              exact ⟨by rw [← HSt.out]; rfl, below_drewN HCM.out.2.2.2.2 _⟩
            · have hX0b : ((X : Int) == 0) = false := by simp; omega
              rw [if_neg hX0] at hstep
              have hP := Nat.mul_le_mul hfi (show Y ≤ 983040 by omega)
              obtain ⟨M, hM⟩ : ∃ M, M = F * Y := ⟨_, rfl⟩
              rw [← hM] at hP hstep
              have hMi : (F : Int) * (Y : Int) = (M : Int) := by rw [hM]; simp
              obtain ⟨Q, hQ⟩ : ∃ Q, Q = M / X := ⟨_, rfl⟩
              rw [← hQ] at hstep
              have HSt := Lib.hid hstep
              have hQi : (M : Int).tdiv (X : Int) = (Q : Int) := by rw [hQ]; simp
              have hQi2 : (M : Int) / (X : Int) = (Q : Int) := by rw [hQ]; simp
              have hQl : Q ≤ M := by rw [hQ]; exact Nat.div_le_self _ _
              have hwF : IntKind.i64.wrap (F : Int) = (F : Int) := IntWalk.i64_in _ (by omega)
              have hwM : IntKind.i64.wrap (M : Int) = (M : Int) := IntWalk.i64_in _ (by omega)
              have hwQ : IntKind.i64.wrap (Q : Int) = (Q : Int) := IntWalk.i64_in _ (by omega)
              have hwS : IntKind.i64.wrap (s + (Q : Int)) = s + (Q : Int) := IntWalk.i64_in _ (by omega)
              have hnew : 0 ≤ s + (Q : Int) ∧ s + (Q : Int) ≤ 10000000 + ((i + 1 : Nat) : Int) * 4503599627370496 := by omega
              have HNew := Lib.hid hnew
              clear hM hQ hP hQl hnew hst hbt hstep
              go_upto_region 15 with (fail)
              go_quiet (fail)
              go_wp2_with fail
              go_roundg g'
              case rel => exact ⟨i + 1, _, s + (Q : Int), by have := HI.out; omega, by go_num, rfl, HNew.out.1, HNew.out.2, HSt.out, rfl⟩
              case measure => omega
        · obtain rfl : i = 53 := by omega
          obtain rfl : gk = 0 := by have := HI.out; omega
          have hki : ¬ ((53 : Nat) : Int) < 53 := by omega
          go_wp2_with fail
          go_ret
          exact ⟨by rw [← HAll.out]; rfl, below_drewN HCM.out.2.2.2.2 _⟩
end Go.Proofs.YtpdnmhnnngcbjaaDoor
