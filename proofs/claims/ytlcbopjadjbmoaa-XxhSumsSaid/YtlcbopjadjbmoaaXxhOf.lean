/- The contract of the document's Of: XXH64 of any bytes. -/
import Derived.Test.YtlcbopjadjbmoaaXxhRef
import Derived.Deep.RegionHeld3
import Derived.Deep.RegionWith
import Derived.Deep.LoopGhost
import Derived.Deep.CutRange
import Derived.Deep.DeepCutAuto
namespace Go.Proofs.Ytlcbopjadjbmoaa
open Go.RowKit

/-- Where the stripes are gone through: the four numbers. -/
def Fou (w wx : World) (hb : Nat) (v : V4) : Prop := Box wx hb 38 v.cells ∧ Below w.heap.size w wx ∧ w.heap.size ≤ hb
theorem Fou.step {w wx w1 : World} {hb : Nat} {v : V4} (h : Fou w wx hb v) (hB : Below wx.heap.size wx w1) : Fou w w1 hb v :=
  ⟨h.1.below hB h.1.lt, h.2.1.trans (hB.mono h.2.1.size), h.2.2⟩
theorem Fou.put {w wx : World} {hb : Nat} {v v' : V4} (h : Fou w wx hb v) (i : Nat) (u : Value) (hc : v.cells.setIfInBounds i u = v'.cells) : Fou w (wx.setCell ⟨hb, i, none⟩ u) hb v' :=
  ⟨by rw [← hc]; exact h.1.put i u, h.2.1.setCell h.2.2 u, h.2.2⟩
theorem Fou.drawn {w wx : World} {hb : Nat} {v : V4} (h : Fou w wx hb v) (n : Nat) : Fou w (wx.drewN n) hb v := ⟨h.1, below_drawn h.2.1 n, h.2.2⟩
theorem v0_cells : Value.agg #[.int .u64 (IntKind.u64.wrap 25430182151971714518), .int .u64 14029467366897019727, .int .u64 0, .int .u64 (IntKind.u64.wrap (-11400714785074694791))] = .agg v0.cells := by
  have e1 : IntKind.u64.wrap 25430182151971714518 = (v0.a.toNat : Int) := by decide +kernel
  have e4 : IntKind.u64.wrap (-11400714785074694791) = (v0.d.toNat : Int) := by decide +kernel
  rw [e1, e4]
  rfl

attribute [local go_sem high] q_xor q_or q_add q_mul q_mul1 q_mul2 q_mul3 q_mul5 q_add3 q_add4 q_shr33 q_shr29 q_shr32
set_option maxRecDepth 100000 in
set_option maxHeartbeats 2000000 in
theorem of_any (S : ByteArray) (w : World) (hs : S.size ≤ 1000000000000) :
    Calls Try.prog 11 #[.string S] w fun e w' => e = .returned (.int .u64 ((xxhOf S.data.toList).toNat : Int)) ∧ Below w.heap.size w w' := by
  obtain ⟨L, hL⟩ : ∃ L, L = S.size := ⟨_, rfl⟩
  obtain ⟨bs, hbs⟩ : ∃ bs, bs = S.data.toList := ⟨_, rfl⟩
  have hbl : bs.length = L := by rw [hbs, hL]; simp
  have HBS := Lib.hid hbs
  have HBL := Lib.hid hbl
  have HSL := Lib.hid hL.symm
  rw [← hbs]
  rw [← hL] at hs
  clear hL hbs hbl
  obtain ⟨Q, hQ⟩ : ∃ Q, Q = L / 32 := ⟨_, rfl⟩
  have HQ := Lib.hid hQ
  clear hQ
  have hsz := HSL.out
  go_enter Try.func11, Try.ntmps11
  go_upto_if 13 with fail
  go_cut [3, 4] (fun p q wx => p = .int .u64 ((head bs).toNat : Int) ∧ q = .int .i64 ((32 * Q : Nat) : Int) ∧ Below w.heap.size w wx)
  case first =>
    by_cases h32 : 32 ≤ L
    · have h32i : (32 : Int) ≤ (L : Int) := by omega
      go_upto_region 5 with fail
      go_cut [6] (fun p wx => ∃ hb, p = .pointer (some ⟨hb, 0, none⟩) ∧ Fou w wx hb (stripes bs 0))
      case first =>
        go_wp2_with fail
        go_meet
        refine ⟨_, rfl, ?_, (Below.refl _ _).alloc (Nat.le_refl _) _, Nat.le_refl _⟩
        have hb := Box.new w 38 v0.cells
        rw [← Value.agg.inj v0_cells] at hb
        exact hb
      case rest =>
        obtain ⟨hb, rfl, hf⟩ := hcut
        have HF := Lib.hid hf
        clear hf
        go_wp2_with fail
        go_loopg [4] Q (fun gh i wx => ∃ n I : Nat, n + gh = Q ∧ I = 32 * n ∧ i = .int .i64 (I : Int) ∧ Fou w wx hb (stripes bs n))
        case atStart => exact ⟨0, 0, by omega, rfl, rfl, HF.out⟩
        case round =>
          obtain ⟨n, I, hn, hI, rfl, hf⟩ := hrel
          have HN := Lib.hid hn
          have HI := Lib.hid hI
          have HFn := Lib.hid hf
          have hnQ : n ≤ Q := by omega
          clear hn hI hf HF
          by_cases hlt : n < Q
          · have hI32 : I + 32 ≤ L := by have := HI.out; have := HQ.out; omega
            have hIi : (I : Int) + 32 ≤ (L : Int) := by omega
            obtain ⟨v, hv⟩ : ∃ v, v = stripes bs n := ⟨_, rfl⟩
            rw [← hv] at HFn
            have HV : Hid (stripes bs (n + 1) = stripe v bs I) := by rw [hv, HI.out]; rfl
            clear hv
            go_wp2_with fail
            go_loopg [7] 4 (fun gh t wx => ∃ k : Nat, k + gh = 4 ∧ t = .int .i64 k ∧ Fou w wx hb (v.part (stripe v bs I) k))
            case atStart => exact ⟨0, rfl, rfl, HFn.out⟩
            case round =>
              obtain ⟨k, hk, rfl, hf⟩ := hrel
              have HK := Lib.hid hk
              have HFk := Lib.hid hf
              have hk4 : k ≤ 4 := by omega
              clear hk hf HFn
              by_cases hk3 : k < 4
              · have hki : (k : Int) < 4 := by omega
                obtain ⟨x, hx⟩ : ∃ x, x = v.get k := ⟨_, rfl⟩
                obtain ⟨y, hy⟩ : ∃ y, y = num bs (I + 8 * k) 8 := ⟨_, rfl⟩
                have hset := V4.part_set v (stripe v bs I) k hk3
                rw [stripe_get v bs I k hk3, ← hx, ← hy] at hset
                have q : wr.cell? ⟨hb, k, none⟩ = some (.int .u64 (x.toNat : Int)) := by rw [hx, ← V4.part_get v (stripe v bs I) k hk3]; exact (HFk.out.1.cell k).trans (V4.cells_get _ k hk3)
                have wf := HFk.out.1.free k
                have HSt := Lib.hid hset
                have HAT : Hid (∀ W, Calls Try.prog 19 #[.string S, .int .i64 ((I : Int) + 8 * (k : Int)), .int .i64 8] W fun e w' => e = .returned (.int .u64 (y.toNat : Int)) ∧ Below W.heap.size W w') := fun W => by
                  have h := at_any S (I + 8 * k) 8 (by decide) (Nat.le_refl _) (by rw [HSL.out]; omega) W
                  rw [← HBS.out, ← hy] at h
                  have e : ((I + 8 * k : Nat) : Int) = (I : Int) + 8 * (k : Int) := by omega
                  rw [e] at h
                  exact h
                have x1 : IntKind.i64.wrap (8 * (k : Int)) = 8 * (k : Int) := IntWalk.i64_in _ (by omega)
                have x2 : IntKind.i64.wrap ((I : Int) + 8 * (k : Int)) = (I : Int) + 8 * (k : Int) := IntWalk.i64_in _ (by omega)
                clear hx hy hset
                go_upto_region 10 with fail
                go_region_with (first
                    | (go_at_call 19; refine (HAT.out _).mono ?_; rintro e' w7 ⟨rfl, hB7⟩; have HB7 : Hid (Below wr.heap.size wr w7) := (⟨hB7.os, hB7.tape, hB7.output, hB7.size, hB7.block⟩ : Below wr.heap.size wr w7); have s7 : Fou w w7 hb (v.part (stripe v bs I) k) := HFk.out.step HB7.out; have c7 : w7.cell? ⟨hb, k, none⟩ = some (.int .u64 (x.toNat : Int)) := (s7.1.cell k).trans (by rw [← HFk.out.1.cell k]; exact q); have f7 := s7.1.free k; have S7 := Lib.hid s7; clear hB7 s7)
                    | (go_at_call 18; refine (rround_any _ _ _).mono ?_; rintro e' w8 ⟨rfl, rfl⟩))
                all_goals
                  go_wp2_with fail
                  go_roundg (4 - (k + 1))
                  case measure => have := HK.out; omega
                  case rel => exact ⟨k + 1, by omega, by go_num, S7.out.put k _ HSt.out⟩
              · have hk : k = 4 := by omega
                subst hk
                have hF4 : Fou w wr hb (stripe v bs I) := by have := HFk.out; rw [V4.part_four] at this; exact this
                have HF4 := Lib.hid hF4
                clear hF4 HFk HK
                go_wp2_with fail
                go_roundg (Q - (n + 1))
                case measure => have := HN.out; omega
                case rel => exact ⟨n + 1, I + 32, by omega, by have := HI.out; omega, by go_num, by rw [HV.out]; exact HF4.out⟩
          · have hnQ : n = Q := by omega
            have hI32 : ¬ I + 32 ≤ L := by have := HI.out; have := HQ.out; omega
            have hIi : ¬ (I : Int) + 32 ≤ (L : Int) := by omega
            have hIb : I ≤ 1000000000000 := by have := HI.out; have := HQ.out; omega
            obtain ⟨v, hv⟩ : ∃ v, v = stOf bs := ⟨_, rfl⟩
            have HFv : Hid (Fou w wr hb v) := by have := HFn.out; rw [hnQ, HQ.out, ← HBL.out] at this; rw [hv]; exact this
            have HHD : Hid (head bs = joinN v 4) := by unfold Hid head; rw [if_pos (by rw [HBL.out]; exact h32), hv]
            clear hv HFn
            have q0 : wr.cell? ⟨hb, 0, none⟩ = some (.int .u64 (v.a.toNat : Int)) := HFv.out.1.cell 0
            have q1 : wr.cell? ⟨hb, 1, none⟩ = some (.int .u64 (v.b.toNat : Int)) := HFv.out.1.cell 1
            have q2 : wr.cell? ⟨hb, 2, none⟩ = some (.int .u64 (v.c.toNat : Int)) := HFv.out.1.cell 2
            have q3 : wr.cell? ⟨hb, 3, none⟩ = some (.int .u64 (v.d.toNat : Int)) := HFv.out.1.cell 3
            go_upto_region 12 with fail
            go_quiet ((go_at_call 20; refine Calls.quiet_of_same ((turn_any _ _ _ (by decide) (by decide)).mono fun _ _ hh => ⟨hh.1, hh.2.symm⟩)))
            have HFd : Hid (Fou w (wr.drewN nq) hb v) := HFv.out.drawn nq
            clear q0 q1 q2 q3 HFv
            go_wp2_with fail
            obtain ⟨w2, hw2⟩ : ∃ w2, w2 = wr.drewN nq := ⟨_, rfl⟩
            rw [← hw2] at HFd ⊢
            clear hw2
            go_loopg [3, 8] 4 (fun gh y t wx => ∃ k : Nat, k + gh = 4 ∧ w2 = wx ∧ t = .int .i64 k ∧ y = .int .u64 ((joinN v k).toNat : Int))
            case atStart => exact ⟨0, rfl, rfl, rfl, rfl⟩
            case round =>
              obtain ⟨k, hk, rfl, rfl, rfl⟩ := hrel
              have HK := Lib.hid hk
              have hk4 : k ≤ 4 := by omega
              clear hk
              obtain ⟨y, hy⟩ : ∃ y, y = joinN v k := ⟨_, rfl⟩
              rw [← hy]
              have HY := Lib.hid hy
              clear hy
              by_cases hk3 : k < 4
              · have hki : (k : Int) < 4 := by omega
                obtain ⟨x, hx⟩ : ∃ x, x = v.get k := ⟨_, rfl⟩
                have HM : Hid (joinN v (k + 1) = merge y x) := by rw [hx, HY.out]; rfl
                have q : w2.cell? ⟨hb, k, none⟩ = some (.int .u64 (x.toNat : Int)) := by rw [hx]; exact (HFd.out.1.cell k).trans (V4.cells_get _ k hk3)
                clear hx
                go_wp2_with (go_at_call 18; refine (rround0_any _ _).mono ?_; rintro e' w' ⟨rfl, rfl⟩)
                go_roundg (4 - (k + 1))
                case measure => have := HK.out; omega
                case rel => exact ⟨k + 1, by omega, rfl, by go_num, by rw [HM.out]; rfl⟩
              · have hk : k = 4 := by omega
                subst hk
                go_wp2_with fail
                go_meet
                exact ⟨by rw [HHD.out, HY.out], by have := HI.out; rw [hnQ] at this; rw [this], HFd.out.2.1⟩
    · have h32i : ¬ (32 : Int) ≤ (L : Int) := by omega
      have HHD : Hid (head bs = p5) := by unfold Hid head; rw [if_neg (by rw [HBL.out]; exact h32)]
      have hQ0 : Q = 0 := by have := HQ.out; omega
      go_wp2_with fail
      go_meet
      exact ⟨by rw [HHD.out]; rfl, by rw [hQ0]; rfl, Below.refl _ _⟩
  case rest =>
    obtain ⟨rfl, rfl, hB⟩ := hcut
    have HB := Lib.hid hB
    clear hB
    obtain ⟨P, hP⟩ : ∃ P, P = 32 * Q := ⟨_, rfl⟩
    rw [← hP]
    obtain ⟨R, hR⟩ : ∃ R, R = bs.drop P := ⟨_, rfl⟩
    obtain ⟨M, hM⟩ : ∃ M, M = L - P := ⟨_, rfl⟩
    have hPL : P ≤ L := by have := HQ.out; omega
    have HRl : Hid (R.length = M) := by unfold Hid; rw [hR, List.length_drop, HBL.out, hM]
    obtain ⟨hd, hhd⟩ : ∃ hd, hd = head bs := ⟨_, rfl⟩
    rw [← hhd]
    obtain ⟨lu, hlu⟩ : ∃ lu, lu = UInt64.ofNat L := ⟨_, rfl⟩
    have hli : (L : Int) = (lu.toNat : Int) := by rw [hlu, UInt64.toNat_ofNat_of_lt' (Nat.lt_of_le_of_lt hs (by decide))]
    obtain ⟨h0, hh0⟩ : ∃ h0, h0 = qA hd lu := ⟨_, rfl⟩
    have hq : IntKind.u64.wrap ((hd.toNat : Int) + (L : Int)) = (h0.toNat : Int) := by rw [hli, q_add, hh0]
    have HX : Hid (xxhOf bs = fins (rests h0 R)) := by
      unfold Hid xxhOf
      rw [hh0, hhd, hlu, hR, hP, HQ.out, HBL.out]
    have HR := Lib.hid hR
    have HM := Lib.hid hM
    have HPQ := Lib.hid hP
    have hPi : (P : Int) ≤ 1000000000000 := by omega
    obtain ⟨N, hN⟩ : ∃ N, N = M / 8 := ⟨_, rfl⟩
    have HN := Lib.hid hN
    clear hP hR hM hhd hlu hli hh0 hN
    go_wp2_with fail
    go_loopg [3, 4] N (fun gh p i wx => ∃ n I : Nat, n + gh = N ∧ I = P + 8 * n ∧ i = .int .i64 (I : Int) ∧ p = .int .u64 ((eights R h0 n).toNat : Int) ∧ Below w.heap.size w wx)
    case atStart => exact ⟨0, P, by omega, by omega, rfl, rfl, HB.out⟩
    case round =>
      obtain ⟨n, I, hn, hI, rfl, rfl, hB⟩ := hrel
      have HNn := Lib.hid hn
      have HI := Lib.hid hI
      have HBr := Lib.hid hB
      have hnN : n ≤ N := by omega
      have hIL : I ≤ L := by have := HN.out; have := HM.out; omega
      obtain ⟨y, hy⟩ : ∃ y, y = eights R h0 n := ⟨_, rfl⟩
      rw [← hy]
      have HY := Lib.hid hy
      clear hn hI hB hy hq HB
      by_cases hlt : n < N
      · have hI8 : I + 8 ≤ L := by have := HN.out; have := HM.out; have := HI.out; omega
        have hIi : (I : Int) + 8 ≤ (L : Int) := by omega
        obtain ⟨z, hz⟩ : ∃ z, z = num bs I 8 := ⟨_, rfl⟩
        have HE : Hid (eights R h0 (n + 1) = eight y z) := by
          unfold Hid
          rw [eights, ← HY.out, hz, HI.out, num_drop, ← HR.out]
        have HAT : Hid (∀ W, Calls Try.prog 19 #[.string S, .int .i64 (I : Int), .int .i64 8] W fun e w' => e = .returned (.int .u64 (z.toNat : Int)) ∧ Below W.heap.size W w') := fun W => by
          have h := at_any S I 8 (by decide) (Nat.le_refl _) (by rw [HSL.out]; omega) W
          rw [← HBS.out, ← hz] at h
          exact h
        clear hz
        go_wp2_with (first
          | (go_at_call 19; refine (HAT.out _).mono ?_; rintro e' w5 ⟨rfl, hB5⟩; have HB5 := Lib.hid hB5; clear hB5)
          | (go_at_call 18; refine (rround0_any _ _).mono ?_; rintro e' w' ⟨rfl, rfl⟩)
          | (go_at_call 20; refine (turn_any _ _ _ (by decide) (by decide)).mono ?_; rintro e' w' ⟨rfl, rfl⟩))
        go_roundg (N - (n + 1))
        case measure => have := HNn.out; omega
        case rel => exact ⟨n + 1, I + 8, by omega, by have := HI.out; omega, by go_num, by rw [HE.out]; rfl, HBr.out.trans (HB5.out.mono HBr.out.size)⟩
      · have hnN : n = N := by omega
        have hI8 : ¬ I + 8 ≤ L := by have := HN.out; have := HM.out; have := HI.out; omega
        have hIi : ¬ (I : Int) + 8 ≤ (L : Int) := by omega
        obtain ⟨rs, hrs⟩ : ∃ rs, rs = R.drop (8 * n) := ⟨_, rfl⟩
        have hrb : rs = bs.drop I := by rw [hrs, HR.out, List.drop_drop, HI.out]
        have hrl : rs.length = L - I := by rw [hrb, List.length_drop, HBL.out]
        have HXr : Hid (xxhOf bs = fins (ones (aft rs) (fours y rs))) := by
          unfold Hid
          rw [HX.out, HY.out]
          unfold rests
          rw [HRl.out, ← HN.out, ← hnN, ← hrs]
        have HRb := Lib.hid hrb
        have HRr := Lib.hid hrl
        clear hrs hrb hrl hnN HX HY HNn HN HM HI HRl HR
        go_upto_if 94 with fail
        go_cut [3, 4] (fun p i wx => ∃ J : Nat, J ≤ L ∧ i = .int .i64 (J : Int) ∧ p = .int .u64 ((fours y rs).toNat : Int) ∧ aft rs = bs.drop J ∧ Below w.heap.size w wx)
        case first =>
          by_cases h4 : I + 4 ≤ L
          · have h4i : (I : Int) + 4 ≤ (L : Int) := by omega
            obtain ⟨z, hz⟩ : ∃ z, z = num bs I 4 := ⟨_, rfl⟩
            have HF : Hid (fours y rs = four y z) := by
              unfold Hid fours
              rw [if_pos (by rw [HRr.out]; omega), hz, show num bs I 4 = num bs (I + 0) 4 by rfl, num_drop, ← HRb.out]
            have HA : Hid (aft rs = bs.drop (I + 4)) := by
              unfold Hid aft
              rw [if_pos (by rw [HRr.out]; omega), HRb.out, List.drop_drop]
            have HAT : Hid (∀ W, Calls Try.prog 19 #[.string S, .int .i64 (I : Int), .int .i64 4] W fun e w' => e = .returned (.int .u64 (z.toNat : Int)) ∧ Below W.heap.size W w') := fun W => by
              have h := at_any S I 4 (by decide) (by decide) (by rw [HSL.out]; omega) W
              rw [← HBS.out, ← hz] at h
              exact h
            clear hz
            go_wp2_with (first
              | (go_at_call 19; refine (HAT.out _).mono ?_; rintro e' w5 ⟨rfl, hB5⟩; have HB5 := Lib.hid hB5; clear hB5)
              | (go_at_call 20; refine (turn_any _ _ _ (by decide) (by decide)).mono ?_; rintro e' w' ⟨rfl, rfl⟩))
            go_meet
            exact ⟨I + 4, h4, by go_num, by rw [HF.out]; rfl, HA.out, HBr.out.trans (HB5.out.mono HBr.out.size)⟩
          · have h4i : ¬ (I : Int) + 4 ≤ (L : Int) := by omega
            have HF : Hid (fours y rs = y) := by
              unfold Hid fours
              rw [if_neg (by rw [HRr.out]; omega)]
            have HA : Hid (aft rs = bs.drop I) := by
              unfold Hid aft
              rw [if_neg (by rw [HRr.out]; omega), HRb.out]
            go_wp2_with fail
            go_meet
            exact ⟨I, hIL, rfl, by rw [HF.out], HA.out, HBr.out⟩
        case rest =>
          obtain ⟨J, hJL, rfl, rfl, hA, hB⟩ := hcut
          obtain ⟨ts, hts⟩ : ∃ ts, ts = aft rs := ⟨_, rfl⟩
          obtain ⟨u, hu⟩ : ∃ u, u = fours y rs := ⟨_, rfl⟩
          rw [← hts, ← hu] at HXr
          rw [← hts] at hA
          rw [← hu]
          have hTl : ts.length = L - J := by rw [hA, List.length_drop, HBL.out]
          have HA := Lib.hid hA
          have HTl := Lib.hid hTl
          have HB2 := Lib.hid hB
          clear hts hu hA hTl hB HBr HRb HRr
          go_wp2_with fail
          go_loopg [3, 4] (L - J) (fun gh p i wx => ∃ k I2 : Nat, wc = wx ∧ k + gh = L - J ∧ I2 = J + k ∧ i = .int .i64 (I2 : Int) ∧ p = .int .u64 ((ones (ts.take k) u).toNat : Int))
          case atStart => exact ⟨0, J, rfl, by omega, rfl, rfl, rfl⟩
          case round =>
            obtain ⟨k, I2, rfl, hk, hI2, rfl, rfl⟩ := hrel
            have HK := Lib.hid hk
            have HI2 := Lib.hid hI2
            have hI2L : I2 ≤ L := by omega
            obtain ⟨v, hv⟩ : ∃ v, v = ones (ts.take k) u := ⟨_, rfl⟩
            rw [← hv]
            have HV := Lib.hid hv
            clear hk hI2 hv
            by_cases hlt : I2 < L
            · have hlS : I2 < S.size := by rw [HSL.out]; exact hlt
              have hkt : k < ts.length := by rw [HTl.out]; have := HI2.out; omega
              obtain ⟨t, ht⟩ : ∃ t, t = ts.getD k 0 := ⟨_, rfl⟩
              have HS : Hid (ones (ts.take (k + 1)) u = one1 v t) := by rw [HV.out, ht]; exact ones_snoc ts u k hkt
              have hst : S[I2] = t := by
                rw [ht, HA.out]
                have e : bs.drop J = S.data.toList.drop J := by rw [HBS.out]
                rw [e]
                simp only [List.getD_eq_getElem?_getD, List.getElem?_drop, ← HI2.out]
                rw [List.getElem?_eq_getElem (by simpa using hlS)]
                rfl
              have h8t : ((S[I2]).toNat : Int) = ((q8 t).toNat : Int) := by rw [hst, q8_nat]
              have hwr : IntKind.u64.wrap ((q8 t).toNat : Int) = ((q8 t).toNat : Int) := by rw [← q8_nat, IntKind.wrap_u64]; have := t.toNat_lt; omega
              clear ht hkt hst
              go_wp2_with (go_at_call 20; refine (turn_any _ _ _ (by decide) (by decide)).mono ?_; rintro e' w' ⟨rfl, rfl⟩)
              go_roundg (L - J - (k + 1))
              case measure => have := HK.out; have := HI2.out; omega
              case rel => exact ⟨k + 1, I2 + 1, rfl, by have := HI2.out; omega, by have := HI2.out; omega, by go_num, by rw [HS.out]; rfl⟩
            · have hIL2 : I2 = L := by omega
              have hti : ¬ (I2 : Int) < (L : Int) := by omega
              have HZ : Hid (xxhOf bs = fins v) := by
                unfold Hid
                rw [HXr.out, HV.out, List.take_of_length_le (by rw [HTl.out]; have := HI2.out; omega)]
              go_wp2_with fail
              go_ret
              exact ⟨by rw [HZ.out]; rfl, HB2.out⟩
end Go.Proofs.Ytlcbopjadjbmoaa
