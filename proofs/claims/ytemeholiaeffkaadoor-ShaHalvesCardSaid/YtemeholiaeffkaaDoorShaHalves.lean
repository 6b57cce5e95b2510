/- ShaHalves holds, tied to the program's text: for every two slices of bytes and every byte the law returns true, and the slices read behind the call as they read before. No condition of ours; the row's own: the package's two tables read as the text lays them. -/
import Derived.Test.YtemeholiaeffkaaDoorShaArgs
namespace Go.Proofs.YtemeholiaeffkaaDoor.shaHalves
open Go.ChangeShapes Go.WideShapes Go.ChangeAt Go.RowKit

/-- Bytes k times. -/
def rep (l : List UInt8) : Nat → List UInt8
  | 0 => []
  | k + 1 => rep l k ++ l
theorem rep_length (l : List UInt8) (k : Nat) : (rep l k).length = k * l.length := by
  induction k with
  | zero => simp [rep]
  | succ k ih => simp [rep, ih, Nat.succ_mul]

/-- Two digests that lie apart; nothing that was there has turned. -/
def Two (w wx : World) (g g2 : Nat) (A B : List UInt8) : Prop := Hsh wx g A ∧ Hsh wx g2 B ∧ Below w.heap.size w wx
section
variable {w wx w' : World} {g g2 : Nat} {A B A' : List UInt8}
theorem Two.left (h : Two w wx g g2 A B) (hn : g ≠ g2) (hg : w.heap.size ≤ g) (hh : Hsh w' g A') (hw : wx.grownBy w' (some g)) : Two w w' g g2 A' B :=
  ⟨hh, h.2.1.keep (hw.block g2 h.2.1.lt (fun e => hn (by injection e with e; exact e.symm))), h.2.2.trans (wide_to_below hw h.2.2.size hg)⟩
theorem Two.right (h : Two w wx g g2 A B) (hn : g ≠ g2) (hg : w.heap.size ≤ g2) (hh : Hsh w' g2 A') (hw : wx.grownBy w' (some g2)) : Two w w' g g2 A A' :=
  ⟨h.1.keep (hw.block g h.1.lt (fun e => hn (by injection e with e))), hh, h.2.2.trans (wide_to_below hw h.2.2.size hg)⟩
theorem Two.grown {base : Nat} {r : Option Nat} (h : Two w wx g g2 A B) (hw : wx.grownBy w' r) (hr : ∀ k, r = some k → base ≤ k) (hg : g2 < base) (hgg : g < base ∧ w.heap.size ≤ base) : Two w w' g g2 A B :=
  ⟨h.1.keep (hw.block g h.1.lt (fun e => by have := hr g e.symm; omega)), h.2.1.keep (hw.block g2 h.2.1.lt (fun e => by have := hr g2 e.symm; omega)),
    h.2.2.trans ⟨hw.os, hw.tape, hw.output, hw.size, fun k hk => hw.block k (by have := h.2.2.size; omega) (fun e => by have := hr k e.symm; omega)⟩⟩
theorem Two.step (h : Two w wx g g2 A B) (hB : Below wx.heap.size wx w') : Two w w' g g2 A B :=
  ⟨h.1.keep (hB.block g h.1.lt), h.2.1.keep (hB.block g2 h.2.1.lt), h.2.2.trans (hB.mono h.2.2.size)⟩
end

set_option maxRecDepth 100000 in
set_option maxHeartbeats 4000000 in
theorem walk (a0 : Option Addr) (xs : List UInt8) (cap0 : Nat) (a1 : Option Addr) (ys : List UInt8) (cap1 : Nat) (n : Nat) (w : World) (hgl : Glob w) (hd0 : Dat false w 0 w.heap.size a0 xs) (hd1 : Dat false w 0 w.heap.size a1 ys) (hc0 : xs.length ≤ cap0) (hc1 : ys.length ≤ cap1) (hn : n ≤ 255) :
    Calls Tryd.prog 6 #[.slice a0 xs.length cap0, .slice a1 ys.length cap1, .int .u8 (n : Int)] w fun e w' => e = .returned (.bool true) ∧ Below w.heap.size w w' := by
  obtain ⟨i0, hi0, hz0, hz1, hz2⟩ := info_parts u8_info
  have HG := Lib.hid hgl
  have HD0 := Lib.hid hd0
  have HD1 := Lib.hid hd1
  have hw2 := hgl.2.2
  clear hgl hd0 hd1
  by_cases hsmall : xs.length ≤ 500 ∧ ys.length ≤ 500
  · obtain ⟨hx5, hy5⟩ := hsmall
    have hxi : ¬ (500 : Int) < (xs.length : Int) := by omega
    have hyi : ¬ (500 : Int) < (ys.length : Int) := by omega
    go_enter Tryd.func6, Tryd.ntmps6
    go_upto_region 6 with (go_at_call 7; refine (awake_any _ HG.out).mono ?_; rintro e' w1 ⟨rfl, hB1⟩; have HB1 := Lib.hid hB1; clear hB1)
    go_cut [8] (fun p wx => ∃ g, p = .pointer (some ⟨g, 0, none⟩) ∧ w.heap.size ≤ g ∧ Hsh wx g [] ∧ Below w.heap.size w wx)
    case first =>
      go_wp2_with (go_at_call 8; refine (new_any _ (HG.out.below HB1.out hw2)).mono ?_; rintro e' w5 ⟨rfl, hh5, hB5⟩; have HH5 := Lib.hid hh5; have HB5 := Lib.hid hB5; clear hh5 hB5)
      go_meet
      exact ⟨_, rfl, HB1.out.size, HH5.out, HB1.out.trans (HB5.out.mono HB1.out.size)⟩
    case rest =>
      obtain ⟨g, rfl, hg, hh, hB⟩ := hcut
      have HX := Lib.hid hh
      have HB := Lib.hid hB
      clear hh hB HB1
      go_upto_region 7 with fail
      go_cut [9] (fun p wx => ∃ g2, p = .pointer (some ⟨g2, 0, none⟩) ∧ g < g2 ∧ Two w wx g g2 [] [])
      case first =>
        go_wp2_with (go_at_call 8; refine (new_any _ (HG.out.below HB.out hw2)).mono ?_; rintro e' w5 ⟨rfl, hh5, hB5⟩; have HH5 := Lib.hid hh5; have HB5 := Lib.hid hB5; clear hh5 hB5)
        go_meet
        exact ⟨_, rfl, HX.out.lt, HX.out.keep (HB5.out.block _ HX.out.lt), HH5.out, HB.out.trans (HB5.out.mono HB.out.size)⟩
      case rest =>
        obtain ⟨g2, rfl, hg2, ht⟩ := hcut
        have HT := Lib.hid ht
        have hne : g ≠ g2 := by omega
        have hgw2 : w.heap.size ≤ g2 := by omega
        clear ht HX HB
        obtain ⟨N, hN⟩ : ∃ N, N = n % 5 := ⟨_, rfl⟩
        have hNi : (n : Int) % 5 = (N : Int) := by omega
        have hN5 : N < 5 := by omega
        clear hN
        go_wp2_with fail
        go_loopg [10] N (fun gh i wx => ∃ k : Nat, k + gh = N ∧ i = .int .i64 k ∧ Two w wx g g2 (rep (xs ++ ys) k) (rep (xs ++ ys) k))
        case atStart => exact ⟨0, by omega, rfl, HT.out⟩
        case round =>
          obtain ⟨k, hk, rfl, ht⟩ := hrel
          have HK := Lib.hid hk
          have HTr := Lib.hid ht
          have hkN : k ≤ N := by omega
          have hlen : (rep (xs ++ ys) k).length ≤ 4000 := by
            rw [rep_length, List.length_append]
            have : k * (xs.length + ys.length) ≤ 4 * 1000 := Nat.mul_le_mul (by omega) (by omega)
            omega
          clear hk ht HT
          by_cases hlt : k < N
          · have hlti : (k : Int) < (N : Int) := by omega
            obtain ⟨R, hR⟩ : ∃ R, R = rep (xs ++ ys) k := ⟨_, rfl⟩
            rw [← hR] at HTr hlen
            have HR := Lib.hid hR
            clear hR
            go_upto_region 11 with fail
            go_cut [] (fun wx => Two w wx g g2 (R ++ xs) R)
            case first =>
              go_wp2_with (go_at_call 9; refine (write_any (HG.out.below HTr.out.2.2 hw2) HTr.out.1 (HD0.out.below HTr.out.2.2 (Nat.le_refl _)) rfl hc0 (.inr (by omega)) HTr.out.2.2.size (by omega) (by omega)).mono ?_; rintro e' w6 ⟨rfl, hh6, hg6⟩; have HT6 := Lib.hid (HTr.out.left hne hg hh6 hg6); clear hh6 hg6)
              go_meet
              exact HT6.out
            case rest =>
              have HT1 := Lib.hid (show Two w wc g g2 (R ++ xs) R from hcut)
              clear hcut HTr
              go_upto_region 12 with fail
              go_cut [] (fun wx => Two w wx g g2 (R ++ (xs ++ ys)) R)
              case first =>
                go_wp2_with (go_at_call 9; refine (write_any (HG.out.below HT1.out.2.2 hw2) HT1.out.1 (HD1.out.below HT1.out.2.2 (Nat.le_refl _)) rfl hc1 (.inr (by omega)) HT1.out.2.2.size (by omega) (by rw [List.length_append]; omega)).mono ?_; rintro e' w6 ⟨rfl, hh6, hg6⟩; have HT6 := Lib.hid (HT1.out.left hne hg hh6 hg6); clear hh6 hg6)
                go_meet
                have := HT6.out
                rw [List.append_assoc] at this
                exact this
              case rest =>
                have HT2 := Lib.hid (show Two w wc g g2 (R ++ (xs ++ ys)) R from hcut)
                clear hcut HT1
                go_upto_region 14 with fail
                go_cut [11] (fun p wx => ∃ base A c, p = .slice A xs.length c ∧ OwB wx 5 base p xs ∧ g2 < base ∧ base ≤ wx.heap.size ∧ Two w wx g g2 (R ++ (xs ++ ys)) R)
                case first =>
                  have HDc := Lib.hid (HD0.out.below HT2.out.2.2 (Nat.le_refl _))
                  have hl1 := HT2.out.1.lt
                  have hl2 := HT2.out.2.2.size
                  go_wp2_with (at_builtin; refine list_app _ rfl _ _ 26 rfl i0 Tryd.underlying26 hi0 hz0 hz1 hz2 rfl (OwB.nil wc 5 wc.heap.size) rfl HDc.out rfl (by simp; omega) (Nat.le_refl _) ?_)
                  intro v5 w5 ho hgr hat
                  obtain ⟨A5, c5, hv5, _, _⟩ := ho.form
                  subst hv5
                  have HO := Lib.hid ho
                  have HT5 := Lib.hid (HT2.out.grown hgr (base := wc.heap.size) (fun k hk => by cases hk) HT2.out.2.1.lt (by omega))
                  have hs5 := hgr.size
                  clear ho hgr hat
                  go_wp2_with fail
                  go_meet
                  exact ⟨_, _, _, rfl, HO.out, HT2.out.2.1.lt, hs5, HT5.out⟩
                case rest =>
                  obtain ⟨base, A5, c5, rfl, ho, hgb, hbs, ht⟩ := hcut
                  have HO := Lib.hid ho
                  have HT3 := Lib.hid ht
                  clear ho ht HT2
                  have HDc := Lib.hid (HD1.out.below HT3.out.2.2 (Nat.le_refl _))
                  go_wp2_with (at_builtin; refine list_app _ rfl _ _ 26 rfl i0 Tryd.underlying26 hi0 hz0 hz1 hz2 rfl HO.out rfl HDc.out rfl (by omega) hbs ?_)
                  intro v6 w6 ho hgr hat
                  obtain ⟨A6, c6, hv6, hc6, hd6⟩ := ho.form
                  subst hv6
                  rw [List.length_append] at hc6
                  have HD6 := Lib.hid hd6
                  have hblk : ∀ k, (Value.slice A5 xs.length c5).ownBlock = some k → base ≤ k := fun k hk => (HO.out.block k hk).1
                  have HT6 := Lib.hid (HT3.out.grown (base := base) hgr hblk hgb (by omega))
                  clear hblk
                  clear ho hgr hat hd6
                  go_wp2_with (go_at_call 9; refine (write_any (HG.out.below HT6.out.2.2 hw2) HT6.out.2.1 HD6.out List.length_append hc6 (.inl hgb) (Nat.le_refl _) (by omega) (by omega)).mono ?_; rintro e' w7 ⟨rfl, hh7, hg7⟩; have HT7 := Lib.hid (HT6.out.right hne hgw2 hh7 hg7); clear hh7 hg7)
                  go_roundg (N - (k + 1))
                  case measure => have := HK.out; omega
                  case rel =>
                    refine ⟨k + 1, by omega, by go_num, ?_⟩
                    rw [rep, ← HR.out]
                    exact HT7.out
          · have hkN : k = N := by omega
            subst hkN
            obtain ⟨R, hR⟩ : ∃ R, R = rep (xs ++ ys) k := ⟨_, rfl⟩
            rw [← hR] at HTr hlen
            obtain ⟨Z, hZ⟩ : ∃ Z, Z = bcells (shaOf kw R) := ⟨_, rfl⟩
            have heq : ∀ W, (Op.equalIn 10000 29 (.agg Z) (.agg Z)).run Tryd.prog W = .ok true W := by rw [hZ]; exact eq32 _
            have HSUM := Lib.hid (fun (W : World) (p : Nat) (h1 : Glob W) (h2 : Hsh W p R) => sum_any h1 h2 (by omega))
            rw [← hZ] at HSUM
            clear hZ hR HK
            go_wp2_with (first
              | (go_at_call 10; refine (HSUM.out wr g (HG.out.below HTr.out.2.2 hw2) HTr.out.1).mono ?_; rintro e' w6 ⟨rfl, hB6⟩; have HT6 := Lib.hid (HTr.out.step hB6); clear hB6 HTr)
              | (go_at_call 10; refine (HSUM.out w6 g2 (HG.out.below HT6.out.2.2 hw2) HT6.out.2.1).mono ?_; rintro e' w7 ⟨rfl, hB7⟩; have HT7 := Lib.hid (HT6.out.step hB7); clear hB7 HT6)
              | (go_at_call 10; refine (HSUM.out w7 g (HG.out.below HT7.out.2.2 hw2) HT7.out.1).mono ?_; rintro e' w8 ⟨rfl, hB8⟩; have HT8 := Lib.hid (HT7.out.step hB8); clear hB8 HT7)
              | (go_at_call 10; refine (HSUM.out w8 g (HG.out.below HT8.out.2.2 hw2) HT8.out.1).mono ?_; rintro e' w9 ⟨rfl, hB9⟩; have HT9 := Lib.hid (HT8.out.step hB9); clear hB9 HT8))
            go_ret
            exact ⟨rfl, HT9.out.2.2⟩
  · go_enter Tryd.func6, Tryd.ntmps6
    by_cases hx5 : xs.length ≤ 500
    · have hyi : (500 : Int) < (ys.length : Int) := by omega
      have hxi : ¬ (500 : Int) < (xs.length : Int) := by omega
      go_wp2_with (go_at_call 7; refine (awake_any _ HG.out).mono ?_; rintro e' w1 ⟨rfl, hB1⟩; have HB1 := Lib.hid hB1; clear hB1)
      go_ret
      exact ⟨rfl, HB1.out⟩
    · have hxi : (500 : Int) < (xs.length : Int) := by omega
      go_wp2_with (go_at_call 7; refine (awake_any _ HG.out).mono ?_; rintro e' w1 ⟨rfl, hB1⟩; have HB1 := Lib.hid hB1; clear hB1)
      go_ret
      exact ⟨rfl, HB1.out⟩

set_option maxRecDepth 100000 in
theorem lifted (os : Os) (started : os.Started) (H : Type) (enc : TypeId × Value → H) :
    ReturnsInHanded {} Tryd.checked os 6 .any (fun w args => (Rows.shaHalvesSpec.pre enc Tryd.prog Tryd.f6 [] false w args ∧ laidMetH Tryd.prog laidL w) ∧ sizedMet enc Tryd.prog Tryd.f6 (OpenSpec.ofChange Rows.shaHalvesSpec) false w args)
      (Rows.shaHalvesSpec.post enc Tryd.prog Tryd.f6 false true false false) := by
  refine returnsInHanded_of_change_and (C := Tryd.checked) (X := fun w _ => laidMetH Tryd.prog laidL w) (fun _ _ _ hh h => h.of_heap hh) own started (by kernel_rfl) Tryd.func6
    (ChangeSpec.witness_shaped (enc := enc) (C := Tryd.checked) (os := os) (X := fun w _ => laidMetH Tryd.prog laidL w) false (World.doorLaid Tryd.prog 400 os) #[.slice none 0 0, .slice none 0 0, .int .u8 0] 8 rfl (World.shaped_of_RefB (by kernel_rfl) (by kernel_rfl)) (by kernel_rfl) (by kernel_rfl) (by kernel_rfl) (door_met os _)) ?_
  intro W base args ds gs before hval0 hW _ _ hL _
  have hval : ∀ (j : Nat) t v, Tryd.f6.params[j]? = some t → args[j]? = some v → Value.okWide Tryd.prog W .any base t v := hval0
  have hW' := hW
  obtain ⟨p, q, hA0, hV, rfl, hfz, hnd⟩ := hW
  have hA : DataW.TrodAll enc Tryd.prog W 0 (fun _ => true) true Tryd.f6.params.toList args.toList ds p := hA0
  rw [Tryd.params6] at hA hval
  obtain ⟨v0, vs0, d0, ds0, p0, q0, hargs, rfl, rfl, h0, r0⟩ := trodAll_cons hA
  obtain ⟨v1, vs1, d1, ds1, p1, q1, rfl, rfl, rfl, h1, r1⟩ := trodAll_cons r0
  obtain ⟨v2, vs2, d2, ds2, p2, q2, rfl, rfl, rfl, h2, r2⟩ := trodAll_cons r1
  obtain ⟨rfl, rfl, rfl⟩ := trodAll_nil r2
  obtain rfl : args = #[v0, v1, v2] := by cases args; simp_all
  obtain ⟨rfl, rfl⟩ := trodVars_none hV
  obtain ⟨a0, len0, cap0, rfl⟩ := okWide_slice Tryd.underlying26 (hval 0 26 v0 rfl rfl)
  have k0 := h0
  have lt0 : ∀ x ∈ p0, x.block < W.heap.size := by obtain ⟨m, hm⟩ := k0; exact DataW.trod_lt m _ _ _ hm
  obtain ⟨z0, w0⟩ := row_of_trod h0
  obtain ⟨a1, len1, cap1, rfl⟩ := okWide_slice Tryd.underlying26 (hval 1 26 v1 rfl rfl)
  have k1 := h1
  have lt1 : ∀ x ∈ p1, x.block < W.heap.size := by obtain ⟨m, hm⟩ := k1; exact DataW.trod_lt m _ _ _ hm
  obtain ⟨z1, w1⟩ := row_of_trod h1
  obtain ⟨a2, rfl, rfl, rfl, w2⟩ := open_int Tryd.underlying5 (hval 2 5 v2 rfl rfl) h2
  clear hA0 hval0
  obtain ⟨xs, rfl, hc0, _, hd0⟩ := row_dat w0
  obtain ⟨ys, rfl, hc1, _, hd1⟩ := row_dat w1
  have hn : 0 ≤ a2 ∧ a2 ≤ 255 := by simpa [Lit.wf, IntKind.min, IntKind.max, IntKind.signed, IntKind.bits] using w2
  obtain ⟨n, rfl⟩ := Int.eq_ofNat_of_zero_le hn.1
  refine (walk a0 xs cap0 a1 ys cap1 n W (glob_of_laid hL) hd0 hd1 hc0 hc1 (by omega)).mono fun e W' ⟨he, bel⟩ => ?_
  subst he
  exact ⟨_, rfl, _, _, _, [], _, [], hW', trodAll_mk1 (shut_bool Tryd.underlying4 _), (trodAll_cons_mk (Below.trod laidOut (by kernel_rfl) (of_decide_eq_true (by kernel_rfl)) k0 bel lt0) (trodAll_cons_mk (Below.trod laidOut (by kernel_rfl) (of_decide_eq_true (by kernel_rfl)) k1 bel lt1) (trodAll_mk1 (shut_int Tryd.underlying5 w2)))), rfl, bel.frame _, fun h => by cases h⟩

theorem over : Rows.shaHalvesRow.holds Tryd.pinned (OpenSpec.ofChange Rows.shaHalvesSpec) :=
  OpenClaim.holds_of_wide 6 Tryd.f6 rfl rfl rfl rfl rfl rfl rfl ⟨rfl, rfl, rfl, rfl, rfl⟩ rfl rfl rfl rfl rfl (by kernel_rfl) Tryd.func6 (by kernel_rfl)
    (of_decide_eq_true (by kernel_rfl)) (by unfold Func.isWrapper; first | (rw [if_pos (by decide +kernel)]; kernel_rfl) | (rw [if_neg (by decide +kernel)]; exact ⟨rfl, rfl⟩))
    (fun os started H enc _ => lifted os started H enc)

/-- ████ THE STATEMENT ████ -/
theorem proved : Rows.ShaHalvesCardSaid :=
  Claim7.holds_tied_plain_at .later [] [.data, .data] true (true, "8f08175f283273c4b66e3bed6472d9de28d7da213c047c7ec3127563fa59be2e") false
    over (fun _ h => by cases h) (by kernel_rfl) (fun _ h => by cases h) shaHalves_row_tie rfl ⟨rfl, rfl⟩ (by kernel_rfl) rfl
    (fun f fn hf hfn => by
      obtain rfl : f = 6 := Option.some.inj ((show Tryd.prog.funcNamed Rows.shaHalvesRow.func = some 6 by kernel_rfl).symm.trans hf) |>.symm
      obtain rfl : fn = Tryd.f6 := (Option.some.inj (Tryd.func6.symm.trans hfn)).symm
      exact ⟨by kernel_rfl, fun j t ht => by
        rw [Tryd.params6] at ht
        have hm : t ∈ [26, 5] := by
          have := Array.mem_of_getElem? ht
          simp at this
          simpa using this
        have hall : ([26, 5].all fun u => !Tryd.prog.wantsStandIn u) = true := by kernel_rfl
        exact (show Tryd.prog.wantsStandIn t = false by simpa using List.all_eq_true.1 hall t hm)⟩)
    (by kernel_rfl)
#print axioms proved
end Go.Proofs.YtemeholiaeffkaaDoor.shaHalves
