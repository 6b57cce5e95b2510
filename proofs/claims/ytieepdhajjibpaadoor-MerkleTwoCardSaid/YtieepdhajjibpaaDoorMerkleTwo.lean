
/- MerkleTwo holds, tied to the program's text: for every two rows of digests, and whether the second one is the first, the law returns true. No condition of ours; the row's own: the package's variables read as the text lays them. -/
import Derived.Test.YtieepdhajjibpaaDoorMrkArgs
import Derived.Test.YtieepdhajjibpaaDoorMrkAwake
namespace Go.Proofs.YtieepdhajjibpaaDoor.merkleTwo
open Go.ChangeShapes Go.WideShapes Go.ChangeAt Go.RowKit

theorem two_form {L M : List Dg} {w w' : World} {e : Ending} (h : TwoPost L M e w w') : ∃ x y t, e = .returned (.tuple #[x, y, t]) ∧ Below w.heap.size w w' ∧ ((L.length = M.length ∧ L ≠ M ∧ rootL L = rootL M ∧ t = .bool true ∧ ∃ (xs ys : List UInt8) (AX AY : Option Addr) (cX cY : Nat), x = .slice AX 65 cX ∧ y = .slice AY 65 cY ∧ xs.length = 65 ∧ ys.length = 65 ∧ xs ≠ ys ∧ shaD xs = shaD ys ∧ Dat true w' 0 w'.heap.size AX xs ∧ Dat true w' 0 w'.heap.size AY ys) ∨ (¬ (L.length = M.length ∧ L ≠ M ∧ rootL L = rootL M) ∧ x = .slice none 0 0 ∧ y = .slice none 0 0 ∧ t = .bool false)) := by
  rcases h with ⟨h1, h2, h3, xs, ys, AX, AY, cX, cY, he, hx, hy, hne, hs, hdx, hdy, hB⟩ | ⟨hno, he, hB⟩
  · exact ⟨_, _, _, he, hB, .inl ⟨h1, h2, h3, rfl, xs, ys, AX, AY, cX, cY, rfl, rfl, hx, hy, hne, hs, hdx, hdy⟩⟩
  · exact ⟨_, _, _, he, hB, .inr ⟨hno, rfl, rfl, rfl⟩⟩

set_option maxRecDepth 20000 in
set_option maxHeartbeats 20000000 in
theorem walk (a0 : Option Addr) (L : List Dg) (cap0 : Nat) (a1 : Option Addr) (M0 : List Dg) (cap1 : Nat) (same : Bool) (w : World) (hgl : Glob w) (hd0 : DatR 32 dcs w 0 w.heap.size a0 L) (hl0 : L.length ≤ cap0) (hd1 : DatR 32 dcs w 0 w.heap.size a1 M0) (hl1 : M0.length ≤ cap1) :
    Calls Tryd.prog 6 #[.slice a0 L.length cap0, .slice a1 M0.length cap1, .bool same] w fun e w' => e = .returned (.bool true) ∧ Below w.heap.size w w' := by
  have HG := Lib.hid hgl
  have hw2 := hgl.2.2
  have HD0 := Lib.hid hd0
  have HD1 := Lib.hid hd1
  clear hgl hd0 hd1
  go_enter Tryd.func6, Tryd.ntmps6
  go_upto_region 4 with (first | (go_at_call 10; refine (mawake_any _ HG.out).mono ?_; rintro e' W ⟨rfl, hB⟩; have BW := Lib.hid hB; clear hB))
  by_cases hbig : 100 < L.length ∨ 100 < M0.length
  · by_cases h1 : 100 < L.length
    · have g1 : decide ((100 : Int) < (L.length : Int)) = true := by simp; omega
      go_wp2_with fail
      go_ret
      exact ⟨rfl, BW.out⟩
    · have h2 : 100 < M0.length := hbig.resolve_left h1
      have g1 : decide ((100 : Int) < (L.length : Int)) = false := by simp; omega
      have g2 : decide ((100 : Int) < (M0.length : Int)) = true := by simp; omega
      go_wp2_with fail
      go_ret
      exact ⟨rfl, BW.out⟩
  · have hL : L.length ≤ 100 := by omega
    have hM0 : M0.length ≤ 100 := by omega
    have g1 : decide ((100 : Int) < (L.length : Int)) = false := by simp; omega
    have g2 : decide ((100 : Int) < (M0.length : Int)) = false := by simp; omega
    have hwW := BW.out.size
    go_upto_if 23 with fail
    go_cut [1] (fun v wx => ∃ (A : Option Addr) (M : List Dg) (c : Nat), v = .slice A M.length c ∧ M.length ≤ c ∧ M.length ≤ 100 ∧ DatR 32 dcs wx 0 w.heap.size A M ∧ Below w.heap.size w wx)
    case first =>
      cases same with
      | true =>
        go_wp2_with fail
        go_meet
        exact ⟨a0, L, cap0, rfl, hl0, hL, HD0.out.below BW.out (Nat.le_refl _), BW.out⟩
      | false =>
        go_wp2_with fail
        go_meet
        exact ⟨a1, M0, cap1, rfl, hl1, hM0, HD1.out.below BW.out (Nat.le_refl _), BW.out⟩
    case rest =>
      obtain ⟨A, M, c, rfl, hlc, hM, hdm, hB⟩ := hcut
      obtain ⟨w2, rfl⟩ : ∃ w2, w2 = wc := ⟨_, rfl⟩
      have HDM := Lib.hid hdm
      have B2 := Lib.hid hB
      have hs2 := hB.size
      clear hdm hB HD1 g1 g2
      have HTW := Lib.hid (two_any (w := w2) (c := cap0) (c' := c) (HG.out.below B2.out hw2) (HD0.out.below B2.out (Nat.le_refl _)) HDM.out rfl rfl hl0 hlc hs2 hs2 (by omega) (by omega))
      go_upto_region 8 with fail
      go_cut [8, 9, 10] (fun v8 v9 v10 wx => Below w2.heap.size w2 wx ∧ ((L.length = M.length ∧ L ≠ M ∧ rootL L = rootL M ∧ v10 = .bool true ∧ ∃ (xs ys : List UInt8) (AX AY : Option Addr) (cX cY : Nat), v8 = .slice AX 65 cX ∧ v9 = .slice AY 65 cY ∧ xs.length = 65 ∧ ys.length = 65 ∧ xs ≠ ys ∧ shaD xs = shaD ys ∧ Dat true wx 0 wx.heap.size AX xs ∧ Dat true wx 0 wx.heap.size AY ys) ∨ (¬ (L.length = M.length ∧ L ≠ M ∧ rootL L = rootL M) ∧ v8 = .slice none 0 0 ∧ v9 = .slice none 0 0 ∧ v10 = .bool false)))
      case first =>
        go_wp2_with (first | (go_at_call 25; refine HTW.out.mono ?_; rintro e' w3 hp; obtain ⟨x, y, t, rfl, hpp⟩ := two_form hp; have HPP := Lib.hid hpp; clear hp hpp))
        go_meet
        exact HPP.out
      case rest =>
        obtain ⟨hB, hp⟩ := hcut
        obtain ⟨w3, rfl⟩ : ∃ w3, w3 = wc := ⟨_, rfl⟩
        have B3 : Hid (Below w.heap.size w w3) := B2.out.trans (hB.mono hs2)
        have hs3 := B3.out.size
        have b23 := Lib.hid hB
        clear hB HTW
        have CS := Lib.hid (fun (V : World) (hV : Below w.heap.size w V) (hm : DatR 32 dcs V 0 w.heap.size A M) => same_any (w := V) (c := cap0) (c' := c) (HD0.out.below hV (Nat.le_refl _)) hm rfl rfl (by omega) (by omega))
        have CR1 := Lib.hid (fun (V : World) (hV : Below w.heap.size w V) => refRoot_any L.length (w := V) (c := cap0) (Nat.le_refl _) (HD0.out.below hV (Nat.le_refl _)) rfl hl0 hV.size (by omega))
        have CR2 := Lib.hid (fun (V : World) (hV : Below w.heap.size w V) (hm : DatR 32 dcs V 0 w.heap.size A M) => refRoot_any M.length (w := V) (c := c) (Nat.le_refl _) hm rfl hlc hV.size (by omega))
        have HM3 := Lib.hid (HDM.out.below b23.out hs2)
        rcases hp with ⟨h1, h2, h3, rfl, xs, ys, AX, AY, cX, cY, rfl, rfl, hx, hy, hne, hsh, hdx, hdy⟩ | ⟨hno, rfl, rfl, rfl⟩
        · have e1 : ((L.length : Int) == (M.length : Int)) = true := by rw [h1]; simp
          rw [decide_eq_false h2] at CS
          rw [← h3] at CR2
          obtain ⟨R, hR⟩ : ∃ R, R = bcells (rootL L).1 := ⟨_, rfl⟩
          have q1 : ∀ V, (Op.equalIn 10000 25 (.agg R) (.agg R)).run Tryd.prog V = .ok true V := fun V => by rw [hR]; exact (eqD _ _ V).trans (by rw [beq_self_eq_true])
          rw [← hR] at CR1 CR2
          obtain ⟨R2, hR2⟩ : ∃ R, R = bcells (shaD xs).1 := ⟨_, rfl⟩
          have q2 : ∀ V, (Op.equalIn 10000 25 (.agg R2) (.agg R2)).run Tryd.prog V = .ok true V := fun V => by rw [hR2]; exact (eqD _ _ V).trans (by rw [beq_self_eq_true])
          obtain ⟨SX, hSX⟩ : ∃ S, S = str xs := ⟨_, rfl⟩
          obtain ⟨SY, hSY⟩ : ∃ S, S = str ys := ⟨_, rfl⟩
          have hst : (SX.toList == SY.toList) = false := by
            rw [beq_eq_false_iff_ne, hSX, hSY, ByteArray.toList_eq, ByteArray.toList_eq]
            exact hne
          have O1 : Hid (∀ V, Calls Tryd.prog 26 #[.string SX] V fun e w' => e = .returned (.agg R2) ∧ Below V.heap.size V w') := fun V => by rw [hR2]; exact rof_any SX xs hSX V (by omega)
          have O2 : Hid (∀ V, Calls Tryd.prog 26 #[.string SY] V fun e w' => e = .returned (.agg R2) ∧ Below V.heap.size V w') := fun V => by rw [hR2, hsh]; exact rof_any SY ys hSY V (by omega)
          have DX := Lib.hid hdx
          have DY := Lib.hid hdy
          have X65 := Lib.hid (And.intro hx hy)
          have HSS := Lib.hid (And.intro hSX hSY)
          clear h1 h2 h3 hne hsh hdx hdy hx hy hR hR2 hSX hSY
          go_upto_region 12 with (first
            | (go_at_call 19; refine (CS.out _ B3.out HM3.out).mono ?_; rintro e wa ⟨rfl, ha⟩; have A1 := Lib.hid ha; have Ba : Hid (Below w.heap.size w wa) := B3.out.trans (ha.mono hs3); clear ha)
            | (go_at_call 12; (with_reducible refine (CR1.out _ Ba.out).mono ?_); rintro e wb ⟨rfl, hb⟩; have A2 : Hid (Below w3.heap.size w3 wb) := A1.out.trans (hb.mono A1.out.size); have Bb : Hid (Below w.heap.size w wb) := Ba.out.trans (hb.mono Ba.out.size); clear hb Ba)
            | (go_at_call 12; (with_reducible refine (CR2.out _ Bb.out (HM3.out.below A2.out hs3)).mono ?_); rintro e W4 ⟨rfl, hb⟩; have A4 : Hid (Below w3.heap.size w3 W4) := A2.out.trans (hb.mono A2.out.size); have B4 : Hid (Below w.heap.size w W4) := Bb.out.trans (hb.mono Bb.out.size); clear hb Bb))
          have CX : Hid (∀ V, Below W4.heap.size W4 V → (convert 23 9 (.slice AX 65 cX)).run Tryd.prog V = .ok (.string SX) V) := fun V hV => by rw [HSS.out.1]; exact run_str V _ Tryd.underlying23 Tryd.underlying5 (DX.out.below (A4.out.trans (hV.mono A4.out.size)) (Nat.le_refl _)) X65.out.1 _ Tryd.underlying9
          have CY : Hid (∀ V, Below W4.heap.size W4 V → (convert 23 9 (.slice AY 65 cY)).run Tryd.prog V = .ok (.string SY) V) := fun V hV => by rw [HSS.out.2]; exact run_str V _ Tryd.underlying23 Tryd.underlying5 (DY.out.below (A4.out.trans (hV.mono A4.out.size)) (Nat.le_refl _)) X65.out.2 _ Tryd.underlying9
          refine wp_region_noPanic ?_
          refine wp_region_held_drew (S := fun V => Below W4.heap.size W4 V) (by kernel_rfl) ((Below.refl _ _).drew) (fun hH => ?_)
          generalize W4.drew = wd at hH ⊢
          have BC : Hid (Below W4.heap.size W4 wd) := hH
          refine takeH (i := 0) (v := .bool true) 62 rfl (by kernel_rfl) (by kernel_rfl) (by kernel_rfl) rfl (fun _ _ _ h => h) (Or.inl ⟨by rfl, fun w' _ => ?_⟩) hH ?_
          · go_simp
          go_frame
          refine takeH (i := 1) (v := .bool true) 63 rfl (by kernel_rfl) (by kernel_rfl) (by kernel_rfl) rfl (fun _ _ _ h => h) (Or.inl ⟨by rfl, fun w' _ => ?_⟩) hH ?_
          · go_simp
          go_frame
          refine takeH (i := 2) (v := .slice AX 65 cX) 64 rfl (by kernel_rfl) (by kernel_rfl) (by kernel_rfl) rfl (fun _ _ _ h => h) (Or.inl ⟨by rfl, fun w' _ => ?_⟩) hH ?_
          · go_simp
          go_frame
          refine takeH (i := 3) (v := .string SX) 65 rfl (by kernel_rfl) (by kernel_rfl) (by kernel_rfl) rfl (fun _ _ _ h => h) (Or.inl ⟨by rfl, fun w' hS => ?_⟩) hH ?_
          · have c2 := CX.out w' hS
            go_simp
          go_frame
          refine takeH (i := 4) (v := .slice AY 65 cY) 66 rfl (by kernel_rfl) (by kernel_rfl) (by kernel_rfl) rfl (fun _ _ _ h => h) (Or.inl ⟨by rfl, fun w' _ => ?_⟩) hH ?_
          · go_simp
          go_frame
          refine takeH (i := 5) (v := .string SY) 67 rfl (by kernel_rfl) (by kernel_rfl) (by kernel_rfl) rfl (fun _ _ _ h => h) (Or.inl ⟨by rfl, fun w' hS => ?_⟩) hH ?_
          · have c2 := CY.out w' hS
            go_simp
          go_frame
          refine takeH (i := 6) (v := .bool true) 68 rfl (by kernel_rfl) (by kernel_rfl) (by kernel_rfl) rfl (fun _ _ _ h => h) (Or.inl ⟨by rfl, fun w' _ => ?_⟩) hH ?_
          · go_simp
          go_frame
          refine takeH (i := 7) (v := .bool true) 69 rfl (by kernel_rfl) (by kernel_rfl) (by kernel_rfl) rfl (fun _ _ _ h => h) (Or.inl ⟨by rfl, fun w' _ => ?_⟩) hH ?_
          · go_simp
          go_frame
          refine takeH (i := 8) (v := .bool true) 70 rfl (by kernel_rfl) (by kernel_rfl) (by kernel_rfl) rfl (fun _ _ _ h => h) (Or.inl ⟨by rfl, fun w' _ => ?_⟩) hH ?_
          · go_simp
          go_frame
          refine takeH (i := 9) (v := .slice AX 65 cX) 71 rfl (by kernel_rfl) (by kernel_rfl) (by kernel_rfl) rfl (fun _ _ _ h => h) (Or.inl ⟨by rfl, fun w' _ => ?_⟩) hH ?_
          · go_simp
          go_frame
          refine takeH (i := 10) (v := .string SX) 72 rfl (by kernel_rfl) (by kernel_rfl) (by kernel_rfl) rfl (fun _ _ _ h => h) (Or.inl ⟨by rfl, fun w' hS => ?_⟩) hH ?_
          · have c2 := CX.out w' hS
            go_simp
          go_frame
          refine takeH (i := 12) (v := .slice AY 65 cY) 74 rfl (by kernel_rfl) (by kernel_rfl) (by kernel_rfl) rfl (fun _ _ _ h => h) (Or.inl ⟨by rfl, fun w' _ => ?_⟩) hH ?_
          · go_simp
          go_frame
          refine takeH (i := 13) (v := .string SY) 75 rfl (by kernel_rfl) (by kernel_rfl) (by kernel_rfl) rfl (fun _ _ _ h => h) (Or.inl ⟨by rfl, fun w' hS => ?_⟩) hH ?_
          · have c2 := CY.out w' hS
            go_simp
          go_frame
          refine wpAnyH_ready (rs := [11]) (by kernel_rfl) (by simp) ?_
          refine AllReadyH.cons rfl (fun K hK => ?_) AllReadyH.nil
          go_simp
          refine (O1.out _).mono ?_
          rintro e' wr0 ⟨rfl, hB⟩
          have Bwr0 : Hid (Below W4.heap.size W4 wr0) := BC.out.trans (hB.mono (by exact BC.out.size))
          clear hB BC
          have BC := Bwr0
          dsimp only
          refine hK.out _ _ Bwr0.out (fun hH => ?_)
          clear hK K
          refine wpAnyH_ready (rs := [14]) (by kernel_rfl) (by simp) ?_
          refine AllReadyH.cons rfl (fun K hK => ?_) AllReadyH.nil
          go_simp
          refine (O2.out _).mono ?_
          rintro e' wr1 ⟨rfl, hB⟩
          have Bwr1 : Hid (Below W4.heap.size W4 wr1) := BC.out.trans (hB.mono (by exact BC.out.size))
          clear hB BC
          have BC := Bwr1
          dsimp only
          refine hK.out _ _ Bwr1.out (fun hH => ?_)
          clear hK K
          refine takeH (i := 15) (v := .bool true) 77 rfl (by kernel_rfl) (by kernel_rfl) (by kernel_rfl) rfl (fun _ _ _ h => h) (Or.inl ⟨by rfl, fun w' _ => ?_⟩) hH ?_
          · go_simp
          go_frame
          refine takeH (i := 16) (v := .bool true) 78 rfl (by kernel_rfl) (by kernel_rfl) (by kernel_rfl) rfl (fun _ _ _ h => h) (Or.inl ⟨by rfl, fun w' _ => ?_⟩) hH ?_
          · go_simp
          go_frame
          refine takeH (i := 17) (v := .bool true) 6 rfl (by kernel_rfl) (by kernel_rfl) (by kernel_rfl) rfl (fun _ _ _ h => h) (Or.inl ⟨by rfl, fun w' _ => ?_⟩) hH ?_
          · go_simp
          go_frame
          refine wpAnyH_done (by kernel_rfl) ?_ _
          refine NoPanic.normal ?_
          go_wp2_with fail
          go_ret
          exact ⟨by kernel_rfl, B4.out.trans (BC.out.mono B4.out.size)⟩
        · by_cases hlen : L.length = M.length
          · have e1 : ((L.length : Int) == (M.length : Int)) = true := by rw [hlen]; simp
            by_cases he : L = M
            · rw [decide_eq_true he] at CS
              clear hno he hlen
              go_wp2_with (first
                | (go_at_call 19; refine (CS.out _ B3.out HM3.out).mono ?_; rintro e wa ⟨rfl, ha⟩; have Ba : Hid (Below w.heap.size w wa) := B3.out.trans (ha.mono hs3); clear ha))
              go_ret
              exact ⟨rfl, Ba.out⟩
            · have hr : ¬ rootL L = rootL M := fun h => hno ⟨hlen, he, h⟩
              rw [decide_eq_false he] at CS
              obtain ⟨R, hR⟩ : ∃ R, R = bcells (rootL L).1 := ⟨_, rfl⟩
              obtain ⟨R2, hR2⟩ : ∃ R, R = bcells (rootL M).1 := ⟨_, rfl⟩
              have q1 : ∀ V, (Op.equalIn 10000 25 (.agg R) (.agg R2)).run Tryd.prog V = .ok false V := fun V => by rw [hR, hR2]; exact (eqD _ _ V).trans (by rw [beq_eq_false_iff_ne.2 (fun h => hr (Subtype.ext h))])
              rw [← hR] at CR1
              rw [← hR2] at CR2
              clear hR hR2 hno he hr hlen
              go_wp2_with (first
                | (go_at_call 19; refine (CS.out _ B3.out HM3.out).mono ?_; rintro e wa ⟨rfl, ha⟩; have A1 := Lib.hid ha; have Ba : Hid (Below w.heap.size w wa) := B3.out.trans (ha.mono hs3); clear ha)
                | (go_at_call 12; (with_reducible refine (CR1.out _ Ba.out).mono ?_); rintro e wb ⟨rfl, hb⟩; have A2 : Hid (Below w3.heap.size w3 wb) := A1.out.trans (hb.mono A1.out.size); have Bb : Hid (Below w.heap.size w wb) := Ba.out.trans (hb.mono Ba.out.size); clear hb Ba)
                | (go_at_call 12; (with_reducible refine (CR2.out _ Bb.out (HM3.out.below A2.out hs3)).mono ?_); rintro e W4 ⟨rfl, hb⟩; have B4 : Hid (Below w.heap.size w W4) := Bb.out.trans (hb.mono Bb.out.size); clear hb Bb))
              go_ret
              exact ⟨rfl, B4.out⟩
          · have e1 : ((L.length : Int) == (M.length : Int)) = false := by simp; omega
            clear hno hlen
            go_wp2_with fail
            go_ret
            exact ⟨rfl, B3.out⟩

set_option maxRecDepth 100000 in
theorem lifted (os : Os) (started : os.Started) (H : Type) (enc : TypeId × Value → H) :
    ReturnsInHanded {} Tryd.checked os 6 .any (fun w args => (Rows.merkleTwoSpec.pre enc Tryd.prog Tryd.f6 [] false w args ∧ laidMetH Tryd.prog laidL w) ∧ sizedMet enc Tryd.prog Tryd.f6 (OpenSpec.ofChange Rows.merkleTwoSpec) false w args)
      (Rows.merkleTwoSpec.post enc Tryd.prog Tryd.f6 false true false false) := by
  refine returnsInHanded_of_change_and (C := Tryd.checked) (X := fun w _ => laidMetH Tryd.prog laidL w) (fun _ _ _ hh h => h.of_heap hh) own started (by kernel_rfl) Tryd.func6
    (ChangeSpec.witness_shaped (enc := enc) (C := Tryd.checked) (os := os) (X := fun w _ => laidMetH Tryd.prog laidL w) false (World.doorLaid Tryd.prog 400 os) #[.slice none 0 0, .slice none 0 0, .bool false] 8 rfl (World.shaped_of_RefB (by kernel_rfl) (by kernel_rfl)) (by kernel_rfl) (by kernel_rfl) (by kernel_rfl) (door_met os _)) ?_
  intro W base args ds gs before hval0 hW _ _ hL _
  have hval : ∀ (j : Nat) t v, Tryd.f6.params[j]? = some t → args[j]? = some v → Value.okWide Tryd.prog W .any base t v := hval0
  have hW' := hW
  obtain ⟨p, q, hA0, hV, rfl, hfz, hnd⟩ := hW
  have hA : DataW.TrodAll enc Tryd.prog W 0 (fun _ => true) true Tryd.f6.params.toList args.toList ds p := hA0
  rw [Tryd.params6] at hA hval
  obtain ⟨v0, vs0, d0, ds0, p0, q0, hargs, rfl, rfl, h0, r0⟩ := trodAll_cons hA
  obtain ⟨v1, vs1, d1, ds1, p1, q1, rfl, rfl, rfl, h1, r1⟩ := trodAll_cons r0
  obtain ⟨v2, vs2, d2, ds2, p2, q2, rfl, rfl, rfl, h2, r2⟩ := trodAll_cons r1
  obtain ⟨rfl, rfl, rfl⟩ := trodAll_nil r2
  obtain rfl : args = #[v0, v1, v2] := by cases args; simp_all
  obtain ⟨rfl, rfl⟩ := trodVars_none hV
  obtain ⟨a0, len0, cap0, rfl⟩ := okWide_slice Tryd.underlying22 (hval 0 22 v0 rfl rfl)
  have k0 := h0
  have lt0 : ∀ x ∈ p0, x.block < W.heap.size := by obtain ⟨m, hm⟩ := k0; exact DataW.trod_lt m _ _ _ hm
  obtain ⟨rs0, rfl, hl0, hm0, hd0⟩ := sums_of h0
  obtain ⟨a1, len1, cap1, rfl⟩ := okWide_slice Tryd.underlying22 (hval 1 22 v1 rfl rfl)
  have k1 := h1
  have lt1 : ∀ x ∈ p1, x.block < W.heap.size := by obtain ⟨m, hm⟩ := k1; exact DataW.trod_lt m _ _ _ hm
  obtain ⟨rs1, rfl, hl1, hm1, hd1⟩ := sums_of h1
  obtain ⟨n2, rfl, rfl, rfl⟩ := open_bool Tryd.underlying4 (hval 2 4 v2 rfl rfl) h2
  clear hA0 hval0
  refine (walk a0 rs0 cap0 a1 rs1 cap1 n2 W (glob_of_laid hL) hd0 (by omega) hd1 (by omega)).mono fun e W' ⟨he, bel⟩ => ?_
  subst he
  exact ⟨_, rfl, _, _, _, [], _, [], hW', trodAll_mk1 (shut_bool Tryd.underlying4 _), (trodAll_cons_mk (Below.trod laidOut (by kernel_rfl) (of_decide_eq_true (by kernel_rfl)) k0 bel lt0) (trodAll_cons_mk (Below.trod laidOut (by kernel_rfl) (of_decide_eq_true (by kernel_rfl)) k1 bel lt1) (trodAll_cons_mk (shut_bool Tryd.underlying4 n2) trodAll_mk0))), rfl, bel.frame _, fun h => by cases h⟩

theorem over : Rows.merkleTwoRow.holds Tryd.pinned (OpenSpec.ofChange Rows.merkleTwoSpec) :=
  OpenClaim.holds_of_wide 6 Tryd.f6 rfl rfl rfl rfl rfl rfl rfl ⟨rfl, rfl, rfl, rfl, rfl⟩ rfl rfl rfl rfl rfl (by kernel_rfl) Tryd.func6 (by kernel_rfl)
    (of_decide_eq_true (by kernel_rfl)) (by unfold Func.isWrapper; first | (rw [if_pos (by decide +kernel)]; kernel_rfl) | (rw [if_neg (by decide +kernel)]; exact ⟨rfl, rfl⟩))
    (fun os started H enc _ => lifted os started H enc)

/-- ████ THE STATEMENT ████ -/
theorem proved : Rows.MerkleTwoCardSaid :=
  Claim7.holds_tied_plain_at .later [] [.data, .data] true Rows.merkleTwoCard.stood.harness false
    over (fun _ h => by cases h) (by kernel_rfl) (fun _ h => by cases h) merkleTwo_row_tie rfl ⟨rfl, rfl⟩ (by kernel_rfl) rfl
    (fun f fn hf hfn => by
      obtain rfl : f = 6 := Option.some.inj ((show Tryd.prog.funcNamed Rows.merkleTwoRow.func = some 6 by kernel_rfl).symm.trans hf) |>.symm
      obtain rfl : fn = Tryd.f6 := (Option.some.inj (Tryd.func6.symm.trans hfn)).symm
      exact ⟨by kernel_rfl, fun j t ht => by
        rw [Tryd.params6] at ht
        have hm : t ∈ [22, 22, 4] := by
          have := Array.mem_of_getElem? ht
          simp at this
          simpa using this
        have hall : ([22, 22, 4].all fun u => !Tryd.prog.wantsStandIn u) = true := by kernel_rfl
        exact (show Tryd.prog.wantsStandIn t = false by simpa using List.all_eq_true.1 hall t hm)⟩)
    (by kernel_rfl)
#print axioms proved
end Go.Proofs.YtieepdhajjibpaaDoor.merkleTwo
