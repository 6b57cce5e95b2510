
/- The contract of Two: two rows of bytes with one digest, out of two rows of digests with one above all. -/
import Derived.Test.YtieepdhajjibpaaDoorMrkFirst
import Derived.Test.YtieepdhajjibpaaDoorMrkRefRoot
namespace Go.Proofs.YtieepdhajjibpaaDoor
open Go.RowKit

/-- The bytes that the digest above l is of. -/
def rowL (l : List Dg) (k : Nat) : List UInt8 := 1 :: ((rootL (l.take k)).1 ++ (rootL (l.drop k)).1)
theorem row_len (a b : Dg) : (1 :: (a.1 ++ b.1)).length = 65 := by simp [a.2, b.2]
theorem rowL_root {l : List Dg} (h : 2 ≤ l.length) : rootL l = shaD (rowL l (half l.length)) := root_split h
theorem rowL_eq {l m : List Dg} {k : Nat} (h : rowL l k = rowL m k) : rootL (l.take k) = rootL (m.take k) ∧ rootL (l.drop k) = rootL (m.drop k) := by
  have h2 := (List.cons.inj h).2
  have h3 := List.append_inj h2 (by rw [(rootL (l.take k)).2, (rootL (m.take k)).2])
  exact ⟨Subtype.ext h3.1, Subtype.ext h3.2⟩
theorem two_long {l m : List Dg} (hl : l.length = m.length) (hne : l ≠ m) (hr : rootL l = rootL m) : 2 ≤ l.length := by
  match l, m, hl with
  | [], [], _ => exact absurd rfl hne
  | [x], [y], _ =>
    rw [root_one, root_one] at hr
    exact absurd (by rw [hr]) hne
  | _ :: _ :: _, _, _ => simp

theorem below_drewN {B : Nat} {w w' : World} (h : Below B w w') (n : Nat) : Below B w (w'.drewN n) := ⟨h.os, h.tape, h.output, h.size, h.block⟩
/-- What Two tells. -/
def TwoPost (L M : List Dg) (e : Ending) (w w' : World) : Prop :=
  (L.length = M.length ∧ L ≠ M ∧ rootL L = rootL M ∧ ∃ (xs ys : List UInt8) (A B : Option Addr) (c c' : Nat), e = .returned (.tuple #[.slice A 65 c, .slice B 65 c', .bool true]) ∧ xs.length = 65 ∧ ys.length = 65 ∧ xs ≠ ys ∧ shaD xs = shaD ys ∧ Dat true w' 0 w'.heap.size A xs ∧ Dat true w' 0 w'.heap.size B ys ∧ Below w.heap.size w w') ∨
  (¬ (L.length = M.length ∧ L ≠ M ∧ rootL L = rootL M) ∧ e = .returned (.tuple #[.slice none 0 0, .slice none 0 0, .bool false]) ∧ Below w.heap.size w w')

set_option maxRecDepth 20000 in
set_option maxHeartbeats 4000000 in
theorem two_yes {w : World} {lo hi lo' hi' : Nat} {A B : Option Addr} {m c c' : Nat} {L M : List Dg} (hg : Glob w) (hd : DatR 32 dcs w lo hi A L) (hd' : DatR 32 dcs w lo' hi' B M) (hm : L.length = m) (hn : M.length = m) (hmc : m ≤ c) (hnc : m ≤ c') (hhi : hi ≤ w.heap.size) (hhi' : hi' ≤ w.heap.size) (hb : m ≤ 1000)
    (hne : L ≠ M) (hr : rootL L = rootL M) : Calls Tryd.prog 25 #[.slice A m c, .slice B m c'] w (TwoPost L M · w ·) := by
  have HY := Lib.hid (show L.length = M.length ∧ L ≠ M ∧ rootL L = rootL M from ⟨hm.trans hn.symm, hne, hr⟩)
  have HG := Lib.hid hg
  have hw2 := hg.2.2
  have hmm : ((m : Int) != (m : Int)) = false := by simp
  have hdec : decide (L = M) = false := decide_eq_false hne
  have HEQ := Lib.hid (fun (V : World) (hV : Below w.heap.size w V) => equal_any (w := V) (c := c) (c' := c') (hd.below hV hhi) (hd'.below hV hhi') hm hn (by omega) (by omega))
  rw [hdec] at HEQ
  have HR1 := Lib.hid (fun (V : World) (hV : Below w.heap.size w V) => root_any (w := V) (c := c) (hg.below hV hw2) (hd.below hV hhi) hm hmc (by have := hV.size; omega) (by omega))
  have HR2 := Lib.hid (fun (V : World) (hV : Below w.heap.size w V) => root_any (w := V) (c := c') (hg.below hV hw2) (hd'.below hV hhi') hn hnc (by have := hV.size; omega) (by omega))
  rw [← hr] at HR2
  obtain ⟨X, hX⟩ : ∃ X, X = bcells (rootL L).1 := ⟨_, rfl⟩
  have heq : ∀ W, (Op.equalIn 10000 25 (.agg X) (.agg X)).run Tryd.prog W = .ok true W := fun W => by
    rw [hX]
    have := eqD (rootL L) (rootL L) W
    rw [beq_self_eq_true] at this
    exact this
  rw [← hX] at HR1 HR2
  have HD := Lib.hid hd
  have HD' := Lib.hid hd'
  have HM := Lib.hid (And.intro hm hn)
  have HQ := Lib.hid (And.intro hne hr)
  clear hX hg hd hd' hm hn hne hr hdec
  go_enter Tryd.func25, Tryd.ntmps25
  go_wp2_with (first
    | (go_at_call 39; refine (HEQ.out _ (Below.refl _ _)).mono ?_; rintro e w1 ⟨rfl, hb1⟩; have B1 := Lib.hid hb1; clear hb1)
    | (go_at_call 11; (with_reducible refine (HR1.out _ B1.out).mono ?_); rintro e w2 ⟨rfl, hb2⟩; have B2 : Hid (Below w.heap.size w w2) := B1.out.trans (hb2.mono B1.out.size); clear hb2 B1)
    | (go_at_call 11; (with_reducible refine (HR2.out _ B2.out).mono ?_); rintro e w3 ⟨rfl, hb3⟩; have B3 : Hid (Below w.heap.size w w3) := B2.out.trans (hb3.mono B2.out.size); clear hb3))
  go_loopg [0, 1] m (fun gh v v' wx => ∃ (l l' : List Dg) (A1 A2 : Option Addr) (c1 c2 : Nat), l.length = gh ∧ l'.length = gh ∧ gh ≤ m ∧ v = .slice A1 gh c1 ∧ v' = .slice A2 gh c2 ∧ gh ≤ c1 ∧ gh ≤ c2 ∧ DatR 32 dcs wx lo hi A1 l ∧ DatR 32 dcs wx lo' hi' A2 l' ∧ l ≠ l' ∧ rootL l = rootL l' ∧ Below w.heap.size w wx)
  case atStart => exact ⟨L, M, A, B, c, c', HM.out.1, HM.out.2, Nat.le_refl _, rfl, rfl, hmc, hnc, HD.out.below B3.out hhi, HD'.out.below B3.out hhi', HQ.out.1, HQ.out.2, B3.out⟩
  case round =>
    clear HEQ HR1 HR2 heq HD HD' HM HQ B2 B3
    obtain ⟨l, l', A1, A2, c1, c2, hl, hl', hpm, rfl, rfl, hc1, hc2, hda, hdb, hne, hr, hB⟩ := hrel
    have h2 := two_long (hl.trans hl'.symm) hne hr
    have e1 := rowL_root h2
    have e2 := rowL_root (l := l') (by omega)
    have hkl := half_lt h2
    have hkp := half_pos l.length
    rw [hl] at e1 hkl hkp h2
    rw [hl'] at e2
    obtain ⟨p, hp⟩ : ∃ p, p = gk := ⟨_, rfl⟩
    subst hp
    obtain ⟨k, hk⟩ : ∃ k, k = half p := ⟨_, rfl⟩
    have HF := Lib.hid (fun W => firstOf_any p W h2 (by omega))
    rw [← hk] at HF e1 e2 hkl hkp
    clear hk
    obtain ⟨d, o, hA, hlo, hdh, _⟩ := hda (by omega)
    obtain ⟨d', o', hA', hlo', hdh', _⟩ := hdb (by omega)
    subst hA hA'
    have hs0 := hB.size
    have HGr := Lib.hid (HG.out.below hB hw2)
    have hr2 := HGr.out.2.2
    have C1 := Lib.hid (fun (V : World) (hV : Below wr.heap.size wr V) => root_any (w := V) (m := k) (c := c1) (HGr.out.below hV hr2) ((hda.below hV (by omega)).take k) (by rw [List.length_take]; omega) (by omega) (by have := hV.size; omega) (by omega))
    have C2 := Lib.hid (fun (V : World) (hV : Below wr.heap.size wr V) => root_any (w := V) (m := p - k) (c := c1 - k) (HGr.out.below hV hr2) ((hda.below hV (by omega)).drop k) (by rw [List.length_drop]; omega) (by omega) (by have := hV.size; omega) (by omega))
    have C3 := Lib.hid (fun (V : World) (hV : Below wr.heap.size wr V) => root_any (w := V) (m := k) (c := c2) (HGr.out.below hV hr2) ((hdb.below hV (by omega)).take k) (by rw [List.length_take]; omega) (by omega) (by have := hV.size; omega) (by omega))
    have C4 := Lib.hid (fun (V : World) (hV : Below wr.heap.size wr V) => root_any (w := V) (m := p - k) (c := c2 - k) (HGr.out.below hV hr2) ((hdb.below hV (by omega)).drop k) (by rw [List.length_drop]; omega) (by omega) (by have := hV.size; omega) (by omega))
    have CE := Lib.hid (fun (V : World) (hV : Below wr.heap.size wr V) => equal_any (w := V) (m := k) (n := k) (c := c1) (c' := c2) ((hda.below hV (by omega)).take k) ((hdb.below hV (by omega)).take k) (by rw [List.length_take]; omega) (by rw [List.length_take]; omega) (by omega) (by omega))
    have hX := Lib.hid (fun W => rowOf_any (rootL (l.take k)) (rootL (l.drop k)) W)
    have hY := Lib.hid (fun W => rowOf_any (rootL (l'.take k)) (rootL (l'.drop k)) W)
    simp only [Option.map_some, add_plain'] at C2 C4
    obtain ⟨R1, hR1⟩ : ∃ R, R = rootL (l.take k) := ⟨_, rfl⟩
    obtain ⟨R2, hR2⟩ : ∃ R, R = rootL (l.drop k) := ⟨_, rfl⟩
    obtain ⟨R3, hR3⟩ : ∃ R, R = rootL (l'.take k) := ⟨_, rfl⟩
    obtain ⟨R4, hR4⟩ : ∃ R, R = rootL (l'.drop k) := ⟨_, rfl⟩
    have hxr : rowL l k = 1 :: (R1.1 ++ R2.1) := by rw [hR1, hR2]; rfl
    have hyr : rowL l' k = 1 :: (R3.1 ++ R4.1) := by rw [hR3, hR4]; rfl
    rw [← hR1] at C1 hX
    rw [← hR2] at C2 hX
    rw [← hR3] at C3 hY
    rw [← hR4] at C4 hY
    have hck1 : ¬ c1 = k := by omega
    have hck2 : ¬ c2 = k := by omega
    have hkpi : (k : Int) ≤ (p : Int) := by omega
    have hkc1 : (k : Int) ≤ (c1 : Int) := by omega
    have hkc2 : (k : Int) ≤ (c2 : Int) := by omega
    have HDA := Lib.hid hda
    have HDB := Lib.hid hdb
    have HLL := Lib.hid (And.intro hl hl')
    have HNE := Lib.hid hne
    have HRR := Lib.hid (And.intro hr (And.intro e1 e2))
    have HXY := Lib.hid (And.intro hxr hyr)
    have HRS := Lib.hid (And.intro (And.intro hR1 hR2) (And.intro hR3 hR4))
    have HBB := Lib.hid hB
    clear hda hdb hl hl' hne hr e1 e2 hB hxr hyr hR1 hR2 hR3 hR4
    go_upto_region 4 with (first | (go_at_call 40; refine (HF.out _).mono ?_; rintro e wf ⟨rfl, rfl⟩))
    go_cut [8, 9] (fun v v' wx => ∃ (AX AY : Option Addr) (cX cY : Nat), v = .slice AX 65 cX ∧ v' = .slice AY 65 cY ∧ 65 ≤ cX ∧ 65 ≤ cY ∧ Dat true wx 0 wx.heap.size AX (1 :: (R1.1 ++ R2.1)) ∧ Dat true wx 0 wx.heap.size AY (1 :: (R3.1 ++ R4.1)) ∧ Below wr.heap.size wr wx)
    case first =>
          refine wp_region_any (by kernel_rfl) ?_
          refine wpAny_take (i := 0) (v := .slice (some ⟨d, o, none⟩) p c1) rfl (by kernel_rfl) (by kernel_rfl) (by kernel_rfl) (fun _ _ _ h => h) (Or.inl ⟨by rfl, fun w' => ?_⟩) ?_
          · go_simp
          refine wpAny_take (i := 1) (v := .int .i64 (k : Int)) rfl (by kernel_rfl) (by kernel_rfl) (by kernel_rfl) (fun _ _ _ h => h) (Or.inl ⟨by rfl, fun w' => ?_⟩) ?_
          · go_simp
          refine wpAny_take (i := 2) (v := .slice (some ⟨d, o, none⟩) k c1) rfl (by kernel_rfl) (by kernel_rfl) (by kernel_rfl) (fun _ _ _ h => h) (Or.inl ⟨by rfl, fun w' => ?_⟩) ?_
          · go_simp
          refine wpAny_take (i := 4) (v := .slice (some ⟨d, o, none⟩) p c1) rfl (by kernel_rfl) (by kernel_rfl) (by kernel_rfl) (fun _ _ _ h => h) (Or.inl ⟨by rfl, fun w' => ?_⟩) ?_
          · go_simp
          refine wpAny_take (i := 5) (v := .int .i64 (k : Int)) rfl (by kernel_rfl) (by kernel_rfl) (by kernel_rfl) (fun _ _ _ h => h) (Or.inl ⟨by rfl, fun w' => ?_⟩) ?_
          · go_simp
          refine wpAny_take (i := 6) (v := .slice (some ⟨d, o + k * 32, none⟩) (p - k) (c1 - k)) rfl (by kernel_rfl) (by kernel_rfl) (by kernel_rfl) (fun _ _ _ h => h) (Or.inl ⟨by rfl, fun w' => ?_⟩) ?_
          · go_simp
          refine wpAny_take (i := 9) (v := .slice (some ⟨d', o', none⟩) p c2) rfl (by kernel_rfl) (by kernel_rfl) (by kernel_rfl) (fun _ _ _ h => h) (Or.inl ⟨by rfl, fun w' => ?_⟩) ?_
          · go_simp
          refine wpAny_take (i := 10) (v := .int .i64 (k : Int)) rfl (by kernel_rfl) (by kernel_rfl) (by kernel_rfl) (fun _ _ _ h => h) (Or.inl ⟨by rfl, fun w' => ?_⟩) ?_
          · go_simp
          refine wpAny_take (i := 11) (v := .slice (some ⟨d', o', none⟩) k c2) rfl (by kernel_rfl) (by kernel_rfl) (by kernel_rfl) (fun _ _ _ h => h) (Or.inl ⟨by rfl, fun w' => ?_⟩) ?_
          · go_simp
          refine wpAny_take (i := 13) (v := .slice (some ⟨d', o', none⟩) p c2) rfl (by kernel_rfl) (by kernel_rfl) (by kernel_rfl) (fun _ _ _ h => h) (Or.inl ⟨by rfl, fun w' => ?_⟩) ?_
          · go_simp
          refine wpAny_take (i := 14) (v := .int .i64 (k : Int)) rfl (by kernel_rfl) (by kernel_rfl) (by kernel_rfl) (fun _ _ _ h => h) (Or.inl ⟨by rfl, fun w' => ?_⟩) ?_
          · go_simp
          refine wpAny_take (i := 15) (v := .slice (some ⟨d', o' + k * 32, none⟩) (p - k) (c2 - k)) rfl (by kernel_rfl) (by kernel_rfl) (by kernel_rfl) (fun _ _ _ h => h) (Or.inl ⟨by rfl, fun w' => ?_⟩) ?_
          · go_simp
          simp only [Act.put, List.setIfInBounds_toArray]
          have Bw0 : Hid (Below wr.heap.size wr wr.drew) := (Below.refl _ _).drew
          refine wpAny_ready (rs := [3]) (by kernel_rfl) (by simp) ?_
          refine AllReady.cons rfl (fun K hK => ?_) AllReady.nil
          go_simp
          refine (C1.out _ (by exact Bw0.out)).mono ?_
          rintro e' w1 ⟨rfl, hB⟩
          have Bw1 : Hid (Below wr.heap.size wr w1) := Bw0.out.trans (hB.mono (by exact Bw0.out.size))
          clear hB
          dsimp only
          refine hK _ _ ?_
          clear hK K
          refine wpAny_ready (rs := [7]) (by kernel_rfl) (by simp) ?_
          refine AllReady.cons rfl (fun K hK => ?_) AllReady.nil
          go_simp
          refine (C2.out _ (by exact Bw1.out)).mono ?_
          rintro e' w2 ⟨rfl, hB⟩
          have Bw2 : Hid (Below wr.heap.size wr w2) := Bw1.out.trans (hB.mono (by exact Bw1.out.size))
          clear hB
          dsimp only
          refine hK _ _ ?_
          clear hK K
          refine wpAny_ready (rs := [8]) (by kernel_rfl) (by simp) ?_
          refine AllReady.cons rfl (fun K hK => ?_) AllReady.nil
          go_simp
          refine (hX.out _).mono ?_
          rintro e' w3 ⟨vX, rfl, ho, hB⟩
          have Bw3 : Hid (Below wr.heap.size wr w3) := Bw2.out.trans (hB.mono (by exact Bw2.out.size))
          obtain ⟨AX, cX, hvX, hcX, hdX⟩ := ho.form
          rw [row_len] at hvX hcX
          subst hvX
          have DX := Lib.hid (And.intro hdX hB.size)
          clear hB ho hdX
          dsimp only
          refine hK _ _ ?_
          clear hK K
          refine wpAny_ready (rs := [12]) (by kernel_rfl) (by simp) ?_
          refine AllReady.cons rfl (fun K hK => ?_) AllReady.nil
          go_simp
          refine (C3.out _ (by exact Bw3.out)).mono ?_
          rintro e' w4 ⟨rfl, hB⟩
          have B34 : Hid (Below w3.heap.size w3 w4) := hB
          have Bw4 : Hid (Below wr.heap.size wr w4) := Bw3.out.trans (hB.mono (by exact Bw3.out.size))
          clear hB
          dsimp only
          refine hK _ _ ?_
          clear hK K
          refine wpAny_ready (rs := [16]) (by kernel_rfl) (by simp) ?_
          refine AllReady.cons rfl (fun K hK => ?_) AllReady.nil
          go_simp
          refine (C4.out _ (by exact Bw4.out)).mono ?_
          rintro e' w5 ⟨rfl, hB⟩
          have B35 : Hid (Below w3.heap.size w3 w5) := B34.out.trans (hB.mono B34.out.size)
          have Bw5 : Hid (Below wr.heap.size wr w5) := Bw4.out.trans (hB.mono (by exact Bw4.out.size))
          clear hB
          dsimp only
          refine hK _ _ ?_
          clear hK K
          refine wpAny_ready (rs := [17]) (by kernel_rfl) (by simp) ?_
          refine AllReady.cons rfl (fun K hK => ?_) AllReady.nil
          go_simp
          refine (hY.out _).mono ?_
          rintro e' w6 ⟨vY, rfl, ho, hB⟩
          have B36 : Hid (Below w3.heap.size w3 w6) := B35.out.trans (hB.mono B35.out.size)
          have Bw6 : Hid (Below wr.heap.size wr w6) := Bw5.out.trans (hB.mono (by exact Bw5.out.size))
          obtain ⟨AY, cY, hvY, hcY, hdY⟩ := ho.form
          rw [row_len] at hvY hcY
          subst hvY
          have DY := Lib.hid (And.intro hdY hB.size)
          clear hB ho hdY
          dsimp only
          refine hK _ _ ?_
          clear hK K
          refine wpAny_take (i := 18) (v := .slice AX 65 cX) rfl (by kernel_rfl) (by kernel_rfl) (by kernel_rfl) (fun _ _ _ h => h) (Or.inl ⟨by rfl, fun w' => ?_⟩) ?_
          · go_simp
          refine wpAny_take (i := 19) (v := .slice AY 65 cY) rfl (by kernel_rfl) (by kernel_rfl) (by kernel_rfl) (fun _ _ _ h => h) (Or.inl ⟨by rfl, fun w' => ?_⟩) ?_
          · go_simp
          refine wpAny_done (by kernel_rfl) ?_ _
          go_wp2_with fail
          go_meet
          have hs6 := Bw6.out.size
          have b36 : Below w3.heap.size w3 w6 := B36.out
          exact ⟨AX, AY, cX, cY, rfl, rfl, hcX, hcY, (DX.out.1.below b36 (Nat.le_refl _)).mono (Nat.zero_le _) b36.size, DY.out.1.mono (Nat.zero_le _) (Nat.le_refl _), Bw6.out⟩
    case rest =>
      obtain ⟨AX, AY, cX, cY, rfl, rfl, h65, h65', dx, dy, hbw⟩ := hcut
      have DX := Lib.hid dx
      have DY := Lib.hid dy
      have HBW := Lib.hid hbw
      have hsw := hbw.size
      have HBE := Lib.hid (bytesEqual_any (c := cX) (c' := cY) dx dy (row_len R1 R2) (row_len R3 R4))
      clear dx dy hbw C1 C2 C3 C4 hX hY HF
      by_cases hxy : (1 :: (R1.1 ++ R2.1) : List UInt8) = 1 :: (R3.1 ++ R4.1)
      · rw [decide_eq_true hxy] at HBE
        have hrl := rowL_eq (HXY.out.1.trans (hxy.trans HXY.out.2.symm))
        have HRD := Lib.hid hrl
        obtain ⟨T, hT⟩ : ∃ T, T = decide (l.take k = l'.take k) := ⟨_, rfl⟩
        have CE4 : Hid (∀ V, Below wr.heap.size wr V → Calls Tryd.prog 39 #[.slice (some ⟨d, o, none⟩) k c1, .slice (some ⟨d', o', none⟩) k c2] V fun e w' => e = .returned (.bool T) ∧ Below V.heap.size V w') := fun V hV => by rw [hT]; exact CE.out V hV
        have hTN : T = false → l.take k ≠ l'.take k := fun h => by rw [hT] at h; exact of_decide_eq_false h
        have hDN : T = true → l.drop k ≠ l'.drop k := fun h he => by
          rw [hT] at h
          have h1 := of_decide_eq_true h
          exact HNE.out (by rw [← List.take_append_drop k l, ← List.take_append_drop k l', h1, he])
        have HTN0 := Lib.hid hTN
        have HDN0 := Lib.hid hDN
        clear hT hTN hDN hxy hrl
        go_upto_region 8 with (first | (go_at_call 41; refine HBE.out.mono ?_; rintro e we ⟨rfl, rfl⟩))
        go_cut [61] (fun v wx => v = .bool T ∧ Below wr.heap.size wr wx)
        case first =>
          refine wp_region_any (by kernel_rfl) ?_
          refine wpAny_take (i := 0) (v := .slice (some ⟨d, o, none⟩) p c1) rfl (by kernel_rfl) (by kernel_rfl) (by kernel_rfl) (fun _ _ _ h => h) (Or.inl ⟨by rfl, fun w' => ?_⟩) ?_
          · go_simp
          refine wpAny_take (i := 1) (v := .int .i64 (k : Int)) rfl (by kernel_rfl) (by kernel_rfl) (by kernel_rfl) (fun _ _ _ h => h) (Or.inl ⟨by rfl, fun w' => ?_⟩) ?_
          · go_simp
          refine wpAny_take (i := 2) (v := .slice (some ⟨d, o, none⟩) k c1) rfl (by kernel_rfl) (by kernel_rfl) (by kernel_rfl) (fun _ _ _ h => h) (Or.inl ⟨by rfl, fun w' => ?_⟩) ?_
          · go_simp
          refine wpAny_take (i := 3) (v := .slice (some ⟨d', o', none⟩) p c2) rfl (by kernel_rfl) (by kernel_rfl) (by kernel_rfl) (fun _ _ _ h => h) (Or.inl ⟨by rfl, fun w' => ?_⟩) ?_
          · go_simp
          refine wpAny_take (i := 4) (v := .int .i64 (k : Int)) rfl (by kernel_rfl) (by kernel_rfl) (by kernel_rfl) (fun _ _ _ h => h) (Or.inl ⟨by rfl, fun w' => ?_⟩) ?_
          · go_simp
          refine wpAny_take (i := 5) (v := .slice (some ⟨d', o', none⟩) k c2) rfl (by kernel_rfl) (by kernel_rfl) (by kernel_rfl) (fun _ _ _ h => h) (Or.inl ⟨by rfl, fun w' => ?_⟩) ?_
          · go_simp
          simp only [Act.put, List.setIfInBounds_toArray]
          refine wpAny_ready (rs := [6]) (by kernel_rfl) (by simp) ?_
          refine AllReady.cons rfl (fun K hK => ?_) AllReady.nil
          go_simp
          refine (CE4.out _ (by exact HBW.out.drew)).mono ?_
          rintro e' w8 ⟨rfl, hB⟩
          have HB8 : Hid (Below wr.heap.size wr w8) := HBW.out.drew.trans (hB.mono (by exact hsw))
          clear hB
          dsimp only
          refine hK _ _ ?_
          clear hK K
          refine wpAny_take (i := 7) (v := .bool T) rfl (by kernel_rfl) (by kernel_rfl) (by kernel_rfl) (fun _ _ _ h => h) (Or.inl ⟨by rfl, fun w' => ?_⟩) ?_
          · go_simp
          refine wpAny_done (by kernel_rfl) ?_ _
          go_wp2_with fail
          go_meet
          exact ⟨rfl, HB8.out⟩
        case rest =>
          obtain ⟨rfl, hb8⟩ := hcut
          obtain ⟨w8, rfl⟩ : ∃ w8, w8 = wc := ⟨_, rfl⟩
          have HB8 := Lib.hid hb8
          clear hb8
          cases T with
          | true =>
            have HDN := Lib.hid (HDN0.out rfl)
            clear HDN0 HTN0
            go_upto_region 9 with fail
            go_quiet (fail)
            go_wp2_with fail
            have ha := (HDA.out.below HB8.out (by omega)).drop k
            have hb' := (HDB.out.below HB8.out (by omega)).drop k
            simp only [Option.map_some, add_plain'] at ha hb'
            have HA := Lib.hid (show DatR 32 dcs (w8.drewN nq) lo hi _ _ from ha)
            have HBb := Lib.hid (show DatR 32 dcs (w8.drewN nq) lo' hi' _ _ from hb')
            clear ha hb'
            go_roundg (p - k)
            case measure => omega
            case rel => exact ⟨l.drop k, l'.drop k, _, _, _, _, by rw [List.length_drop, HLL.out.1], by rw [List.length_drop, HLL.out.2], by omega, rfl, rfl, by omega, by omega, HA.out, HBb.out, HDN.out, HRD.out.2, below_drewN (HBB.out.trans (HB8.out.mono HBB.out.size)) _⟩
          | false =>
            have HTN := Lib.hid (HTN0.out rfl)
            clear HDN0 HTN0
            go_upto_region 5 with fail
            go_quiet (fail)
            go_wp2_with fail
            have HA := Lib.hid (show DatR 32 dcs (w8.drewN nq) lo hi _ _ from (HDA.out.below HB8.out (by omega)).take k)
            have HBb := Lib.hid (show DatR 32 dcs (w8.drewN nq) lo' hi' _ _ from (HDB.out.below HB8.out (by omega)).take k)
            go_roundg k
            case measure => omega
            case rel => exact ⟨l.take k, l'.take k, _, _, _, _, by rw [List.length_take, HLL.out.1]; omega, by rw [List.length_take, HLL.out.2]; omega, by omega, rfl, rfl, by omega, by omega, HA.out, HBb.out, HTN.out, HRD.out.1, below_drewN (HBB.out.trans (HB8.out.mono HBB.out.size)) _⟩
      · rw [decide_eq_false hxy] at HBE
        have HNQ := Lib.hid hxy
        clear hxy
        go_wp2_with (first | (go_at_call 41; refine HBE.out.mono ?_; rintro e we ⟨rfl, rfl⟩))
        try rw [Exit.noGoto_ret]
        go_ret3
        refine .inl ⟨HY.out.1, HY.out.2.1, HY.out.2.2, _, _, AX, AY, cX, cY, rfl, row_len R1 R2, row_len R3 R4, HNQ.out, ?_, DX.out, DY.out, HBB.out.trans (HBW.out.mono HBB.out.size)⟩
        rw [← HXY.out.1, ← HXY.out.2, ← HRR.out.2.1, ← HRR.out.2.2]
        exact HRR.out.1

set_option maxRecDepth 20000 in
set_option maxHeartbeats 1000000 in
theorem two_no {w : World} {lo hi lo' hi' : Nat} {A B : Option Addr} {m n c c' : Nat} {L M : List Dg} (hg : Glob w) (hd : DatR 32 dcs w lo hi A L) (hd' : DatR 32 dcs w lo' hi' B M) (hm : L.length = m) (hn : M.length = n) (hmc : m ≤ c) (hnc : n ≤ c') (hhi : hi ≤ w.heap.size) (hhi' : hi' ≤ w.heap.size) (hb : m ≤ 1000) (hb' : n ≤ 1000)
    (hno : ¬ (L.length = M.length ∧ L ≠ M ∧ rootL L = rootL M)) : Calls Tryd.prog 25 #[.slice A m c, .slice B n c'] w (TwoPost L M · w ·) := by
  have HNO := Lib.hid hno
  have hw2 := hg.2.2
  by_cases hmn : m = n
  · subst hmn
    have hmm : ((m : Int) != (m : Int)) = false := by simp
    by_cases he : L = M
    · have HEQ := Lib.hid (equal_any (w := w) (c := c) (c' := c') hd hd' hm hn (by omega) (by omega))
      rw [decide_eq_true he] at HEQ
      clear hd hd' hm hn he hno hg
      go_enter Tryd.func25, Tryd.ntmps25
      go_wp2_with (first
        | (go_at_call 39; refine HEQ.out.mono ?_; rintro e w1 ⟨rfl, hb1⟩; have B1 := Lib.hid hb1; clear hb1))
      go_ret3
      exact .inr ⟨HNO.out, rfl, B1.out⟩
    · have hre : ¬ rootL L = rootL M := fun h => hno ⟨hm.trans hn.symm, he, h⟩
      have HEQ := Lib.hid (equal_any (w := w) (c := c) (c' := c') hd hd' hm hn (by omega) (by omega))
      rw [decide_eq_false he] at HEQ
      have HR1 := Lib.hid (fun (V : World) (hV : Below w.heap.size w V) => root_any (w := V) (c := c) (hg.below hV hw2) (hd.below hV hhi) hm hmc (by have := hV.size; omega) (by omega))
      have HR2 := Lib.hid (fun (V : World) (hV : Below w.heap.size w V) => root_any (w := V) (c := c') (hg.below hV hw2) (hd'.below hV hhi') hn hnc (by have := hV.size; omega) (by omega))
      obtain ⟨X, hX⟩ : ∃ X, X = bcells (rootL L).1 := ⟨_, rfl⟩
      obtain ⟨Y, hY⟩ : ∃ Y, Y = bcells (rootL M).1 := ⟨_, rfl⟩
      have heq : ∀ W, (Op.equalIn 10000 25 (.agg X) (.agg Y)).run Tryd.prog W = .ok false W := fun W => by
        rw [hX, hY]
        have := eqD (rootL L) (rootL M) W
        rw [beq_eq_false_iff_ne.2 (fun h => hre (Subtype.ext h))] at this
        exact this
      rw [← hX] at HR1
      rw [← hY] at HR2
      clear hX hY hd hd' hm hn he hno hg hre
      go_enter Tryd.func25, Tryd.ntmps25
      go_wp2_with (first
        | (go_at_call 39; refine HEQ.out.mono ?_; rintro e w1 ⟨rfl, hb1⟩; have B1 := Lib.hid hb1; clear hb1)
        | (go_at_call 11; (with_reducible refine (HR1.out _ B1.out).mono ?_); rintro e w2 ⟨rfl, hb2⟩; have B2 : Hid (Below w.heap.size w w2) := B1.out.trans (hb2.mono B1.out.size); clear hb2 B1)
        | (go_at_call 11; (with_reducible refine (HR2.out _ B2.out).mono ?_); rintro e w3 ⟨rfl, hb3⟩; have B3 : Hid (Below w.heap.size w w3) := B2.out.trans (hb3.mono B2.out.size); clear hb3))
      go_ret3
      exact .inr ⟨HNO.out, rfl, B3.out⟩
  · have hmm : ((m : Int) != (n : Int)) = true := by
      rw [bne_iff_ne]
      omega
    clear hd hd' hm hn hno hg
    go_enter Tryd.func25, Tryd.ntmps25
    go_wp2_with fail
    go_ret3
    exact .inr ⟨HNO.out, rfl, Below.refl _ _⟩

theorem two_any {w : World} {lo hi lo' hi' : Nat} {A B : Option Addr} {m n c c' : Nat} {L M : List Dg} (hg : Glob w) (hd : DatR 32 dcs w lo hi A L) (hd' : DatR 32 dcs w lo' hi' B M) (hm : L.length = m) (hn : M.length = n) (hmc : m ≤ c) (hnc : n ≤ c') (hhi : hi ≤ w.heap.size) (hhi' : hi' ≤ w.heap.size) (hb : m ≤ 1000) (hb' : n ≤ 1000) :
    Calls Tryd.prog 25 #[.slice A m c, .slice B n c'] w (TwoPost L M · w ·) := by
  by_cases hc : L.length = M.length ∧ L ≠ M ∧ rootL L = rootL M
  · obtain rfl : m = n := by rw [← hm, ← hn]; exact hc.1
    exact two_yes hg hd hd' hm hn hmc hnc hhi hhi' hb hc.2.1 hc.2.2
  · exact two_no hg hd hd' hm hn hmc hnc hhi hhi' hb hb' hc
end Go.Proofs.YtieepdhajjibpaaDoor
