
/- The contracts of the program's readParts and Read. -/
import Derived.Test.YtpdnmhnnngcbjaaDoorNormRd
import Derived.Test.YtpdnmhnnngcbjaaDoorBitWr
import Derived.Test.YtpdnmhnnngcbjaaDoorAppZ
import Derived.Test.YtpdnmhnnngcbjaaDoorArgsInts
namespace Go.Proofs.YtpdnmhnnngcbjaaDoor
open Go.RowKit

theorem icel_one : ∀ n : Int, (icel n).oneCell' = true := fun _ => rfl
theorem int_info : (Tryd.prog.info? 3).map (fun i => (i.zero, i.size, i.bytes)) = some (some (.int .i64 0), 1, 8) := by kernel_rfl

theorem Foot.own {w wx w1 : World} {g : Nat} {row : Option Nat} (h : Foot w wx g none) (hg : wx.grownBy w1 row) (hr : ∀ k, row = some k → w.heap.size ≤ k) : Foot w w1 g none :=
  ⟨hg.os.trans h.os, hg.tape.trans h.tape, hg.output.trans h.output, Nat.le_trans h.size hg.size, fun k hk hkg _ =>
    (hg.block k (by have := h.size; omega) (by intro e; have := hr k e.symm; omega)).trans (h.block k hk hkg (by simp))⟩
theorem Foot.alloc {w wx : World} {g : Nat} (h : Foot w wx g none) (o : Obj) : Foot w (wx.alloc o) g none :=
  ⟨h.os, h.tape, h.output, by have := h.size; simp; omega, fun k hk hkg hr => (Below.heap_alloc wx o k (by have := h.size; omega)).trans (h.block k hk hkg hr)⟩
theorem Foot.stp' {w wx w1 : World} {g : Nat} (h : Foot w wx g none) (hs : Stp wx w1 g) : Foot w w1 g none := h.trans (Near.refl _ _) (Foot.stp hs)
theorem FW.own {w wx w1 : World} {lo g at_ : Nat} {xs : List UInt8} {row : Option Nat} (h : FW wx lo g xs at_) (hg : wx.grownBy w1 row) (hs : w.heap.size ≤ wx.heap.size) (hr : ∀ k, row = some k → w.heap.size ≤ k) (hl : g < w.heap.size) : FW w1 lo g xs at_ :=
  h.keep fun k _ h2 => hg.block k (by omega) (by intro e; have := hr k e.symm; omega)
theorem FW.alloc {wx : World} {lo g at_ : Nat} {xs : List UInt8} (h : FW wx lo g xs at_) (o : Obj) : FW (wx.alloc o) lo g xs at_ :=
  h.keep fun k _ h2 => Below.heap_alloc wx o k (by have := h.lt; omega)

/-- What readParts answers. -/
def PartsPost (R : Except Int (List Int × Nat)) (w : World) (lo g : Nat) (xs : List UInt8) (e : Ending) (w' : World) : Prop :=
  Foot w w' g none ∧ match R with
    | .ok (ps, a2) => ∃ v, e = .returned (.tuple #[v, .int .i64 0]) ∧ OwE icel w' 3 w.heap.size v ps ∧ FW w' lo g xs a2
    | .error er => e = .returned (.tuple #[.slice none 0 0, .int .i64 er])

theorem wi_wv {v left : Nat} (hl : 0 < left) (hv : v ≤ left + 1) : (left : Int) - wi ((v : Int) - 1) = ((left - wv v : Nat) : Int) ∧ 0 ≤ wi ((v : Int) - 1) ∧ wi ((v : Int) - 1) ≤ left := by
  unfold wi wv
  by_cases h : v = 0
  · rw [if_pos (show ((v : Int) - 1 = -1) by omega), if_pos h]
    omega
  · rw [if_neg (show ¬ ((v : Int) - 1 = -1) by omega), if_neg h]
    omega

set_option maxRecDepth 100000 in
set_option maxHeartbeats 2000000 in
theorem readParts_any {w : World} {lo g at_ : Nat} {xs : List UInt8} {left f : Nat} (sy : Int) {R : Except Int (List Int × Nat)} (hw : FW w lo g xs at_) (hx : xs.length ≤ 1000000000) (hl : left ≤ 32768) (hf : 8 * xs.length < f + at_) (hR : rdP f (bitsOf xs) sy at_ left [] = R) :
    Calls Tryd.prog 74 #[.pointer (some ⟨g, 0, none⟩), .int .i64 (left : Int), .int .i64 sy] w (PartsPost R w lo g xs) := by
  obtain ⟨i0, hi0, hz0, hz1, hz2⟩ := info_parts int_info
  have hgw := hw.lt
  have HW := Lib.hid hw
  have HR := Lib.hid hR
  clear hw hR
  go_enter Tryd.func74, Tryd.ntmps74
  go_wp2_with fail
  go_loopg [1, 8] f (fun gh l p wx => ∃ (left at1 : Nat) (acc : List Int), l = .int .i64 left ∧ left ≤ 32768 ∧ 8 * xs.length < gh + at1 ∧ acc.length ≤ 2 * at1 ∧ OwE icel wx 3 w.heap.size p acc ∧ FW wx lo g xs at1 ∧ Foot w wx g none ∧ rdP gh (bitsOf xs) sy at1 left acc = R)
  case atStart => exact ⟨left, at_, [], rfl, hl, hf, by simp, OwE.nil _ _ _ _, HW.out, Foot.refl _ _ _, HR.out⟩
  case round =>
    obtain ⟨left, at1, acc, rfl, hl, hf, hacc, ho, hw, hF, hr⟩ := hrel
    have hat := hw.2.1
    obtain ⟨A, c, rfl, hc, hd⟩ := ho.form
    have HO := Lib.hid ho
    have HW1 := Lib.hid hw
    have HF1 := Lib.hid hF
    have hsz := hF.size
    clear ho hw hF hd hc
    cases gk with
    | zero => omega
    | succ f' =>
      rw [rdP] at hr
      by_cases hl0 : left = 0
      · rw [if_pos hl0] at hr
        subst hl0 hr
        go_wp2_with fail
        go_ret2
        exact ⟨HF1.out, _, rfl, HO.out, HW1.out⟩
      · rw [if_neg hl0] at hr
        have hlp : 0 < left := by omega
        split at hr
        · next hv =>
          subst hr
          have HC := Lib.hid (readPart_no HW1.out hlp hl hv)
          clear hv
          go_wp2_with fail
          refine HC.out.mono ?_
          rintro e w2 ⟨rfl, hs⟩
          have HF2 := Lib.hid (HF1.out.stp' hs)
          clear hs
          go_wp2_with fail
          go_ret2
          exact ⟨HF2.out, rfl⟩
        · next v a1 hv =>
          have HC := Lib.hid (readPart_yes HW1.out hlp hl hv)
          have hle := nextV_le hv hlp
          clear hv
          by_cases hv1 : v = 1
          · rw [if_pos hv1] at hr
            subst hv1
            go_wp2_with fail
            refine HC.out.mono ?_
            rintro e w2 ⟨rfl, hw, hs⟩
            have HO2 := Lib.hid (HO.out.grown hs.1 (.inr (by intro e; have := (HO.out.block g e).1; omega)))
            have HF2 := Lib.hid (HF1.out.stp' hs)
            have HW2 := Lib.hid hw
            clear hw hs
            cases hrow : rowA f' (bitsOf xs) a1 0 with
            | none =>
              rw [hrow] at hr
              simp only at hr
              subst hr
              have HC2 := Lib.hid (readRow_no HW2.out hrow (by omega))
              clear hrow
              go_wp2_with fail
              refine HC2.out.mono ?_
              rintro e w3 ⟨rfl, hs⟩
              have HF3 := Lib.hid (HF2.out.stp' hs)
              clear hs
              go_wp2_with fail
              go_ret2
              exact ⟨HF3.out, rfl⟩
            | some ra =>
              obtain ⟨r, a2⟩ := ra
              rw [hrow] at hr
              simp only at hr
              have hrl := rowA_le f' hrow
              have HC2 := Lib.hid (readRow_yes HW2.out hrow)
              clear hrow
              rw [bitsOf_length] at hrl
              by_cases hsy : sy < ((acc.length + 1 + r : Nat) : Int)
              · rw [if_pos hsy] at hr
                subst hr
                have hsy2 : sy < (acc.length : Int) + 1 + (r : Int) := by omega
                go_wp2_with fail
                refine HC2.out.mono ?_
                rintro e w3 ⟨rfl, hw, hs⟩
                have HF3 := Lib.hid (HF2.out.stp' hs)
                clear hw hs
                go_wp2_with fail
                go_ret2
                exact ⟨HF3.out, rfl⟩
              · rw [if_neg hsy] at hr
                have hsy2 : ¬ sy < (acc.length : Int) + 1 + (r : Int) := by omega
                have HR2 := Lib.hid hr
                clear hr
                go_wp2_with fail
                refine HC2.out.mono ?_
                rintro e w3 ⟨rfl, hw, hs⟩
                have HO3 := Lib.hid (HO2.out.grown hs.1 (.inr (by intro e; have := (HO2.out.block g e).1; omega)))
                have HF3 := Lib.hid (HF2.out.stp' hs)
                have hsz3 := HF3.out.size
                have HW3 := Lib.hid hw
                clear hw hs
                have HA := Lib.hid (HO3.out.alloc (.cells #[.int .i64 0] 3))
                have HD1 := Lib.hid (datE_one icel w3 0 3 _ rfl)
                go_wp2_with (at_builtin; refine list_appE icel_one _ rfl _ _ 22 rfl i0 (.int .i64 0) 8 Tryd.underlying22 hi0 hz0 hz1 hz2 rfl (by decide) rfl HA.out rfl HD1.out rfl ?_ ?_ ?_)
                · omega
                · simp; omega
                intro v1 w4 ho1 hg1 hat1
                have HF4 := Lib.hid ((HF3.out.alloc (.cells #[.int .i64 0] 3)).own hg1 (fun k hk => (HO3.out.block k hk).1))
                have HW4 := Lib.hid ((HW3.out.alloc (.cells #[.int .i64 0] 3)).own hg1 (by simp; omega) (fun k hk => (HO3.out.block k hk).1) hgw)
                have hsz4 := HF4.out.size
                have HO4 := Lib.hid ho1
                clear ho1 hg1 hat1 HA HD1
                go_wp2_with (at_builtin; refine list_appZ icel_one _ rfl _ _ 22 3 rfl i0 (0 : Int) .i64 .i64 8 Tryd.underlying22 Tryd.underlying3 hi0 hz0 hz1 hz2 rfl (by decide) rfl HO4.out r rfl ?_ ?_ ?_)
                · simp; omega
                · omega
                intro v2 w5 ho2 hg2 hat2
                have hw0 : wi 0 = 0 := rfl
                have HF5 := Lib.hid (HF4.out.own hg2 (fun k hk => (HO4.out.block k hk).1))
                have HW5 := Lib.hid (HW4.out.own hg2 (by omega) (fun k hk => (HO4.out.block k hk).1) hgw)
                have HO5 := Lib.hid ho2
                clear ho2 hg2 hat2
                go_wp2_with (go_at_call 64; refine (weight_any _ _).mono ?_; rintro e w' ⟨rfl, rfl⟩)
                go_roundg f'
                case rel => exact ⟨left, a2, _, rfl, hl, by omega, by simp; omega, HO5.out, HW5.out, HF5.out, HR2.out⟩
                case measure => omega
          · rw [if_neg hv1] at hr
            have hv0 : ((v : Int) - 1 == 0) = false := by simp; omega
            by_cases hsy : sy < ((acc.length + 1 : Nat) : Int)
            · rw [if_pos hsy] at hr
              subst hr
              have hsy2 : sy < (acc.length : Int) + 1 := by omega
              go_wp2_with fail
              refine HC.out.mono ?_
              rintro e w2 ⟨rfl, hw, hs⟩
              have HF2 := Lib.hid (HF1.out.stp' hs)
              clear hw hs
              go_wp2_with fail
              go_ret2
              exact ⟨HF2.out, rfl⟩
            · rw [if_neg hsy] at hr
              have hsy2 : ¬ sy < (acc.length : Int) + 1 := by omega
              have HR2 := Lib.hid hr
              obtain ⟨q1, q2, q3⟩ := wi_wv hlp hle.1
              have hvl := hle.1
              have HQ := Lib.hid q1
              clear hr q1
              go_wp2_with fail
              refine HC.out.mono ?_
              rintro e w3 ⟨rfl, hw, hs⟩
              have HO3 := Lib.hid (HO.out.grown hs.1 (.inr (by intro e; have := (HO.out.block g e).1; omega)))
              have HF3 := Lib.hid (HF1.out.stp' hs)
              have hsz3 := HF3.out.size
              have HW3 := Lib.hid hw
              clear hw hs
              have HA := Lib.hid (HO3.out.alloc (.cells #[.int .i64 ((v : Int) - 1)] 3))
              have HD1 := Lib.hid (datE_one icel w3 ((v : Int) - 1) 3 _ rfl)
              have hxb := bitsOf_length xs
              have hal : acc.length + 1 ≤ 1099511627775 := by omega
              clear hxb
              go_wp2_with (at_builtin; refine list_appE icel_one _ rfl _ _ 22 rfl i0 (.int .i64 0) 8 Tryd.underlying22 hi0 hz0 hz1 hz2 rfl (by decide) rfl HA.out rfl HD1.out rfl ?_ ?_ ?_)
              · omega
              · simp; omega
              intro v1 w4 ho1 hg1 hat1
              have HF4 := Lib.hid ((HF3.out.alloc (.cells #[.int .i64 ((v : Int) - 1)] 3)).own hg1 (fun k hk => (HO3.out.block k hk).1))
              have HW4 := Lib.hid ((HW3.out.alloc (.cells #[.int .i64 ((v : Int) - 1)] 3)).own hg1 (by simp; omega) (fun k hk => (HO3.out.block k hk).1) hgw)
              have hsz4 := HF4.out.size
              have HO4 := Lib.hid ho1
              clear ho1 hg1 hat1 HA HD1
              go_wp2_with (at_builtin; refine list_appZ icel_one _ rfl _ _ 22 3 rfl i0 (0 : Int) .i64 .i64 8 Tryd.underlying22 Tryd.underlying3 hi0 hz0 hz1 hz2 rfl (by decide) rfl HO4.out 0 rfl ?_ ?_ ?_)
              · simp; omega
              · omega
              intro v2 w5 ho2 hg2 hat2
              have HF5 := Lib.hid (HF4.out.own hg2 (fun k hk => (HO4.out.block k hk).1))
              have HW5 := Lib.hid (HW4.out.own hg2 (by omega) (fun k hk => (HO4.out.block k hk).1) hgw)
              have HO5 := Lib.hid ho2
              clear ho2 hg2 hat2
              go_wp2_with (go_at_call 64; refine (weight_any _ _).mono ?_; rintro e w' ⟨rfl, rfl⟩)
              go_roundg f'
              case rel => exact ⟨left - wv v, a1, _, by rw [HQ.out], by omega, by omega, by simp; omega, HO5.out, HW5.out, HF5.out, HR2.out⟩
              case measure => omega

theorem box2 {w : World} {b : Nat} {t : TypeId} {x y : Value} (h : Box w b t #[x, y]) :
    w.cell? ⟨b, 0, none⟩ = some x ∧ w.cell? ⟨b, 1, none⟩ = some y ∧ w.frozen? ⟨b, 0, none⟩ = false ∧ w.frozen? ⟨b, 1, none⟩ = false := ⟨h.cell 0, h.cell 1, h.free 0, h.free 1⟩
theorem Box.foot {w w' : World} {b g : Nat} {t : TypeId} {cs : Array Value} (h : Box w b t cs) (hF : Foot w w' g none) (hne : b ≠ g) : Box w' b t cs := h.keep (hF.block b h.lt hne (by simp))

/-- What Read answers. -/
def ReadPost (R : Except Int (Nat × List Int × Nat)) (w : World) (e : Ending) (w' : World) : Prop :=
  Below w.heap.size w w' ∧ match R with
    | .ok (log, ps, a) => ∃ v, e = .returned (.tuple #[.agg #[.int .i64 (log : Int), v], .int .i64 ((a + 7) / 8 : Nat), .int .i64 0]) ∧ OwE icel w' 3 w.heap.size v ps
    | .error er => e = .returned (.tuple #[.agg #[.int .i64 0, .slice none 0 0], .int .i64 0, .int .i64 er])

set_option maxRecDepth 100000 in
set_option maxHeartbeats 2000000 in
theorem read_any {own : Bool} {w : World} {lo hi : Nat} {A : Option Addr} {n c : Nat} {xs : List UInt8} (most sy : Int) (hd : Dat own w lo hi A xs) (hn : xs.length = n) (hx : xs.length ≤ 1000000000) (hhi : hi ≤ w.heap.size) {R : Except Int (Nat × List Int × Nat)} (hR : rdC (bitsOf xs) most sy = R) :
    Calls Tryd.prog 52 #[.slice A n c, .int .i64 most, .int .i64 sy] w (ReadPost R w) := by
  have HD := Lib.hid hd
  have HN := Lib.hid hn
  have HR := Lib.hid hR
  clear hd hn hR
  go_enter Tryd.func52, Tryd.ntmps52
  go_wp2_with fail
  refine (newForward_any (HD.out.alloc hhi _) HN.out (by omega) (by simp; omega)).mono ?_
  rintro e w1 ⟨g, rfl, hw, hB⟩
  have hB1 : Below w.heap.size w w1 := ((Below.refl _ _).alloc (Nat.le_refl _) _).trans (hB.mono (by simp))
  have hgl := hw.1
  simp only [World.size_alloc] at hgl hB hw
  have HW1 := Lib.hid hw
  have HB1 := Lib.hid hB1
  have hb1 : Box w1 w.heap.size 70 #[.int .i64 0, .slice none 0 0] := (Box.new w _ _).below hB (by omega)
  have HX1 := Lib.hid hb1
  clear hw hB hB1 hb1
  unfold Hid at HR
  unfold rdC at HR
  split at HR
  · next h4 =>
    subst HR
    have HC := Lib.hid (readLog_no most HW1.out h4)
    clear h4
    go_wp2_with fail
    refine HC.out.mono ?_
    rintro e w2 ⟨rfl, hs⟩
    have hF := Foot.stp (r := none) hs
    obtain ⟨c0, c1, f0, f1⟩ := box2 (HX1.out.foot hF (by omega))
    have HB2 := Lib.hid (HB1.out.trans (hs.below HB1.out.size (by omega)))
    clear hs hF
    go_wp2_with fail
    refine bodyPost_ret (v := .tuple #[.agg #[.int .i64 0, .slice none 0 0], .int .i64 0, .int .i64 10]) (by simp [results, Tryd.results52, go_sem, c0, c1]) rfl ⟨?_, rfl⟩
    exact (HB2.out.setCell (by simp) _).setCell (by simp) _
  · next x h4 =>
    split at HR
    · next hbig =>
      subst HR
      have HC := Lib.hid (readLog_big most HW1.out h4 hbig)
      clear h4
      go_wp2_with fail
      refine HC.out.mono ?_
      rintro e w2 ⟨rfl, hs⟩
      have hF := Foot.stp (r := none) hs
      obtain ⟨c0, c1, f0, f1⟩ := box2 (HX1.out.foot hF (by omega))
      have HB2 := Lib.hid (HB1.out.trans (hs.below HB1.out.size (by omega)))
      clear hs hF
      go_wp2_with fail
      refine bodyPost_ret (v := .tuple #[.agg #[.int .i64 0, .slice none 0 0], .int .i64 0, .int .i64 12]) (by simp [results, Tryd.results52, go_sem, c0, c1]) rfl ⟨?_, rfl⟩
      exact (HB2.out.setCell (by simp) _).setCell (by simp) _
    · next hbig =>
      have HC := Lib.hid (readLog_yes most HW1.out h4 (by omega) (by omega))
      have h15 : x + 5 ≤ 15 := by omega
      have h44 := (rd_lt h4).2
      rw [bitsOf_length] at h44
      clear h4 hbig
      obtain ⟨lg, hlg⟩ : ∃ lg, lg = x + 5 := ⟨_, rfl⟩
      rw [← hlg] at HC HR h15
      have hp : 2 ^ lg ≤ 2 ^ 15 := Nat.pow_le_pow_right (by omega) h15
      obtain ⟨P, hP⟩ : ∃ P, P = 2 ^ lg := ⟨_, rfl⟩
      rw [← hP] at hp HR
      have hpow : (2 : Int) ^ lg = (P : Nat) := by rw [hP]; simp
      have HPow := Lib.hid hpow
      clear hlg hP hpow
      go_wp2_with fail
      refine HC.out.mono ?_
      rintro e w2 ⟨rfl, hw, hs⟩
      have hF := Foot.stp (r := none) hs
      have hb2 := HX1.out.foot hF (by omega)
      have HX2 := Lib.hid hb2
      have HB2 := Lib.hid (HB1.out.trans (hs.below HB1.out.size (by omega)))
      have HW2 := Lib.hid hw
      have hgw := hw.lt
      clear hs hF hb2 hw
      generalize hRR : rdP ((bitsOf xs).length + 1) (bitsOf xs) sy 4 P [] = RR at HR
      have HC2 := Lib.hid (readParts_any sy HW2.out hx (by omega) (by rw [bitsOf_length]; omega) hRR)
      have hsz2 := HB2.out.size
      have hre : ∀ er, RR = .error er → er = 10 ∨ er = 11 := fun er e => rdP_err _ (hRR.trans e)
      clear hRR
      have hpw := HPow.out
      go_wp2_with fail
      refine HC2.out.mono ?_
      rintro e w3 ⟨hF, hp⟩
      have HB3 := Lib.hid (HB2.out.trans (hF.below hsz2 (by omega) (by simp)))
      have hb3 := HX2.out.foot hF (by omega)
      have hsz3 := HB3.out.size
      cases RR with
      | error er =>
        simp only at hp HR
        subst HR hp
        obtain ⟨c0, c1, f0, f1⟩ := box2 hb3
        clear hF hb3
        rcases hre er rfl with rfl | rfl
        · go_wp2_with fail
          refine bodyPost_ret (v := .tuple #[.agg #[.int .i64 0, .slice none 0 0], .int .i64 0, .int .i64 10]) (by simp [results, Tryd.results52, go_sem, c0, c1]) rfl ⟨?_, rfl⟩
          exact (HB3.out.setCell (by simp) _).setCell (by simp) _
        · go_wp2_with fail
          refine bodyPost_ret (v := .tuple #[.agg #[.int .i64 0, .slice none 0 0], .int .i64 0, .int .i64 11]) (by simp [results, Tryd.results52, go_sem, c0, c1]) rfl ⟨?_, rfl⟩
          exact (HB3.out.setCell (by simp) _).setCell (by simp) _
      | ok r =>
        obtain ⟨ps, a2⟩ := r
        obtain ⟨v, rfl, ho, hw⟩ := hp
        simp only at HR
        subst HR
        obtain ⟨c0, c1, f0, f1⟩ := box2 hb3
        obtain ⟨A3, c3, rfl, _, _⟩ := ho.form
        have HO3 := Lib.hid ho
        have HU := Lib.hid (used_any hw)
        clear hF hb3 ho hw
        go_wp2_with fail
        refine HU.out.mono ?_
        rintro e w' ⟨rfl, rfl⟩
        go_wp2_with fail
        refine bodyPost_ret (v := .tuple #[.agg #[.int .i64 (lg : Int), .slice A3 ps.length c3], .int .i64 (((a2 : Int) + 7) / 8), .int .i64 0]) (by simp [results, Tryd.results52, go_sem, c0, c1]) rfl ⟨?_, .slice A3 ps.length c3, ?_, ?_⟩
        · exact (HB3.out.setCell (by simp) _).setCell (by simp) _
        · show Ending.returned (.tuple #[_, .int .i64 _, _]) = _
          congr 5
        · refine (HO3.out.keep fun k hk => ?_).mono hsz2
          have hkb := (HO3.out.block k hk).1
          rw [Below.heap_setCell _ _ _ k (by simp; omega), Below.heap_setCell _ _ _ k (by simp; omega)]
end Go.Proofs.YtpdnmhnnngcbjaaDoor
