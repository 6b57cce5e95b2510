
/- The contracts of what the program's Of calls: tally, halves, scarcest, richest, shares, settle. -/
import Derived.Test.YtpdnmhnnngcbjaaDoorNormOfP
import Derived.Test.YtpdnmhnnngcbjaaDoorNormMay
import Derived.Deep.QuietTactic
import Derived.BigQuiet
namespace Go.Proofs.YtpdnmhnnngcbjaaDoor
open Go.RowKit

def ucel (n : Nat) : Value := .int .u32 (n : Int)
theorem sum_le (l : List Nat) (B : Nat) (h : ∀ o ∈ l, o ≤ B) : l.sum ≤ B * l.length := by
  induction l with
  | nil => simp
  | cons x r ih =>
    have h1 := h x (by simp)
    have h2 := ih fun o ho => h o (by simp [ho])
    rw [List.sum_cons, List.length_cons, Nat.mul_succ]
    omega
theorem take_snoc' {α : Type} (l : List α) (k : Nat) (h : k < l.length) : l.take (k + 1) = l.take k ++ [l[k]] := List.take_succ_eq_append_getElem h

set_option maxRecDepth 100000 in
set_option maxHeartbeats 800000 in
theorem tally_any {w : World} {lo hi : Nat} {A : Option Addr} {n c : Nat} {os : List Nat} (hd : DatE ucel w lo hi A os) (hn : os.length = n) (hm : n ≤ 1000000) (hb : ∀ o ∈ os, o ≤ 4294967295) :
    Calls Tryd.prog 56 #[.slice A n c] w fun e w' => e = .returned (.tuple #[.int .u64 (os.sum : Nat), .int .i64 (cnt os : Nat), .int .i64 (ends os : Nat)]) ∧ w = w' := by
  have HD := Lib.hid hd
  have HN := Lib.hid hn
  have HB := Lib.hid hb
  clear hd hn hb
  go_enter Tryd.func56, Tryd.ntmps56
  go_wp2_with fail
  go_loop [2, 3, 4, 9] (fun s t f i => ∃ k : Nat, k ≤ n ∧ i = .int .i64 k ∧ s = .int .u64 ((os.take k).sum : Nat) ∧ t = .int .i64 (cnt (os.take k) : Nat) ∧ f = .int .i64 (ends (os.take k) : Nat)) (fun _ _ _ i => n - (intOf i).toNat)
  case atStart => exact ⟨0, Nat.zero_le _, rfl, rfl, rfl, rfl⟩
  case round =>
    obtain ⟨k, hk, rfl, rfl, rfl, rfl⟩ := hrel
    have h1 := sum_le (os.take k) 4294967295 fun o ho => HB.out o (List.mem_of_mem_take ho)
    have h2 := cnt_le (os.take k)
    have h3 := ends_le (os.take k)
    have hlen : (os.take k).length = k := by rw [List.length_take]; have := HN.out; omega
    rw [hlen] at h1 h2 h3
    have h1' : (os.take k).sum ≤ 4294967295000000 := by omega
    by_cases hlt : k < n
    · have hkl : k < os.length := by have := HN.out; omega
      obtain ⟨d, o, rfl, _, _, hc⟩ := HD.out (by omega)
      have hc0 := hc k hkl
      unfold ucel at hc0
      have HS := Lib.hid (sum_snoc (os.take k) os[k])
      have HC := Lib.hid (cnt_snoc (os.take k) os[k])
      have HE := Lib.hid (ends_snoc (os.take k) os[k])
      rw [← take_snoc' os k hkl] at HS HC HE
      rw [hlen] at HE
      have hob := HB.out os[k] (List.getElem_mem hkl)
      have hki : (k : Int) < (n : Int) := by omega
      clear hc hlen h1
      generalize os[k] = x at *
      generalize (os.take k).sum = S at *
      generalize cnt (os.take k) = C at *
      generalize ends (os.take k) = E at *
      by_cases hx : 0 < x
      · have hxi : (0 : Int) < (x : Int) := by omega
        have hC2 := HC.out
        have hE2 := HE.out
        rw [if_pos hx] at hC2 hE2
        have HC2 := Lib.hid hC2
        have HE2 := Lib.hid hE2
        clear hC2 hE2
        go_wp2_with fail
        go_round
        case rel => exact ⟨k + 1, by omega, by go_num, by rw [HS.out]; go_num, by rw [HC2.out]; go_num, by rw [HE2.out]; go_num⟩
        case measure => simp [intOf]; omega
      · obtain rfl : x = 0 := by omega
        have hC2 := HC.out
        have hE2 := HE.out
        rw [if_neg hx] at hC2 hE2
        have HC2 := Lib.hid hC2
        have HE2 := Lib.hid hE2
        clear hC2 hE2
        go_wp2_with fail
        go_round
        case rel => exact ⟨k + 1, by omega, by go_num, by rw [HS.out]; rfl, by rw [HC2.out]; rfl, by rw [HE2.out]⟩
        case measure => simp [intOf]; omega
    · obtain rfl : k = n := by omega
      have hki : ¬ (k : Int) < (k : Int) := by omega
      have HT : Hid (os.take k = os) := List.take_of_length_le (by have := HN.out; omega)
      clear hlen
      go_wp2_with fail
      go_ret3
      rw [HT.out]
      exact ⟨rfl, rfl⟩

theorem halves_any (p m : Int) (w : World) (h1 : 0 ≤ 2 * p + m) (h2 : p ≤ 1000000000) (h3 : m ≤ 1000) (h4 : 0 ≤ p) (h5 : -1000 ≤ m) :
    Calls Tryd.prog 85 #[.int .i64 p, .int .i64 m] w fun e w' => e = .returned (.int .u64 (2 * p + m)) ∧ w = w' := by
  go_enter Tryd.func85, Tryd.ntmps85
  go_wp2_with fail
  go_ret
  exact ⟨rfl, rfl⟩

theorem getD_eq {α : Type} (l : List α) (k : Nat) (d : α) (h : k < l.length) : l.getD k d = l[k] := by rw [List.getD_eq_getElem?_getD, List.getElem?_eq_getElem h]; rfl

/-- An index below n of which P holds; the world has drawn alone. -/
def Chosen (w : World) (n : Nat) (P : Nat → Prop) (e : Ending) (w' : World) : Prop := ∃ b q : Nat, e = .returned (.int .i64 (b : Int)) ∧ b < n ∧ P b ∧ w' = w.drewN q
/-- A product of a number of 32 bits and some halves, as 64 bits have it. -/
theorem mul_fits (a : Nat) (p : Int) (ha : a ≤ 2147483647) (h0 : 0 ≤ p) (h1 : p ≤ 200000001) : 0 ≤ (a : Int) * p ∧ IntKind.u64.wrap ((a : Int) * p) = (a : Int) * p := by
  obtain ⟨b, rfl⟩ := Int.eq_ofNat_of_zero_le h0
  have h := Nat.mul_le_mul ha (show b ≤ 200000001 by omega)
  have e : (a : Int) * (b : Int) = ((a * b : Nat) : Int) := by simp
  rw [e, IntKind.wrap_u64]
  omega

set_option maxRecDepth 100000 in
set_option maxHeartbeats 1000000 in
theorem scarcest_any {w : World} {lo hi lo2 hi2 : Nat} {A A2 : Option Addr} {n c c2 : Nat} {os : List Nat} {ps : List Int} (hp : DatE icel w lo hi A ps) (hd : DatE ucel w lo2 hi2 A2 os) (hg : Good os ps) (hn : os.length = n) (hn0 : 0 < n) (hm : n ≤ 1000000)
    (hb : ∀ i, os.getD i 0 ≤ 2147483647) (hpb : ∀ i, ps.getD i 0 ≤ 100000000) (hpos : ∃ i, i < n ∧ 0 < os.getD i 0) :
    Calls Tryd.prog 76 #[.slice A n c, .slice A2 n c2] w (Chosen w n fun b => 0 < os.getD b 0) := by
  have hpn := hg.len
  have HP := Lib.hid hp
  have HD := Lib.hid hd
  have HG := Lib.hid hg
  have HN := Lib.hid hn
  have HPN := Lib.hid hpn
  have HB := Lib.hid hb
  have HPB := Lib.hid hpb
  have HPos := Lib.hid hpos
  clear hp hd hg hn hb hpb hpos hpn
  go_enter Tryd.func76, Tryd.ntmps76
  go_wp2_with fail
  go_loopg [5, 9] n (fun gh b i wx => ∃ k bb q : Nat, k + gh = n ∧ i = .int .i64 k ∧ b = .int .i64 bb ∧ bb < n ∧ wx = w.drewN q ∧ ∀ j, j < k → 0 < os.getD j 0 → 0 < os.getD bb 0)
  case atStart => exact ⟨0, 0, 0, by omega, rfl, rfl, hn0, rfl, fun j hj => absurd hj (by omega)⟩
  case round =>
    obtain ⟨k, bb, q, hk, rfl, rfl, hbn, rfl, hall⟩ := hrel
    have HAll := Lib.hid hall
    have HK := Lib.hid hk
    have hkn : k ≤ n := by omega
    clear hall hk
    by_cases hlt : k < n
    · have hko : k < os.length := by have := HN.out; omega
      have hbo : bb < os.length := by have := HN.out; omega
      have hkp : k < ps.length := by have := HN.out; have := HPN.out; omega
      have hbp : bb < ps.length := by have := HN.out; have := HPN.out; omega
      obtain ⟨d, o, rfl, _, _, hc⟩ := HP.out (by omega)
      obtain ⟨d2, o2, rfl, _, _, hc2⟩ := HD.out (by omega)
      have e1 := hc k hkp
      have e2 := hc bb hbp
      have e3 := hc2 k hko
      have e4 := hc2 bb hbo
      unfold icel at e1 e2
      unfold ucel at e3 e4
      have g1 := HG.out.get k
      have g2 := HG.out.get bb
      have b1 := HB.out k
      have b2 := HB.out bb
      have b3 := HPB.out k
      have b4 := HPB.out bb
      have HGk := Lib.hid (getD_eq os k 0 hko)
      have HGb := Lib.hid (getD_eq os bb 0 hbo)
      rw [getD_eq ps k 0 hkp, getD_eq os k 0 hko] at g1
      rw [getD_eq ps bb 0 hbp, getD_eq os bb 0 hbo] at g2
      rw [getD_eq os k 0 hko] at b1
      rw [getD_eq os bb 0 hbo] at b2
      rw [getD_eq ps k 0 hkp] at b3
      rw [getD_eq ps bb 0 hbp] at b4
      clear hc hc2
      have hki : (k : Int) < (n : Int) := by omega
      have hbi : (bb : Int) < (n : Int) := by omega
      have hk0 : (0 : Int) ≤ (k : Int) := by omega
      have hb0 : (0 : Int) ≤ (bb : Int) := by omega
      generalize os[k] = ok at *
      generalize os[bb] = ob at *
      generalize ps[k] = pk at *
      generalize ps[bb] = pb at *
      have gpk := g1.1
      have gpb := g2.1
      clear g1 g2
      obtain ⟨x0, x1⟩ := mul_fits ok (2 * pb + 1) b1 (by omega) (by omega)
      obtain ⟨y0, y1⟩ := mul_fits ob (2 * pk + 1) b2 (by omega) (by omega)
      obtain ⟨X, hX⟩ : ∃ X : Int, X = (ok : Int) * (2 * pb + 1) := ⟨_, rfl⟩
      obtain ⟨Y, hY⟩ : ∃ Y : Int, Y = (ob : Int) * (2 * pk + 1) := ⟨_, rfl⟩
      rw [← hX] at x0
      rw [← hY] at y0
      have HWX := Lib.hid (x1.trans hX.symm)
      have HWY := Lib.hid (y1.trans hY.symm)
      clear x1 y1
      obtain ⟨g', rfl⟩ : ∃ g', gk = g' + 1 := ⟨gk - 1, by have := HK.out; omega⟩
      have HNew : Hid (Y < X → 0 < ok) := by
        intro hlt
        rcases Nat.eq_zero_or_pos ok with e | e
        · rw [hX, e] at hlt
          simp at hlt
          omega
        · exact e
      have HOld : Hid (¬ Y < X → 0 < ok → 0 < ob) := by
        intro hge hpos
        rcases Nat.eq_zero_or_pos ob with e | e
        · exfalso
          apply hge
          have h1 : 0 < (ok : Int) * (2 * pb + 1) := Int.mul_pos (by omega) (by omega)
          rw [hX, hY, e]
          simpa using h1
        · exact e
      clear hX hY
      have z1 := HWX.out
      have z2 := HWY.out
      by_cases hXY : Y < X
      · go_wp2_with fail
        go_quiet ((go_at_call 85; exact quiet_left (halves_any _ _ _ (by omega) (by omega) (by omega) (by omega) (by omega))))
        go_wp2_with fail
        go_roundg g'
        case rel => exact ⟨k + 1, k, _, by have := HK.out; omega, by go_num, rfl, hlt, rfl, fun j hj hp => by rw [HGk.out]; exact HNew.out hXY⟩
        case measure => omega
      · go_wp2_with fail
        go_quiet ((go_at_call 85; exact quiet_left (halves_any _ _ _ (by omega) (by omega) (by omega) (by omega) (by omega))))
        go_wp2_with fail
        go_roundg g'
        case rel =>
          refine ⟨k + 1, bb, _, by have := HK.out; omega, by go_num, rfl, hbn, rfl, fun j hj hp => ?_⟩
          by_cases hjk : j = k
          · subst hjk
            rw [HGk.out] at hp
            rw [HGb.out]
            exact HOld.out hXY hp
          · exact HAll.out j (by omega) hp
        case measure => omega
    · obtain rfl : k = n := by omega
      have hki : ¬ (k : Int) < (k : Int) := by omega
      go_wp2_with fail
      go_ret
      obtain ⟨i, h1, h2⟩ := HPos.out
      exact ⟨bb, q, rfl, hbn, HAll.out i h1 h2, rfl⟩

set_option maxRecDepth 100000 in
set_option maxHeartbeats 1000000 in
theorem richest_any {w : World} {lo hi lo2 hi2 : Nat} {A A2 : Option Addr} {n c c2 : Nat} {os : List Nat} {ps : List Int} (hp : DatE icel w lo hi A ps) (hd : DatE ucel w lo2 hi2 A2 os) (hg : Good os ps) (hn : os.length = n) (hm : n ≤ 1000000)
    (hb : ∀ i, os.getD i 0 ≤ 2147483647) (hpb : ∀ i, ps.getD i 0 ≤ 100000000) (hpos : ∃ i, i < n ∧ 2 ≤ ps.getD i 0) :
    Calls Tryd.prog 77 #[.slice A n c, .slice A2 n c2] w (Chosen w n fun b => 2 ≤ ps.getD b 0) := by
  have hpn := hg.len
  have HP := Lib.hid hp
  have HD := Lib.hid hd
  have HG := Lib.hid hg
  have HN := Lib.hid hn
  have HPN := Lib.hid hpn
  have HB := Lib.hid hb
  have HPB := Lib.hid hpb
  have HPos := Lib.hid hpos
  clear hp hd hg hn hb hpb hpos hpn
  go_enter Tryd.func77, Tryd.ntmps77
  go_wp2_with fail
  go_loopg [5, 9] n (fun gh b i wx => ∃ k q : Nat, k + gh = n ∧ i = .int .i64 k ∧ wx = w.drewN q ∧ ((b = .int .i64 (-1) ∧ ∀ j, j < k → ps.getD j 0 < 2) ∨ ∃ bb : Nat, b = .int .i64 bb ∧ bb < n ∧ 2 ≤ ps.getD bb 0))
  case atStart => exact ⟨0, 0, by omega, rfl, rfl, .inl ⟨rfl, fun j hj => absurd hj (by omega)⟩⟩
  case round =>
    obtain ⟨k, q, hk, rfl, rfl, hor⟩ := hrel
    have HK := Lib.hid hk
    have hkn : k ≤ n := by omega
    clear hk
    by_cases hlt : k < n
    · have hko : k < os.length := by have := HN.out; omega
      have hkp : k < ps.length := by have := HN.out; have := HPN.out; omega
      obtain ⟨g', rfl⟩ : ∃ g', gk = g' + 1 := ⟨gk - 1, by have := HK.out; omega⟩
      obtain ⟨d, o, rfl, _, _, hc⟩ := HP.out (by omega)
      obtain ⟨d2, o2, rfl, _, _, hc2⟩ := HD.out (by omega)
      have e1 := hc k hkp
      have e3 := hc2 k hko
      unfold icel at e1
      unfold ucel at e3
      have b1 := HB.out k
      have b3 := HPB.out k
      have HGp := Lib.hid (getD_eq ps k 0 hkp)
      rw [getD_eq os k 0 hko] at b1
      rw [getD_eq ps k 0 hkp] at b3
      have hki : (k : Int) < (n : Int) := by omega
      have hk0 : (0 : Int) ≤ (k : Int) := by omega
      generalize os[k] = ok at *
      generalize ps[k] = pk at *
      rcases hor with ⟨rfl, hall⟩ | ⟨bb, rfl, hbn, hb2⟩
      · have HAll := Lib.hid hall
        clear hall hc hc2
        by_cases hpk : pk < 2
        · go_wp2_with fail
          go_roundg g'
          case rel =>
            refine ⟨k + 1, q, by have := HK.out; omega, by go_num, rfl, .inl ⟨rfl, fun j hj => ?_⟩⟩
            by_cases hjk : j = k
            · subst hjk
              rw [HGp.out]; exact hpk
            · exact HAll.out j (by omega)
          case measure => omega
        · go_wp2_with fail
          go_quiet (fail)
          go_wp2_with fail
          go_roundg g'
          case rel => exact ⟨k + 1, _, by have := HK.out; omega, by go_num, rfl, .inr ⟨k, rfl, hlt, by rw [HGp.out]; omega⟩⟩
          case measure => omega
      · have hbo : bb < os.length := by have := HN.out; omega
        have hbp : bb < ps.length := by have := HN.out; have := HPN.out; omega
        have e2 := hc bb hbp
        have e4 := hc2 bb hbo
        unfold icel at e2
        unfold ucel at e4
        have b2 := HB.out bb
        have b4 := HPB.out bb
        have HB2 := Lib.hid hb2
        rw [getD_eq os bb 0 hbo] at b2
        rw [getD_eq ps bb 0 hbp] at b4 hb2
        clear hc hc2
        generalize os[bb] = ob at *
        generalize ps[bb] = pb at *
        have hbi : (bb : Int) < (n : Int) := by omega
        have hb0 : (0 : Int) ≤ (bb : Int) := by omega
        by_cases hpk : pk < 2
        · go_wp2_with fail
          go_roundg g'
          case rel => exact ⟨k + 1, q, by have := HK.out; omega, by go_num, rfl, .inr ⟨bb, rfl, hbn, HB2.out⟩⟩
          case measure => omega
        · have hbf : decide ((bb : Int) < 0) = false := by simp
          go_wp2_with fail
          go_quiet ((go_at_call 85; exact quiet_left (halves_any _ _ _ (by omega) (by omega) (by omega) (by omega) (by omega))))
          go_wp2_with fail
          · go_roundg g'
            case rel => exact ⟨k + 1, _, by have := HK.out; omega, by go_num, rfl, .inr ⟨k, rfl, hlt, by rw [HGp.out]; omega⟩⟩
            case measure => omega
          · go_roundg g'
            case rel => exact ⟨k + 1, _, by have := HK.out; omega, by go_num, rfl, .inr ⟨bb, rfl, hbn, HB2.out⟩⟩
            case measure => omega
    · obtain rfl : k = n := by omega
      have hki : ¬ (k : Int) < (k : Int) := by omega
      rcases hor with ⟨rfl, hall⟩ | ⟨bb, rfl, hbn, hb2⟩
      · obtain ⟨i, h1, h2⟩ := HPos.out
        have := hall i h1
        omega
      · go_wp2_with fail
        go_ret
        exact ⟨bb, q, rfl, hbn, hb2, rfl⟩

/-! Cells of a slice of the call's own. -/
theorem OwE.cellAt {α : Type} {f : α → Value} {w : World} {u base d n c : Nat} {xs : List α} (h : OwE f w u base (.slice (some ⟨d, 0, none⟩) n c) xs) (i : Nat) (hi : i < xs.length) :
    w.cell? ⟨d, i, none⟩ = some (f xs[i]) ∧ w.frozen? ⟨d, i, none⟩ = false := by
  have hc := World.ownsRow.cells h (g := d) rfl i (f xs[i]) (by simp [hi])
  have ha : (⟨d, 0, none⟩ : Addr).add i = ⟨d, i, none⟩ := by unfold Addr.add; split <;> simp_all
  rw [ha] at hc
  refine ⟨hc, ?_⟩
  rcases h.2 with ⟨e, _⟩ | ⟨g', cap, cur, e, _, hh, _⟩
  · cases e
  · injection e with e
    injection e with e
    injection e with e
    subst e
    simp [World.frozen?, hh]
theorem OwE.put {α : Type} {f : α → Value} {w : World} {u base d n c : Nat} {xs : List α} (h : OwE f w u base (.slice (some ⟨d, 0, none⟩) n c) xs) (i : Nat) (y : α) :
    OwE f (w.setCell ⟨d, i, none⟩ (f y)) u base (.slice (some ⟨d, 0, none⟩) n c) (xs.set i y) := by
  have hl := h.1
  rcases h.2 with ⟨e, _⟩ | ⟨g', cap, cur, e, hb, hh, hnc, hcm, hcs, ht⟩
  · cases e
  · injection e with e1 e2 e3
    injection e1 with e1
    injection e1 with e1
    subst e1
    subst e3
    refine ⟨by simp, .inr ⟨d, c, cur.setIfInBounds i (f y), by rw [List.length_set, ← e2], hb, Box.put hh i _, by simpa using hnc, hcm, by simpa using hcs, ?_⟩⟩
    rw [Array.toList_setIfInBounds, List.take_set, List.length_set, ht, List.map_set]
theorem OwE.len {α : Type} {f : α → Value} {w : World} {u base n c : Nat} {A : Option Addr} {xs : List α} (h : OwE f w u base (.slice A n c) xs) : xs.length = n := by
  obtain ⟨A', c', hv, _⟩ := h.form
  injection hv with _ h2 _
  exact h2.symm
theorem OwE.place {α : Type} {f : α → Value} {w : World} {u base : Nat} {v : Value} {xs : List α} (h : OwE f w u base v xs) (hx : 0 < xs.length) : ∃ d c, v = .slice (some ⟨d, 0, none⟩) xs.length c ∧ base ≤ d ∧ d < w.heap.size := by
  rcases h.2 with ⟨_, h0⟩ | ⟨g, cap, cur, rfl, hb, hh, _⟩
  · omega
  · exact ⟨g, cap, rfl, hb, (Array.getElem?_eq_some_iff.1 hh).1⟩
theorem OwE.drawn {α : Type} {f : α → Value} {w : World} {u base : Nat} {v : Value} {xs : List α} (h : OwE f w u base v xs) (q : Nat) : OwE f (w.drewN q) u base v xs := h
end Go.Proofs.YtpdnmhnnngcbjaaDoor
