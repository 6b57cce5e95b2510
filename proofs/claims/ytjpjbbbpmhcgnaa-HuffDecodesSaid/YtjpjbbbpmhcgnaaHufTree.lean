
/- The program's tree of codes: what it holds; the contracts of treeOf and next. -/
import Derived.Test.YtjpjbbbpmhcgnaaHufP
import Derived.Test.YtjpjbbbpmhcgnaaPileD
import Derived.Deep.RegionHeld3
import Derived.Deep.LoopGhost
import Derived.Deep.CutRange
namespace Go.Proofs.Ytjpjbbbpmhcgnaa
open Go.RowKit

theorem i64_or_small (a b : Nat) (ha : a < 4611686018427387904) (hb : b < 4611686018427387904) : bits .or .i64 (a : Int) (b : Int) = ((a ||| b : Nat) : Int) := by
  have hx : a ||| b < 2 ^ 62 := Nat.or_lt_two_pow (by omega) (by omega)
  show IntKind.i64.wrap ((BitVec.ofInt 64 (a : Int) ||| BitVec.ofInt 64 (b : Int)).toNat : Int) = _
  rw [BitVec.toNat_or, ofInt_u64 a (by omega), ofInt_u64 b (by omega)]
  exact IntWalk.i64_in _ (by omega)

/-- A leaf's cells. -/
def fcell (x : Bool × Nat) : List Value := [.bool x.1, .int .u8 (x.2 : Int)]
theorem fcell_len (x : Bool × Nat) : (fcell x).length = 2 := rfl
/-- Block t is a tree of these leaves. -/
def Tb (w : World) (t : Nat) (tb : List (Bool × Nat)) : Prop := tb.length = 4096 ∧ ∃ cs, Box w t 72 cs ∧ cs.toList = tb.flatMap fcell

def prs : Nat → List Value
  | 0 => []
  | n + 1 => .bool false :: .int .u8 0 :: prs n
theorem prs_eq (n : Nat) : prs n = (List.replicate n ((false, 0) : Bool × Nat)).flatMap fcell := by
  induction n with
  | zero => rfl
  | succ n ih => rw [prs, ih, List.replicate_succ, List.flatMap_cons]; rfl
set_option maxRecDepth 100000 in
theorem zero_tree : Try.zeroCells72.toList = prs 4096 := by kernel_rfl

section
variable {w w' : World} {t : Nat} {tb : List (Bool × Nat)}
theorem Tb.new (w : World) : Tb (w.alloc (.cells Try.zeroCells72 72)) w.heap.size (List.replicate 4096 (false, 0)) :=
  ⟨List.length_replicate, _, Box.new w _ _, by rw [zero_tree, prs_eq]⟩
theorem Tb.lt (h : Tb w t tb) : t < w.heap.size := by obtain ⟨_, cs, h, _⟩ := h; exact h.lt
theorem Tb.keep (h : Tb w t tb) (he : w'.heap[t]? = w.heap[t]?) : Tb w' t tb := by obtain ⟨hl, cs, h, hc⟩ := h; exact ⟨hl, cs, h.keep he, hc⟩
theorem Tb.cell (h : Tb w t tb) (i : Nat) (hi : i < 4096) (k : Nat) (hk : k < 2) {v : Value} (hv : (fcell (tb.getD i (false, 0)))[k]? = some v) : w.cell? ⟨t, i * 2 + k, none⟩ = some v := by
  obtain ⟨hl, cs, h, hc⟩ := h
  have hi' : i < tb.length := by omega
  rw [h.cell, ← Array.getElem?_toList, hc, flat_get fcell_len tb i k hi' hk]
  rw [List.getD_eq_getElem?_getD, List.getElem?_eq_getElem hi', Option.getD_some] at hv
  exact hv
theorem Tb.free (h : Tb w t tb) (i : Nat) : w.frozen? ⟨t, i, none⟩ = false := by obtain ⟨_, cs, h, _⟩ := h; exact h.free i
theorem Tb.put (h : Tb w t tb) (i : Nat) (hi : i < 4096) (e : Bool) (s : Nat) : Tb ((w.setCell ⟨t, i * 2, none⟩ (.bool e)).setCell ⟨t, i * 2 + 1, none⟩ (.int .u8 (s : Int))) t (tb.set i (e, s)) := by
  obtain ⟨hl, cs, h, hc⟩ := h
  refine ⟨by simpa using hl, _, (h.put (i * 2) (.bool e)).put (i * 2 + 1) (.int .u8 (s : Int)), ?_⟩
  have hi' : i < tb.length := by omega
  rw [Array.toList_setIfInBounds, Array.toList_setIfInBounds, hc]
  have e1 := flat_set fcell_len (.bool e) (e, (tb[i]).2) tb i 0 hi' (by decide) rfl
  rw [Nat.add_zero] at e1
  rw [e1]
  have e2 := flat_set fcell_len (.int .u8 (s : Int)) (e, s) (tb.set i (e, (tb[i]).2)) i 1 (by simpa using hi') (by decide) (by simp [fcell])
  rw [e2, List.set_set]
end

/-- The tree's leaves when the first k symbols' codes lie there. -/
def idxW (d : Nat) (L : List Nat) (s : Nat) : Nat := 2 ^ bitsW d L s + codeW L s
def tbl (d : Nat) (L : List Nat) : Nat → List (Bool × Nat)
  | 0 => List.replicate 4096 (false, 0)
  | k + 1 => if 0 < L.getD k 0 then (tbl d L k).set (idxW d L k) (true, k) else tbl d L k
section
variable {d : Nat} {L : List Nat}
theorem tbl_len (k : Nat) : (tbl d L k).length = 4096 := by
  induction k with
  | zero => exact List.length_replicate
  | succ k ih =>
    rw [tbl]
    split
    · rw [List.length_set]
      exact ih
    · exact ih
theorem idxW_lt (h : MayW d L) {s : Nat} (hs : s < L.length) : idxW d L s < 4096 := by
  have h1 := codeW_lt h hs
  have h2 := bitsW_le (s := s) h
  have h3 : 2 ^ (bitsW d L s + 1) ≤ 2 ^ 12 := Nat.pow_le_pow_right (by omega) (by omega)
  rw [Nat.pow_succ] at h3
  unfold idxW
  omega
theorem tbl_only (k i : Nat) (h : ((tbl d L k).getD i (false, 0)).1 = true) : ∃ s, s < k ∧ 0 < L.getD s 0 ∧ idxW d L s = i ∧ ((tbl d L k).getD i (false, 0)).2 = s := by
  induction k with
  | zero =>
    exfalso
    rw [tbl, List.getD_eq_getElem?_getD] at h
    by_cases hi : i < 4096
    · rw [List.getElem?_replicate_of_lt hi] at h; cases h
    · rw [List.getElem?_eq_none (by rw [List.length_replicate]; omega)] at h; cases h
  | succ k ih =>
    rw [tbl] at h ⊢
    split at h
    · next hp =>
      rw [if_pos hp]
      by_cases hi : idxW d L k = i
      · by_cases hil : i < 4096
        · refine ⟨k, by omega, hp, hi, ?_⟩
          subst hi
          rw [List.getD_eq_getElem?_getD, List.getElem?_set_self (by rw [tbl_len]; exact hil)]
          rfl
        · exfalso
          rw [List.getD_eq_getElem?_getD, List.getElem?_eq_none (by rw [List.length_set, tbl_len]; omega)] at h
          cases h
      · rw [List.getD_eq_getElem?_getD, List.getElem?_set_ne hi, ← List.getD_eq_getElem?_getD] at h ⊢
        obtain ⟨s, h1, h2⟩ := ih h
        exact ⟨s, by omega, h2⟩
    · next hp =>
      rw [if_neg hp]
      obtain ⟨s, h1, h2⟩ := ih h
      exact ⟨s, by omega, h2⟩
theorem tbl_all (h : MayW d L) (k s : Nat) (hk : k ≤ L.length) (hs : s < k) (hp : 0 < L.getD s 0) : ((tbl d L k).getD (idxW d L s) (false, 0)).1 = true := by
  induction k with
  | zero => omega
  | succ k ih =>
    rw [tbl]
    by_cases hsk : s = k
    · subst hsk
      rw [if_pos hp, List.getD_eq_getElem?_getD, List.getElem?_set_self (by rw [tbl_len]; exact idxW_lt h (by omega))]
      rfl
    · have i1 := ih (by omega) (by omega)
      split
      · by_cases he : idxW d L k = idxW d L s
        · rw [he, List.getD_eq_getElem?_getD, List.getElem?_set_self (by rw [tbl_len]; exact idxW_lt h (by omega))]
          rfl
        · rw [List.getD_eq_getElem?_getD, List.getElem?_set_ne he, ← List.getD_eq_getElem?_getD]
          exact i1
      · exact i1
theorem idx_parts {b b' c c' : Nat} (h : c < 2 ^ b) (h' : c' < 2 ^ b') (e : 2 ^ b + c = 2 ^ b' + c') : b = b' ∧ c = c' := by
  have hbb : b = b' := by
    rcases Nat.lt_trichotomy b b' with q | q | q
    · have : 2 ^ (b + 1) ≤ 2 ^ b' := Nat.pow_le_pow_right (by omega) q
      rw [Nat.pow_succ] at this
      omega
    · exact q
    · have : 2 ^ (b' + 1) ≤ 2 ^ b := Nat.pow_le_pow_right (by omega) q
      rw [Nat.pow_succ] at this
      omega
  subst hbb
  exact ⟨rfl, by omega⟩
/-- What the tree tells where j bits have been read. -/
theorem tbl_at (h : MayW d L) (xs : List UInt8) (left : Int) (j : Nat) :
    (((tbl d L L.length).getD (2 ^ j + cdf xs left j) (false, 0)).1 = true ↔ j = bitsW d L (symOf d L xs left)) ∧ (j = bitsW d L (symOf d L xs left) → ((tbl d L L.length).getD (2 ^ j + cdf xs left j) (false, 0)).2 = symOf d L xs left) := by
  have hS := symOf_sym h xs left
  have only : ((tbl d L L.length).getD (2 ^ j + cdf xs left j) (false, 0)).1 = true → j = bitsW d L (symOf d L xs left) ∧ ((tbl d L L.length).getD (2 ^ j + cdf xs left j) (false, 0)).2 = symOf d L xs left := by
    intro ht
    obtain ⟨s, h1, h2, h3, h4⟩ := tbl_only _ _ ht
    obtain ⟨e1, e2⟩ := idx_parts (codeW_lt h h1) (cdf_lt xs left j) h3
    have := sym_first h h1 h2 e1 e2
    subst this
    exact ⟨e1.symm, h4⟩
  have all : j = bitsW d L (symOf d L xs left) → ((tbl d L L.length).getD (2 ^ j + cdf xs left j) (false, 0)).1 = true := by
    intro e
    have := tbl_all h L.length _ (Nat.le_refl _) hS.1 hS.2.1
    unfold idxW at this
    rw [← e, ← (show cdf xs left j = codeW L (symOf d L xs left) by rw [e]; exact hS.2.2)] at this
    exact this
  exact ⟨⟨fun ht => (only ht).1, all⟩, fun e => (only (all e)).2⟩
end

section
variable {w : World}
set_option maxRecDepth 100000 in
set_option maxHeartbeats 2000000 in
theorem treeOf_any {lo hi n c : Nat} {A : Option Addr} {d : Nat} {L : List Nat} (hM : MayW d L) (hcs : DatR 2 ccell w lo hi A (codesOf d L)) (hn : L.length = n) (hhi : hi ≤ w.heap.size) :
    Calls Try.prog 20 #[.slice A n c] w fun e w' => e = .returned (.pointer (some ⟨w.heap.size, 0, none⟩)) ∧ Tb w' w.heap.size (tbl d L n) ∧ Below w.heap.size w w' := by
  have HM := Lib.hid (And.intro hM hn)
  have HC := Lib.hid hcs
  have hn256 := hM.2.1
  rw [hn] at hn256
  clear hM hcs hn
  go_enter Try.func20, Try.ntmps20
  go_wp2_with fail
  go_loopg [8] n (fun gh vi wx => ∃ j : Nat, vi = .int .i64 (j : Int) ∧ j + gh = n ∧ Tb wx w.heap.size (tbl d L j) ∧ Below w.heap.size w wx)
  case atStart => exact ⟨0, rfl, by omega, Tb.new w, (Below.refl _ w).alloc (Nat.le_refl _) _⟩
  case round =>
    obtain ⟨j, rfl, hj, hT, hB⟩ := hrel
    have HJ := Lib.hid hj
    have hjn : j ≤ n := by omega
    clear hj
    by_cases hlt : j < n
    · obtain ⟨g', rfl⟩ : ∃ g', gk = g' + 1 := ⟨gk - 1, by have := HJ.out; omega⟩
      have hjz : (j : Int) < (n : Int) := by omega
      have hjl : j < L.length := by have := HM.out.2; omega
      have hcl : (codesOf d L).length = L.length := by simp [codesOf]
      obtain ⟨dd, oo, rfl, _, hdh, hcc⟩ := HC.out (by rw [hcl]; omega)
      have hce : (codesOf d L)[j]'(by rw [hcl]; exact hjl) = (bitsW d L j, codeW L j) := by simp [codesOf]
      have e0 := hcc j (by rw [hcl]; exact hjl) 0
      have e1 := hcc j (by rw [hcl]; exact hjl) 1
      rw [hce] at e0 e1
      have d0 := (hB.cell (p := ⟨dd, oo + j * 2 + 0, none⟩) (by exact Nat.lt_of_lt_of_le hdh hhi)).trans (e0 _ rfl)
      have d1 := (hB.cell (p := ⟨dd, oo + j * 2 + 1, none⟩) (by exact Nat.lt_of_lt_of_le hdh hhi)).trans (e1 _ rfl)
      simp only [Nat.add_zero] at d0
      clear e0 e1 hce hcl hcc
      have htl := hT.lt
      have HT := Lib.hid (And.intro hT hB)
      have hb11 := bitsW_le (s := j) HM.out.1
      have hcl2 := codeW_lt HM.out.1 hjl
      have hi4 := idxW_lt HM.out.1 hjl
      by_cases hp : 0 < L.getD j 0
      · have hbp := bitsW_pos HM.out.1 hjl hp
        have f0 := hT.cell (idxW d L j) hi4 0 (by decide) (v := .bool ((tbl d L j).getD (idxW d L j) (false, 0)).1) rfl
        have f1 := hT.cell (idxW d L j) hi4 1 (by decide) (v := .int .u8 (((tbl d L j).getD (idxW d L j) (false, 0)).2 : Int)) rfl
        have g0 := hT.free (idxW d L j * 2)
        have g1 := hT.free (idxW d L j * 2 + 1)
        have hId := Lib.hid (show idxW d L j = 2 ^ bitsW d L j + codeW L j from rfl)
        clear hT hB
        obtain ⟨I, hI⟩ : ∃ I, I = idxW d L j := ⟨_, rfl⟩
        rw [← hI] at f0 f1 g0 g1 hi4 hId
        have HI : Hid (idxW d L j = I) := hI.symm
        clear hI
        generalize bitsW d L j = B at *
        generalize codeW L j = C at *
        have hBz : (0 : Int) < (B : Int) := by omega
        simp only [Nat.add_zero] at f0
        obtain ⟨P, hP⟩ : ∃ P, P = 2 ^ B := ⟨_, rfl⟩
        have eP : (2 : Int) ^ B = (P : Int) := by rw [hP]; simp
        have hP2 : P ≤ 2048 := by rw [hP]; exact Nat.pow_le_pow_right (by omega) hb11
        have hor : bits .or .i64 (P : Int) (C : Int) = (I : Int) := by
          rw [i64_or_small _ _ (by omega) (by omega), nat_join B P C (by rw [hP]; exact Nat.mod_self _) hcl2, hId.out, hP]
        have hwP : IntKind.i64.wrap (P : Int) = (P : Int) := IntWalk.i64_in _ (by omega)
        have hu8 : IntKind.u8.wrap (j : Int) = (j : Int) := by rw [IntKind.wrap_u8']; omega
        have hI0 : (0 : Int) ≤ (I : Int) := by omega
        have hI4 : (I : Int) < 4096 := by omega
        have HP := Lib.hid (And.intro hP hcl2)
        clear hP hcl2
        go_wp2_with fail
        go_region
        go_wp2_with fail
        go_roundg g'
        case measure => omega
        case rel =>
          obtain ⟨hT, hB⟩ := HT.out
          have e : tbl d L (j + 1) = (tbl d L j).set I (true, j) := by rw [tbl, if_pos hp, HI.out]
          refine ⟨j + 1, by go_num, by have := HJ.out; omega, ?_, ?_⟩
          · rw [e]
            have hp := hT.put I hi4 true j
            exact hp.keep (Below.heap_alloc _ _ _ hp.lt)
          · have hb := (hB.setCell (p := ⟨w.heap.size, I * 2, none⟩) (Nat.le_refl _) (.bool true)).setCell (p := ⟨w.heap.size, I * 2 + 1, none⟩) (Nat.le_refl _) (.int .u8 (j : Int))
            exact (hb.alloc hb.size _).drew
      · have hz : L.getD j 0 = 0 := by omega
        have hB0 : bitsW d L j = 0 := by unfold bitsW; rw [if_pos hz]
        rw [hB0] at d0
        clear hT hB
        generalize codeW L j = C at *
        go_wp2_with fail
        go_roundg g'
        case measure => omega
        case rel =>
          obtain ⟨hT, hB⟩ := HT.out
          refine ⟨j + 1, by go_num, by have := HJ.out; omega, ?_, ?_⟩
          · rw [tbl, if_neg hp]
            exact hT.keep (Below.heap_alloc _ _ _ htl)
          · exact hB.alloc hB.size _
    · obtain rfl : j = n := by omega
      have hjz : ¬ (j : Int) < (j : Int) := by omega
      go_wp2_with fail
      go_ret
      exact ⟨rfl, hT, hB⟩

set_option maxRecDepth 100000 in
set_option maxHeartbeats 2000000 in
theorem hufNext_any {lo t g d : Nat} {L : List Nat} {xs : List UInt8} {left : Int} (hM : MayW d L) (hT : Tb w t (tbl d L L.length)) (hW : BW w lo g xs left) (htg : t < lo) (hl : -1000000000 ≤ left) :
    Calls Try.prog 34 #[.pointer (some ⟨t, 0, none⟩), .pointer (some ⟨g, 0, none⟩)] w fun e w' => e = .returned (.int .u8 (symOf d L xs left : Nat)) ∧ BW w' lo g xs (left - bitsW d L (symOf d L xs left)) ∧ Stp w w' g := by
  have HM := Lib.hid hM
  have H0 := Lib.hid (And.intro hT hW)
  have hb11 := bitsW_le (s := symOf d L xs left) hM
  have h256 := symOf_lt (xs := xs) (left := left) hM
  clear hT hW hM
  go_enter Try.func34, Try.ntmps34
  go_wp2_with fail
  go_loopg [5] (bitsW d L (symOf d L xs left)) (fun gh vi wx => ∃ j : Nat, vi = .int .i64 ((2 ^ j + cdf xs left j : Nat) : Int) ∧ j + gh = bitsW d L (symOf d L xs left) ∧ BW wx lo g xs (left - j) ∧ Stp w wx g)
  case atStart => exact ⟨0, rfl, by omega, by simpa using H0.out.2, Stp.refl _ _⟩
  case round =>
    obtain ⟨j, rfl, hj, hW, hS⟩ := hrel
    have hT : Tb wr t (tbl d L L.length) := H0.out.1.keep (hS.1.block t H0.out.1.lt (by intro e; injection e with e; have := H0.out.2.1; omega))
    have hc := cdf_lt xs left j
    have hp11 : 2 ^ j ≤ 2048 := Nat.pow_le_pow_right (by omega) (show j ≤ 11 by omega)
    have hi4 : 2 ^ j + cdf xs left j < 4096 := by omega
    have f0 := hT.cell _ hi4 0 (by decide) (v := .bool ((tbl d L L.length).getD (2 ^ j + cdf xs left j) (false, 0)).1) rfl
    have f1 := hT.cell _ hi4 1 (by decide) (v := .int .u8 (((tbl d L L.length).getD (2 ^ j + cdf xs left j) (false, 0)).2 : Int)) rfl
    obtain ⟨t1, t2⟩ := tbl_at HM.out xs left j
    have HJ := Lib.hid hj
    have HW := Lib.hid (And.intro hW (And.intro hS hc))
    simp only [Nat.add_zero] at f0
    obtain ⟨I, hI⟩ : ∃ I, I = 2 ^ j + cdf xs left j := ⟨_, rfl⟩
    rw [← hI] at f0 f1 t1 t2 hi4 ⊢
    have HI := Lib.hid hI
    have hI0 : (0 : Int) ≤ (I : Int) := by omega
    have hI4 : (I : Int) < 4096 := by omega
    by_cases hjb : j = bitsW d L (symOf d L xs left)
    · rw [t1.2 hjb] at f0
      rw [t2 hjb] at f1
      clear t1 t2 hj hW hS hc hI hT
      go_wp2_with fail
      go_ret
      exact ⟨rfl, by rw [← hjb]; exact HW.out.1, HW.out.2.1⟩
    · have hno : ((tbl d L L.length).getD I (false, 0)).1 = false := by
        cases hb : ((tbl d L L.length).getD I (false, 0)).1 with
        | false => rfl
        | true => exact absurd (t1.1 hb) hjb
      rw [hno] at f0
      obtain ⟨g', rfl⟩ : ∃ g', gk = g' + 1 := ⟨gk - 1, by omega⟩
      have HR := Lib.hid (bread_any 1 hW (by omega))
      rw [bread_bit hW.2.1] at HR
      have hb2 := bt_lt xs (left - j)
      obtain ⟨b, hb⟩ : ∃ b, b = bt xs (left - j) := ⟨_, rfl⟩
      rw [← hb] at hb2 HR
      have HB := Lib.hid hb
      have hor : bits .or .i64 ((I : Int) * 2) (b : Int) = ((2 * I + b : Nat) : Int) := by
        have := i64_or_small (2 * I) b (by omega) (by omega)
        rw [nat_join1 _ _ (by omega) hb2] at this
        rw [← this]
        congr 1
        omega
      have hw2 : IntKind.i64.wrap ((I : Int) * 2) = (I : Int) * 2 := IntWalk.i64_in _ (by omega)
      have hbw : IntKind.i64.wrap (b : Int) = (b : Int) := IntWalk.i64_in _ (by omega)
      clear t1 t2 hj hW hS hc hI hT hb f1 hno
      go_wp2_with (go_at_call 56; refine HR.out.mono ?_; rintro e w3 ⟨rfl, hW3, hS3⟩)
      go_roundg g'
      case measure => omega
      case rel =>
        obtain ⟨hW, hS, hc⟩ := HW.out
        have e : 2 ^ (j + 1) + cdf xs left (j + 1) = 2 * I + b := by rw [cdf, ← HB.out, Nat.pow_succ, HI.out]; omega
        refine ⟨j + 1, ?_, by have := HJ.out; omega, ?_, hS.trans hS3⟩
        · rw [e]
          go_num
        · rw [show left - ((j + 1 : Nat) : Int) = left - (j : Int) - 1 by omega]
          exact hW3
end
end Go.Proofs.Ytjpjbbbpmhcgnaa
