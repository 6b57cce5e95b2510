
/- The contract of the program's Codes. -/
import Derived.Test.YtafdfjacfodbnaaWtDepth
namespace Go.Proofs.Ytafdfjacfodbnaa
open Go.RowKit

/-- A code's cells. -/
def ccell (x : Nat × Nat) : List Value := [.int .i64 (x.1 : Int), .int .i64 (x.2 : Int)]
theorem ccell_len (x : Nat × Nat) : (ccell x).length = 2 := rfl
theorem ccell_one (x : Nat × Nat) : ∀ v ∈ ccell x, v.oneCell' = true := by
  intro v hv
  simp [ccell] at hv
  rcases hv with rfl | rfl <;> rfl
/-- The codes that are given so far: of weights up to s, and of the next weight's symbols ahead of j. -/
def cdAt (d : Nat) (l : List Nat) (s j i : Nat) : Nat × Nat := if 0 < l.getD i 0 ∧ (l.getD i 0 ≤ s ∨ l.getD i 0 = s + 1 ∧ i < j) then (bitsW d l i, codeW l i) else (0, 0)
def cds (d : Nat) (l : List Nat) (s j : Nat) : List (Nat × Nat) := (List.range l.length).map (cdAt d l s j)
/-- All codes. -/
def codesOf (d : Nat) (l : List Nat) : List (Nat × Nat) := (List.range l.length).map fun i => (bitsW d l i, codeW l i)
theorem cds_len (d : Nat) (l : List Nat) (s j : Nat) : (cds d l s j).length = l.length := by simp [cds]
theorem cds_zero (d : Nat) (l : List Nat) : cds d l 0 0 = List.replicate l.length (0, 0) := by
  apply List.ext_getElem
  · simp [cds]
  · intro i h1 h2
    simp only [cds, List.getElem_map, List.getElem_range, List.getElem_replicate, cdAt]
    rw [if_neg (by omega)]
theorem cds_skip {d : Nat} {l : List Nat} {s j : Nat} (h : l.getD j 0 ≠ s + 1) : cds d l s (j + 1) = cds d l s j := by
  unfold cds
  refine List.map_congr_left fun i _ => ?_
  unfold cdAt
  by_cases hij : i = j
  · subst hij
    by_cases q : 0 < l.getD i 0 ∧ l.getD i 0 ≤ s
    · rw [if_pos (by omega), if_pos (by omega)]
    · rw [if_neg (by omega), if_neg (by omega)]
  · by_cases q : 0 < l.getD i 0 ∧ (l.getD i 0 ≤ s ∨ l.getD i 0 = s + 1 ∧ i < j)
    · rw [if_pos (by omega), if_pos q]
    · rw [if_neg (by omega), if_neg q]
theorem cds_set {d : Nat} {l : List Nat} {s j : Nat} (h : l.getD j 0 = s + 1) : (cds d l s j).set j (bitsW d l j, codeW l j) = cds d l s (j + 1) := by
  apply List.ext_getElem
  · simp [cds]
  · intro i h1 h2
    rw [List.getElem_set]
    simp only [cds, List.getElem_map, List.getElem_range, cdAt]
    by_cases hij : j = i
    · subst hij
      rw [if_pos rfl, if_pos (by omega)]
    · rw [if_neg hij]
      by_cases q : 0 < l.getD i 0 ∧ (l.getD i 0 ≤ s ∨ l.getD i 0 = s + 1 ∧ i < j)
      · rw [if_pos q, if_pos (by omega)]
      · rw [if_neg q, if_neg (by omega)]
theorem cds_next (d : Nat) (l : List Nat) (s : Nat) : cds d l s l.length = cds d l (s + 1) 0 := by
  unfold cds
  refine List.map_congr_left fun i hi => ?_
  have hi := List.mem_range.1 hi
  unfold cdAt
  by_cases q : 0 < l.getD i 0 ∧ l.getD i 0 ≤ s + 1
  · rw [if_pos (by omega), if_pos (by omega)]
  · rw [if_neg (by omega), if_neg (by omega)]
theorem cds_end {d : Nat} {l : List Nat} (h : MayW d l) : cds d l d 0 = codesOf d l := by
  unfold cds codesOf
  refine List.map_congr_left fun i hi => ?_
  have hi := List.mem_range.1 hi
  have hg : l.getD i 0 = l[i] := by simp [List.getD, hi]
  have hm := h.2.2.2.2.2.2 l[i] (List.getElem_mem hi)
  unfold cdAt
  by_cases q : 0 < l.getD i 0
  · rw [if_pos (by omega)]
  · rw [if_neg (by omega)]
    have h0 : l.getD i 0 = 0 := by omega
    unfold bitsW codeW
    rw [if_pos h0, if_pos h0]
theorem nxt_step (A c s : Nat) : (A / 2 ^ s + c) / 2 = (A + c * 2 ^ s) / 2 ^ (s + 1) := by
  rw [← Nat.add_mul_div_right A c (Nat.two_pow_pos s), Nat.div_div_eq_div_mul, Nat.pow_succ]

theorem info_code : (Try.prog.info? 36).map (fun i => (i.zero, i.size, i.bytes)) = some (some (.agg #[.int .i64 0, .int .i64 0]), 2, 16) := by kernel_rfl
/-- What Codes answers. -/
def CodesPost (l : List Nat) (w : World) (e : Ending) (w' : World) : Prop :=
  Below w.heap.size w w' ∧ ((∃ d v, MayW d l ∧ e = .returned (.tuple #[v, .int .i64 0]) ∧ OwR 2 ccell w' 36 w.heap.size v (codesOf d l)) ∨ ((∀ d, ¬ MayW d l) ∧ e = .returned (.tuple #[.slice none 0 0, .int .i64 1])))

section
variable {w : World}
set_option maxRecDepth 100000 in
set_option maxHeartbeats 1000000 in
theorem codes_any {lo hi n c : Nat} {A : Option Addr} {l : List Nat} (hd : DatE u8cel w lo hi A l) (hn : l.length = n) (hm : n ≤ 100000) (h8 : ∀ x ∈ l, x ≤ 255) (hhi : hi ≤ w.heap.size) :
    Calls Try.prog 13 #[.slice A n c] w (CodesPost l w) := by
  have HDp := Lib.hid (depth_any (c := c) hd hn hm h8)
  have HD := Lib.hid (And.intro hd (And.intro hn h8))
  clear hd hn h8
  go_enter Try.func13, Try.ntmps13
  go_wp2_with fail
  refine HDp.out.mono ?_
  rintro _ w1 ⟨hw1, h | ⟨h, rfl⟩⟩
  · obtain ⟨d, hM, rfl⟩ := h
    subst hw1
    have HM := Lib.hid hM
    have hd11 := hM.2.2.2.2.2.1
    have hn256 := hM.2.1
    have hn2 := hM.1
    rw [HD.out.2.1] at hn256 hn2
    obtain ⟨dd, oo, rfl, qd1, qd2, hc⟩ := HD.out.1 (by rw [HD.out.2.1]; omega)
    have HC := Lib.hid hc
    obtain ⟨i0, hi0, hi1⟩ := Option.map_eq_some_iff.1 info_code
    simp only [Prod.mk.injEq] at hi1
    obtain ⟨hz0, hz1, hz2⟩ := hi1
    have HI := Lib.hid (And.intro hi0 (And.intro hz0 (And.intro hz1 hz2)))
    clear hi0 hz0 hz1 hz2 hc hM HDp
    go_wp2_with (at_make; refine wpList_make_full _ rfl _ _ 29 rfl w1.heap.size 36 i0 (.agg #[.int .i64 0, .int .i64 0]) 2 Try.underlying29 HI.out.1 HI.out.2.1 HI.out.2.2.1 .i64 .i64 _ _ n rfl rfl rfl rfl ?_ ?_ ?_ ?_)
    · rw [HI.out.2.2.2]; omega
    · unfold maxLen; omega
    · exact Nat.le_refl _
    intro w2 ho hg
    have ho1 := OwR.made (f := ccell) (x := ((0, 0) : Nat × Nat)) ccell_len (by decide) rfl ho
    rw [← HD.out.2.1, ← cds_zero d l, HD.out.2.1] at ho1
    have HO := Lib.hid (And.intro ho1 ((Below.refl w1.heap.size w1).grown hg (Nat.le_refl _) (by simp)))
    clear ho ho1 hg
    go_wp2_with fail
    go_loopg [7, 22] d (fun g1 vn vi wx => ∃ s : Nat, vi = .int .i64 (s : Int) ∧ s + g1 = d ∧ vn = .int .i64 ((bel (s + 1) l / 2 ^ s : Nat) : Int) ∧ OwR 2 ccell wx 36 w1.heap.size (.slice (some ⟨w1.heap.size, 0, none⟩) n n) (cds d l s 0) ∧ Below w1.heap.size w1 wx)
    case atStart => exact ⟨0, rfl, by omega, by rw [bel_one]; rfl, HO.out.1, HO.out.2⟩
    case round =>
      clear HO
      obtain ⟨s, rfl, hs, rfl, hO, hB⟩ := hrel
      have hbn : bel (s + 1) l / 2 ^ s ≤ 262144 := by
        have h1 := bel_mono (show s + 1 ≤ d + 1 by omega) l
        rw [bel_all l HM.out.2.2.2.2.2.2, HM.out.2.2.2.1] at h1
        have h2 : 2 ^ d ≤ 2 ^ 11 := Nat.pow_le_pow_right (by omega) hd11
        have h3 := Nat.div_le_self (bel (s + 1) l) (2 ^ s)
        omega
      have HNx := Lib.hid (fun c => nxt_step (bel (s + 1) l) c s)
      have HBs := Lib.hid (bel_succ (s + 1) (by omega) l)
      have HCw := Lib.hid (fun j (hj : l.getD j 0 = s + 1) => codeW_eq (l := l) (s := j) (by omega))
      obtain ⟨N, hN⟩ : ∃ N, N = bel (s + 1) l / 2 ^ s := ⟨_, rfl⟩
      rw [← hN] at hbn HNx
      rw [← hN]
      have HN := Lib.hid hN
      have HO2 := Lib.hid (And.intro hO hB)
      clear hO hB hN
      by_cases hlt : s < d
      · have hltz : (s : Int) < (d : Int) := by omega
        go_wp2_with fail
        go_loopg [7, 27] n (fun g2 vn vj wy => ∃ j : Nat, vj = .int .i64 (j : Int) ∧ j + g2 = n ∧ vn = .int .i64 ((N + cnw (s + 1) (l.take j) : Nat) : Int) ∧ OwR 2 ccell wy 36 w1.heap.size (.slice (some ⟨w1.heap.size, 0, none⟩) n n) (cds d l s j) ∧ Below w1.heap.size w1 wy)
        case atStart => exact ⟨0, rfl, by omega, rfl, HO2.out.1, HO2.out.2⟩
        case round =>
          clear HO2
          obtain ⟨j, rfl, hj, rfl, hO, hB⟩ := hrel
          by_cases hlt2 : j < n
          · have hltz2 : (j : Int) < (n : Int) := by omega
            have hjl : j < l.length := by rw [HD.out.2.1]; exact hlt2
            have hcj := (World.cell?_of_block (hB.block dd (by omega))).trans (HC.out j hjl)
            unfold u8cel at hcj
            have hgj : l.getD j 0 = l[j] := by simp [List.getD, hjl]
            have hx8 := HD.out.2.2 l[j] (List.getElem_mem hjl)
            have htk := cnw_take_succ (s + 1) l j hjl
            have hcl : cnw (s + 1) (l.take j) ≤ 256 := by
              have := cnw_le (s + 1) (l.take j)
              rw [List.length_take] at this
              omega
            have hq := hO.cellAt ccell_len j 0 (by rw [cds_len]; exact hjl) (by decide) _ rfl
            have hq2 := hO.cellAt ccell_len j 1 (by rw [cds_len]; exact hjl) (by decide) _ rfl
            obtain ⟨v0, hv0⟩ : ∃ v, v = Value.int .i64 (((cds d l s j)[j]'(by rw [cds_len]; exact hjl)).1 : Int) := ⟨_, rfl⟩
            obtain ⟨v1, hv1⟩ : ∃ v, v = Value.int .i64 (((cds d l s j)[j]'(by rw [cds_len]; exact hjl)).2 : Int) := ⟨_, rfl⟩
            rw [← hv0, Nat.add_zero] at hq
            rw [← hv1] at hq2
            clear hv0 hv1
            have HQ := Lib.hid (And.intro hO (And.intro hB (And.intro hgj (And.intro htk hjl))))
            obtain ⟨cq, fq⟩ := hq
            obtain ⟨cq2, fq2⟩ := hq2
            clear hO hB hgj htk
            generalize hC : cnw (s + 1) (l.take j) = C at *
            have HCn := Lib.hid hC
            clear hC
            generalize hx : l[j] = x at *
            have HX := Lib.hid hx
            clear hx
            by_cases hxs : x = s + 1
            · subst hxs
              have hxz : (((s + 1 : Nat) : Int) == (s : Int) + 1) = true := by rw [beq_iff_eq]; omega
              go_wp2_with fail
              go_roundg (n - (j + 1))
              case measure => omega
              case rel =>
                obtain ⟨hO, hB, hgj, htk, hjl⟩ := HQ.out
                have hgs : l.getD j 0 = s + 1 := by rw [hgj]
                have hbw : bitsW d l j = d - s := by unfold bitsW; rw [if_neg (by omega), hgs]; omega
                have hcw : codeW l j = N + C := by
                  rw [HCw.out j hgs, hgs, HCn.out, show s + 1 - 1 = s by omega, ← HN.out]
                have hjc : j < (cds d l s j).length := by rw [cds_len]; exact hjl
                have p1 := hO.put ccell_len j 0 hjc (by decide) (.int .i64 ((d : Int) - (s : Int))) (d - s, ((cds d l s j)[j]'hjc).2) (by simp [ccell]; omega)
                have p2 := p1.put ccell_len j 1 (by rw [List.length_set]; exact hjc) (by decide) (.int .i64 ((N : Int) + (C : Int))) (d - s, N + C) (by simp [ccell])
                rw [List.set_set, ← hbw, ← hcw, cds_set hgs] at p2
                exact ⟨j + 1, by go_num, by omega, by rw [htk, if_pos trivial]; go_num, p2, (hB.setCell (Nat.le_refl _) _).setCell (Nat.le_refl _) _⟩
            · have hxz : ((x : Int) == (s : Int) + 1) = false := by rw [beq_eq_false_iff_ne]; omega
              go_wp2_with fail
              go_roundg (n - (j + 1))
              case measure => omega
              case rel =>
                obtain ⟨hO, hB, hgj, htk, hjl⟩ := HQ.out
                refine ⟨j + 1, by go_num, by omega, ?_, ?_, hB⟩
                · rw [htk, if_neg hxs, Nat.add_zero]
                · rw [cds_skip (by rw [hgj]; exact hxs)]
                  exact hO
          · obtain rfl : j = n := by omega
            have hltz2 : ¬ (j : Int) < (j : Int) := by omega
            have hcl : cnw (s + 1) (l.take j) ≤ 256 := by
              have := cnw_le (s + 1) (l.take j)
              rw [List.length_take] at this
              omega
            have HQ := Lib.hid (And.intro hO hB)
            clear hO hB
            have ht : l.take j = l := List.take_of_length_le (by rw [HD.out.2.1]; omega)
            rw [ht] at hcl ⊢
            generalize hC : cnw (s + 1) l = C at *
            have HCn := Lib.hid hC
            clear hC
            go_wp2_with fail
            go_roundg (d - (s + 1))
            case measure => omega
            case rel =>
              refine ⟨s + 1, by go_num, by omega, ?_, ?_, HQ.out.2⟩
              · have h1 := HNx.out C
                have h2 := HBs.out
                rw [h2, show s + 1 - 1 = s by omega, ← h1]
                congr 1
              · have := HQ.out.1
                rw [← HD.out.2.1, cds_next, HD.out.2.1] at this
                exact this
      · obtain rfl : s = d := by omega
        have hltz : ¬ (s : Int) < (s : Int) := by omega
        go_wp2_with fail
        go_ret2
        exact ⟨HO2.out.2, .inl ⟨s, _, HM.out, rfl, by rw [← cds_end HM.out]; exact HO2.out.1⟩⟩
  · subst hw1
    have HN := Lib.hid h
    clear h HDp
    go_wp2_with fail
    go_ret2
    exact ⟨Below.refl _ _, .inr ⟨HN.out, rfl⟩⟩
end
end Go.Proofs.Ytafdfjacfodbnaa
