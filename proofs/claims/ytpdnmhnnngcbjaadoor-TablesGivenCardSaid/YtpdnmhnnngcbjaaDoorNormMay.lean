
/- The contracts of the program's mayBe and Check. -/
import Derived.Test.YtpdnmhnnngcbjaaDoorNormParts
namespace Go.Proofs.YtpdnmhnnngcbjaaDoor
open Go.RowKit

theorem tot_take (ps : List Int) (k : Nat) (h : k < ps.length) : tot (ps.take (k + 1)) = tot (ps.take k) + wi ps[k] := by
  rw [List.take_succ_eq_append_getElem h, tot_append, tot_cons]
  simp [tot]
theorem tot_split (ps : List Int) (k : Nat) : tot ps = tot (ps.take k) + tot (ps.drop k) := by rw [← tot_append, List.take_append_drop]
theorem tot_le (l : List Int) (B : Int) (hB : 1 ≤ B) (h : ∀ p ∈ l, -1 ≤ p ∧ p ≤ B) : 0 ≤ tot l ∧ tot l ≤ B * l.length := by
  induction l with
  | nil => simp [tot]
  | cons p r ih =>
    obtain ⟨i1, i2⟩ := ih fun q hq => h q (by simp [hq])
    have hp := h p (by simp)
    have hw : 0 ≤ wi p ∧ wi p ≤ B := by unfold wi; split <;> omega
    rw [tot_cons, List.length_cons]
    have : B * ((r.length + 1 : Nat) : Int) = B * r.length + B := by rw [Int.natCast_add, Int.mul_add]; simp
    omega
theorem mayB_false {log : Int} {ps : List Int} (h : ¬ (5 ≤ log ∧ log ≤ 15 ∧ 0 < ps.length ∧ ps.length ≤ 256 ∧ ps.getLast? ≠ some 0 ∧ (∀ p ∈ ps, -1 ≤ p) ∧ tot ps = 2 ^ log.toNat)) : mayB log ps = false := by
  rcases hb : mayB log ps with _ | _
  · rfl
  · exact absurd (mayB_iff.1 hb) h

section
variable {w : World} {lo hi : Nat} {A : Option Addr} {n c : Nat} {ps : List Int}

theorem mayBe_log (log : Int) (h : log < 5 ∨ 15 < log) :
    Calls Tryd.prog 60 #[.agg #[.int .i64 log, .slice A n c]] w fun e w' => e = .returned (.bool false) ∧ Below w.heap.size w w' := by
  have HC := Lib.hid (isLog_no log (w.alloc (.cells #[.int .i64 log, .slice A n c] 70)) h)
  clear h
  go_enter Tryd.func60, Tryd.ntmps60
  go_wp2_with fail
  refine HC.out.mono ?_
  rintro e w1 ⟨rfl, rfl⟩
  go_wp2_with fail
  go_ret
  exact ⟨rfl, (Below.refl _ _).alloc (Nat.le_refl _) _⟩
theorem mayBe_len (log : Int) (h1 : 5 ≤ log) (h2 : log ≤ 15) (h : n = 0 ∨ 256 < n) (hn : n ≤ maxLen) :
    Calls Tryd.prog 60 #[.agg #[.int .i64 log, .slice A n c]] w fun e w' => e = .returned (.bool false) ∧ Below w.heap.size w w' := by
  unfold maxLen at hn
  have HC := Lib.hid (isLog_yes log (w.alloc (.cells #[.int .i64 log, .slice A n c] 70)) h1 h2)
  rcases h with rfl | h
  · go_enter Tryd.func60, Tryd.ntmps60
    go_wp2_with fail
    refine HC.out.mono ?_
    rintro e w1 ⟨rfl, rfl⟩
    go_wp2_with fail
    go_ret
    exact ⟨rfl, (Below.refl _ _).alloc (Nat.le_refl _) _⟩
  · have h0 : ((n : Int) == 0) = false := by simp; omega
    have h3 : (256 : Int) < (n : Int) := by omega
    go_enter Tryd.func60, Tryd.ntmps60
    go_wp2_with fail
    refine HC.out.mono ?_
    rintro e w1 ⟨rfl, rfl⟩
    go_wp2_with fail
    go_ret
    exact ⟨rfl, (Below.refl _ _).alloc (Nat.le_refl _) _⟩
set_option maxRecDepth 100000 in
set_option maxHeartbeats 1000000 in
theorem mayBe_row (log : Int) (h1 : 5 ≤ log) (h2 : log ≤ 15) (h3 : 0 < n) (h4 : n ≤ 256) (hd : DatE icel w lo hi A ps) (hn : ps.length = n) (hc : n ≤ c) (hhi : hi ≤ w.heap.size) (hb : ∀ p ∈ ps, -9223372036854775808 ≤ p ∧ p ≤ 9223372036854775807) :
    Calls Tryd.prog 60 #[.agg #[.int .i64 log, .slice A n c]] w fun e w' => e = .returned (.bool (mayB log ps)) ∧ Below w.heap.size w w' := by
  have HC := Lib.hid (isLog_yes log (w.alloc (.cells #[.int .i64 log, .slice A n c] 70)) h1 h2)
  have HN := Lib.hid hn
  have HBd := Lib.hid hb
  obtain ⟨d, o, rfl, hdl, hdh, hcell⟩ := (hd.alloc hhi (.cells #[.int .i64 log, .slice A n c] 70)) (by omega)
  have HCl := Lib.hid hcell
  obtain ⟨x, hxl, hlast⟩ : ∃ x, ps.getLast? = some x ∧ (w.alloc (.cells #[.int .i64 log, .slice (some ⟨d, o, none⟩) n c] 70)).cell? ⟨d, o + (n - 1), none⟩ = some (.int .i64 x) :=
    ⟨ps[n - 1]'(by omega), by subst hn; rw [List.getLast?_eq_getElem?, List.getElem?_eq_getElem (by omega)], hcell (n - 1) (by omega)⟩
  have HL := Lib.hid hxl
  have h0 : ((n : Int) == 0) = false := by simp; omega
  have h5 : decide ((256 : Int) < (n : Int)) = false := by simp; omega
  have hn1 : ((n : Int) - 1).toNat = n - 1 := by omega
  have hdw : d < w.heap.size := by omega
  clear hd hn hb hcell hxl
  by_cases hx0 : x = 0
  · subst hx0
    rw [mayB_false (by rintro ⟨_, _, _, _, q, _⟩; exact q HL.out)]
    go_enter Tryd.func60, Tryd.ntmps60
    go_wp2_with fail
    refine HC.out.mono ?_
    rintro e w1 ⟨rfl, rfl⟩
    go_wp2_with fail
    go_ret
    exact ⟨rfl, (Below.refl _ _).alloc (Nat.le_refl _) _⟩
  · have hx1 : (x == 0) = false := by simp [hx0]
    obtain ⟨l, rfl⟩ := Int.eq_ofNat_of_zero_le (show 0 ≤ log by omega)
    obtain ⟨P, hP⟩ : ∃ P : Nat, P = 2 ^ l := ⟨_, rfl⟩
    have hp : 2 ^ l ≤ 2 ^ 15 := Nat.pow_le_pow_right (by omega) (by omega)
    rw [← hP] at hp
    have hpow : (2 : Int) ^ l = (P : Nat) := by rw [hP]; simp
    have HP := Lib.hid hP
    clear hP
    obtain ⟨bb, hbb⟩ : ∃ bb, bb = mayB (l : Int) ps := ⟨_, rfl⟩
    rw [← hbb]
    have HBB := Lib.hid hbb
    clear hbb
    go_enter Tryd.func60, Tryd.ntmps60
    go_wp2_with fail
    refine HC.out.mono ?_
    rintro e w1 ⟨rfl, rfl⟩
    go_wp2_with fail
    go_loop [4, 37] (fun y i => ∃ k : Nat, k ≤ n ∧ i = .int .i64 k ∧ y = .int .i64 ((P : Int) - tot (ps.take k)) ∧ ∀ p ∈ ps.take k, -1 ≤ p ∧ p ≤ 32768 + 256) (fun _ i => n - (intOf i).toNat)
    case atStart => exact ⟨0, Nat.zero_le _, rfl, by simp [tot], by simp⟩
    case round =>
      obtain ⟨k, hk, rfl, rfl, hall⟩ := hrel
      have hts := tot_le _ _ (by omega) hall
      have htl : (ps.take k).length ≤ 256 := by rw [List.length_take]; have := HN.out; omega
      have HAll := Lib.hid hall
      clear hall
      have htb : 0 ≤ tot (ps.take k) ∧ tot (ps.take k) ≤ 33024 * 256 := by omega
      clear hts htl
      obtain ⟨T, hT⟩ : ∃ T, T = tot (ps.take k) := ⟨_, rfl⟩
      rw [← hT] at htb ⊢
      have HT := Lib.hid hT
      clear hT
      by_cases hlt : k < n
      · have hkl : k < ps.length := by have := HN.out; omega
        have hc0 := HCl.out k hkl
        have HTk := Lib.hid (tot_take ps k hkl)
        have HMem : Hid (ps[k] ∈ ps) := List.getElem_mem hkl
        have HTk2 : Hid (ps.take (k + 1) = ps.take k ++ [ps[k]]) := List.take_succ_eq_append_getElem hkl
        have hpb := HBd.out ps[k] (List.getElem_mem hkl)
        unfold icel at hc0
        have hlti : (k : Int) < (n : Int) := by omega
        generalize ps[k] = p at *
        by_cases hm1 : p < -1
        · obtain rfl : bb = false := HBB.out.trans (mayB_false (by rintro ⟨_, _, _, _, _, q, _⟩; have := q p HMem.out; omega))
          go_wp2_with fail
          go_ret
          exact ⟨rfl, (Below.refl _ _).alloc (Nat.le_refl _) _⟩
        · have hm2 : decide (p < -1) = false := by simp; omega
          by_cases hgt : (P : Int) - T < p
          · obtain rfl : bb = false := HBB.out.trans (mayB_false (by
              rintro ⟨_, _, _, _, _, q, q2⟩
              have h1 := tot_split ps (k + 1)
              have h2 := tot_pos (ps := ps.drop (k + 1)) fun z hz => q z (List.mem_of_mem_drop hz)
              have h3 := wi_pos (q p HMem.out)
              rw [HTk.out, ← HT.out, q2] at h1
              rw [show ((l : Nat) : Int).toNat = l by omega] at h1
              have h4 : (2 : Int) ^ l = (P : Nat) := by rw [HP.out]; simp
              omega))
            go_wp2_with fail
            go_ret
            exact ⟨rfl, (Below.refl _ _).alloc (Nat.le_refl _) _⟩
          · have hw : 0 ≤ wi p ∧ wi p ≤ 33024 := by unfold wi; split <;> omega
            go_wp2_with (go_at_call 64; refine (weight_any _ _).mono ?_; rintro e w' ⟨rfl, rfl⟩)
            go_round
            case rel =>
              refine ⟨k + 1, by omega, by go_num, ?_, fun z hz => ?_⟩
              · rw [HTk.out, ← HT.out]
                go_num
              · rw [HTk2.out, List.mem_append] at hz
                rcases hz with hz | hz
                · exact HAll.out z hz
                · simp at hz
                  omega
            case measure => simp [intOf]; omega
      · obtain rfl : k = n := by omega
        have hfull : ps.take k = ps := List.take_of_length_le (by have := HN.out; omega)
        have HF := Lib.hid hfull
        clear hfull
        have hlti : ¬ (k : Int) < (k : Int) := by omega
        by_cases heq : T = (P : Int)
        · have hm : mayB (l : Int) ps = true := mayB_iff.2 ⟨h1, h2, by have := HN.out; omega, by have := HN.out; omega, by rw [HL.out]; simpa using hx0, fun z hz => (HAll.out z (by rw [HF.out]; exact hz)).1, by
            rw [← HF.out, ← HT.out, heq, HP.out, show ((l : Nat) : Int).toNat = l by omega]; simp⟩
          obtain rfl : bb = true := HBB.out.trans hm
          clear hm
          have heq0 : ((P : Int) - T == 0) = true := by simp; omega
          go_wp2_with fail
          go_ret
          exact ⟨rfl, (Below.refl _ _).alloc (Nat.le_refl _) _⟩
        · have hm : mayB (l : Int) ps = false := mayB_false (by
            rintro ⟨_, _, _, _, _, q, q2⟩
            rw [← HF.out, ← HT.out, show ((l : Nat) : Int).toNat = l by omega] at q2
            apply heq
            rw [q2, HP.out]
            simp)
          obtain rfl : bb = false := HBB.out.trans hm
          clear hm
          have heq0 : ((P : Int) - T == 0) = false := by simp; omega
          go_wp2_with fail
          go_ret
          exact ⟨rfl, (Below.refl _ _).alloc (Nat.le_refl _) _⟩
/-- Whether counts may be. -/
theorem mayBe_any (log : Int) (hd : DatE icel w lo hi A ps) (hn : ps.length = n) (hc : n ≤ c) (hm : n ≤ maxLen) (hhi : hi ≤ w.heap.size) (hb : ∀ p ∈ ps, -9223372036854775808 ≤ p ∧ p ≤ 9223372036854775807) :
    Calls Tryd.prog 60 #[.agg #[.int .i64 log, .slice A n c]] w fun e w' => e = .returned (.bool (mayB log ps)) ∧ Below w.heap.size w w' := by
  by_cases h1 : 5 ≤ log ∧ log ≤ 15
  · by_cases h2 : 0 < n ∧ n ≤ 256
    · exact mayBe_row log h1.1 h1.2 h2.1 h2.2 hd hn hc hhi hb
    · rw [mayB_false (by rintro ⟨_, _, q, q2, _⟩; omega)]
      exact mayBe_len log h1.1 h1.2 (by omega) hm
  · rw [mayB_false (by rintro ⟨q, q2, _⟩; omega)]
    exact mayBe_log log (by omega)

/-- What Check answers. -/
def chk (log : Int) (ps : List Int) (most : Int) : Int := if mayB log ps = false then 1 else if most < log then 12 else 0
set_option maxRecDepth 100000 in
theorem check_any (log most : Int) (hd : DatE icel w lo hi A ps) (hn : ps.length = n) (hc : n ≤ c) (hm : n ≤ maxLen) (hhi : hi ≤ w.heap.size) (hb : ∀ p ∈ ps, -9223372036854775808 ≤ p ∧ p ≤ 9223372036854775807) :
    Calls Tryd.prog 48 #[.agg #[.int .i64 log, .slice A n c], .int .i64 most] w fun e w' => e = .returned (.int .i64 (chk log ps most)) ∧ Below w.heap.size w w' := by
  have HC := Lib.hid (mayBe_any (w := w.alloc (.cells #[.int .i64 log, .slice A n c] 70)) (c := c) log (hd.alloc hhi _) hn hc hm (by simp; omega) hb)
  have hb0 := Box.new w 70 #[.int .i64 log, .slice A n c]
  have HX := Lib.hid hb0
  clear hd hn hb hb0
  unfold chk
  cases hmb : mayB log ps with
  | false =>
    rw [hmb] at HC
    clear hmb
    go_enter Tryd.func48, Tryd.ntmps48
    go_wp2_with fail
    refine HC.out.mono ?_
    rintro e w1 ⟨rfl, hB⟩
    have HB := Lib.hid (((Below.refl _ _).alloc (Nat.le_refl _) (.cells #[.int .i64 log, .slice A n c] 70)).trans (hB.mono (by simp)))
    clear hB
    go_wp2_with fail
    go_ret
    exact ⟨rfl, HB.out⟩
  | true =>
    rw [hmb] at HC
    clear hmb
    by_cases hlog : most < log
    · simp only [if_pos hlog]
      go_enter Tryd.func48, Tryd.ntmps48
      go_wp2_with fail
      refine HC.out.mono ?_
      rintro e w1 ⟨rfl, hB⟩
      have HB := Lib.hid (((Below.refl _ _).alloc (Nat.le_refl _) (.cells #[.int .i64 log, .slice A n c] 70)).trans (hB.mono (by simp)))
      obtain ⟨c0, c1, f0, f1⟩ := box2 (HX.out.below hB (by simp))
      clear hB
      go_wp2_with fail
      go_ret
      exact ⟨rfl, HB.out⟩
    · simp only [if_neg hlog]
      go_enter Tryd.func48, Tryd.ntmps48
      go_wp2_with fail
      refine HC.out.mono ?_
      rintro e w1 ⟨rfl, hB⟩
      have HB := Lib.hid (((Below.refl _ _).alloc (Nat.le_refl _) (.cells #[.int .i64 log, .slice A n c] 70)).trans (hB.mono (by simp)))
      obtain ⟨c0, c1, f0, f1⟩ := box2 (HX.out.below hB (by simp))
      clear hB
      go_wp2_with fail
      go_ret
      exact ⟨rfl, HB.out⟩
end
end Go.Proofs.YtpdnmhnnngcbjaaDoor
