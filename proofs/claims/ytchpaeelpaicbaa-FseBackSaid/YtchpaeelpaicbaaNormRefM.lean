
/- The contracts of the document's Power, May, Check. -/
import Derived.Test.YtchpaeelpaicbaaNormTail
namespace Go.Proofs.Ytchpaeelpaicbaa
open Go.RowKit

set_option maxRecDepth 100000 in
theorem refPower_any (n : Nat) (w : World) (h : n ≤ 40) : Calls Try.prog 33 #[.int .i64 (n : Int)] w fun e w' => e = .returned (.int .i64 ((2 ^ n : Nat) : Int)) ∧ w = w' := by
  obtain ⟨P, hP⟩ : ∃ P : Nat, P = 2 ^ n := ⟨_, rfl⟩
  rw [← hP]
  have HP := Lib.hid hP
  clear hP
  go_enter Try.func33, Try.ntmps33
  go_wp2_with fail
  go_loop [3, 4] (fun x i => ∃ k q : Nat, k ≤ n ∧ i = .int .i64 k ∧ x = .int .i64 q ∧ q = 2 ^ k) (fun _ i => n - (intOf i).toNat)
  case atStart => exact ⟨0, 1, Nat.zero_le _, rfl, rfl, rfl⟩
  case round =>
    obtain ⟨k, q, hk, rfl, rfl, hq⟩ := hrel
    have hqb : 2 ^ k ≤ 2 ^ 40 := Nat.pow_le_pow_right (by omega) (by omega)
    rw [← hq] at hqb
    have HQ := Lib.hid hq
    clear hq
    by_cases hlt : k < n
    · have hki : (k : Int) < (n : Int) := by omega
      have hk4 : (k : Int) < 40 := by omega
      go_wp2_with fail
      go_round
      case rel => exact ⟨k + 1, q * 2, by omega, by go_num, by go_num, by rw [HQ.out, Nat.pow_succ]⟩
      case measure => simp [intOf]; omega
    · obtain rfl : k = n := by omega
      have hki : decide ((k : Int) < (k : Int)) = false := by simp
      go_wp2_with fail
      go_ret
      refine ⟨?_, rfl⟩
      rw [HP.out, ← HQ.out]
      rfl

theorem le_tot (qs : List Int) (h : ∀ p ∈ qs, -1 ≤ p) : ∀ p ∈ qs, p ≤ tot qs := by
  induction qs with
  | nil => intro p hp; simp at hp
  | cons q r ih =>
    intro p hp
    rw [tot_cons]
    have h0 := wi_pos (h q (by simp))
    have hr := tot_pos (ps := r) fun z hz => h z (by simp [hz])
    rw [List.mem_cons] at hp
    rcases hp with rfl | hp
    · omega
    · have := ih (fun z hz => h z (by simp [hz])) p hp
      omega
theorem may_le {l : Int} {ps : List Int} (h : mayB l ps = true) : ∀ p ∈ ps, -1 ≤ p ∧ p ≤ 32768 := by
  obtain ⟨h1, h2, _, _, _, h6, h7⟩ := mayB_iff.1 h
  intro p hp
  have h8 := le_tot ps h6 p hp
  have h9 := h6 p hp
  obtain ⟨n, hn⟩ : ∃ n, n = l.toNat := ⟨_, rfl⟩
  have hpw : 2 ^ n ≤ 2 ^ 15 := Nat.pow_le_pow_right (by omega) (by omega)
  rw [h7, ← hn] at h8
  have e : (2 : Int) ^ n = ((2 ^ n : Nat) : Int) := by simp
  rw [e] at h8
  omega

section
variable {w : World} {lo hi : Nat} {A : Option Addr} {n c : Nat} {ps : List Int}
set_option maxRecDepth 100000 in
theorem refMay_log (log : Int) (h : log < 5 ∨ 15 < log) :
    Calls Try.prog 45 #[.agg #[.int .i64 log, .slice A n c]] w fun e w' => e = .returned (.bool false) ∧ Below w.heap.size w w' := by
  rcases h with h | h
  · go_enter Try.func45, Try.ntmps45
    go_wp2_with fail
    go_ret
    exact ⟨rfl, (Below.refl _ _).alloc (Nat.le_refl _) _⟩
  · have h5 : decide (log < 5) = false := by simp; omega
    go_enter Try.func45, Try.ntmps45
    go_wp2_with fail
    go_ret
    exact ⟨rfl, (Below.refl _ _).alloc (Nat.le_refl _) _⟩
set_option maxRecDepth 100000 in
theorem refMay_len (log : Int) (h1 : 5 ≤ log) (h2 : log ≤ 15) (h : n = 0 ∨ 256 < n) (hn : n ≤ maxLen) :
    Calls Try.prog 45 #[.agg #[.int .i64 log, .slice A n c]] w fun e w' => e = .returned (.bool false) ∧ Below w.heap.size w w' := by
  unfold maxLen at hn
  have h5 : decide (log < 5) = false := by simp; omega
  have h6 : decide (15 < log) = false := by simp; omega
  rcases h with rfl | h
  · go_enter Try.func45, Try.ntmps45
    go_wp2_with fail
    go_ret
    exact ⟨rfl, (Below.refl _ _).alloc (Nat.le_refl _) _⟩
  · have h0 : ((n : Int) == 0) = false := by rw [beq_eq_false_iff_ne]; omega
    have h3 : (256 : Int) < (n : Int) := by omega
    go_enter Try.func45, Try.ntmps45
    go_wp2_with fail
    go_ret
    exact ⟨rfl, (Below.refl _ _).alloc (Nat.le_refl _) _⟩
set_option maxRecDepth 100000 in
set_option maxHeartbeats 2000000 in
theorem refMay_row (log : Int) (h1 : 5 ≤ log) (h2 : log ≤ 15) (h3 : 0 < n) (h4 : n ≤ 256) (hd : DatE icel w lo hi A ps) (hn : ps.length = n) (hc : n ≤ c) (hhi : hi ≤ w.heap.size) (hb : ∀ p ∈ ps, -9223372036854775808 ≤ p ∧ p ≤ 9223372036854775807) :
    Calls Try.prog 45 #[.agg #[.int .i64 log, .slice A n c]] w fun e w' => e = .returned (.bool (mayB log ps)) ∧ Below w.heap.size w w' := by
  have HN := Lib.hid hn
  have HBd := Lib.hid hb
  obtain ⟨d, o, rfl, hdl, hdh, hcell⟩ := (hd.alloc hhi (.cells #[.int .i64 log, .slice A n c] 37)) (by omega)
  have HCl := Lib.hid hcell
  obtain ⟨x, hxl, hlast⟩ : ∃ x, ps.getLast? = some x ∧ (w.alloc (.cells #[.int .i64 log, .slice (some ⟨d, o, none⟩) n c] 37)).cell? ⟨d, o + (n - 1), none⟩ = some (.int .i64 x) :=
    ⟨ps[n - 1]'(by omega), by subst hn; rw [List.getLast?_eq_getElem?, List.getElem?_eq_getElem (by omega)], hcell (n - 1) (by omega)⟩
  have HL := Lib.hid hxl
  have h0 : ((n : Int) == 0) = false := by rw [beq_eq_false_iff_ne]; omega
  have h5 : decide ((256 : Int) < (n : Int)) = false := by simp; omega
  have h7 : decide (log < 5) = false := by simp; omega
  have h8 : decide (15 < log) = false := by simp; omega
  have hn1 : ((n : Int) - 1).toNat = n - 1 := by omega
  have hdw : d < w.heap.size := by omega
  clear hd hn hb hcell hxl
  by_cases hx0 : x = 0
  · subst hx0
    rw [mayB_false (by rintro ⟨_, _, _, _, q, _⟩; exact q HL.out)]
    go_enter Try.func45, Try.ntmps45
    go_wp2_with fail
    go_ret
    exact ⟨rfl, (Below.refl _ _).alloc (Nat.le_refl _) _⟩
  · have hx1 : (x == 0) = false := by simp [hx0]
    obtain ⟨l, rfl⟩ := Int.eq_ofNat_of_zero_le (show 0 ≤ log by omega)
    obtain ⟨P, hP⟩ : ∃ P : Nat, P = 2 ^ l := ⟨_, rfl⟩
    have HP := Lib.hid hP
    have HPw := Lib.hid (refPower_any l (w.alloc (.cells #[.int .i64 (l : Int), .slice (some ⟨d, o, none⟩) n c] 37)) (by omega))
    rw [← hP] at HPw
    clear hP
    obtain ⟨bb, hbb⟩ : ∃ bb, bb = mayB (l : Int) ps := ⟨_, rfl⟩
    rw [← hbb]
    have HBB := Lib.hid hbb
    clear hbb
    go_enter Try.func45, Try.ntmps45
    go_wp2_with fail
    go_loop [3, 4] (fun y i => ∃ k : Nat, k ≤ n ∧ i = .int .i64 k ∧ y = .int .i64 (tot (ps.take k)) ∧ ∀ p ∈ ps.take k, -1 ≤ p ∧ p ≤ 32768) (fun _ i => n - (intOf i).toNat)
    case atStart => exact ⟨0, Nat.zero_le _, rfl, by simp [tot], by simp⟩
    case round =>
      obtain ⟨k, hk, rfl, rfl, hall⟩ := hrel
      have hts := tot_le _ _ (by omega) hall
      have htl : (ps.take k).length ≤ 256 := by rw [List.length_take]; have := HN.out; omega
      have HAll := Lib.hid hall
      clear hall
      have htb : 0 ≤ tot (ps.take k) ∧ tot (ps.take k) ≤ 32768 * 256 := by omega
      clear hts htl
      obtain ⟨T, hT⟩ : ∃ T, T = tot (ps.take k) := ⟨_, rfl⟩
      rw [← hT] at htb ⊢
      have HT := Lib.hid hT
      clear hT
      by_cases hlt : k < n
      · have hkl : k < ps.length := by have := HN.out; omega
        have hc0 := HCl.out k hkl
        have HTk := Lib.hid (tot_take ps k hkl)
        have HMem : Hid (ps[k] ∈ ps) := List.getElem_mem hkl
        have HTk2 : Hid (ps.take (k + 1) = ps.take k ++ [ps[k]]) := List.take_succ_eq_append_getElem hkl
        have hpb := HBd.out ps[k] (List.getElem_mem hkl)
        unfold icel at hc0
        have hlti : (k : Int) < (n : Int) := by omega
        generalize ps[k] = p at *
        by_cases hm1 : p < -1
        · obtain rfl : bb = false := HBB.out.trans (mayB_false (by rintro ⟨_, _, _, _, _, q, _⟩; have := q p HMem.out; omega))
          go_wp2_with fail
          go_ret
          exact ⟨rfl, (Below.refl _ _).alloc (Nat.le_refl _) _⟩
        · have hm2 : decide (p < -1) = false := by simp; omega
          by_cases hgt : 32768 < p
          · obtain rfl : bb = false := HBB.out.trans (by
              rcases hq : mayB (l : Int) ps with _ | _
              · rfl
              · have := (may_le hq p HMem.out).2
                omega)
            go_wp2_with fail
            go_ret
            exact ⟨rfl, (Below.refl _ _).alloc (Nat.le_refl _) _⟩
          · have hgt2 : decide (32768 < p) = false := by simp; omega
            have hnext : ∀ z ∈ ps.take (k + 1), -1 ≤ z ∧ z ≤ 32768 := fun z hz => by
              rw [HTk2.out, List.mem_append] at hz
              rcases hz with hz | hz
              · exact HAll.out z hz
              · simp at hz
                omega
            have HNx := Lib.hid hnext
            clear hnext
            by_cases hneg : p < 0
            · have hw : wi p = 1 := by unfold wi; rw [if_pos (by omega)]
              have HW := Lib.hid hw
              clear hw
              go_wp2_with fail
              go_round
              case rel => exact ⟨k + 1, by omega, by go_num, by rw [HTk.out, ← HT.out, HW.out], HNx.out⟩
              case measure => simp [intOf]; omega
            · have hw : wi p = p := by unfold wi; rw [if_neg (by omega)]
              have HW := Lib.hid hw
              clear hw
              go_wp2_with fail
              go_round
              case rel => exact ⟨k + 1, by omega, by go_num, by rw [HTk.out, ← HT.out, HW.out], HNx.out⟩
              case measure => simp [intOf]; omega
      · obtain rfl : k = n := by omega
        have hfull : ps.take k = ps := List.take_of_length_le (by have := HN.out; omega)
        have HF := Lib.hid hfull
        clear hfull
        have hlti : ¬ (k : Int) < (k : Int) := by omega
        by_cases heq : T = (P : Int)
        · have hm : mayB (l : Int) ps = true := mayB_iff.2 ⟨h1, h2, by have := HN.out; omega, by have := HN.out; omega, by rw [HL.out]; simpa using hx0, fun z hz => (HAll.out z (by rw [HF.out]; exact hz)).1, by
            rw [← HF.out, ← HT.out, heq, HP.out, show ((l : Nat) : Int).toNat = l by omega]; simp⟩
          obtain rfl : bb = true := HBB.out.trans hm
          clear hm
          have heq0 : (T == (P : Int)) = true := by simp; omega
          go_wp2_with fail
          refine HPw.out.mono ?_
          rintro e w' ⟨rfl, rfl⟩
          go_wp2_with fail
          go_ret
          exact ⟨rfl, (Below.refl _ _).alloc (Nat.le_refl _) _⟩
        · have hm : mayB (l : Int) ps = false := mayB_false (by
            rintro ⟨_, _, _, _, _, q, q2⟩
            rw [← HF.out, ← HT.out, show ((l : Nat) : Int).toNat = l by omega] at q2
            apply heq
            rw [q2, HP.out]
            simp)
          obtain rfl : bb = false := HBB.out.trans hm
          clear hm
          have heq0 : (T == (P : Int)) = false := by rw [beq_eq_false_iff_ne]; exact heq
          go_wp2_with fail
          refine HPw.out.mono ?_
          rintro e w' ⟨rfl, rfl⟩
          go_wp2_with fail
          go_ret
          exact ⟨rfl, (Below.refl _ _).alloc (Nat.le_refl _) _⟩
/-- Whether counts may be, by the document. -/
theorem refMay_any (log : Int) (hd : DatE icel w lo hi A ps) (hn : ps.length = n) (hc : n ≤ c) (hm : n ≤ maxLen) (hhi : hi ≤ w.heap.size) (hb : ∀ p ∈ ps, -9223372036854775808 ≤ p ∧ p ≤ 9223372036854775807) :
    Calls Try.prog 45 #[.agg #[.int .i64 log, .slice A n c]] w fun e w' => e = .returned (.bool (mayB log ps)) ∧ Below w.heap.size w w' := by
  by_cases h1 : 5 ≤ log ∧ log ≤ 15
  · by_cases h2 : 0 < n ∧ n ≤ 256
    · exact refMay_row log h1.1 h1.2 h2.1 h2.2 hd hn hc hhi hb
    · rw [mayB_false (by rintro ⟨_, _, q, q2, _⟩; omega)]
      exact refMay_len log h1.1 h1.2 (by omega) hm
  · rw [mayB_false (by rintro ⟨q, q2, _⟩; omega)]
    exact refMay_log log (by omega)
set_option maxRecDepth 100000 in
theorem refCheck_any (log most : Int) (hd : DatE icel w lo hi A ps) (hn : ps.length = n) (hc : n ≤ c) (hm : n ≤ maxLen) (hhi : hi ≤ w.heap.size) (hb : ∀ p ∈ ps, -9223372036854775808 ≤ p ∧ p ≤ 9223372036854775807) :
    Calls Try.prog 32 #[.agg #[.int .i64 log, .slice A n c], .int .i64 most] w fun e w' => e = .returned (.int .i64 (chk log ps most)) ∧ Below w.heap.size w w' := by
  have HC := Lib.hid (refMay_any (w := w.alloc (.cells #[.int .i64 log, .slice A n c] 37)) (c := c) log (hd.alloc hhi _) hn hc hm (by simp; omega) hb)
  have hb0 := Box.new w 37 #[.int .i64 log, .slice A n c]
  have HX := Lib.hid hb0
  clear hd hn hb hb0
  unfold chk
  cases hmb : mayB log ps with
  | false =>
    rw [hmb] at HC
    clear hmb
    go_enter Try.func32, Try.ntmps32
    go_wp2_with fail
    refine HC.out.mono ?_
    rintro e w1 ⟨rfl, hB⟩
    have HB := Lib.hid (((Below.refl _ _).alloc (Nat.le_refl _) (.cells #[.int .i64 log, .slice A n c] 37)).trans (hB.mono (by simp)))
    clear hB
    go_wp2_with fail
    go_ret
    exact ⟨rfl, HB.out⟩
  | true =>
    rw [hmb] at HC
    clear hmb
    by_cases hlog : most < log
    · simp only [if_pos hlog]
      go_enter Try.func32, Try.ntmps32
      go_wp2_with fail
      refine HC.out.mono ?_
      rintro e w1 ⟨rfl, hB⟩
      have HB := Lib.hid (((Below.refl _ _).alloc (Nat.le_refl _) (.cells #[.int .i64 log, .slice A n c] 37)).trans (hB.mono (by simp)))
      obtain ⟨c0, c1, f0, f1⟩ := box2 (HX.out.below hB (by simp))
      clear hB
      go_wp2_with fail
      go_ret
      exact ⟨rfl, HB.out⟩
    · simp only [if_neg hlog]
      go_enter Try.func32, Try.ntmps32
      go_wp2_with fail
      refine HC.out.mono ?_
      rintro e w1 ⟨rfl, hB⟩
      have HB := Lib.hid (((Below.refl _ _).alloc (Nat.le_refl _) (.cells #[.int .i64 log, .slice A n c] 37)).trans (hB.mono (by simp)))
      obtain ⟨c0, c1, f0, f1⟩ := box2 (HX.out.below hB (by simp))
      clear hB
      go_wp2_with fail
      go_ret
      exact ⟨rfl, HB.out⟩
end
end Go.Proofs.Ytchpaeelpaicbaa
