
/- The contract of the program's Of. -/
import Derived.Test.YtpdnmhnnngcbjaaDoorNormSet
namespace Go.Proofs.YtpdnmhnnngcbjaaDoor
open Go.RowKit

/-- May counts of this Log be made of these numbers? -/
def mayOf (os : List Nat) (log : Int) : Bool := decide (5 ≤ log ∧ log ≤ 15 ∧ os.length ≤ 256 ∧ 2 ≤ cnt os ∧ cnt os ≤ 2 ^ log.toNat ∧ os.sum ≤ 2147483647)
theorem mayOf_iff {os : List Nat} {log : Int} : mayOf os log = true ↔ (5 ≤ log ∧ log ≤ 15 ∧ os.length ≤ 256 ∧ 2 ≤ cnt os ∧ cnt os ≤ 2 ^ log.toNat ∧ os.sum ≤ 2147483647) := by
  unfold mayOf; exact decide_eq_true_iff
theorem mayOf_false {os : List Nat} {log : Int} (h : ¬ (5 ≤ log ∧ log ≤ 15 ∧ os.length ≤ 256 ∧ 2 ≤ cnt os ∧ cnt os ≤ 2 ^ log.toNat ∧ os.sum ≤ 2147483647)) : mayOf os log = false := by
  unfold mayOf; exact decide_eq_false h

/-- What Of answers. -/
def OfPost (os : List Nat) (log : Int) (w : World) (e : Ending) (w' : World) : Prop :=
  Below w.heap.size w w' ∧ ((mayOf os log = true ∧ ∃ ps v, e = .returned (.tuple #[.agg #[.int .i64 log, v], .int .i64 0]) ∧ OwE icel w' 3 w.heap.size v ps ∧ mayB log ps = true ∧ ps.length = ends os ∧ Good (os.take (ends os)) ps) ∨
    (mayOf os log = false ∧ e = .returned (.tuple #[.agg #[.int .i64 0, .slice none 0 0], .int .i64 1])))

section
variable {w : World} {lo hi : Nat} {A : Option Addr} {n c : Nat} {os : List Nat}
set_option maxRecDepth 100000 in
set_option maxHeartbeats 2000000 in
theorem of_no (log : Int) (hno : mayOf os log = false) (hd : DatE ucel w lo hi A os) (hhi : hi ≤ w.heap.size) (hn : os.length = n) (hm : n ≤ 1000000) (hb : ∀ o ∈ os, o ≤ 4294967295) :
    Calls Tryd.prog 39 #[.slice A n c, .int .i64 log] w fun e w' => e = .returned (.tuple #[.agg #[.int .i64 0, .slice none 0 0], .int .i64 1]) ∧ Below w.heap.size w w' := by
  have HC := Lib.hid (tally_any (w := w.alloc (.cells #[.int .i64 0, .slice none 0 0] 70)) (c := c) (hd.alloc hhi _) hn hm hb)
  have hc := cnt_le os
  have he := ends_le os
  have hs := sum_le os 4294967295 hb
  rw [hn] at hc he hs
  have hs2 : os.sum ≤ 4294967295000000 := by omega
  have HNo : Hid (¬ (5 ≤ log ∧ log ≤ 15 ∧ n ≤ 256 ∧ 2 ≤ cnt os ∧ cnt os ≤ 2 ^ log.toNat ∧ os.sum ≤ 2147483647)) := by
    intro q
    rw [← hn] at q
    rw [mayOf_iff.2 q] at hno
    cases hno
  clear hd hn hb hno hs
  generalize cnt os = C at *
  generalize ends os = E at *
  generalize os.sum = S at *
  by_cases h1 : log < 5 ∨ 15 < log
  · go_enter Tryd.func39, Tryd.ntmps39
    go_wp2_with (first | (go_at_call 56; refine HC.out.mono ?_; rintro e w' ⟨rfl, rfl⟩) | (go_at_call 57; refine (isLog_no _ _ h1).mono ?_; rintro e w' ⟨rfl, rfl⟩))
    refine bodyPost_ret (v := .tuple #[.agg #[.int .i64 0, .slice none 0 0], .int .i64 1]) (by simp [results, Tryd.results39, go_sem]) rfl ⟨rfl, ?_⟩
    exact (Below.refl _ _).alloc (Nat.le_refl _) _
  · obtain ⟨l, rfl⟩ := Int.eq_ofNat_of_zero_le (show 0 ≤ log by omega)
    have l1 : (5 : Int) ≤ (l : Int) := by omega
    have l2 : (l : Int) ≤ 15 := by omega
    have hp : 2 ^ l ≤ 2 ^ 15 := Nat.pow_le_pow_right (by omega) (by omega)
    obtain ⟨P, hP⟩ : ∃ P : Nat, P = 2 ^ l := ⟨_, rfl⟩
    have hpow : (2 : Int) ^ l = (P : Nat) := by rw [hP]; simp
    have HNo2 : Hid (¬ (n ≤ 256 ∧ 2 ≤ C ∧ C ≤ P ∧ S ≤ 2147483647)) := by
      rintro ⟨q1, q2, q3, q4⟩
      exact HNo.out ⟨l1, l2, q1, q2, by rw [show ((l : Nat) : Int).toNat = l by omega, ← hP]; exact q3, q4⟩
    rw [← hP] at hp
    clear hP h1
    by_cases h2 : 256 < n
    · have a2 : (256 : Int) < (n : Int) := by omega
      go_enter Tryd.func39, Tryd.ntmps39
      go_wp2_with (first | (go_at_call 56; refine HC.out.mono ?_; rintro e w' ⟨rfl, rfl⟩) | (go_at_call 57; refine (isLog_yes _ _ l1 l2).mono ?_; rintro e w' ⟨rfl, rfl⟩))
      refine bodyPost_ret (v := .tuple #[.agg #[.int .i64 0, .slice none 0 0], .int .i64 1]) (by simp [results, Tryd.results39, go_sem]) rfl ⟨rfl, ?_⟩
      exact (Below.refl _ _).alloc (Nat.le_refl _) _
    · have a2 : decide ((256 : Int) < (n : Int)) = false := by simp; omega
      by_cases h3 : C < 2
      · have a3 : (C : Int) < 2 := by omega
        go_enter Tryd.func39, Tryd.ntmps39
        go_wp2_with (first | (go_at_call 56; refine HC.out.mono ?_; rintro e w' ⟨rfl, rfl⟩) | (go_at_call 57; refine (isLog_yes _ _ l1 l2).mono ?_; rintro e w' ⟨rfl, rfl⟩))
        refine bodyPost_ret (v := .tuple #[.agg #[.int .i64 0, .slice none 0 0], .int .i64 1]) (by simp [results, Tryd.results39, go_sem]) rfl ⟨rfl, ?_⟩
        exact (Below.refl _ _).alloc (Nat.le_refl _) _
      · have a3 : decide ((C : Int) < 2) = false := by simp; omega
        by_cases h4 : P < C
        · have a4 : (P : Int) < (C : Int) := by omega
          go_enter Tryd.func39, Tryd.ntmps39
          go_wp2_with (first | (go_at_call 56; refine HC.out.mono ?_; rintro e w' ⟨rfl, rfl⟩) | (go_at_call 57; refine (isLog_yes _ _ l1 l2).mono ?_; rintro e w' ⟨rfl, rfl⟩))
          refine bodyPost_ret (v := .tuple #[.agg #[.int .i64 0, .slice none 0 0], .int .i64 1]) (by simp [results, Tryd.results39, go_sem]) rfl ⟨rfl, ?_⟩
          exact (Below.refl _ _).alloc (Nat.le_refl _) _
        · have a4 : decide ((P : Int) < (C : Int)) = false := by simp; omega
          have a5 : (2147483647 : Int) < (S : Int) := by have := HNo2.out; omega
          go_enter Tryd.func39, Tryd.ntmps39
          go_wp2_with (first | (go_at_call 56; refine HC.out.mono ?_; rintro e w' ⟨rfl, rfl⟩) | (go_at_call 57; refine (isLog_yes _ _ l1 l2).mono ?_; rintro e w' ⟨rfl, rfl⟩))
          refine bodyPost_ret (v := .tuple #[.agg #[.int .i64 0, .slice none 0 0], .int .i64 1]) (by simp [results, Tryd.results39, go_sem]) rfl ⟨rfl, ?_⟩
          exact (Below.refl _ _).alloc (Nat.le_refl _) _

set_option maxRecDepth 100000 in
set_option maxHeartbeats 2000000 in
theorem of_yes (l : Nat) (hyes : mayOf os (l : Int) = true) (hd : DatE ucel w lo hi A os) (hhi : hi ≤ w.heap.size) (hn : os.length = n) (hb : ∀ o ∈ os, o ≤ 4294967295) (hc : n ≤ c) :
    Calls Tryd.prog 39 #[.slice A n c, .int .i64 (l : Int)] w fun e w' =>
      ∃ ps v, e = .returned (.tuple #[.agg #[.int .i64 (l : Int), v], .int .i64 0]) ∧ OwE icel w' 3 w.heap.size v ps ∧ mayB (l : Int) ps = true ∧ ps.length = ends os ∧ Good (os.take (ends os)) ps ∧ Below w.heap.size w w' := by
  obtain ⟨l1, l2, q1, q2, q3, q4⟩ := mayOf_iff.1 hyes
  rw [show ((l : Nat) : Int).toNat = l by omega] at q3
  have HC := Lib.hid (tally_any (w := w.alloc (.cells #[.int .i64 0, .slice none 0 0] 70)) (c := c) (hd.alloc hhi _) hn (by omega) hb)
  have he := ends_le os
  have hep := ends_pos (show 0 < cnt os by omega)
  obtain ⟨t1, t2⟩ := cnt_take os
  have hlen : (os.take (ends os)).length = ends os := by rw [List.length_take]; omega
  have HLen := Lib.hid hlen
  have hbs : ∀ i, (os.take (ends os)).getD i 0 ≤ 2147483647 := fun i => by
    have := get_le_sum (os.take (ends os)) i
    omega
  have hS0 : 0 < os.sum := by
    obtain ⟨i, _, h2⟩ := cnt_pos (show 0 < cnt os by omega)
    have := get_le_sum os i
    omega
  have hsp := Nat.two_pow_pos l
  have hp : 2 ^ l ≤ 2 ^ 15 := Nat.pow_le_pow_right (by omega) (by omega)
  have HGo := Lib.hid (shr_good os.sum (2 ^ l) (os.take (ends os)))
  have HSb : Hid (∀ p ∈ (os.take (ends os)).map (shr os.sum (2 ^ l)), p ≤ 32768) := by
    intro p hp'
    obtain ⟨o, ho, rfl⟩ := List.mem_map.1 hp'
    obtain ⟨i, hi', rfl⟩ := List.getElem_of_mem ho
    have h1 := get_le_sum (os.take (ends os)) i
    rw [getD_eq _ _ _ hi', t2] at h1
    have := shr_le h1 (show 1 ≤ 2 ^ l by omega)
    omega
  have HMay : Hid (∀ ps, Good (os.take (ends os)) ps → ps.sum = ((2 ^ l : Nat) : Int) → mayB (l : Int) ps = true) := by
    intro ps h1 h2
    exact h1.may (by omega) (by omega) q1 (by omega) (by rw [h2]; simp)
  have HBs := Lib.hid hbs
  have HC1 : Hid (0 < cnt (os.take (ends os)) ∧ cnt (os.take (ends os)) ≤ 2 ^ l) := by constructor <;> omega
  have HDt := Lib.hid ((hd.alloc hhi (.cells #[.int .i64 0, .slice none 0 0] 70)).take (ends os))
  have hen : ends os ≤ n := by omega
  have hn256 : n ≤ 256 := by omega
  clear hd hn hb hyes t1 t2 hlen hbs q1 he
  generalize os.take (ends os) = ot at *
  generalize cnt os = C at *
  generalize ends os = E at *
  generalize os.sum = S at *
  obtain ⟨P, hP⟩ : ∃ P : Nat, P = 2 ^ l := ⟨_, rfl⟩
  have hpow : (2 : Int) ^ l = (P : Nat) := by rw [hP]; simp
  rw [← hP] at q3 hsp hp HGo HSb HMay HC1
  clear hP
  have a2 : decide ((256 : Int) < (n : Int)) = false := by simp; omega
  have a3 : decide ((C : Int) < 2) = false := by simp; omega
  have a4 : decide ((P : Int) < (C : Int)) = false := by simp; omega
  have a5 : decide ((2147483647 : Int) < (S : Int)) = false := by simp; omega
  go_enter Tryd.func39, Tryd.ntmps39
  go_wp2_with (first | (go_at_call 56; refine HC.out.mono ?_; rintro e w' ⟨rfl, rfl⟩) | (go_at_call 57; refine (isLog_yes _ _ l1 l2).mono ?_; rintro e w' ⟨rfl, rfl⟩))
  refine (shares_any (c := c) HDt.out (by simp; omega) HLen.out (by omega) HBs.out hS0 q4 (by omega)).mono ?_
  rintro e w1 ⟨v, rfl, ho, hB⟩
  have hml : (ot.map (shr S P)).length = E := by rw [List.length_map]; exact HLen.out
  obtain ⟨d, cv, rfl, hd1, hd2⟩ := ho.place (by omega)
  rw [hml] at ho ⊢
  have HO := Lib.hid ho
  have HB1 := Lib.hid hB
  have HX1 := Lib.hid ((Box.new w 70 #[.int .i64 0, .slice none 0 0]).below hB (by simp))
  have hsz := hB.size
  simp only [World.size_alloc] at hsz hd1
  clear ho hB hml
  go_wp2_with fail
  refine (settle_any (c2 := c) HO.out (HDt.out.below HB1.out (by simp; omega)) (by simp; omega) HGo.out HLen.out (by omega) HBs.out HSb.out HC1.out.1 HC1.out.2 (by omega)).mono ?_
  rintro e w2 ⟨rfl, ps, ho, hg, hs, hst⟩
  have HO2 := Lib.hid ho
  have HG2 := Lib.hid hg
  have HM := Lib.hid (HMay.out ps hg hs)
  have HB2 : Hid (Below w.heap.size w w2) := (((Below.refl _ _).alloc (Nat.le_refl _) _).trans (HB1.out.mono (by simp))).trans (hst.below (by omega) (by omega))
  obtain ⟨c0, c1, f0, f1⟩ := box2 (HX1.out.keep (hst.1.block w.heap.size (by omega) (by intro e; injection e with e; omega)))
  clear ho hg hs hst
  go_wp2_with fail
  refine bodyPost_ret (v := .tuple #[.agg #[.int .i64 (l : Int), .slice (some ⟨d, 0, none⟩) E cv], .int .i64 0]) (by simp [results, Tryd.results39, go_sem, c0, c1]) rfl ⟨ps, .slice (some ⟨d, 0, none⟩) E cv, rfl, ?_, HM.out, HG2.out.len.trans HLen.out, HG2.out, ?_⟩
  · refine (HO2.out.keep fun k hk => ?_).mono (by simp)
    have hkd : d = k := by simpa [Value.ownBlock] using hk
    rw [Below.heap_setCell _ _ _ k (by simp; omega), Below.heap_setCell _ _ _ k (by simp; omega)]
  · exact (HB2.out.setCell (by simp) _).setCell (by simp) _
/-- Counts that are made, or that may not be made. -/
theorem of_any (log : Int) (hd : DatE ucel w lo hi A os) (hhi : hi ≤ w.heap.size) (hn : os.length = n) (hm : n ≤ 1000000) (hb : ∀ o ∈ os, o ≤ 4294967295) (hc : n ≤ c) :
    Calls Tryd.prog 39 #[.slice A n c, .int .i64 log] w (OfPost os log w) := by
  cases hmo : mayOf os log with
  | false => exact (of_no log hmo hd hhi hn hm hb).mono fun e w' ⟨h1, h2⟩ => ⟨h2, .inr ⟨hmo, h1⟩⟩
  | true =>
    obtain ⟨l, rfl⟩ := Int.eq_ofNat_of_zero_le (show 0 ≤ log by have := (mayOf_iff.1 hmo).1; omega)
    exact (of_yes l hmo hd hhi hn hb hc).mono fun e w' ⟨ps, v, h1, h2, h3, h4, h5, h6⟩ => ⟨h6, .inl ⟨hmo, ps, v, h1, h2, h3, h4, h5⟩⟩
end
end Go.Proofs.YtpdnmhnnngcbjaaDoor
