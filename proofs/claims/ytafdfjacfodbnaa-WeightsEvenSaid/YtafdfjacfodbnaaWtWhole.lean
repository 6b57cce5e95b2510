
/- The contract of the program's Whole. -/
import Derived.Test.YtafdfjacfodbnaaWtNum
namespace Go.Proofs.Ytafdfjacfodbnaa
open Go.RowKit

theorem cloneS_some {own : Bool} {w : World} {lo hi : Nat} {a : Addr} {n c : Nat} {xs : List UInt8} (hd : Dat own w lo hi (some a) xs) (hn : xs.length = n) (hb : xs.length ≤ 1099511627776) (hhi : hi ≤ w.heap.size) :
    Calls Try.prog 25 #[.slice (some a) n c] w fun e w' => ∃ v, e = .returned v ∧ OwB w' 5 w.heap.size v xs ∧ Below w.heap.size w w' := by
  obtain ⟨i0, hi0, hz0, hz1, hz2⟩ := info_parts u8_info
  have hq := Lib.run_eql_slice_nil (P := Try.prog) w 22 5 (some a) n c 0 0 Try.underlying22
  have hO := Lib.hid (own_empty w 5 w.heap.size (Nat.le_refl _))
  have hD := Lib.hid (hd.alloc hhi (.cells #[] 5))
  clear hd
  have HN := Lib.hid hn
  clear hn
  go_enter Try.func25, Try.ntmps25
  go_wp2_with (at_builtin; refine list_app _ rfl _ _ 22 rfl i0 Try.underlying22 hi0 hz0 hz1 hz2 rfl hO.out rfl hD.out HN.out ?_ ?_ ?_)
  · simp only [List.length_nil]; have := HN.out; omega
  · simp
  intro v' w1 ho hg _
  have HO := Lib.hid ho
  have HG := Lib.hid hg
  clear ho hg hO hD
  go_wp2
  go_ret
  exact ⟨_, rfl, HO.out, ((Below.refl _ _).alloc (Nat.le_refl _) _).grown HG.out (by simp) (by intro k hk; simp [Value.ownBlock] at hk; omega)⟩

theorem cloneS_nil (w : World) (n c : Nat) :
    Calls Try.prog 25 #[.slice none n c] w fun e w' => e = .returned (.slice none 0 0) ∧ w = w' := by
  have hq := Lib.run_eql_slice_nil (P := Try.prog) w 22 5 none n c 0 0 Try.underlying22
  go_enter Try.func25, Try.ntmps25
  go_wp2
  go_ret
  exact ⟨rfl, rfl⟩

theorem cloneS_any {own : Bool} {w : World} {lo hi : Nat} {A : Option Addr} {n c : Nat} {xs : List UInt8} (hd : Dat own w lo hi A xs) (hn : xs.length = n) (hb : xs.length ≤ 1099511627776) (hhi : hi ≤ w.heap.size) :
    Calls Try.prog 25 #[.slice A n c] w fun e w' => ∃ v, e = .returned v ∧ OwB w' 5 w.heap.size v xs ∧ Below w.heap.size w w' := by
  rcases A with _ | a
  · refine (cloneS_nil w n c).mono fun e w' ⟨he, hw⟩ => ?_
    subst hw
    have hx : xs = [] := by
      rcases xs with _ | ⟨y, r⟩
      · rfl
      · obtain ⟨_, _, h', _⟩ := hd (by simp)
        cases h'
    subst hx
    exact ⟨_, he, OwB.nil _ _ _, Below.refl _ _⟩
  · exact cloneS_some hd hn hb hhi


/-- Weights as numbers. -/
def nat (bs : List UInt8) : List Nat := bs.map (·.toNat)
theorem nat_len (bs : List UInt8) : (nat bs).length = bs.length := by simp [nat]
/-- All weights but the last one, which is k + 1. -/
def WholeOk (l : List Nat) (k : Nat) : Prop := l ≠ [] ∧ l.length ≤ 255 ∧ (∀ x ∈ l, x ≤ 11) ∧ 1 ≤ totW l ∧ ∃ d, 1 ≤ d ∧ d ≤ 11 ∧ 2 ^ (d - 1) ≤ totW l ∧ totW l + 2 ^ k = 2 ^ d
theorem whole_log {S d k : Nat} (h1 : 1 ≤ d) (h2 : 2 ^ (d - 1) ≤ S) (h3 : S + 2 ^ k = 2 ^ d) : d = S.log2 + 1 := by
  have hp := Nat.two_pow_pos k
  have hp2 := Nat.two_pow_pos (d - 1)
  have h0 : S ≠ 0 := by omega
  have : S.log2 = d - 1 := by
    rw [Nat.log2_eq_iff h0, show d - 1 + 1 = d by omega]
    omega
  omega
theorem whole_uni {l : List Nat} {k k' : Nat} (h : WholeOk l k) (h' : WholeOk l k') : k = k' := by
  obtain ⟨_, _, _, _, d, a1, a2, a3, a4⟩ := h
  obtain ⟨_, _, _, _, d', b1, b2, b3, b4⟩ := h'
  have e1 := whole_log a1 a3 a4
  have e2 := whole_log b1 b3 b4
  have e : d = d' := by omega
  subst e
  exact (Nat.pow_right_inj (by omega : 1 < 2)).1 (by omega)
theorem whole_may {l : List Nat} {k : Nat} (h : WholeOk l k) : ∃ d, MayW d (l ++ [k + 1]) ∧ k ≤ 10 := by
  obtain ⟨h0, h1, h2, h3, d, a1, a2, a3, a4⟩ := h
  refine ⟨d, may_last h0 h1 h3 a4 a1 a2, ?_⟩
  have hlt : 2 ^ k < 2 ^ d := by omega
  have := (Nat.pow_lt_pow_iff_right (by omega : 1 < 2)).1 hlt
  omega
/-- What Whole answers. -/
def WholePost (bs : List UInt8) (w : World) (e : Ending) (w' : World) : Prop :=
  Below w.heap.size w w' ∧ ((∃ k v, WholeOk (nat bs) k ∧ e = .returned (.tuple #[v, .int .i64 0]) ∧ OwB w' 5 w.heap.size v (bs ++ [UInt8.ofNat (k + 1)])) ∨ ((∀ k, ¬ WholeOk (nat bs) k) ∧ e = .returned (.tuple #[.slice none 0 0, .int .i64 11])))

section
variable {w : World}
set_option maxRecDepth 100000 in
set_option maxHeartbeats 1000000 in
theorem whole_any {own : Bool} {lo hi n c : Nat} {A : Option Addr} {bs : List UInt8} (hd : Dat own w lo hi A bs) (hn : bs.length = n) (hm : n ≤ 100000) (hhi : hi ≤ w.heap.size) :
    Calls Try.prog 11 #[.slice A n c] w (WholePost bs w) := by
  by_cases h0 : n = 0 ∨ 255 < n
  · have HN : Hid (∀ k, ¬ WholeOk (nat bs) k) := by
      intro k ⟨a, b, _⟩
      rw [nat_len, hn] at b
      rcases h0 with h | h
      · exact a (List.eq_nil_of_length_eq_zero (by rw [nat_len]; omega))
      · omega
    clear hd hn hhi
    rcases h0 with h0 | h0
    · subst h0
      go_enter Try.func11, Try.ntmps11
      go_wp2_with fail
      go_ret2
      exact ⟨Below.refl _ _, .inr ⟨HN.out, rfl⟩⟩
    · have h1 : (255 : Int) < (n : Int) := by omega
      have h2 : ((n : Int) == 0) = false := by rw [beq_eq_false_iff_ne]; omega
      go_enter Try.func11, Try.ntmps11
      go_wp2_with fail
      go_ret2
      exact ⟨Below.refl _ _, .inr ⟨HN.out, rfl⟩⟩
  · have HMx := Lib.hid (maxB_any (c := c) hd.nats (by simpa using hn) (by omega) hm (fun x hx => by obtain ⟨y, _, rfl⟩ := List.mem_map.1 hx; have := y.toNat_lt; omega))
    have HD := Lib.hid (And.intro hd hn)
    have h1 : ¬ (255 : Int) < (n : Int) := by omega
    have h2 : ((n : Int) == 0) = false := by rw [beq_eq_false_iff_ne]; omega
    have hn255 : n ≤ 255 := by omega
    have hn0 : 0 < n := by omega
    clear hd hn h0
    go_enter Try.func11, Try.ntmps11
    go_wp2_with fail
    refine HMx.out.mono ?_
    rintro _ _ ⟨m, rfl, hm1, hm2, rfl⟩
    by_cases h11 : 11 < m
    · have h11z : (11 : Int) < (m : Int) := by omega
      have HN : Hid (∀ k, ¬ WholeOk (nat bs) k) := by
        intro k ⟨_, _, a, _⟩
        have := a m hm1
        omega
      clear HMx hm1 hm2
      go_wp2_with fail
      go_ret2
      exact ⟨Below.refl _ _, .inr ⟨HN.out, rfl⟩⟩
    · have h11z : ¬ (11 : Int) < (m : Int) := by omega
      have hall : ∀ x ∈ nat bs, x ≤ 11 := fun x hx => by have := hm2 x hx; omega
      have HW := Lib.hid (worth_any (c := c) (HD.out.1.nats) (by have := HD.out.2; simpa using this) (by omega) hall)
      have ht := totW_le (nat bs) hall
      rw [nat_len, HD.out.2] at ht
      have HAll := Lib.hid hall
      have ht2 : totW (nat bs) ≤ 261120 := by omega
      have eN : totW (bs.map (·.toNat)) = totW (nat bs) := rfl
      rw [eN] at HW
      obtain ⟨S, hS⟩ : ∃ S, S = totW (nat bs) := ⟨_, rfl⟩
      rw [← hS] at ht2 HW
      have HS := Lib.hid hS
      clear HMx hm1 hm2 hall ht eN hS
      go_wp2_with fail
      refine HW.out.mono ?_
      rintro _ _ ⟨rfl, rfl⟩
      clear HW
      have HLn := Lib.hid (fun W => lenW_any S W (by omega))
      go_wp2_with fail
      refine (HLn.out _).mono ?_
      rintro _ _ ⟨rfl, rfl⟩
      clear HLn
      by_cases hS0 : S = 0
      · have HN : Hid (∀ k, ¬ WholeOk (nat bs) k) := by
          intro k ⟨_, _, _, a, _⟩
          have := HS.out
          omega
        clear HS HAll
        subst hS0
        have e8 : len8 0 = 0 := rfl
        rw [e8]
        go_wp2_with fail
        go_ret2
        exact ⟨Below.refl _ _, .inr ⟨HN.out, rfl⟩⟩
      · obtain ⟨D, hD⟩ : ∃ D, D = S.log2 + 1 := ⟨_, rfl⟩
        rw [len8_of (by omega), ← hD]
        have p1 : 2 ^ (D - 1) ≤ S := by rw [hD]; exact Nat.log2_self_le hS0
        have p2 : S < 2 ^ D := by rw [hD]; exact Nat.lt_log2_self
        have p3 : 2 ^ D = 2 * 2 ^ (D - 1) := by rw [hD, Nat.pow_succ, Nat.add_sub_cancel]; omega
        have hD18 : D ≤ 18 := by
          rcases Nat.lt_or_ge 18 D with q | q
          · have : 2 ^ 18 ≤ 2 ^ (D - 1) := Nat.pow_le_pow_right (by omega) (by omega)
            omega
          · exact q
        have hU : ∀ k, WholeOk (nat bs) k → D ≤ 11 ∧ S + 2 ^ k = 2 ^ D := fun k ⟨_, _, _, _, d, a1, a2, a3, a4⟩ => by
          rw [← HS.out] at a3 a4
          have := whole_log a1 a3 a4
          rw [hD, ← this]
          exact ⟨a2, a4⟩
        have hD1 : 1 ≤ D := by omega
        have hSp : 0 < S := by omega
        obtain ⟨P, hP⟩ : ∃ P, P = 2 ^ D := ⟨_, rfl⟩
        have e1 : (2 : Int) ^ D = (P : Int) := by rw [hP]; simp
        have hP2 : P ≤ 524288 := by omega
        have HU := Lib.hid (And.intro hU (And.intro hP (And.intro p1 (And.intro p2 hD1))))
        have hSP : S < P := by omega
        have hS1 : ((S : Int) == 0) = false := by rw [beq_eq_false_iff_ne]; omega
        have eL : (P : Int) - (S : Int) = ((P - S : Nat) : Int) := by omega
        have hL0 : 0 < P - S := by omega
        have hL1 : P - S ≤ 524288 := by omega
        clear p1 p2 p3 hU hP hD hS0
        generalize P - S = L at *
        by_cases hD11 : 11 < D
        · have hDz : (11 : Int) < (D : Int) := by omega
          have HN : Hid (∀ k, ¬ WholeOk (nat bs) k) := by
            intro k hk
            have := (HU.out.1 k hk).1
            omega
          go_wp2_with fail
          go_ret2
          exact ⟨Below.refl _ _, .inr ⟨HN.out, rfl⟩⟩
        · have hDz : ¬ (11 : Int) < (D : Int) := by omega
          have HPw := fun W => Lib.hid (isPower_any L W hL0 (by omega))
          go_wp2_with fail
          refine (HPw _).out.mono ?_
          rintro _ w5 ⟨b, rfl, hb, hw5⟩
          subst hw5
          have HEL : Hid (P = S + L) := by show _ = _; omega
          cases b with
          | false =>
            have HN : Hid (∀ k, ¬ WholeOk (nat bs) k) := by
              intro k hk
              have h1 := (HU.out.1 k hk).2
              have h2 := HU.out.2.1
              have h3 := HEL.out
              have : (false : Bool) = true := hb.2 ⟨k, by omega⟩
              cases this
            clear hb
            go_wp2_with fail
            go_ret2
            exact ⟨Below.refl _ _, .inr ⟨HN.out, rfl⟩⟩
          | true =>
            have hb' : ∃ d, L = 2 ^ d := hb.1 rfl
            clear hb
            obtain ⟨k, hkL⟩ := hb'
            subst hkL
            have hk10 : k ≤ 10 := by
              have h2 := HU.out.2.1
              have h3 := HEL.out
              have hlt : 2 ^ k < 2 ^ D := by omega
              have := (Nat.pow_lt_pow_iff_right (by omega : 1 < 2)).1 hlt
              omega
            have HOk : Hid (WholeOk (nat bs) k) := by
              have h2 := HU.out.2.1
              have h3 := HEL.out
              refine ⟨?_, by rw [nat_len, HD.out.2]; omega, HAll.out, by rw [← HS.out]; omega, D, hD1, by omega, by rw [← HS.out]; exact HU.out.2.2.1, by rw [← HS.out]; omega⟩
              intro e
              have := congrArg List.length e
              rw [nat_len, HD.out.2] at this
              simp at this
              omega
            have hlog : (2 ^ k).log2 = k := Nat.log2_two_pow
            have e8 : len8 (2 ^ k) = k + 1 := by rw [len8_of (Nat.two_pow_pos k), hlog]
            have HC := fun W (h : Below w5.heap.size w5 W) => Lib.hid (cloneS_any (w := W) (c := c) (HD.out.1.below h hhi) HD.out.2 (by rw [HD.out.2]; omega) (by have := h.size; omega))
            have HLn := fun W => Lib.hid (lenW_any (2 ^ k) W (by omega))
            rw [e8] at HLn
            clear hlog e8
            obtain ⟨i0, hi0, hz0, hz1, hz2⟩ := info_parts u8_info
            have HI := Lib.hid (And.intro hi0 (And.intro hz0 (And.intro hz1 hz2)))
            clear hi0 hz0 hz1 hz2
            go_wp2_with fail
            refine (HC _ (Below.refl _ _)).out.mono ?_
            rintro _ w6 ⟨v6, rfl, hO6, hB6⟩
            have HO6 := Lib.hid (And.intro hO6 hB6)
            have hs6 := hB6.size
            clear hO6 hB6 HC
            go_wp2_with fail
            refine (HLn _).out.mono ?_
            rintro _ w7 ⟨rfl, rfl⟩
            clear HLn
            have h88 : IntKind.u8.wrap ((k + 1 : Nat) : Int) = ((k + 1 : Nat) : Int) := by rw [IntKind.wrap_u8']; omega
            have HA := Lib.hid (HO6.out.1.alloc (.cells #[.int .u8 ((k + 1 : Nat) : Int)] 5))
            obtain ⟨z, hz⟩ : ∃ z, z = UInt8.ofNat (k + 1) := ⟨_, rfl⟩
            have hd1 := dat_one w6 z 5
            have hzn : z.toNat = k + 1 := by rw [hz, UInt8.toNat_ofNat']; omega
            have hce : cel z = .int .u8 ((k + 1 : Nat) : Int) := by unfold cel; rw [hzn]
            have HZ := Lib.hid hz
            rw [hce] at hd1
            have HD1 := Lib.hid hd1
            clear hd1 hce hz hzn
            go_wp2_with (at_builtin; refine list_app _ rfl _ _ 22 rfl i0 Try.underlying22 HI.out.1 HI.out.2.1 HI.out.2.2.1 HI.out.2.2.2 rfl HA.out rfl HD1.out rfl ?_ ?_ ?_)
            · have := HD.out.2; omega
            · simp; omega
            intro v8 w8 ho8 hg8 _
            have HO8 := Lib.hid (And.intro ho8 hg8)
            clear ho8 hg8
            go_wp2_with fail
            go_ret2
            exact ⟨below_grown (HO6.out.2.alloc hs6 _) HO8.out.2 (fun k hk => (HO6.out.1.block k hk).1) (by simp; omega), .inl ⟨k, _, HOk.out, rfl, by rw [← HZ.out]; exact HO8.out.1⟩⟩
end
end Go.Proofs.Ytafdfjacfodbnaa
