
/- The contract of the program's depthOf. -/
import Derived.Test.YtafdfjacfodbnaaWtWhole
namespace Go.Proofs.Ytafdfjacfodbnaa
open Go.RowKit

theorem last_of {l : List Nat} (h : 0 < l.length) : (∃ p x, l = p ++ [x] ∧ 0 < x) ↔ 0 < l.getD (l.length - 1) 0 := by
  have hq : l.length - 1 < l.length := by omega
  have e := List.take_succ_eq_append_getElem hq
  rw [show l.length - 1 + 1 = l.length by omega, List.take_length] at e
  rw [List.getD_eq_getElem?_getD, List.getElem?_eq_getElem hq]
  constructor
  · rintro ⟨p, x, hl, hx⟩
    have e2 : p ++ [x] = l.take (l.length - 1) ++ [l[l.length - 1]] := by rw [← hl]; exact e
    obtain ⟨_, e3⟩ := List.append_inj' e2 rfl
    injection e3 with e3
    rw [Option.getD_some, ← e3]
    exact hx
  · intro hx
    exact ⟨_, _, e, hx⟩
/-- What depthOf answers. -/
def DepthPost (l : List Nat) (w : World) (e : Ending) (w' : World) : Prop :=
  w' = w ∧ ((∃ d, MayW d l ∧ e = .returned (.tuple #[.int .i64 (d : Nat), .bool true])) ∨ ((∀ d, ¬ MayW d l) ∧ e = .returned (.tuple #[.int .i64 0, .bool false])))

section
variable {w : World}
set_option maxRecDepth 100000 in
set_option maxHeartbeats 1000000 in
theorem depth_any {lo hi n c : Nat} {A : Option Addr} {l : List Nat} (hd : DatE u8cel w lo hi A l) (hn : l.length = n) (hm : n ≤ 100000) (h8 : ∀ x ∈ l, x ≤ 255) :
    Calls Try.prog 29 #[.slice A n c] w (DepthPost l w) := by
  by_cases h0 : n < 2
  · have h0z : (n : Int) < 2 := by omega
    have HN : Hid (∀ d, ¬ MayW d l) := fun d h => by have := h.1; omega
    clear hd hn h8
    go_enter Try.func29, Try.ntmps29
    go_wp2_with fail
    go_ret2
    exact ⟨rfl, .inr ⟨HN.out, rfl⟩⟩
  · have h0z : ¬ (n : Int) < 2 := by omega
    by_cases h1 : 256 < n
    · have h1z : (256 : Int) < (n : Int) := by omega
      have HN : Hid (∀ d, ¬ MayW d l) := fun d h => by have := h.2.1; omega
      clear hd hn h8
      go_enter Try.func29, Try.ntmps29
      go_wp2_with fail
      go_ret2
      exact ⟨rfl, .inr ⟨HN.out, rfl⟩⟩
    · have h1z : ¬ (256 : Int) < (n : Int) := by omega
      have hl0 : 0 < l.length := by omega
      have hlast := last_of hl0
      have hq : l.length - 1 < l.length := by omega
      rw [List.getD_eq_getElem?_getD, List.getElem?_eq_getElem hq, Option.getD_some] at hlast
      obtain ⟨dd, oo, rfl, -, -, hc⟩ := hd hl0
      have hcl := hc (l.length - 1) hq
      unfold u8cel at hcl
      have hy8 := h8 _ (List.getElem_mem hq)
      obtain ⟨y, hy⟩ : ∃ y, y = l[l.length - 1] := ⟨_, rfl⟩
      rw [← hy] at hcl hlast hy8
      rw [hn] at hcl
      have HMx := Lib.hid (maxB_any (c := c) hd hn (by omega) hm h8)
      have HD := Lib.hid (And.intro hd (And.intro hn h8))
      have HLa := Lib.hid hlast
      have hn256 : n ≤ 256 := by omega
      have hn2 : 2 ≤ n := by omega
      have z1 : ((n : Int) - 1).toNat = n - 1 := by omega
      have z2 : (0 : Int) ≤ (n : Int) - 1 := by omega
      have z2' : (1 : Int) ≤ (n : Int) := by omega
      have z3 : (n : Int) - 1 < (n : Int) := by omega
      clear hd hn h8 hc hlast hy hq
      by_cases hy0 : y = 0
      · subst hy0
        have HN : Hid (∀ d, ¬ MayW d l) := fun d h => by
          have := HLa.out.1 h.2.2.1
          omega
        go_enter Try.func29, Try.ntmps29
        go_wp2_with fail
        go_ret2
        exact ⟨rfl, .inr ⟨HN.out, rfl⟩⟩
      · have hy0z : ((y : Int) == 0) = false := by rw [beq_eq_false_iff_ne]; omega
        go_enter Try.func29, Try.ntmps29
        go_wp2_with fail
        refine HMx.out.mono ?_
        rintro _ w1 ⟨m, rfl, hm1, hm2, hw1⟩
        subst hw1
        by_cases h11 : 11 < m
        · have h11z : (11 : Int) < (m : Int) := by omega
          have HN : Hid (∀ d, ¬ MayW d l) := fun d h => by
            have := h.2.2.2.2.2.2 m hm1
            have := h.2.2.2.2.2.1
            omega
          clear HMx hm1 hm2
          go_wp2_with fail
          go_ret2
          exact ⟨rfl, .inr ⟨HN.out, rfl⟩⟩
        · have h11z : ¬ (11 : Int) < (m : Int) := by omega
          have hall : ∀ x ∈ l, x ≤ 11 := fun x hx => by have := hm2 x hx; omega
          have hW := worth_any (c := c) HD.out.1 HD.out.2.1 (by omega) hall
          have ht := totW_le l hall
          rw [HD.out.2.1] at ht
          have ht2 : totW l ≤ 262144 := by omega
          have hpos : 0 < totW l := by
            obtain ⟨p, x, hl, hx⟩ := HLa.out.2 (by omega)
            rw [hl, totW_append, totW_one]
            have := wor_gt hx
            omega
          obtain ⟨S, hS⟩ : ∃ S, S = totW l := ⟨_, rfl⟩
          rw [← hS] at ht2 hW hpos
          have HW := Lib.hid hW
          have HS := Lib.hid (And.intro hS (And.intro hm1 hm2))
          clear hall ht hS hW hm1 hm2
          go_wp2_with fail
          refine HW.out.mono ?_
          rintro _ w2 ⟨rfl, hw2⟩
          subst hw2
          have HLn := fun W => Lib.hid (lenW_any S W (by omega))
          have HPw := fun W => Lib.hid (isPower_any S W hpos (by omega))
          rw [len8_of hpos] at HLn
          obtain ⟨D, hDl⟩ : ∃ D, D = S.log2 := ⟨_, rfl⟩
          have hD18 : D ≤ 18 := by
            have := (Nat.log2_lt (n := S) (k := 19) (by omega)).2 (by omega)
            omega
          rw [← hDl] at HLn
          have HDl := Lib.hid hDl
          clear hDl
          go_wp2_with fail
          refine (HLn _).out.mono ?_
          rintro _ w3 ⟨rfl, hw3⟩
          subst hw3
          go_wp2_with fail
          refine (HPw _).out.mono ?_
          rintro _ w4 ⟨b, rfl, hb, hw4⟩
          subst hw4
          cases b with
          | false =>
            have HN : Hid (∀ d, ¬ MayW d l) := fun d h => by
              have : (false : Bool) = true := hb.2 ⟨d, by rw [HS.out.1]; exact h.2.2.2.1⟩
              cases this
            clear hb HPw HLn HW HMx
            go_wp2_with fail
            go_ret2
            exact ⟨rfl, .inr ⟨HN.out, rfl⟩⟩
          | true =>
            have hb' : ∃ d, S = 2 ^ d := hb.1 rfl
            clear hb
            obtain ⟨D', hD'⟩ := hb'
            have hlog : S.log2 = D' := by rw [hD']; exact Nat.log2_two_pow
            have hD : S = 2 ^ D := by rw [HDl.out, hlog]; exact hD'
            have hU : ∀ d, MayW d l → d = D := fun d h => may_depth h (by rw [← HS.out.1, hD])
            have HU := Lib.hid (And.intro hU hD)
            clear hlog hU hD hD' HPw HLn HW HDl
            have HMx2 := HMx
            clear HMx
            by_cases hD1 : D < 1
            · have hDz : (D : Int) < 1 := by omega
              have HN : Hid (∀ d, ¬ MayW d l) := fun d h => by
                have := HU.out.1 d h
                have := h.2.2.2.2.1
                omega
              go_wp2_with fail
              go_ret2
              exact ⟨rfl, .inr ⟨HN.out, rfl⟩⟩
            · have hDz : ¬ (D : Int) < 1 := by omega
              by_cases hD11 : 11 < D
              · have hDz1 : (11 : Int) < (D : Int) := by omega
                have HN : Hid (∀ d, ¬ MayW d l) := fun d h => by
                  have := HU.out.1 d h
                  have := h.2.2.2.2.2.1
                  omega
                go_wp2_with fail
                go_ret2
                exact ⟨rfl, .inr ⟨HN.out, rfl⟩⟩
              · have hDz1 : ¬ (11 : Int) < (D : Int) := by omega
                go_wp2_with fail
                refine HMx2.out.mono ?_
                rintro _ w5 ⟨m', rfl, hm1', hm2', hw5⟩
                subst hw5
                obtain rfl : m = m' := by
                  have a := HS.out.2.2 m' hm1'
                  have b := hm2' m HS.out.2.1
                  omega
                clear hm1' hm2' HMx2
                by_cases hmD : D < m
                · have hmz : (D : Int) < (m : Int) := by omega
                  have HN : Hid (∀ d, ¬ MayW d l) := fun d h => by
                    have := HU.out.1 d h
                    have := h.2.2.2.2.2.2 m HS.out.2.1
                    omega
                  go_wp2_with fail
                  go_ret2
                  exact ⟨rfl, .inr ⟨HN.out, rfl⟩⟩
                · have hmz : ¬ (D : Int) < (m : Int) := by omega
                  go_wp2_with fail
                  go_ret2
                  exact ⟨rfl, .inl ⟨D, ⟨by rw [HD.out.2.1]; omega, by rw [HD.out.2.1]; omega, HLa.out.2 (by omega), by rw [← HS.out.1]; exact HU.out.2, by omega, by omega, fun x hx => by have := HS.out.2.2 x hx; omega⟩, rfl⟩⟩
end
end Go.Proofs.Ytafdfjacfodbnaa
