
/- Two parts of a row change places, of any lengths. -/
import Derived.Test.YtafdfjacfodbnaaWtRot
namespace Go.Proofs.Ytafdfjacfodbnaa
open Go.RowKit Go.Sort

section
variable {w0 W : World} {g n c : Nat}
set_option maxRecDepth 100000 in
set_option maxHeartbeats 2000000 in
theorem rotate_any (p u v s : List Pk) (a m b : Nat) (hS : SR w0 g n c (p ++ u ++ v ++ s) W) (ha : a = p.length) (hm : m = a + u.length) (hb : b = m + v.length) (hu : 0 < u.length) (hv : 0 < v.length) (hn : n ≤ 100000) :
    Calls Try.prog 100 #[.slice (some ⟨g, 0, none⟩) n c, .int .i64 (a : Int), .int .i64 (m : Int), .int .i64 (b : Int), .func (.func 63) #[] #[]] W fun e w' =>
      e = .returned (.tuple #[]) ∧ SR w0 g n c (p ++ v ++ u ++ s) w' := by
  have hlen := hS.len
  simp at hlen
  have HS := Lib.hid hS
  have HH := Lib.hid (And.intro ha (And.intro hm (And.intro hb (And.intro hu hv))))
  have hbn : b ≤ n := by omega
  have ham : a < m := by omega
  have hmb : m < b := by omega
  have q1 : (m : Int) - (a : Int) = ((m - a : Nat) : Int) := by omega
  have q2 : (b : Int) - (m : Int) = ((b - m : Nat) : Int) := by omega
  clear hS ha hm hb hlen hv hu
  go_enter Try.func100, Try.ntmps100
  go_wp2_with fail
  go_loopg [10, 11] (m - a + (b - m)) (fun g1 vi vj wr => ∃ (i j : Nat) (v1 U V u2 : List Pk), vi = .int .i64 (i : Int) ∧ vj = .int .i64 (j : Int) ∧ i + j ≤ g1 ∧ 0 < i ∧ 0 < j ∧ U.length = i ∧ V.length = j ∧ m = p.length + v1.length + i ∧ v1 ++ V ++ U ++ u2 = v ++ u ∧ SR w0 g n c (p ++ v1 ++ U ++ V ++ u2 ++ s) wr)
  case atStart =>
    obtain ⟨ha, hm, hb, hu, hv⟩ := HH.out
    exact ⟨m - a, b - m, [], u, v, [], by go_num, by go_num, by omega, by omega, by omega, by omega, by omega, by simp; omega, by simp, HS.out.cast (by simp)⟩
  case round =>
    clear HS q1 q2
    obtain ⟨i, j, v1, U, V, u2, rfl, rfl, hij, hi, hj, hU, hV, hmm, hE, hS⟩ := hrel
    have hln := hS.len
    simp at hln
    have him : i ≤ m := by omega
    have hmj : m + j ≤ n := by omega
    by_cases heq : i = j
    · subst heq
      have HC := Lib.hid (swaps_any (p ++ v1) U [] V (u2 ++ s) (m - i) m i (hS.cast (by simp)) (by simp; omega) (by omega) (by omega) (by simp; omega) hn)
      have HE := Lib.hid hE
      have q1 : (m : Int) - (i : Int) = ((m - i : Nat) : Int) := by omega
      clear hS hij hU hV hmm hE hln
      go_wp2_with fail
      refine HC.out.mono ?_
      rintro e w2 ⟨rfl, hS⟩
      have HS2 := Lib.hid hS
      clear hS HC
      go_wp2_with fail
      go_end0
      refine ⟨rfl, HS2.out.cast ?_⟩
      have : p ++ (v1 ++ V ++ U ++ u2) ++ s = p ++ (v ++ u) ++ s := by rw [HE.out]
      simpa using this
    · by_cases hgt : j < i
      · have hU1 : U = U.take j ++ U.drop j := (List.take_append_drop j U).symm
        have HC := Lib.hid (swaps_any (p ++ v1) (U.take j) (U.drop j) V (u2 ++ s) (m - i) m j (hS.cast (by rw [List.append_assoc (p ++ v1) (U.take j), List.take_append_drop]; simp)) (by simp; omega) (by simp; omega) (by simp; omega) (by simp; omega) hn)
        have q1 : (m : Int) - (i : Int) = ((m - i : Nat) : Int) := by omega
        have h1 : ¬ (i : Int) = (j : Int) := by omega
        have h1b : ((i : Int) == (j : Int)) = false := by rw [beq_eq_false_iff_ne]; exact h1
        have h2 : (j : Int) < (i : Int) := by omega
        have HE := Lib.hid (And.intro hE (And.intro hU (And.intro hV (And.intro hmm hij))))
        clear hS hij hU hV hmm hE hln hU1
        go_wp2_with fail
        refine HC.out.mono ?_
        rintro e w2 ⟨rfl, hS⟩
        have HS2 := Lib.hid hS
        clear hS HC
        go_wp2_with fail
        go_roundg i
        case measure => have := HE.out.2.2.2.2; omega
        case rel =>
          obtain ⟨hE, hU, hV, hmm, hij⟩ := HE.out
          refine ⟨i - j, j, v1 ++ V, U.drop j, U.take j, u2, by go_num, rfl, by omega, by omega, hj, by simp; omega, by simp; omega, by simp; omega, ?_, HS2.out.cast (by simp)⟩
          rw [← hE]
          simp
      · have hV1 : V = V.take (j - i) ++ V.drop (j - i) := (List.take_append_drop _ V).symm
        have HC := Lib.hid (swaps_any (p ++ v1) U (V.take (j - i)) (V.drop (j - i)) (u2 ++ s) (m - i) (m + j - i) i (hS.cast (by rw [List.append_assoc (p ++ v1 ++ U) (V.take (j - i)), List.take_append_drop]; simp)) (by simp; omega) (by omega) (by simp; omega) (by simp; omega) hn)
        have q1 : (m : Int) - (i : Int) = ((m - i : Nat) : Int) := by omega
        have q2 : (m : Int) + (j : Int) - (i : Int) = ((m + j - i : Nat) : Int) := by omega
        have h1 : ¬ (i : Int) = (j : Int) := by omega
        have h1b : ((i : Int) == (j : Int)) = false := by rw [beq_eq_false_iff_ne]; exact h1
        have h2 : ¬ (j : Int) < (i : Int) := by omega
        have HE := Lib.hid (And.intro hE (And.intro hU (And.intro hV (And.intro hmm hij))))
        clear hS hij hU hV hmm hE hln hV1
        go_wp2_with fail
        refine HC.out.mono ?_
        rintro e w2 ⟨rfl, hS⟩
        have HS2 := Lib.hid hS
        clear hS HC
        go_wp2_with fail
        go_roundg j
        case measure => have := HE.out.2.2.2.2; omega
        case rel =>
          obtain ⟨hE, hU, hV, hmm, hij⟩ := HE.out
          refine ⟨i, j - i, v1, V.drop (j - i), V.take (j - i), U ++ u2, rfl, by go_num, by omega, hi, by omega, by simp; omega, by simp; omega, hmm, ?_, HS2.out.cast (by simp)⟩
          rw [← hE]
          simp
end
end Go.Proofs.Ytafdfjacfodbnaa
