
/- slices.Max of ints and of bytes. -/
import Derived.Test.YtafdfjacfodbnaaWtLens
namespace Go.Proofs.Ytafdfjacfodbnaa
open Go.RowKit

/-- A byte, as a number. -/
def u8cel (n : Nat) : Value := .int .u8 (n : Int)
theorem Dat.nats {own : Bool} {w : World} {lo hi : Nat} {A : Option Addr} {xs : List UInt8} (h : Dat own w lo hi A xs) : DatE u8cel w lo hi A (xs.map (·.toNat)) := fun hx => by
  obtain ⟨d, o, hA, h1, h2, hc, _⟩ := h (by simpa using hx)
  refine ⟨d, o, hA, h1, h2, fun j hj => ?_⟩
  have hj' : j < xs.length := by simpa using hj
  rw [hc j hj']
  simp [cel, u8cel, List.getD, hj']

section
variable {w : World}
set_option maxRecDepth 100000 in
theorem maxI_any {lo hi n c : Nat} {A : Option Addr} {xs : List Nat} (hd : DatE icel w lo hi A (xs.map fun x : Nat => (x : Int))) (hn : xs.length = n) (h0 : 0 < n) (hm : n ≤ 100000) (hb : ∀ x ∈ xs, x ≤ 1000000) :
    Calls Try.prog 37 #[.slice A n c] w fun e w' => ∃ m, e = .returned (.int .i64 ((m : Nat) : Int)) ∧ m ∈ xs ∧ (∀ x ∈ xs, x ≤ m) ∧ w' = w := by
  have HD := Lib.hid (And.intro hd (And.intro hn hb))
  have hl0 : 0 < xs.length := by omega
  obtain ⟨d, o, rfl, _, _, hc⟩ := hd (by simp; omega)
  have HC := Lib.hid hc
  have hc0 := hc 0 (by simp; omega)
  simp only [List.getElem_map, Nat.add_zero] at hc0
  unfold icel at hc0
  have hx0 := hb xs[0] (List.getElem_mem hl0)
  obtain ⟨x0, e0⟩ : ∃ x, x = xs[0]'hl0 := ⟨_, rfl⟩
  rw [← e0] at hc0 hx0
  have HE := Lib.hid e0
  clear hd hb hc e0 hn
  have h1 : ¬ (n : Int) < 1 := by omega
  have hnz : (0 : Int) < (n : Int) := by omega
  go_enter Try.func37, Try.ntmps37
  go_wp2_with fail
  go_loopg [3, 4] n (fun g1 vm vi wx => ∃ i m : Nat, vi = .int .i64 (i : Int) ∧ vm = .int .i64 (m : Int) ∧ 1 ≤ i ∧ i ≤ n ∧ n - i ≤ g1 ∧ m ∈ xs ∧ (∀ x ∈ xs.take i, x ≤ m) ∧ m ≤ 1000000 ∧ wx = w)
  case atStart => exact ⟨1, x0, by go_num, rfl, by omega, by omega, by omega, by rw [HE.out]; exact List.getElem_mem _, fun x hx => by rw [List.take_succ_eq_append_getElem (by rw [HD.out.2.1]; omega)] at hx; simp at hx; rw [hx, HE.out]; exact Nat.le_refl _, hx0, rfl⟩
  case round =>
    obtain ⟨i, m, rfl, rfl, h1i, hin, hg, hm1, hm2, hm3, rfl⟩ := hrel
    by_cases hlt : i < n
    · have hltz : (i : Int) < (n : Int) := by omega
      have hil : i < xs.length := by rw [HD.out.2.1]; exact hlt
      have hci := HC.out i (by simpa using hil)
      simp only [List.getElem_map] at hci
      unfold icel at hci
      have hxi := HD.out.2.2 xs[i] (List.getElem_mem hil)
      have hts : xs.take (i + 1) = xs.take i ++ [xs[i]] := List.take_succ_eq_append_getElem hil
      have hmi := List.getElem_mem hil
      have HM := Lib.hid (And.intro hm1 (And.intro hm2 (And.intro hts hmi)))
      clear hm1 hm2 hts hmi
      generalize xs[i] = x at *
      go_wp2_with fail
      all_goals
        go_roundg (n - (i + 1))
        case measure => omega
        case rel =>
          obtain ⟨hm1, hm2, hts, hmi⟩ := HM.out
          first
          | exact ⟨i + 1, m, by go_num, rfl, by omega, by omega, by omega, hm1, fun y hy => (by
              rw [hts] at hy
              rcases List.mem_append.1 hy with q | q
              · exact hm2 y q
              · rw [List.mem_singleton.1 q]; omega), hm3, rfl⟩
          | exact ⟨i + 1, x, by go_num, rfl, by omega, by omega, by omega, hmi, fun y hy => (by
              rw [hts] at hy
              rcases List.mem_append.1 hy with q | q
              · have := hm2 y q; omega
              · rw [List.mem_singleton.1 q]; omega), hxi, rfl⟩
    · obtain rfl : i = n := by omega
      have hltz : ¬ (i : Int) < (i : Int) := by omega
      go_wp2_with fail
      go_ret
      exact ⟨m, rfl, hm1, by rw [List.take_of_length_le (by rw [HD.out.2.1]; exact Nat.le_refl _)] at hm2; exact hm2, rfl⟩
set_option maxRecDepth 100000 in
theorem maxB_any {lo hi n c : Nat} {A : Option Addr} {xs : List Nat} (hd : DatE u8cel w lo hi A xs) (hn : xs.length = n) (h0 : 0 < n) (hm : n ≤ 100000) (hb : ∀ x ∈ xs, x ≤ 255) :
    Calls Try.prog 21 #[.slice A n c] w fun e w' => ∃ m, e = .returned (.int .u8 ((m : Nat) : Int)) ∧ m ∈ xs ∧ (∀ x ∈ xs, x ≤ m) ∧ w' = w := by
  have HD := Lib.hid (And.intro hd (And.intro hn hb))
  have hl0 : 0 < xs.length := by omega
  obtain ⟨d, o, rfl, _, _, hc⟩ := hd (by omega)
  have HC := Lib.hid hc
  have hc0 := hc 0 (by omega)
  simp only [Nat.add_zero] at hc0
  unfold u8cel at hc0
  have hx0 := hb xs[0] (List.getElem_mem hl0)
  obtain ⟨x0, e0⟩ : ∃ x, x = xs[0]'hl0 := ⟨_, rfl⟩
  rw [← e0] at hc0 hx0
  have HE := Lib.hid e0
  clear hd hb hc e0 hn
  have h1 : ¬ (n : Int) < 1 := by omega
  have hnz : (0 : Int) < (n : Int) := by omega
  go_enter Try.func21, Try.ntmps21
  go_wp2_with fail
  go_loopg [3, 4] n (fun g1 vm vi wx => ∃ i m : Nat, vi = .int .i64 (i : Int) ∧ vm = .int .u8 (m : Int) ∧ 1 ≤ i ∧ i ≤ n ∧ n - i ≤ g1 ∧ m ∈ xs ∧ (∀ x ∈ xs.take i, x ≤ m) ∧ m ≤ 255 ∧ wx = w)
  case atStart => exact ⟨1, x0, by go_num, rfl, by omega, by omega, by omega, by rw [HE.out]; exact List.getElem_mem _, fun x hx => by rw [List.take_succ_eq_append_getElem (by rw [HD.out.2.1]; omega)] at hx; simp at hx; rw [hx, HE.out]; exact Nat.le_refl _, hx0, rfl⟩
  case round =>
    obtain ⟨i, m, rfl, rfl, h1i, hin, hg, hm1, hm2, hm3, rfl⟩ := hrel
    by_cases hlt : i < n
    · have hltz : (i : Int) < (n : Int) := by omega
      have hil : i < xs.length := by rw [HD.out.2.1]; exact hlt
      have hci := HC.out i hil
      unfold u8cel at hci
      have hxi := HD.out.2.2 xs[i] (List.getElem_mem hil)
      have hts : xs.take (i + 1) = xs.take i ++ [xs[i]] := List.take_succ_eq_append_getElem hil
      have hmi := List.getElem_mem hil
      have HM := Lib.hid (And.intro hm1 (And.intro hm2 (And.intro hts hmi)))
      clear hm1 hm2 hts hmi
      generalize xs[i] = x at *
      go_wp2_with fail
      all_goals
        go_roundg (n - (i + 1))
        case measure => omega
        case rel =>
          obtain ⟨hm1, hm2, hts, hmi⟩ := HM.out
          first
          | exact ⟨i + 1, m, by go_num, rfl, by omega, by omega, by omega, hm1, fun y hy => (by
              rw [hts] at hy
              rcases List.mem_append.1 hy with q | q
              · exact hm2 y q
              · rw [List.mem_singleton.1 q]; omega), hm3, rfl⟩
          | exact ⟨i + 1, x, by go_num, rfl, by omega, by omega, by omega, hmi, fun y hy => (by
              rw [hts] at hy
              rcases List.mem_append.1 hy with q | q
              · have := hm2 y q; omega
              · rw [List.mem_singleton.1 q]; omega), hxi, rfl⟩
    · obtain rfl : i = n := by omega
      have hltz : ¬ (i : Int) < (i : Int) := by omega
      go_wp2_with fail
      go_ret
      exact ⟨m, rfl, hm1, by rw [List.take_of_length_le (by rw [HD.out.2.1]; exact Nat.le_refl _)] at hm2; exact hm2, rfl⟩
end
end Go.Proofs.Ytafdfjacfodbnaa
