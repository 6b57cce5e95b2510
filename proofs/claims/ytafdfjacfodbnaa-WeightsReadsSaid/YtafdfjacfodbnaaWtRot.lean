
/- Two parts of a row change places: of the same length, and of any. -/
import Derived.Test.YtafdfjacfodbnaaWtIns
namespace Go.Proofs.Ytafdfjacfodbnaa
open Go.RowKit Go.Sort

section
variable {w0 W : World} {g n c : Nat}
set_option maxRecDepth 100000 in
set_option maxHeartbeats 2000000 in
theorem swaps_any (p u m v s : List Pk) (a b k : Nat) (hS : SR w0 g n c (p ++ u ++ m ++ v ++ s) W) (ha : a = p.length) (hk : k = u.length) (hv : v.length = u.length) (hb : b = a + k + m.length) (hn : n ≤ 100000) :
    Calls Try.prog 101 #[.slice (some ⟨g, 0, none⟩) n c, .int .i64 (a : Int), .int .i64 (b : Int), .int .i64 (k : Int), .func (.func 63) #[] #[]] W fun e w' =>
      e = .returned (.tuple #[]) ∧ SR w0 g n c (p ++ v ++ m ++ u ++ s) w' := by
  have hlen := hS.len
  simp at hlen
  have HS := Lib.hid hS
  have HH := Lib.hid (And.intro ha (And.intro hk (And.intro hv hb)))
  have hbn : b + k ≤ n := by omega
  have hab : a + k ≤ b := by omega
  have mixed : Try.prog.follows .mixedOrders = true := by kernel_rfl
  clear hS ha hb hlen hv hk
  go_enter Try.func101, Try.ntmps101
  go_wp2_with fail
  go_loopg [10] k (fun g1 vi wr => ∃ (i : Nat) (u1 u2 v1 v2 : List Pk), vi = .int .i64 (i : Int) ∧ i + g1 = k ∧ u = u1 ++ u2 ∧ v = v1 ++ v2 ∧ u1.length = i ∧ v1.length = i ∧ SR w0 g n c (p ++ v1 ++ u2 ++ m ++ u1 ++ v2 ++ s) wr)
  case atStart => exact ⟨0, [], u, [], v, rfl, by omega, rfl, rfl, rfl, rfl, HS.out.cast (by simp)⟩
  case round =>
    clear HS
    obtain ⟨i, u1, u2, v1, v2, rfl, hik, hu, hv, hu1, hv1, hS⟩ := hrel
    obtain ⟨ha, hk, hvl, hb⟩ := HH.out
    by_cases hlt : i < k
    · have hltz : (i : Int) < (k : Int) := by omega
      rcases u2 with _ | ⟨x, u2⟩
      · rw [hu] at hk; simp at hk; omega
      rcases v2 with _ | ⟨y, v2⟩
      · rw [hu, hv] at hvl; simp at hvl; omega
      have e1 : (p ++ v1 ++ (x :: u2) ++ m ++ u1 ++ (y :: v2) ++ s)[a + i]! = x := by
        have := getI_mid (p ++ v1) (u2 ++ m ++ u1 ++ (y :: v2) ++ s) x (a + i) (by simp; omega)
        simpa using this
      have e2 : (p ++ v1 ++ (x :: u2) ++ m ++ u1 ++ (y :: v2) ++ s)[b + i]! = y := by
        have := getI_mid (p ++ v1 ++ (x :: u2) ++ m ++ u1) (v2 ++ s) y (b + i) (by rw [hu] at hk; simp at hk ⊢; omega)
        simpa using this
      have e3 : exch (p ++ v1 ++ (x :: u2) ++ m ++ u1 ++ (y :: v2) ++ s) (a + i) (b + i) = p ++ (v1 ++ [y]) ++ u2 ++ m ++ (u1 ++ [x]) ++ v2 ++ s := by
        have := exch_at (p ++ v1) (u2 ++ m ++ u1) (v2 ++ s) x y (a + i) (b + i) (by simp; omega) (by rw [hu] at hk; simp at hk ⊢; omega)
        simpa using this
      obtain ⟨⟨⟨c1, c1'⟩, f1, f1'⟩, ⟨⟨c2, c2'⟩, f2, f2'⟩, hS3⟩ := hS.two (a + i) (b + i) (by omega) (by omega) e1 e2
      rw [e3] at hS3
      have z1 : ((a : Int) + (i : Int)).toNat = a + i := by omega
      have z2 : (0 : Int) ≤ (a : Int) + (i : Int) := by omega
      have z3 : (a : Int) + (i : Int) < (n : Int) := by omega
      have z4 : ((b : Int) + (i : Int)).toNat = b + i := by omega
      have z5 : (0 : Int) ≤ (b : Int) + (i : Int) := by omega
      have z6 : (b : Int) + (i : Int) < (n : Int) := by omega
      have HS3 := Lib.hid hS3.drew
      have HT := Lib.hid (And.intro hik (And.intro hu (And.intro hv (And.intro hu1 hv1))))
      clear hS hS3 e1 e2 e3 hik hu hv hu1 hv1 ha hk hvl hb
      go_wp2_with fail
      go_big_region_o
      clear c1 c1' f1 f1' c2 c2' f2 f2'
      generalize World.drew _ = w3 at HS3 ⊢
      go_wp2_with fail
      go_roundg (k - (i + 1))
      case measure => have := HT.out.1; omega
      case rel =>
        obtain ⟨hik, hu, hv, hu1, hv1⟩ := HT.out
        exact ⟨i + 1, u1 ++ [x], u2, v1 ++ [y], v2, by go_num, by omega, by rw [hu]; simp, by rw [hv]; simp, by simp; omega, by simp; omega, HS3.out⟩
    · have hltz : ¬ (i : Int) < (k : Int) := by omega
      have hu2 : u2 = [] := List.eq_nil_of_length_eq_zero (by rw [hu] at hk; simp at hk; omega)
      have hv2 : v2 = [] := List.eq_nil_of_length_eq_zero (by rw [hu, hv] at hvl; simp at hvl; rw [hu] at hk; simp at hk; omega)
      subst hu2 hv2
      simp only [List.append_nil] at hu hv
      subst hu hv
      have HS := Lib.hid (hS.cast (ys := p ++ v ++ m ++ u ++ s) (by simp))
      clear hS hu1 hv1 ha hk hvl hb hik
      go_wp2_with fail
      go_end0
      exact ⟨rfl, HS.out.cast (by simp)⟩

end
end Go.Proofs.Ytafdfjacfodbnaa
