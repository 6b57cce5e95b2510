
/- The contracts of the document's Same, and of the law's modelOf. -/
import Derived.Test.YtafhabpckgmkgaaNormAwake
namespace Go.Proofs.Ytafhabpckgmkgaa
open Go.RowKit

theorem modelOf_any (l : Int) (A : Option Addr) (n c : Nat) (w : World) :
    Calls Try.prog 12 #[.agg #[.int .i64 l, .slice A n c]] w fun e w' => e = .returned (.agg #[.int .i64 l, .slice A n c]) ∧ Below w.heap.size w w' := by
  go_enter Try.func12, Try.ntmps12
  go_wp2_with fail
  refine bodyPost_ret (v := .agg #[.int .i64 l, .slice A n c]) (by simp [results, Try.results12, go_sem]) rfl ⟨rfl, ?_⟩
  repeat (first | exact Below.refl _ _ | refine Below.alloc ?_ (by simp) _ | refine Below.setCell ?_ (by simp) _)

set_option maxRecDepth 100000 in
set_option maxHeartbeats 1000000 in
theorem same_yes {w : World} {lo hi lo2 hi2 : Nat} {A A2 : Option Addr} {n c c2 : Nat} {ps : List Int} (l : Int) (hd : DatE icel w lo hi A ps) (hd2 : DatE icel w lo2 hi2 A2 ps) (hn : ps.length = n) (hhi : hi ≤ w.heap.size) (hhi2 : hi2 ≤ w.heap.size) (hm : n ≤ 1000000000) :
    Calls Try.prog 11 #[.agg #[.int .i64 l, .slice A n c], .agg #[.int .i64 l, .slice A2 n c2]] w fun e w' => e = .returned (.bool true) ∧ Below w.heap.size w w' := by
  have HD := Lib.hid ((hd.alloc hhi (.cells #[.int .i64 l, .slice A n c] 30)).alloc (by simp; omega) (.cells #[.int .i64 l, .slice A2 n c2] 30))
  have HD2 := Lib.hid ((hd2.alloc hhi2 (.cells #[.int .i64 l, .slice A n c] 30)).alloc (by simp; omega) (.cells #[.int .i64 l, .slice A2 n c2] 30))
  have HN := Lib.hid hn
  clear hd hd2 hn
  go_enter Try.func11, Try.ntmps11
  go_wp2_with fail
  go_loopg [5] n (fun gh i wx => ∃ k q : Nat, k + gh = n ∧ i = .int .i64 k ∧ wx = ((w.alloc (.cells #[.int .i64 l, .slice A n c] 30)).alloc (.cells #[.int .i64 l, .slice A2 n c2] 30)).drewN q)
  case atStart => exact ⟨0, 0, by omega, rfl, rfl⟩
  case round =>
    obtain ⟨k, q, hk, rfl, rfl⟩ := hrel
    have HK := Lib.hid hk
    have hkn : k ≤ n := by omega
    clear hk
    by_cases hlt : k < n
    · obtain ⟨g', rfl⟩ : ∃ g', gk = g' + 1 := ⟨gk - 1, by have := HK.out; omega⟩
      have hkl : k < ps.length := by have := HN.out; omega
      obtain ⟨d, o, rfl, _, _, hc⟩ := HD.out (by omega)
      obtain ⟨d2, o2, rfl, _, _, hc2⟩ := HD2.out (by omega)
      have e1 := hc k hkl
      have e2 := hc2 k hkl
      unfold icel at e1 e2
      clear hc hc2
      generalize ps[k] = p at *
      have hki : (k : Int) < (n : Int) := by omega
      have hk0 : (0 : Int) ≤ (k : Int) := by omega
      go_wp2_with fail
      go_quiet (fail)
      go_wp2_with fail
      go_roundg g'
      case rel => exact ⟨k + 1, _, by have := HK.out; omega, by go_num, rfl⟩
      case measure => omega
    · obtain rfl : k = n := by omega
      have hki : ¬ (k : Int) < (k : Int) := by omega
      go_wp2_with fail
      go_ret
      refine ⟨rfl, below_drawn ?_ _⟩
      exact ((Below.refl _ _).alloc (Nat.le_refl _) _).alloc (by simp) _
end Go.Proofs.Ytafhabpckgmkgaa
