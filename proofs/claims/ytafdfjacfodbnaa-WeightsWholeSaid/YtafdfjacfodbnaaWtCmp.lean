
/- How two bundles are compared. -/
import Derived.Test.YtafdfjacfodbnaaWtRow
import Derived.Test.YtafdfjacfodbnaaRows
import Derived.WalkKit
import Derived.WalkSpells
import Derived.WalkLawsBesides
import Derived.Lib.Hide
import Derived.Deep.LoopGhost
import Derived.Deep.CutRange
import Derived.Deep.DeepCutAuto
import Derived.Outline
namespace Go.Proofs.Ytafdfjacfodbnaa
open Go.RowKit Go.Sort

/-- What a comparison of two numbers answers. -/
def cmpN (x y : Nat) : Int := if x < y then -1 else if y < x then 1 else 0
theorem cmpN_lt (x y : Nat) : decide (cmpN x y < 0) = decide (x < y) := by
  unfold cmpN
  by_cases h : x < y
  · simp [h]
  · rw [if_neg h]
    by_cases h' : y < x
    · simp [h, h']
    · simp [h, h']

theorem isNaN_any (x : Int) (w : World) : Calls Try.prog 84 #[.int .u64 x] w fun e w' => e = .returned (.bool false) ∧ w' = w := by
  go_enter Try.func84, Try.ntmps84
  go_wp2_with fail
  go_ret
  exact ⟨rfl, rfl⟩
theorem compare_any (x y : Nat) (w : World) : Calls Try.prog 64 #[.int .u64 (x : Int), .int .u64 (y : Int)] w fun e w' => e = .returned (.int .i64 (cmpN x y)) ∧ w' = w := by
  unfold cmpN
  by_cases h : x < y
  · have h1 : (x : Int) < (y : Int) := by omega
    rw [if_pos h]
    go_enter Try.func64, Try.ntmps64
    go_wp2_with (go_at_call 84; refine (isNaN_any _ _).mono ?_; rintro e w' ⟨rfl, rfl⟩)
    go_ret
    exact ⟨rfl, rfl⟩
  · have h1 : ¬ (x : Int) < (y : Int) := by omega
    rw [if_neg h]
    by_cases h' : y < x
    · have h2 : (y : Int) < (x : Int) := by omega
      rw [if_pos h']
      go_enter Try.func64, Try.ntmps64
      go_wp2_with (go_at_call 84; refine (isNaN_any _ _).mono ?_; rintro e w' ⟨rfl, rfl⟩)
      go_ret
      exact ⟨rfl, rfl⟩
    · have h2 : ¬ (y : Int) < (x : Int) := by omega
      rw [if_neg h']
      go_enter Try.func64, Try.ntmps64
      go_wp2_with (go_at_call 84; refine (isNaN_any _ _).mono ?_; rintro e w' ⟨rfl, rfl⟩)
      go_ret
      exact ⟨rfl, rfl⟩

/-- The closure of rising. -/
theorem cmp_any (x y : Pk) (W : World) : Calls Try.prog 63 #[.agg #[.int .u64 (x.n : Int), .slice x.a x.l x.c], .agg #[.int .u64 (y.n : Int), .slice y.a y.l y.c]] W fun e w' =>
    e = .returned (.int .i64 (cmpN x.n y.n)) ∧ ∃ q os', w' = grow (W.drewN q) os' := by
  have hcon := fun W' => compare_any x.n y.n W'
  generalize cmpN x.n y.n = r at hcon ⊢
  go_enter Try.func63, Try.ntmps63
  go_wp2_with (go_at_call 64; refine (hcon _).mono ?_; rintro e w' ⟨rfl, rfl⟩)
  go_ret
  exact ⟨rfl, 0, _, by rw [alloc_eq_grow, alloc_eq_grow, grow_grow]; rfl⟩
theorem cmp_grown (x y : Pk) (W : World) (q : Nat) (os : Array Obj) : Calls Try.prog 63 #[.agg #[.int .u64 (x.n : Int), .slice x.a x.l x.c], .agg #[.int .u64 (y.n : Int), .slice y.a y.l y.c]] (grow (W.drewN q) os) fun e w'' =>
    e = .returned (.int .i64 (cmpN x.n y.n)) ∧ ∃ p : GrownBy, w'' = grow (W.drewN p.n) p.os := Calls.grown_of (cmp_any x y _)
end Go.Proofs.Ytafdfjacfodbnaa
