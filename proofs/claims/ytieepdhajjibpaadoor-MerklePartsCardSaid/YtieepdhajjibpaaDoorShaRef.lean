
/- The contracts of the document's SHA-256: right, round, words, Of. -/
import Derived.Test.YtieepdhajjibpaaDoorShaPlain
import Derived.Test.YtieepdhajjibpaaDoorRows
import Derived.WalkKit
import Derived.WalkSpells
import Derived.WalkLawsBesides
import Derived.Lib.Hide
import Derived.Deep.QuietTactic
import Derived.BigQuiet
namespace Go.Proofs.YtieepdhajjibpaaDoor
open Go.RowKit

theorem right_any (x : UInt32) (N : Int) (w : World) (h0 : 0 < N) (h1 : N < 32) :
    Calls Tryd.prog 43 #[.int .u32 (x.toNat : Int), .int .u64 N] w fun e w' => e = .returned (.int .u32 ((rot x N.toNat).toNat : Int)) ∧ w = w' := by
  obtain ⟨n, rfl⟩ := Int.eq_ofNat_of_zero_le (show 0 ≤ N by omega)
  have hr := rot_nat x n
  rw [Int.toNat_natCast]
  go_enter Tryd.func43, Tryd.ntmps43
  go_wp2
  go_ret
  exact ⟨rfl, rfl⟩

/-- The two sums of a round. -/
def t1 (e f g h k w : UInt32) : UInt32 := wA (wA (wA (wA h (wX (wX (rot e 6) (rot e 11)) (rot e 25))) (wX (wN e f) (wN (wC e) g))) k) w
def t2 (a b c : UInt32) : UInt32 := wA (wX (wX (rot a 2) (rot a 13)) (rot a 22)) (wX (wX (wN a b) (wN a c)) (wN b c))

theorem quiet_left {P : Program} {f : FuncId} {args : Array Value} {w : World} {a n : Nat} {v : Value}
    (h : Calls P f args (w.drewN (a + n)) fun e w' => e = .returned v ∧ w.drewN (a + n) = w') : Calls P f args (w.drewN (a + n)) fun e w'' => e = .returned v ∧ ∃ m, w'' = w.drewN (a + m) :=
  h.mono fun _ _ ⟨he, hm⟩ => ⟨he, n, hm.symm⟩

theorem below_drawn {B : Nat} {a w : World} (h : Below B a w) (n : Nat) : Below B a (w.drewN n) := ⟨h.os, h.tape, h.output, h.size, h.block⟩

attribute [local go_sem high] w_xor w_or w_and w_add w_addm w_add3 w_add4 w_not

set_option maxHeartbeats 1000000 in
theorem round_any (a b c d e f g p k w0 : UInt32) (w : World) :
    Calls Tryd.prog 44 #[.agg #[.int .u32 (a.toNat : Int), .int .u32 (b.toNat : Int), .int .u32 (c.toNat : Int), .int .u32 (d.toNat : Int), .int .u32 (e.toNat : Int), .int .u32 (f.toNat : Int), .int .u32 (g.toNat : Int), .int .u32 (p.toNat : Int)], .int .u32 (k.toNat : Int), .int .u32 (w0.toNat : Int)] w fun en w' =>
      en = .returned (.agg #[.int .u32 ((wA (t1 e f g p k w0) (t2 a b c)).toNat : Int), .int .u32 (a.toNat : Int), .int .u32 (b.toNat : Int), .int .u32 (c.toNat : Int), .int .u32 ((wA d (t1 e f g p k w0)).toNat : Int), .int .u32 (e.toNat : Int), .int .u32 (f.toNat : Int), .int .u32 (g.toNat : Int)]) ∧ Below w.heap.size w w' := by
  go_enter Tryd.func44, Tryd.ntmps44
  go_wp2_with fail
  go_quiet ((go_at_call 43; refine Calls.quiet_of_same ((right_any _ _ _ (by decide) (by decide)).mono fun _ _ hh => ⟨hh.1, hh.2.symm⟩)))
  go_wp2_with fail
  go_quiet ((go_at_call 43; exact quiet_left (right_any _ _ _ (by decide) (by decide))))
  go_wp2_with fail
  refine bodyPost_ret (v := .agg #[.int .u32 ((wA (t1 e f g p k w0) (t2 a b c)).toNat : Int), .int .u32 (a.toNat : Int), .int .u32 (b.toNat : Int), .int .u32 (c.toNat : Int), .int .u32 ((wA d (t1 e f g p k w0)).toNat : Int), .int .u32 (e.toNat : Int), .int .u32 (f.toNat : Int), .int .u32 (g.toNat : Int)]) ?_ rfl ?_
  · simp [results, Tryd.results44, go_sem, t1, t2]
  · refine ⟨rfl, ?_⟩
    repeat (with_reducible (first | refine below_drawn ?_ _ | refine Below.drew ?_ | refine Below.alloc ?_ (by simp) _ | refine Below.setCell ?_ (by simp) _))
    exact Below.refl _ _

end Go.Proofs.YtieepdhajjibpaaDoor
