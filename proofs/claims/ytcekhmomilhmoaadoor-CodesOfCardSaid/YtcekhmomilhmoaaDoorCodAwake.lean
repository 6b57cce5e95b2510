
/- The document's example. -/
import Derived.Test.YtcekhmomilhmoaaDoorCodProg
namespace Go.Proofs.YtcekhmomilhmoaaDoor
open Go.RowKit

set_option maxRecDepth 100000 in
set_option maxHeartbeats 1000000 in
theorem awake_any (w : World) (hgl : Glob w) :
    Calls Tryd.prog 7 #[] w fun e w' => e = .returned (.bool true) ∧ Below w.heap.size w w' := by
  have HG := Lib.hid hgl
  have hw3 := hgl.2.2.2
  have HOF : Hid (∀ W, Glob W → Calls Tryd.prog 12 #[.int .i64 0, .int .u32 17] W fun e w' => e = .returned (.tuple #[.int .i64 16, .int .u32 1, .int .i64 0]) ∧ W = w') := fun W hW => by
    have h := of_any 0 17 W hW (by decide)
    rwa [show ofN 0 17 = (16, 1, 0) by decide +kernel] at h
  have HCO : Hid (∀ W, Glob W → Calls Tryd.prog 8 #[.int .i64 2, .int .i64 52] W fun e w' => e = .returned (.tuple #[.int .u32 65539, .int .i64 16, .int .i64 0]) ∧ Below W.heap.size W w') := fun W hW => by
    have h := code_any 2 52 W hW
    rwa [show codeN 2 52 = (65539, 16, 0) by decide +kernel] at h
  have HL1 : Hid (∀ W, Glob W → Calls Tryd.prog 10 #[.int .i64 1] W fun e w' => e = .returned (.int .i64 31) ∧ W = w') := fun W hW => last_any 1 W hW
  have HL9 : Hid (∀ W, Glob W → Calls Tryd.prog 10 #[.int .i64 9] W fun e w' => e = .returned (.int .i64 (-1)) ∧ W = w') := fun W hW => last_any 9 W hW
  clear hgl
  go_enter Tryd.func7, Tryd.ntmps7
  go_wp2_with (first
    | (go_at_call 12; refine (HOF.out _ HG.out).mono ?_; rintro e' w1 ⟨rfl, rfl⟩)
    | (go_at_call 8; refine (HCO.out _ HG.out).mono ?_; rintro e' w2 ⟨rfl, hB2⟩; have HB2 := Lib.hid hB2; have HG2 := Lib.hid (HG.out.below hB2 hw3); clear hB2)
    | (go_at_call 10; (first | refine (HL1.out _ HG2.out).mono ?_ | refine (HL9.out _ HG2.out).mono ?_); rintro e' w3 ⟨rfl, rfl⟩))
  go_ret
  exact ⟨rfl, HB2.out⟩
end Go.Proofs.YtcekhmomilhmoaaDoor
