
/- The contracts of the program's readers: readLog, readPart, readRow. -/
import Derived.Test.YtchpaeelpaicbaaNormNum
import Derived.Deep.LoopGhost
import Derived.Deep.CutRange
import Derived.Deep.DeepCutAuto
import Derived.Outline
namespace Go.Proofs.Ytchpaeelpaicbaa
open Go.RowKit

theorem fread_rd (xs : List UInt8) (a n : Nat) (h : n ≤ 32) : fread xs a (n : Int) = match rd (bitsOf xs) a n with | none => (0, 10, a) | some x => (x, 0, a + n) := by
  unfold fread rd
  rw [if_neg (by omega), bitsOf_length]
  by_cases c : a + n ≤ 8 * xs.length
  · rw [if_neg (by omega), if_pos c]
    rfl
  · rw [if_pos (by omega), if_neg c]
theorem fread_some {xs : List UInt8} {a n x : Nat} (h : n ≤ 32) (hr : rd (bitsOf xs) a n = some x) : fread xs a (n : Int) = (x, 0, a + n) := by rw [fread_rd xs a n h, hr]
theorem fread_none {xs : List UInt8} {a n : Nat} (h : n ≤ 32) (hr : rd (bitsOf xs) a n = none) : fread xs a (n : Int) = (0, 10, a) := by rw [fread_rd xs a n h, hr]

theorem Stp.trans {w w' w'' : World} {g : Nat} (h : Stp w w' g) (h' : Stp w' w'' g) : Stp w w'' g :=
  ⟨⟨h'.1.os.trans h.1.os, h'.1.tape.trans h.1.tape, h'.1.output.trans h.1.output, by rw [h'.2, h.2]; exact Nat.le_refl _, fun k hk hg => (h'.1.block k (by rw [h.2]; exact hk) hg).trans (h.1.block k hk hg)⟩, h'.2.trans h.2⟩
end Go.Proofs.Ytchpaeelpaicbaa
