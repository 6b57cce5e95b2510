
/- The contracts of the program's Forward: each method at any one, and of nil. -/
import Derived.Test.YtchpaeelpaicbaaBitNum
import Derived.Test.YtchpaeelpaicbaaXxhCells
import Derived.Deep.QuietTactic
import Derived.BigQuiet
import Derived.StillTailTactics
namespace Go.Proofs.Ytchpaeelpaicbaa
open Go.RowKit

/-- What a Forward at bit 'at' of the bytes xs reads: the number, the error, where it stands then. -/
def fread (xs : List UInt8) (at_ : Nat) (n : Int) : Nat × Int × Nat :=
  if n < 0 ∨ 32 < n then (0, 1, at_) else if (8 * xs.length : Int) - at_ < n then (0, 10, at_) else (num (((bitsOf xs).drop at_).take n.toNat), 0, at_ + n.toNat)
/-- Where it stands when n bits were given back. -/
def fback (at_ : Nat) (n : Int) : Nat := if n < 0 then at_ else at_ - n.toNat

/-- Only block g has turned, and none has come. -/
def Stp (w w' : World) (g : Nat) : Prop := w.grownBy w' (some g) ∧ w'.heap.size = w.heap.size
theorem Stp.refl (w : World) (g : Nat) : Stp w w g := ⟨World.grownBy.refl w _, rfl⟩
theorem Stp.set (w : World) (g i : Nat) (u : Value) : Stp w (w.setCell ⟨g, i, none⟩ u) g :=
  ⟨⟨rfl, rfl, rfl, by simp [World.setCell], fun k _ hk => Below.heap_setCell w _ u k (fun h => hk (by rw [h]))⟩, by simp [World.setCell]⟩
theorem Stp.drawn {w w' : World} {g : Nat} (n : Nat) (h : Stp (w.drewN n) w' g) : Stp w w' g := ⟨⟨h.1.os, h.1.tape, h.1.output, h.1.size, h.1.block⟩, h.2⟩
theorem Stp.below {w w' : World} {g B : Nat} (h : Stp w w' g) (hB : B ≤ w.heap.size) (hg : B ≤ g) : Below B w w' := (Below.refl _ _).grown h.1 hB (by intro k hk; injection hk with hk; omega)

section
variable {w w' : World} {lo g at_ : Nat} {xs : List UInt8}
end

end Go.Proofs.Ytchpaeelpaicbaa
