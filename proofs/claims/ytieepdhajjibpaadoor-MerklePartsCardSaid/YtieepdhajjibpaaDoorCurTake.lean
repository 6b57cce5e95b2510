
/- The contract of the Reader's take: what is cut off, what is left, the first error, each as the plain function 'tk' of the bytes says; of nil: nothing. -/
import Derived.Test.YtieepdhajjibpaaDoorCurRead
namespace Go.Proofs.YtieepdhajjibpaaDoor
open Go.RowKit

/-- What is left, the error, what is cut off: of the bytes xs with the error e, where m bytes are asked for, which may be asked for or not. -/
def tk (xs : List UInt8) (e m : Int) (may : Bool) : List UInt8 × Int × List UInt8 :=
  if e ≠ 0 then (xs, e, []) else if may = false then (xs, 1, []) else if (xs.length : Int) < m then (xs, 10, []) else (xs.drop m.toNat, 0, xs.take m.toNat)

/-- A slice value that holds the bytes xs. -/
def Sl (own : Bool) (w : World) (lo hi : Nat) (v : Value) (xs : List UInt8) : Prop := ∃ A c, v = .slice A xs.length c ∧ xs.length ≤ c ∧ Dat own w lo hi A xs

/-- Only block g has turned, and none has come. -/
def Stp (w w' : World) (g : Nat) : Prop := w.grownBy w' (some g) ∧ w'.heap.size = w.heap.size

section
variable {own : Bool} {w w' w'' : World} {lo g : Nat} {xs : List UInt8} {e : Int}
theorem Stp.refl (w : World) (g : Nat) : Stp w w g := ⟨World.grownBy.refl w _, rfl⟩
theorem Stp.set (w : World) (g i : Nat) (u : Value) : Stp w (w.setCell ⟨g, i, none⟩ u) g :=
  ⟨⟨rfl, rfl, rfl, by simp [World.setCell], fun k _ hk => Below.heap_setCell w _ u k (fun h => hk (by rw [h]))⟩, by simp [World.setCell]⟩
end

theorem add_zero_map (A : Option Addr) : A.map (·.add 0) = A := by cases A <;> rfl

end Go.Proofs.YtieepdhajjibpaaDoor
