
/- The contracts of the program's readParts and Read. -/
import Derived.Test.YtchpaeelpaicbaaNormRd
import Derived.Test.YtchpaeelpaicbaaBitWr
import Derived.Test.YtchpaeelpaicbaaAppZ
import Derived.Test.YtchpaeelpaicbaaArgsInts
namespace Go.Proofs.Ytchpaeelpaicbaa
open Go.RowKit

theorem icel_one : ∀ n : Int, (icel n).oneCell' = true := fun _ => rfl
theorem int_info : (Try.prog.info? 3).map (fun i => (i.zero, i.size, i.bytes)) = some (some (.int .i64 0), 1, 8) := by kernel_rfl

theorem Foot.own {w wx w1 : World} {g : Nat} {row : Option Nat} (h : Foot w wx g none) (hg : wx.grownBy w1 row) (hr : ∀ k, row = some k → w.heap.size ≤ k) : Foot w w1 g none :=
  ⟨hg.os.trans h.os, hg.tape.trans h.tape, hg.output.trans h.output, Nat.le_trans h.size hg.size, fun k hk hkg _ =>
    (hg.block k (by have := h.size; omega) (by intro e; have := hr k e.symm; omega)).trans (h.block k hk hkg (by simp))⟩
theorem Foot.alloc {w wx : World} {g : Nat} (h : Foot w wx g none) (o : Obj) : Foot w (wx.alloc o) g none :=
  ⟨h.os, h.tape, h.output, by have := h.size; simp; omega, fun k hk hkg hr => (Below.heap_alloc wx o k (by have := h.size; omega)).trans (h.block k hk hkg hr)⟩
theorem Foot.stp' {w wx w1 : World} {g : Nat} (h : Foot w wx g none) (hs : Stp wx w1 g) : Foot w w1 g none := h.trans (Near.refl _ _) (Foot.stp hs)
theorem wi_wv {v left : Nat} (hl : 0 < left) (hv : v ≤ left + 1) : (left : Int) - wi ((v : Int) - 1) = ((left - wv v : Nat) : Int) ∧ 0 ≤ wi ((v : Int) - 1) ∧ wi ((v : Int) - 1) ≤ left := by
  unfold wi wv
  by_cases h : v = 0
  · rw [if_pos (show ((v : Int) - 1 = -1) by omega), if_pos h]
    omega
  · rw [if_neg (show ¬ ((v : Int) - 1 = -1) by omega), if_neg h]
    omega

theorem box2 {w : World} {b : Nat} {t : TypeId} {x y : Value} (h : Box w b t #[x, y]) :
    w.cell? ⟨b, 0, none⟩ = some x ∧ w.cell? ⟨b, 1, none⟩ = some y ∧ w.frozen? ⟨b, 0, none⟩ = false ∧ w.frozen? ⟨b, 1, none⟩ = false := ⟨h.cell 0, h.cell 1, h.free 0, h.free 1⟩
theorem Box.foot {w w' : World} {b g : Nat} {t : TypeId} {cs : Array Value} (h : Box w b t cs) (hF : Foot w w' g none) (hne : b ≠ g) : Box w' b t cs := h.keep (hF.block b h.lt hne (by simp))

/-- What Read answers. -/
def ReadPost (R : Except Int (Nat × List Int × Nat)) (w : World) (e : Ending) (w' : World) : Prop :=
  Below w.heap.size w w' ∧ match R with
    | .ok (log, ps, a) => ∃ v, e = .returned (.tuple #[.agg #[.int .i64 (log : Int), v], .int .i64 ((a + 7) / 8 : Nat), .int .i64 0]) ∧ OwE icel w' 3 w.heap.size v ps
    | .error er => e = .returned (.tuple #[.agg #[.int .i64 0, .slice none 0 0], .int .i64 0, .int .i64 er])

end Go.Proofs.Ytchpaeelpaicbaa
