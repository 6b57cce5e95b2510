
/- A variable that is an array: laid by one law, with its cells under a name of one's own; an array of ints that counts. Nothing of the program is named here. -/
import Derived.Test.YtpdnmhnnngcbjaaDoorShaRow
namespace Go.Proofs.YtpdnmhnnngcbjaaDoor
open Go.RowKit

section
variable {P : Program}
theorem wpList_alloc_z {ops : Array Oper} {rest : List Oper} {o : Oper} {a : Act} {w : World} {Q : Exit → Act → World → Prop} (hgd : o.guard = none) (t : TypeId) (ho : o.op = .alloc t) (cs : Array Value) (hz : (P.info? t).map (·.zero) = some (some (.agg cs)))
    (h : wpList P ops Q rest (a.put o.dst (.pointer (some ⟨w.heap.size, 0, none⟩))) (w.alloc (.cells cs t))) : wpList P ops Q (o :: rest) a w :=
  wpList_plain hgd fun _ hK => by
    have hz' := run_zero_of (P := P) hz w
    unfold Oper.wp execOp
    simp only [ho, Instr.alloc, Sem.run_bind, hz', Result.andThen_ok]
    exact hK _ _ h
end

/-- An array of 256 ints. -/
def arr (g : Nat → Nat) : Array Value := ((List.range 256).map fun s => Value.int .i64 (g s : Int)).toArray
theorem arr_get (g : Nat → Nat) (s : Nat) (h : s < 256) : (arr g)[s]? = some (.int .i64 (g s : Int)) := by simp [arr, h]
theorem arr_set (g : Nat → Nat) (s x : Nat) : (arr g).setIfInBounds s (.int .i64 (x : Int)) = arr (fun i => if i = s then x else g i) := by
  apply Array.ext'
  unfold arr
  simp only [List.setIfInBounds_toArray]
  apply List.ext_getElem
  · simp
  intro j h1 h2
  rw [List.getElem_set]
  simp only [List.getElem_map, List.getElem_range]
  by_cases hj : s = j
  · subst hj; simp
  · rw [if_neg hj, if_neg (fun e => hj e.symm)]
theorem arr_congr {g h : Nat → Nat} (e : ∀ s, s < 256 → g s = h s) : arr g = arr h := by
  unfold arr
  congr 1
  refine List.map_congr_left fun s hs => ?_
  rw [e s (List.mem_range.1 hs)]
end Go.Proofs.YtpdnmhnnngcbjaaDoor
