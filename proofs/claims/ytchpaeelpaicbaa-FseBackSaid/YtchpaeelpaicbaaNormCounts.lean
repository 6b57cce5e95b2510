
/- An argument of type Counts, by value. -/
import Derived.Test.YtchpaeelpaicbaaNormArgs
import Derived.Lib.SmallJoins
namespace Go.Proofs.Ytchpaeelpaicbaa
open Go.ChangeShapes Go.WideShapes Go.ChangeAt Go.RowKit

set_option maxRecDepth 100000 in
theorem counts_of {H : Type} {enc : TypeId × Value → H} {W : World} {v : Value} {d : DataW H} {p : List MemPlace}
    (hv : Value.okWide Try.prog W .any 0 24 v) (h : DataW.Trod enc Try.prog W 0 (fun _ => true) true 24 v d p) :
    ∃ (l : Int) (a : Option Addr) (ns : List Int) (cap : Nat), v = .agg #[.int .i64 l, .slice a ns.length cap] ∧ (-9223372036854775808 ≤ l ∧ l ≤ 9223372036854775807) ∧ ns.length ≤ cap ∧ cap ≤ maxLen ∧ DatE icel W 0 W.heap.size a ns ∧ ∀ n ∈ ns, -9223372036854775808 ≤ n ∧ n ≤ 9223372036854775807 := by
  obtain ⟨v0, v1, y0, y1, m, rfl, rfl, rfl, h0, h1⟩ := Joins.open_agg2 Try.underlying24 (by kernel_rfl) (by kernel_rfl) hv h
  obtain ⟨l, g0, _, w0⟩ := DataW.trod_int Try.underlying3 (x := y0) h0
  injection g0 with g0
  subst g0
  have hform : ∃ a len cap, v1 = .slice a len cap := by
    rcases open_ints Try.underlying22 Try.underlying3 (by kernel_rfl) h1 with ⟨hcs, _⟩ | ⟨x, l', c, zs, hcs, _⟩
    · injection hcs with hcs
      exact ⟨_, _, _, hcs⟩
    · injection hcs with hcs
      exact ⟨_, _, _, hcs⟩
  obtain ⟨a, len, cap, rfl⟩ := hform
  obtain ⟨ns, hlen, hl, hm, hd, hb⟩ := ints_of_trod (enc := enc) (W := W) (a := a) (len := len) (cap := cap) (d := y1.1) (p := y1.2) ⟨m, by simpa [Value.cells] using h1⟩
  subst hlen
  exact ⟨l, a, ns, cap, rfl, int_bounds w0, hl, hm, hd, hb⟩
end Go.Proofs.Ytchpaeelpaicbaa
