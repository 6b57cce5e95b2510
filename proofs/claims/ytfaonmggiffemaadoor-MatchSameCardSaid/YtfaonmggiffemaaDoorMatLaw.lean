
/- What the laws share: Find wherever it may answer; the document's Plan in whatever world that has drawn; bytes of a string. -/
import Derived.Test.YtfaonmggiffemaaDoorMatArgs
import Derived.Test.YtfaonmggiffemaaDoorMatAwake
namespace Go.Proofs.YtfaonmggiffemaaDoor
open Go.RowKit

theorem find_ok {w : World} {lo hi : Nat} {A : Option Addr} {n c : Nat} {xs : List UInt8} (hgl : Glob w) (hd : Dat false w lo hi A xs) (hn : xs.length = n) (hc : n ≤ c) (hm : n ≤ 262144) (hhi : hi ≤ w.heap.size) (fr t k : Nat) (h1 : fr ≤ t) (h2 : t ≤ n) (hk : k ≤ 9) :
    Calls Tryd.prog 8 #[.slice A n c, .int .i64 (fr : Int), .int .i64 (t : Int), .int .i64 (k : Int)] w (FPost xs fr t k w) := by
  by_cases h : k = 0
  · subst h
    exact find_nil A xs n c fr t w hm h1 h2
  · exact find_plan hgl hd hn hc hm hhi fr t k h1 h2 (by omega) (by omega)
/-- The document's Plan, of sequences of the call's own. -/
theorem ref_ok {w : World} {base : Nat} {A : Option Addr} {m c : Nat} {L : List MSq} {xs : List UInt8} {n fr q b : Nat} (ho : OwR 3 MSq.cells w 45 base (.slice A m c) L) (hn : n ≤ xs.length) (hx : xs.length ≤ 1000000) (hm : MkP xs n fr L q) (hq : q + b = n) (hfr : fr ≤ n) (z : Nat) :
    Calls Tryd.prog 9 #[.string (str xs), .int .i64 (fr : Int), .int .i64 (n : Int), .slice A m c, .int .i64 (b : Int)] (w.drewN z) fun e w' => e = .returned (.bool true) ∧ ∃ z, w' = w.drewN z := by
  refine (refPlan_any (w := w.drewN z) (c := c) (ho.drawn z |>.dat mcells_len) ho.len hn hx hm hq hfr).mono ?_
  rintro e w' ⟨rfl, y, rfl⟩
  exact ⟨rfl, z + y, by simp⟩
theorem MkP.take {xs : List UInt8} {n a : Nat} {L : List MSq} {b : Nat} (h : MkP xs n a L b) : MkP (xs.take n) n a L b := h.congr fun i hi => (take_getD xs n i hi).symm
end Go.Proofs.YtfaonmggiffemaaDoor
