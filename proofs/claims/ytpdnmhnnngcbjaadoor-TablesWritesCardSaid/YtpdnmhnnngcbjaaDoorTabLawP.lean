
/- What the law TablesWrites needs: what the document reads of a way that was chosen. -/
import Derived.Test.YtpdnmhnnngcbjaaDoorTabRefD
import Derived.Test.YtpdnmhnnngcbjaaDoorTabOf
namespace Go.Proofs.YtpdnmhnnngcbjaaDoor
open Go.RowKit

theorem fine_one {s : Nat} (hs : s < 53) : Fine [⟨(s : Int), 0, 0⟩] := fun i hi => by
  obtain rfl : i = 0 := by simpa using hi
  exact ⟨s, 0, 0, rfl, by omega, by omega, by decide⟩
/-- What the document reads of a chosen way's bytes. -/
def R12Post (n : Nat) (x : Wy) (es : List En) (S : ByteArray) : Prop :=
  ∀ W, Calls Tryd.prog 9 #[.int .i64 (n : Int), .int .i64 x.mode, .string S, .agg #[.int .i64 0, .slice none 0 0]] W fun e w' => ∃ v, e = .returned (.tuple #[.agg #[.int .i64 x.log, v], .int .i64 (x.tn : Int), .int .i64 0]) ∧ OwR 3 rcell w' 68 W.heap.size v es ∧ Below W.heap.size W w'
theorem r12_ok {n : Nat} {l : List Int} {w : World} {x : Wy} {es : List En} (hn : n < 3) (h : WrOk n l w x es) :
    ∃ own bs, Dat own w 0 w.heap.size x.t bs ∧ bs.length = x.tn ∧ R12Post n x es (str bs) ∧ Fine es ∧ 0 < es.length ∧ x.mode ≠ 3 ∧ ((∀ y ∈ l, y = l.getD 0 0) → x.tn ≤ 1) := by
  have hla := last_le n hn
  rcases h.how with ⟨h1, h2, h3, h4, s, h5, h6, h7⟩ | ⟨hg, hns⟩
  · refine ⟨false, [UInt8.ofNat s], h7, h3.symm, fun W => ?_, by rw [h6]; exact fine_one (by omega), by rw [h6]; exact Nat.one_pos, by rw [h1]; decide, fun _ => by omega⟩
    rw [h1, h2, h3, h6]
    exact r12_single n s _ W hn rfl h5
  · rcases hg with ⟨h1, h2, h3, h4, h5, h6⟩ | ⟨h1, lg, ps, h2, h3, h4, h5, h6, h7, h8, h9⟩
    · have h3' : es = tabG n := h3
      have h4' : x.tn = 0 := h4
      have h5' : x.t = none := h5
      refine ⟨true, [], by rw [h5']; exact Dat.nil _ _ _ _ _, h4'.symm, fun W => ?_, by rw [h3']; exact tab_fine (givenF hn), by rw [h3', tabG_len hn]; exact Nat.two_pow_pos _, by rw [show x.mode = 0 from h1]; decide, fun q => absurd q hns⟩
      rw [show x.mode = 0 from h1, show x.log = (logN n : Int) from h2, h4', h3']
      exact r12_given n _ W hn
    · have h6' : es = tab lg ps := h6
      have h7' : x.tn = (bytesOf (wrC lg ps)).length := h7
      refine ⟨true, bytesOf (wrC lg ps), h9, h7'.symm, fun W => ?_, by rw [h6']; exact tab_fine (mayF h2), by rw [h6', tab_length (mayF h2)]; exact Nat.two_pow_pos _, by rw [show x.mode = 2 from h1]; decide, fun q => absurd q hns⟩
      rw [show x.mode = 2 from h1, show x.log = (lg : Int) from h3, h7', h6']
      exact r12_told n lg ps _ W hn rfl h2 h4 h5

/-- May the first i be codes, where there are N; are the first i all as the first one? -/
def mayFN (N : Nat) (l : List Int) (i : Nat) : Bool := decide (0 < N) && decide (0 < l.length) && (l.take i).all fun x => decide (0 ≤ x) && decide (x < (N : Int))
def oneF (l : List Int) (i : Nat) : Bool := (l.take i).all fun x => decide (x = l.getD 0 0)
end Go.Proofs.YtpdnmhnnngcbjaaDoor
