
/- The contracts of the program's small functions of layer 7: isState, reaches, One, and the model's modelOf; how entries lie in memory. -/
import Derived.Test.YtpdnmhnnngcbjaaDoorFseTab
import Derived.Test.YtpdnmhnnngcbjaaDoorRecs
import Derived.Test.YtpdnmhnnngcbjaaDoorNormTail
namespace Go.Proofs.YtpdnmhnnngcbjaaDoor
open Go.RowKit

def ecell (x : En) : List Value := [.int .u8 x.s, .int .i64 x.b, .int .i64 x.e]
def rcell (x : En) : List Value := [.int .i64 x.s, .int .i64 x.b, .int .i64 x.e]
theorem ecell_len : ∀ x, (ecell x).length = 3 := fun _ => rfl
theorem rcell_len : ∀ x, (rcell x).length = 3 := fun _ => rfl
theorem ecell_one : ∀ x, ∀ v ∈ ecell x, v.oneCell' = true := by
  intro x v hv
  simp [ecell] at hv
  rcases hv with rfl | rfl | rfl <;> rfl
theorem rcell_one : ∀ x, ∀ v ∈ rcell x, v.oneCell' = true := by
  intro x v hv
  simp [rcell] at hv
  rcases hv with rfl | rfl | rfl <;> rfl
theorem entry_info : (Tryd.prog.info? 41).map (fun i => (i.zero, i.size, i.bytes)) = some (some (.agg #[.int .u8 0, .int .i64 0, .int .i64 0]), 3, 24) := by kernel_rfl

/-- The three cells of an entry that is read. -/
theorem DatR.three {f : En → List Value} {w : World} {lo hi : Nat} {A : Option Addr} {es : List En} (hf : ∀ x, f x = ecell x ∨ f x = rcell x) (h : DatR 3 f w lo hi A es) (hx : 0 < es.length) :
    ∃ d o, A = some ⟨d, o, none⟩ ∧ lo ≤ d ∧ d < hi ∧ ∀ j (hj : j < es.length), w.cell? ⟨d, o + j * 3 + 1, none⟩ = some (.int .i64 es[j].b) ∧ w.cell? ⟨d, o + j * 3 + 2, none⟩ = some (.int .i64 es[j].e) := by
  obtain ⟨d, o, hA, h1, h2, hc⟩ := h hx
  refine ⟨d, o, hA, h1, h2, fun j hj => ⟨hc j hj 1 _ ?_, hc j hj 2 _ ?_⟩⟩
  · rcases hf es[j] with q | q <;> rw [q] <;> rfl
  · rcases hf es[j] with q | q <;> rw [q] <;> rfl
/-- The cells of the program's entries. -/
theorem DatR.ent {w : World} {lo hi : Nat} {A : Option Addr} {es : List En} (h : DatR 3 ecell w lo hi A es) (hx : 0 < es.length) :
    ∃ d o, A = some ⟨d, o, none⟩ ∧ lo ≤ d ∧ d < hi ∧ ∀ j (hj : j < es.length), w.cell? ⟨d, o + j * 3, none⟩ = some (.int .u8 es[j].s) ∧ w.cell? ⟨d, o + j * 3 + 1, none⟩ = some (.int .i64 es[j].b) ∧ w.cell? ⟨d, o + j * 3 + 2, none⟩ = some (.int .i64 es[j].e) := by
  obtain ⟨d, o, hA, h1, h2, hc⟩ := h hx
  exact ⟨d, o, hA, h1, h2, fun j hj => ⟨hc j hj 0 _ rfl, hc j hj 1 _ rfl, hc j hj 2 _ rfl⟩⟩
theorem DatR.ref {w : World} {lo hi : Nat} {A : Option Addr} {es : List En} (h : DatR 3 rcell w lo hi A es) (hx : 0 < es.length) :
    ∃ d o, A = some ⟨d, o, none⟩ ∧ lo ≤ d ∧ d < hi ∧ ∀ j (hj : j < es.length), w.cell? ⟨d, o + j * 3, none⟩ = some (.int .i64 es[j].s) ∧ w.cell? ⟨d, o + j * 3 + 1, none⟩ = some (.int .i64 es[j].b) ∧ w.cell? ⟨d, o + j * 3 + 2, none⟩ = some (.int .i64 es[j].e) := by
  obtain ⟨d, o, hA, h1, h2, hc⟩ := h hx
  exact ⟨d, o, hA, h1, h2, fun j hj => ⟨hc j hj 0 _ rfl, hc j hj 1 _ rfl, hc j hj 2 _ rfl⟩⟩

/-- An entry is stored. -/
theorem OwR.put3 {w : World} {u base d n c : Nat} {es : List En} (h : OwR 3 ecell w u base (.slice (some ⟨d, 0, none⟩) n c) es) (j : Nat) (hj : j < es.length) (x : En) :
    OwR 3 ecell (((w.setCell ⟨d, j * 3, none⟩ (.int .u8 x.s)).setCell ⟨d, j * 3 + 1, none⟩ (.int .i64 x.b)).setCell ⟨d, j * 3 + 2, none⟩ (.int .i64 x.e)) u base (.slice (some ⟨d, 0, none⟩) n c) (es.set j x) := by
  have h1 := h.put ecell_len j 0 hj (by decide) (.int .u8 x.s) ⟨x.s, es[j].b, es[j].e⟩ rfl
  have h2 := h1.put ecell_len j 1 (by simpa using hj) (by decide) (.int .i64 x.b) ⟨x.s, x.b, es[j].e⟩ (by simp [ecell])
  have h3 := h2.put ecell_len j 2 (by simpa using hj) (by decide) (.int .i64 x.e) ⟨x.s, x.b, x.e⟩ (by simp [ecell])
  rw [List.set_set, List.set_set] at h3
  exact h3
/-- The cells of an entry of the call's own. -/
theorem OwR.cells3 {w : World} {u base d n c : Nat} {es : List En} (h : OwR 3 ecell w u base (.slice (some ⟨d, 0, none⟩) n c) es) (j : Nat) (hj : j < es.length) :
    (w.cell? ⟨d, j * 3, none⟩ = some (.int .u8 es[j].s) ∧ w.cell? ⟨d, j * 3 + 1, none⟩ = some (.int .i64 es[j].b) ∧ w.cell? ⟨d, j * 3 + 2, none⟩ = some (.int .i64 es[j].e)) ∧
    w.frozen? ⟨d, j * 3, none⟩ = false ∧ w.frozen? ⟨d, j * 3 + 1, none⟩ = false ∧ w.frozen? ⟨d, j * 3 + 2, none⟩ = false := by
  have h0 := h.cellAt ecell_len j 0 hj (by decide) _ rfl
  have h1 := h.cellAt ecell_len j 1 hj (by decide) _ rfl
  have h2 := h.cellAt ecell_len j 2 hj (by decide) _ rfl
  exact ⟨⟨h0.1, h1.1, h2.1⟩, h0.2, h1.2, h2.2⟩

section
variable {w : World} {L : Int} {A : Option Addr} {n c : Nat}
end

/-- Is this state reached from the state of an entry? -/
def rchB (x : En) (st : Int) : Bool := decide (x.e ≤ st) && decide (st < x.e + 2 ^ x.b.toNat)
set_option maxRecDepth 100000 in
theorem one_any (sy : Int) (w : World) :
    Calls Tryd.prog 34 #[.int .u8 sy] w fun r w' => ∃ v, r = .returned (.agg #[.int .i64 0, v]) ∧ OwR 3 ecell w' 41 w.heap.size v [⟨sy, 0, 0⟩] ∧ Below w.heap.size w w' := by
  go_enter Tryd.func34, Tryd.ntmps34
  go_wp2_with fail
  refine bodyPost_ret (v := .agg #[.int .i64 0, .slice (some ⟨w.heap.size + 1, 0, none⟩) 1 1]) (by simp [results, Tryd.results34, go_sem]) rfl ⟨_, rfl, ?_, ?_⟩
  · refine ⟨rfl, .inr ⟨w.heap.size + 1, 1, #[.int .u8 sy, .int .i64 0, .int .i64 0], rfl, by omega, ?_, Nat.le_refl _, by decide, rfl, rfl⟩⟩
    have := heap_alloc_new (w.alloc (.cells #[.int .i64 0, .slice (some ⟨w.heap.size + 1, 0, none⟩) 1 1] 26)) (.cells #[.int .u8 sy, .int .i64 0, .int .i64 0] 41)
    rw [World.size_alloc] at this
    exact this
  · exact ((Below.refl _ _).alloc (Nat.le_refl _) _).alloc (by simp) _
end Go.Proofs.YtpdnmhnnngcbjaaDoor
