
/- The contracts of the program's small functions of layer 7: isState, reaches, One, and the model's modelOf; how entries lie in memory. -/
import Derived.Test.YtchpaeelpaicbaaFseTab
import Derived.Test.YtchpaeelpaicbaaRecs
import Derived.Test.YtchpaeelpaicbaaNormTail
namespace Go.Proofs.Ytchpaeelpaicbaa
open Go.RowKit

def ecell (x : En) : List Value := [.int .u8 x.s, .int .i64 x.b, .int .i64 x.e]
def rcell (x : En) : List Value := [.int .i64 x.s, .int .i64 x.b, .int .i64 x.e]
theorem ecell_len : ∀ x, (ecell x).length = 3 := fun _ => rfl
theorem rcell_len : ∀ x, (rcell x).length = 3 := fun _ => rfl
theorem ecell_one : ∀ x, ∀ v ∈ ecell x, v.oneCell' = true := by
  intro x v hv
  simp [ecell] at hv
  rcases hv with rfl | rfl | rfl <;> rfl
theorem rcell_one : ∀ x, ∀ v ∈ rcell x, v.oneCell' = true := by
  intro x v hv
  simp [rcell] at hv
  rcases hv with rfl | rfl | rfl <;> rfl
theorem entry_info : (Try.prog.info? 67).map (fun i => (i.zero, i.size, i.bytes)) = some (some (.agg #[.int .u8 0, .int .i64 0, .int .i64 0]), 3, 24) := by kernel_rfl

/-- The three cells of an entry that is read. -/
theorem DatR.three {f : En → List Value} {w : World} {lo hi : Nat} {A : Option Addr} {es : List En} (hf : ∀ x, f x = ecell x ∨ f x = rcell x) (h : DatR 3 f w lo hi A es) (hx : 0 < es.length) :
    ∃ d o, A = some ⟨d, o, none⟩ ∧ lo ≤ d ∧ d < hi ∧ ∀ j (hj : j < es.length), w.cell? ⟨d, o + j * 3 + 1, none⟩ = some (.int .i64 es[j].b) ∧ w.cell? ⟨d, o + j * 3 + 2, none⟩ = some (.int .i64 es[j].e) := by
  obtain ⟨d, o, hA, h1, h2, hc⟩ := h hx
  refine ⟨d, o, hA, h1, h2, fun j hj => ⟨hc j hj 1 _ ?_, hc j hj 2 _ ?_⟩⟩
  · rcases hf es[j] with q | q <;> rw [q] <;> rfl
  · rcases hf es[j] with q | q <;> rw [q] <;> rfl
/-- The cells of the program's entries. -/
theorem DatR.ent {w : World} {lo hi : Nat} {A : Option Addr} {es : List En} (h : DatR 3 ecell w lo hi A es) (hx : 0 < es.length) :
    ∃ d o, A = some ⟨d, o, none⟩ ∧ lo ≤ d ∧ d < hi ∧ ∀ j (hj : j < es.length), w.cell? ⟨d, o + j * 3, none⟩ = some (.int .u8 es[j].s) ∧ w.cell? ⟨d, o + j * 3 + 1, none⟩ = some (.int .i64 es[j].b) ∧ w.cell? ⟨d, o + j * 3 + 2, none⟩ = some (.int .i64 es[j].e) := by
  obtain ⟨d, o, hA, h1, h2, hc⟩ := h hx
  exact ⟨d, o, hA, h1, h2, fun j hj => ⟨hc j hj 0 _ rfl, hc j hj 1 _ rfl, hc j hj 2 _ rfl⟩⟩
theorem DatR.ref {w : World} {lo hi : Nat} {A : Option Addr} {es : List En} (h : DatR 3 rcell w lo hi A es) (hx : 0 < es.length) :
    ∃ d o, A = some ⟨d, o, none⟩ ∧ lo ≤ d ∧ d < hi ∧ ∀ j (hj : j < es.length), w.cell? ⟨d, o + j * 3, none⟩ = some (.int .i64 es[j].s) ∧ w.cell? ⟨d, o + j * 3 + 1, none⟩ = some (.int .i64 es[j].b) ∧ w.cell? ⟨d, o + j * 3 + 2, none⟩ = some (.int .i64 es[j].e) := by
  obtain ⟨d, o, hA, h1, h2, hc⟩ := h hx
  exact ⟨d, o, hA, h1, h2, fun j hj => ⟨hc j hj 0 _ rfl, hc j hj 1 _ rfl, hc j hj 2 _ rfl⟩⟩

/-- An entry is stored. -/
theorem OwR.put3 {w : World} {u base d n c : Nat} {es : List En} (h : OwR 3 ecell w u base (.slice (some ⟨d, 0, none⟩) n c) es) (j : Nat) (hj : j < es.length) (x : En) :
    OwR 3 ecell (((w.setCell ⟨d, j * 3, none⟩ (.int .u8 x.s)).setCell ⟨d, j * 3 + 1, none⟩ (.int .i64 x.b)).setCell ⟨d, j * 3 + 2, none⟩ (.int .i64 x.e)) u base (.slice (some ⟨d, 0, none⟩) n c) (es.set j x) := by
  have h1 := h.put ecell_len j 0 hj (by decide) (.int .u8 x.s) ⟨x.s, es[j].b, es[j].e⟩ rfl
  have h2 := h1.put ecell_len j 1 (by simpa using hj) (by decide) (.int .i64 x.b) ⟨x.s, x.b, es[j].e⟩ (by simp [ecell])
  have h3 := h2.put ecell_len j 2 (by simpa using hj) (by decide) (.int .i64 x.e) ⟨x.s, x.b, x.e⟩ (by simp [ecell])
  rw [List.set_set, List.set_set] at h3
  exact h3
/-- The cells of an entry of the call's own. -/
theorem OwR.cells3 {w : World} {u base d n c : Nat} {es : List En} (h : OwR 3 ecell w u base (.slice (some ⟨d, 0, none⟩) n c) es) (j : Nat) (hj : j < es.length) :
    (w.cell? ⟨d, j * 3, none⟩ = some (.int .u8 es[j].s) ∧ w.cell? ⟨d, j * 3 + 1, none⟩ = some (.int .i64 es[j].b) ∧ w.cell? ⟨d, j * 3 + 2, none⟩ = some (.int .i64 es[j].e)) ∧
    w.frozen? ⟨d, j * 3, none⟩ = false ∧ w.frozen? ⟨d, j * 3 + 1, none⟩ = false ∧ w.frozen? ⟨d, j * 3 + 2, none⟩ = false := by
  have h0 := h.cellAt ecell_len j 0 hj (by decide) _ rfl
  have h1 := h.cellAt ecell_len j 1 hj (by decide) _ rfl
  have h2 := h.cellAt ecell_len j 2 hj (by decide) _ rfl
  exact ⟨⟨h0.1, h1.1, h2.1⟩, h0.2, h1.2, h2.2⟩

section
variable {w : World} {L : Int} {A : Option Addr} {n c : Nat}
theorem isState_yes (s : Nat) (hs : s < n) :
    Calls Try.prog 39 #[.agg #[.int .i64 L, .slice A n c], .int .i64 (s : Int)] w fun e w' => e = .returned (.bool true) ∧ Below w.heap.size w w' := by
  have h1 : (s : Int) < (n : Int) := by omega
  go_enter Try.func39, Try.ntmps39
  go_wp2_with fail
  go_ret
  exact ⟨rfl, (Below.refl _ _).alloc (Nat.le_refl _) _⟩
theorem isState_no (s : Int) (hs : s < 0 ∨ n ≤ s) (hn : n ≤ maxLen) :
    Calls Try.prog 39 #[.agg #[.int .i64 L, .slice A n c], .int .i64 s] w fun e w' => e = .returned (.bool false) ∧ Below w.heap.size w w' := by
  unfold maxLen at hn
  rcases hs with h | h
  · have h0 : decide (0 ≤ s) = false := by simp; omega
    go_enter Try.func39, Try.ntmps39
    go_wp2_with fail
    go_ret
    exact ⟨rfl, (Below.refl _ _).alloc (Nat.le_refl _) _⟩
  · have h0 : 0 ≤ s := by omega
    have h1 : decide (s < (n : Int)) = false := by simp; omega
    go_enter Try.func39, Try.ntmps39
    go_wp2_with fail
    go_ret
    exact ⟨rfl, (Below.refl _ _).alloc (Nat.le_refl _) _⟩
end

/-- Is this state reached from the state of an entry? -/
def rchB (x : En) (st : Int) : Bool := decide (x.e ≤ st) && decide (st < x.e + 2 ^ x.b.toNat)
theorem reaches_any (sy : Int) (b e st : Nat) (w : World) (hb : b ≤ 15) (he : e ≤ 65536) (hs : st ≤ 65536) :
    Calls Try.prog 40 #[.agg #[.int .u8 sy, .int .i64 (b : Int), .int .i64 (e : Int)], .int .i64 (st : Int)] w fun r w' => r = .returned (.bool (rchB ⟨sy, b, e⟩ st)) ∧ Below w.heap.size w w' := by
  have hpow : (2 : Int) ^ b = ((2 ^ b : Nat) : Int) := by simp
  have hp : 0 < 2 ^ b := Nat.two_pow_pos _
  have hp2 : 2 ^ b ≤ 2 ^ 15 := Nat.pow_le_pow_right (by omega) hb
  unfold rchB
  simp only [show ((b : Nat) : Int).toNat = b by omega, hpow]
  by_cases h1 : e ≤ st
  · have h1i : (e : Int) ≤ (st : Int) := by omega
    by_cases h2 : st < e + 2 ^ b
    · have h2i : (st : Int) < (e : Int) + ((2 ^ b : Nat) : Int) := by omega
      rw [decide_eq_true h1i, decide_eq_true h2i]
      have hz : ((st : Int) - (e : Int)) / ((2 ^ b : Nat) : Int) = 0 := Int.ediv_eq_zero_of_lt (by omega) (by omega)
      have hz2 : ((st : Int) - (e : Int)) / 2 ^ b = 0 := by rw [hpow]; exact hz
      clear hz h2i hp2 hp
      have HP := Lib.hid hpow
      clear hpow
      go_enter Try.func40, Try.ntmps40
      go_wp2_with fail
      go_ret
      exact ⟨rfl, (Below.refl _ _).alloc (Nat.le_refl _) _⟩
    · have h2i : ¬ (st : Int) < (e : Int) + ((2 ^ b : Nat) : Int) := by omega
      rw [decide_eq_true h1i, decide_eq_false h2i]
      have hz : ((st : Int) - (e : Int)) / 2 ^ b ≠ 0 := by
        rw [hpow]
        have : 1 ≤ ((st : Int) - (e : Int)) / ((2 ^ b : Nat) : Int) := (Int.le_ediv_iff_mul_le (by omega)).2 (by omega)
        omega
      have hz2 : (((st : Int) - (e : Int)) / 2 ^ b == 0) = false := by rw [beq_eq_false_iff_ne]; exact hz
      clear hz h2i hp2 hp
      have HP := Lib.hid hpow
      clear hpow
      go_enter Try.func40, Try.ntmps40
      go_wp2_with fail
      go_ret
      exact ⟨rfl, (Below.refl _ _).alloc (Nat.le_refl _) _⟩
  · have h1i : ¬ (e : Int) ≤ (st : Int) := by omega
    rw [decide_eq_false h1i]
    have h1b : decide ((e : Int) ≤ (st : Int)) = false := by simp; omega
    clear hp2 hp hpow
    go_enter Try.func40, Try.ntmps40
    go_wp2_with fail
    go_ret
    exact ⟨rfl, (Below.refl _ _).alloc (Nat.le_refl _) _⟩

set_option maxRecDepth 100000 in
theorem one_any (sy : Int) (w : World) :
    Calls Try.prog 13 #[.int .u8 sy] w fun r w' => ∃ v, r = .returned (.agg #[.int .i64 0, v]) ∧ OwR 3 ecell w' 67 w.heap.size v [⟨sy, 0, 0⟩] ∧ Below w.heap.size w w' := by
  go_enter Try.func13, Try.ntmps13
  go_wp2_with fail
  refine bodyPost_ret (v := .agg #[.int .i64 0, .slice (some ⟨w.heap.size + 1, 0, none⟩) 1 1]) (by simp [results, Try.results13, go_sem]) rfl ⟨_, rfl, ?_, ?_⟩
  · refine ⟨rfl, .inr ⟨w.heap.size + 1, 1, #[.int .u8 sy, .int .i64 0, .int .i64 0], rfl, by omega, ?_, Nat.le_refl _, by decide, rfl, rfl⟩⟩
    have := heap_alloc_new (w.alloc (.cells #[.int .i64 0, .slice (some ⟨w.heap.size + 1, 0, none⟩) 1 1] 28)) (.cells #[.int .u8 sy, .int .i64 0, .int .i64 0] 67)
    rw [World.size_alloc] at this
    exact this
  · exact ((Below.refl _ _).alloc (Nat.le_refl _) _).alloc (by simp) _
theorem modelOf7_any (l : Int) (A : Option Addr) (n c : Nat) (w : World) :
    Calls Try.prog 11 #[.agg #[.int .i64 l, .slice A n c]] w fun e w' => e = .returned (.agg #[.int .i64 l, .slice A n c]) ∧ Below w.heap.size w w' := by
  go_enter Try.func11, Try.ntmps11
  go_wp2_with fail
  refine bodyPost_ret (v := .agg #[.int .i64 l, .slice A n c]) (by simp [results, Try.results11, go_sem]) rfl ⟨rfl, ?_⟩
  repeat (first | exact Below.refl _ _ | refine Below.alloc ?_ (by simp) _ | refine Below.setCell ?_ (by simp) _)
end Go.Proofs.Ytchpaeelpaicbaa
