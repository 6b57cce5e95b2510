
/- Lists of bundles: in order; alike but for the order of those that are not as often; turning two parts round. No program here. -/
import Derived.Test.YtafdfjacfodbnaaWtRow
namespace Go.Proofs.Ytafdfjacfodbnaa

/-- By rising number. -/
def Srt (xs : List Pk) : Prop := xs.Pairwise fun x y => x.n ≤ y.n
/-- Those of each number are the same, in the same order. -/
def Alike (xs ys : List Pk) : Prop := ∀ k : Nat, xs.filter (fun x => x.n == k) = ys.filter (fun x => x.n == k)

theorem Alike.refl (xs : List Pk) : Alike xs xs := fun _ => rfl
theorem Alike.symm {xs ys : List Pk} (h : Alike xs ys) : Alike ys xs := fun k => (h k).symm
theorem Alike.trans {xs ys zs : List Pk} (h : Alike xs ys) (h' : Alike ys zs) : Alike xs zs := fun k => (h k).trans (h' k)
theorem Alike.append {a b c d : List Pk} (h : Alike a b) (h' : Alike c d) : Alike (a ++ c) (b ++ d) := fun k => by
  rw [List.filter_append, List.filter_append, h k, h' k]
theorem Alike.mem {xs ys : List Pk} (h : Alike xs ys) {x : Pk} (hx : x ∈ xs) : x ∈ ys := by
  have h1 : x ∈ xs.filter (fun z => z.n == x.n) := List.mem_filter.2 ⟨hx, by simp⟩
  rw [h x.n] at h1
  exact (List.mem_filter.1 h1).1
theorem Alike.turn {u v : List Pk} (h : ∀ x ∈ u, ∀ y ∈ v, y.n < x.n) : Alike (u ++ v) (v ++ u) := fun k => by
  rw [List.filter_append, List.filter_append]
  by_cases hu : ∃ x ∈ u, x.n = k
  · obtain ⟨x, hx, hk⟩ := hu
    have hv : v.filter (fun z => z.n == k) = [] := by
      rw [List.filter_eq_nil_iff]
      intro y hy he
      have := h x hx y hy
      have he' : y.n = k := by simpa using he
      omega
    rw [hv, List.append_nil, List.nil_append]
  · have hu' : u.filter (fun z => z.n == k) = [] := by
      rw [List.filter_eq_nil_iff]
      intro y hy he
      exact hu ⟨y, hy, by simpa using he⟩
    rw [hu', List.append_nil, List.nil_append]

theorem Srt.append {a b : List Pk} (ha : Srt a) (hb : Srt b) (h : ∀ x ∈ a, ∀ y ∈ b, x.n ≤ y.n) : Srt (a ++ b) := List.pairwise_append.2 ⟨ha, hb, h⟩
theorem Srt.left {a b : List Pk} (h : Srt (a ++ b)) : Srt a := (List.pairwise_append.1 h).1
theorem Srt.right {a b : List Pk} (h : Srt (a ++ b)) : Srt b := (List.pairwise_append.1 h).2.1
theorem Srt.cross {a b : List Pk} (h : Srt (a ++ b)) : ∀ x ∈ a, ∀ y ∈ b, x.n ≤ y.n := (List.pairwise_append.1 h).2.2
theorem srt_nil : Srt [] := List.Pairwise.nil
theorem srt_one (x : Pk) : Srt [x] := List.pairwise_singleton _ _
theorem Srt.get {a : List Pk} (h : Srt a) {i j : Nat} (hij : i ≤ j) (hj : j < a.length) : a[i]!.n ≤ a[j]!.n := by
  rw [getElem!_pos a i (by omega), getElem!_pos a j hj]
  rcases Nat.lt_or_ge i j with q | q
  · exact List.pairwise_iff_getElem.1 h i j (by omega) hj q
  · obtain rfl : i = j := by omega
    exact Nat.le_refl _
/-- Two lists that are in order, and alike, are the same. -/
theorem Srt.same : ∀ {xs ys : List Pk}, Srt xs → Srt ys → Alike xs ys → xs = ys
  | [], ys, _, _, h => by
    rcases ys with _ | ⟨y, r⟩
    · rfl
    · have := h.symm.mem (x := y) (by simp)
      simp at this
  | x :: r, [], _, _, h => by
    have := h.mem (x := x) (by simp)
    simp at this
  | x :: r, y :: t, hx, hy, h => by
    have hxy : x.n = y.n := by
      have h1 := h.mem (x := x) (by simp)
      have h2 := h.symm.mem (x := y) (by simp)
      have a1 : y.n ≤ x.n := by
        rcases List.mem_cons.1 h1 with rfl | q
        · exact Nat.le_refl _
        · exact (List.pairwise_cons.1 hy).1 _ q
      have a2 : x.n ≤ y.n := by
        rcases List.mem_cons.1 h2 with rfl | q
        · exact Nat.le_refl _
        · exact (List.pairwise_cons.1 hx).1 _ q
      omega
    have hk := h x.n
    rw [List.filter_cons, List.filter_cons, if_pos (by simp), if_pos (by simp [hxy])] at hk
    injection hk with e1 e2
    subst e1
    have hr : Alike r t := fun k => by
      have hk := h k
      rw [List.filter_cons, List.filter_cons] at hk
      by_cases hq : (x.n == k) = true
      · rw [if_pos hq, if_pos hq] at hk
        injection hk
      · rw [if_neg hq, if_neg hq] at hk
        exact hk
    rw [Srt.same (List.pairwise_cons.1 hx).2 (List.pairwise_cons.1 hy).2 hr]

theorem getI_left (p s : List Pk) (i : Nat) (h : i < p.length) : (p ++ s)[i]! = p[i]! := by
  rw [getElem!_pos _ i (by simp; omega), getElem!_pos p i h, List.getElem_append_left h]
theorem getI_right (p s : List Pk) (i : Nat) (h : p.length ≤ i) (h2 : i < p.length + s.length) : (p ++ s)[i]! = s[i - p.length]! := by
  rw [getElem!_pos _ i (by simp; omega), getElem!_pos s _ (by omega), List.getElem_append_right h]
theorem getI_take (s : List Pk) (k i : Nat) (h : i < k) (h2 : i < s.length) : (s.take k)[i]! = s[i]! := by
  rw [getElem!_pos _ i (by simp; omega), getElem!_pos s _ h2, List.getElem_take]
theorem mem_get {s : List Pk} {x : Pk} (h : x ∈ s) : ∃ i, i < s.length ∧ s[i]! = x := by
  obtain ⟨i, hi, e⟩ := List.getElem_of_mem h
  exact ⟨i, hi, by rw [getElem!_pos s i hi, e]⟩
theorem get_mem (s : List Pk) (i : Nat) (h : i < s.length) : s[i]! ∈ s := by
  rw [getElem!_pos s i h]
  exact List.getElem_mem h

section
variable {w0 W : World} {g n c : Nat}
/-- The cells of an element behind p. -/
theorem SR.mid {p s : List Pk} {x : Pk} (h : SR w0 g n c (p ++ x :: s) W) (i : Nat) (hi : i = p.length) : (∀ q os, (Sort.grow (W.drewN q) os).cell? ⟨g, i * 2, none⟩ = some (.int .u64 (x.n : Int))) ∧ ∀ q os, (Sort.grow (W.drewN q) os).cell? ⟨g, i * 2 + 1, none⟩ = some (.slice x.a x.l x.c) := by
  have hl := h.len
  simp at hl
  have := h.cellsG i (by omega)
  rw [getI_mid p s x i hi] at this
  exact this
/-- The cells of two elements, and that they may be written; behind the two stores they have changed places. -/
theorem SR.two {xs : List Pk} (h : SR w0 g n c xs W) (i j : Nat) (hi : i < n) (hj : j < n) {x y : Pk} (hx : xs[i]! = x) (hy : xs[j]! = y) :
    ((W.cell? ⟨g, i * 2, none⟩ = some (.int .u64 (x.n : Int)) ∧ W.cell? ⟨g, i * 2 + 1, none⟩ = some (.slice x.a x.l x.c)) ∧ W.frozen? ⟨g, i * 2, none⟩ = false ∧ W.frozen? ⟨g, i * 2 + 1, none⟩ = false) ∧
    ((W.cell? ⟨g, j * 2, none⟩ = some (.int .u64 (y.n : Int)) ∧ W.cell? ⟨g, j * 2 + 1, none⟩ = some (.slice y.a y.l y.c)) ∧ W.frozen? ⟨g, j * 2, none⟩ = false ∧ W.frozen? ⟨g, j * 2 + 1, none⟩ = false) ∧
    SR w0 g n c (exch xs i j) ((((W.setCell ⟨g, i * 2, none⟩ (.int .u64 (y.n : Int))).setCell ⟨g, i * 2 + 1, none⟩ (.slice y.a y.l y.c)).setCell ⟨g, j * 2, none⟩ (.int .u64 (x.n : Int))).setCell ⟨g, j * 2 + 1, none⟩ (.slice x.a x.l x.c)) := by
  have a := h.cells i hi
  have b := h.cells j hj
  have e := h.swapped i j hi hj
  rw [hx] at a e
  rw [hy] at b e
  exact ⟨a, b, e⟩
end
end Go.Proofs.Ytafdfjacfodbnaa
