
/- Tables by which codes may be written: plain lemmas, and what stands in memory while a list of ways grows. -/
import Derived.Test.YtpdnmhnnngcbjaaDoorTabTally
import Derived.Test.YtpdnmhnnngcbjaaDoorPileC
import Derived.Test.YtpdnmhnnngcbjaaDoorPileD
namespace Go.Proofs.YtpdnmhnnngcbjaaDoor
open Go.RowKit

theorem small_tab {l : Nat} {ps : List Int} (h : MayF l ps) (hl : ps.length ≤ 53) : Small (tab l ps) := fun i => by
  by_cases hi : i < (tab l ps).length
  · obtain ⟨s, b, e, h1, _, h3, _⟩ := tab_fine h i hi
    have hs := tab_sym h i hi
    have hsl : i < (syms l ps).length := by rw [h.syms_len, ← tab_length h]; exact hi
    have hlt := h.syms_lt _ (List.getElem_mem hsl)
    rw [getD_of _ _ _ hsl] at hs
    rw [getD_of _ _ _ hi, h1]
    rw [h1] at hs
    have hs2 : s = (syms l ps)[i] := by
      have : (s : Int) = ((syms l ps)[i] : Nat) := hs
      omega
    exact ⟨s, b, rfl, rfl, by omega, h3⟩
  · rw [List.getD_eq_getElem?_getD, List.getElem?_eq_none (by omega)]
    exact ⟨0, 0, rfl, rfl, by omega, by omega⟩
theorem hasAll_tab {l : Nat} {ps : List Int} (h : MayF l ps) {f : Nat → Nat} (hf : ∀ s, s < 53 → 0 < f s → 1 ≤ (wi (ps.getD s 0)).toNat) : HasAll (tab l ps) f := fun s hs h0 => by
  obtain ⟨i, hi, e⟩ := tab_has h s (hf s hs h0)
  rw [stF_pos]
  exact ⟨i, hi, by rw [getD_of _ _ _ hi]; exact e⟩
/-- The numbers of an array, as a list. -/
def osF (f : Nat → Nat) : List Nat := (List.range 53).map f
theorem osF_len (f : Nat → Nat) : (osF f).length = 53 := by simp [osF]
theorem osF_get (f : Nat → Nat) (s : Nat) (hs : s < 53) : (osF f).getD s 0 = f s := by
  rw [List.getD_eq_getElem?_getD]
  simp [osF, hs]
theorem osF_out (f : Nat → Nat) (s : Nat) (hs : 53 ≤ s) : (osF f).getD s 0 = 0 := by
  rw [List.getD_eq_getElem?_getD, List.getElem?_eq_none (by rw [osF_len]; exact hs)]
  rfl
theorem osF_box {w : World} {g : Nat} {t : TypeId} {f : Nat → Nat} (h : Box w g t (a53 .u32 f)) : DatE ucel w g (g + 1) (some ⟨g, 0, none⟩) (osF f) := fun _ =>
  ⟨g, 0, rfl, Nat.le_refl _, by omega, fun j hj => by
    rw [osF_len] at hj
    rw [Nat.zero_add, h.cell j, a53_get _ _ j hj]
    simp [osF, ucel]⟩
theorem cnt_pos_of : ∀ (a : List Nat) (i : Nat), 0 < a.getD i 0 → 0 < cnt a := fun a i h => by
  have hi : i < a.length := by
    rcases Nat.lt_or_ge i a.length with q | q
    · exact q
    · rw [List.getD_eq_getElem?_getD, List.getElem?_eq_none q] at h
      exact absurd h (by decide)
  have e : a = a.take i ++ ([a[i]] ++ a.drop (i + 1)) := by
    rw [List.singleton_append, List.getElem_cons_drop, List.take_append_drop]
  rw [getD_of a i 0 hi] at h
  rw [e, cnt_append, cnt_append]
  have : cnt [a[i]] = 1 := by
    have := cnt_snoc [] a[i]
    rw [if_pos h] at this
    exact this
  omega
theorem cnt_two {a : List Nat} {i j : Nat} (hij : i < j) (hi : 0 < a.getD i 0) (hj : 0 < a.getD j 0) : 2 ≤ cnt a := by
  have e : cnt a = cnt (a.take j) + cnt (a.drop j) := by rw [← cnt_append, List.take_append_drop]
  have h1 := cnt_pos_of (a.take j) i (by rw [List.getD_eq_getElem?_getD, List.getElem?_take, if_pos hij, ← List.getD_eq_getElem?_getD]; exact hi)
  have h2 := cnt_pos_of (a.drop j) 0 (by rw [List.getD_eq_getElem?_getD, List.getElem?_drop, Nat.add_zero, ← List.getD_eq_getElem?_getD]; exact hj)
  omega
/-- Counts that are made of how often codes are have a part of each of them. -/
theorem good_has {f : Nat → Nat} {ps : List Int} (hg : Good ((osF f).take (ends (osF f))) ps) (s : Nat) (hs : s < 53) (h0 : 0 < f s) : 1 ≤ (wi (ps.getD s 0)).toNat := by
  have h1 := ends_spec (osF f)
  have hlt : s < ends (osF f) := by
    rcases Nat.lt_or_ge s (ends (osF f)) with q | q
    · exact q
    · have := h1.1 s q
      rw [osF_get f s hs] at this
      omega
  obtain ⟨g1, g2⟩ := hg.get s
  have h2 : 0 < ((osF f).take (ends (osF f))).getD s 0 := by
    rw [List.getD_eq_getElem?_getD, List.getElem?_take, if_pos hlt, ← List.getD_eq_getElem?_getD, osF_get f s hs]
    exact h0
  have h3 := g2.2 h2
  have h4 := (wi_pos (show -1 ≤ ps.getD s 0 by omega)).2.1
  omega
theorem ends_last {f : Nat → Nat} {n : Nat} (hn : lastN n ≤ 52) (hf : ∀ s, lastN n < s → f s = 0) : ends (osF f) ≤ lastN n + 1 := by
  have h1 := (ends_spec (osF f)).2
  have h2 := ends_le (osF f)
  rw [osF_len] at h2
  rcases Nat.lt_or_ge (lastN n + 1) (ends (osF f)) with q | q
  · have h3 := h1 (by omega)
    rw [osF_get f _ (by omega), hf _ (by omega)] at h3
    omega
  · exact q

/-! What stands in memory. -/
theorem OwR.ne_box {α : Type} {z : Nat} {fc : α → List Value} {w : World} {u base : Nat} {v : Value} {xs : List α} {g : Nat} {t : TypeId} {cs : Array Value} (h : OwR z fc w u base v xs) (hg : Box w g t cs) (hne : u ≠ t) : v.ownBlock ≠ some g := by
  rcases h.2 with ⟨rfl, _⟩ | ⟨g', cap, cur, rfl, _, hh, _⟩
  · simp [Value.ownBlock]
  · intro he
    have : g' = g := by simpa [Value.ownBlock] using he
    subst this
    unfold Box at hg
    rw [hg] at hh
    injection hh with hh
    injection hh with h1 h2
    exact hne h2.symm
/-- A slice lies in old blocks, beside the row. -/
def Apart (w : World) (row : Option Nat) (A : Option Addr) : Prop := ∀ d o s, A = some ⟨d, o, s⟩ → d < w.heap.size ∧ row ≠ some d
theorem Apart.none (w : World) (row : Option Nat) : Apart w row none := fun _ _ _ h => by cases h
theorem Apart.mono {w w' : World} {row row' : Option Nat} {A : Option Addr} (h : Apart w row A) (hs : w.heap.size ≤ w'.heap.size) (hr : row' = row ∨ row' = some w.heap.size ∨ ∃ k, row' = some k ∧ w.heap.size ≤ k) : Apart w' row' A := fun d o s e => by
  obtain ⟨h1, h2⟩ := h d o s e
  refine ⟨by omega, ?_⟩
  rcases hr with rfl | rfl | ⟨k, rfl, hk⟩
  · exact h2
  · intro q; injection q with q; omega
  · intro q; injection q with q; omega
theorem DatR.growA {α : Type} {z : Nat} {fc : α → List Value} {w w' : World} {row : Option Nat} {A : Option Addr} {xs : List α} (h : DatR z fc w 0 w.heap.size A xs) (ha : Apart w row A) (hg : w.grownBy w' row) : DatR z fc w' 0 w'.heap.size A xs := fun hx => by
  obtain ⟨d, o, hA, _, h2, hc⟩ := h hx
  refine ⟨d, o, hA, Nat.zero_le _, Nat.lt_of_lt_of_le h2 hg.size, fun j hj i v hv => ?_⟩
  exact (World.cell?_of_block (hg.block d h2 (fun e => (ha d o _ hA).2 e.symm))).trans (hc j hj i v hv)
theorem Dat.growA {own : Bool} {w w' : World} {row : Option Nat} {A : Option Addr} {xs : List UInt8} (h : Dat own w 0 w.heap.size A xs) (ha : Apart w row A) (hg : w.grownBy w' row) : Dat own w' 0 w'.heap.size A xs := fun hx => by
  obtain ⟨d, o, hA, _, h2, _⟩ := h hx
  have hk := hg.block d h2 (fun e => (ha d o _ hA).2 e.symm)
  have h' : Dat own w d (d + 1) A xs := fun hx => by
    obtain ⟨d', o', hA', h1', h2', hc'⟩ := h hx
    obtain rfl : d' = d := by rw [hA] at hA'; injection hA' with q; injection q with q; exact q.symm
    exact ⟨d', o', hA', Nat.le_refl _, by omega, hc'⟩
  exact ((h'.keep fun k h3 h4 => by obtain rfl : k = d := by omega
                                    exact hk).mono (Nat.zero_le _) (Nat.le_trans h2 hg.size)) hx
theorem Lies.growA {w w' : World} {row : Option Nat} {x : Wy} {es : List En} (h : Lies w x es) (ha : Apart w row x.e) (hg : w.grownBy w' row) : Lies w' x es :=
  ⟨h.ent.growA ha hg, h.len, h.n2, h.small, h.log, h.tn⟩

/-- A way by which codes of a kind may be written: the given table, or one that its bytes tell. -/
def WayGood (n : Nat) (w : World) (p : Wy × List En) : Prop :=
  (p.1.mode = 0 ∧ p.1.log = (logN n : Int) ∧ p.2 = tabG n ∧ p.1.tn = 0 ∧ p.1.t = none ∧ p.1.tc = 0) ∨
  (p.1.mode = 2 ∧ ∃ (l : Nat) (ps : List Int), mayB (l : Int) ps = true ∧ p.1.log = (l : Int) ∧ l ≤ mostN n ∧ ps.length ≤ lastN n + 1 ∧ p.2 = tab l ps ∧ p.1.tn = (bytesOf (wrC l ps)).length ∧ p.1.tn ≤ p.1.tc ∧ Dat true w 0 w.heap.size p.1.t (bytesOf (wrC l ps)))
theorem WayGood.growA {n : Nat} {w w' : World} {row : Option Nat} {p : Wy × List En} (h : WayGood n w p) (ha : Apart w row p.1.t) (hg : w.grownBy w' row) : WayGood n w' p := by
  rcases h with h | ⟨h1, l, ps, h2, h3, h4, h5, h6, h7, h8, h9⟩
  · exact .inl h
  · exact .inr ⟨h1, l, ps, h2, h3, h4, h5, h6, h7, h8, h9.growA ha hg⟩
theorem WayGood.below {n : Nat} {w w' : World} {p : Wy × List En} (h : WayGood n w p) (hB : Below w.heap.size w w') : WayGood n w' p := by
  rcases h with h | ⟨h1, l, ps, h2, h3, h4, h5, h6, h7, h8, h9⟩
  · exact .inl h
  · exact .inr ⟨h1, l, ps, h2, h3, h4, h5, h6, h7, h8, (h9.below hB (Nat.le_refl _)).mono (Nat.le_refl _) hB.size⟩

/-- One way in its place: it lies there, is good, and stands beside the row. -/
structure At1 (n : Nat) (w : World) (row : Option Nat) (p : Wy × List En) : Prop where
  lies : Lies w p.1 p.2
  good : WayGood n w p
  ape : Apart w row p.1.e
  apt : Apart w row p.1.t
theorem At1.below {n : Nat} {w w' : World} {row : Option Nat} {p : Wy × List En} (h : At1 n w row p) (hB : Below w.heap.size w w') : At1 n w' row p :=
  ⟨h.lies.below hB, h.good.below hB, h.ape.mono hB.size (.inl rfl), h.apt.mono hB.size (.inl rfl)⟩
theorem At1.grown {n : Nat} {w w' : World} {row row' : Option Nat} {p : Wy × List En} (h : At1 n w row p) (hg : w.grownBy w' row) (hr : row' = row ∨ row' = some w.heap.size) : At1 n w' row' p :=
  ⟨h.lies.growA h.ape hg, h.good.growA h.apt hg, h.ape.mono hg.size (hr.elim .inl fun e => .inr (.inl e)), h.apt.mono hg.size (hr.elim .inl fun e => .inr (.inl e))⟩
/-- A slice lies from block b on. -/
def LowA (b : Nat) (A : Option Addr) : Prop := ∀ d o s, A = some ⟨d, o, s⟩ → b ≤ d
/-- The list of ways, as far as powers below lg have been tried. -/
structure WI (n : Nat) (f : Nat → Nat) (w wx : World) (v : Value) (xs : List (Wy × List En)) (lg : Nat) : Prop where
  ow : OwR 4 wyc wx 54 (w.heap.size + 1) v xs
  each : ∀ p ∈ xs, At1 n wx v.ownBlock p
  box : Box wx w.heap.size 51 (a53 .u32 f)
  bel : Below w.heap.size w wx
  len : 1 ≤ xs.length ∧ xs.length + 4 ≤ lg
  has : ∀ l, 5 ≤ l → l < lg → cnt (osF f) ≤ 2 ^ l → ∃ p ∈ xs, HasAll p.2 f
  low : ∀ p ∈ xs, LowA w.heap.size p.1.e
theorem WI.below {n : Nat} {f : Nat → Nat} {w wx wy : World} {v : Value} {xs : List (Wy × List En)} {lg : Nat} (h : WI n f w wx v xs lg) (hB : Below wx.heap.size wx wy) : WI n f w wy v xs lg :=
  ⟨h.ow.below hB (Nat.le_refl _), fun p hp => (h.each p hp).below hB, h.box.below hB h.box.lt, h.bel.trans (hB.mono h.bel.size), h.len, h.has, h.low⟩
theorem WI.skip {n : Nat} {f : Nat → Nat} {w wx : World} {v : Value} {xs : List (Wy × List En)} {lg : Nat} (h : WI n f w wx v xs lg) (hno : ¬ cnt (osF f) ≤ 2 ^ lg) : WI n f w wx v xs (lg + 1) :=
  ⟨h.ow, h.each, h.box, h.bel, ⟨h.len.1, by have := h.len.2; omega⟩, fun l h1 h2 h3 => by
    by_cases e : l = lg
    · subst e; exact absurd h3 hno
    · exact h.has l h1 (by omega) h3, h.low⟩
theorem WI.push {n : Nat} {f : Nat → Nat} {w wx wy : World} {v v' : Value} {xs : List (Wy × List En)} {lg : Nat} {p : Wy × List En} (h : WI n f w wx v xs lg) (hp : At1 n wx v.ownBlock p) (ha : HasAll p.2 f) (hl : LowA w.heap.size p.1.e)
    (ho : OwR 4 wyc wy 54 (w.heap.size + 1) v' (xs ++ [p])) (hg : wx.grownBy wy v.ownBlock) (hv : v'.ownBlock = v.ownBlock ∨ v'.ownBlock = some wx.heap.size) : WI n f w wy v' (xs ++ [p]) (lg + 1) :=
  ⟨ho, fun q hq => by
      rcases List.mem_append.1 hq with h1 | h1
      · exact (h.each q h1).grown hg hv
      · rw [List.mem_singleton.1 h1]; exact hp.grown hg hv,
    h.box.grown hg (fun e => (h.ow.ne_box h.box (by decide)) e.symm),
    h.bel.grown hg h.bel.size (fun k hk => by have := (h.ow.block k hk).1; omega),
    by have := h.len; simp; omega,
    fun l _ _ _ => ⟨p, by simp, ha⟩, fun q hq => by
      rcases List.mem_append.1 hq with h1 | h1
      · exact h.low q h1
      · rw [List.mem_singleton.1 h1]; exact hl⟩
end Go.Proofs.YtpdnmhnnngcbjaaDoor
