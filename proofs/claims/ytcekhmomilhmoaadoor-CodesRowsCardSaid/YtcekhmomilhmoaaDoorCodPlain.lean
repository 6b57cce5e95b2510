
/- Codes of lengths and offsets, on numbers: where they begin, what they add, which one a value has; the package's three tables as they are laid. -/
import Derived.Test.YtcekhmomilhmoaaDoorCurPlain
import Derived.Lib.LaidTab
namespace Go.Proofs.YtcekhmomilhmoaaDoor
open Go.RowKit

/-- What codes add, by kind; 53 of each. -/
def addRow (k : Nat) : List Nat :=
  [[0, 0, 0, 0, 0, 0, 0, 0, 0, 0, 0, 0, 0, 0, 0, 0, 1, 1, 1, 1, 2, 2, 3, 3, 4, 6, 7, 8, 9, 10, 11, 12, 13, 14, 15, 16] ++ List.replicate 17 0,
   List.range 32 ++ List.replicate 21 0,
   List.replicate 32 0 ++ [1, 1, 1, 1, 2, 2, 3, 3, 4, 4, 5, 7, 8, 9, 10, 11, 12, 13, 14, 15, 16]].getD k []
def addN (k c : Nat) : Nat := (addRow k).getD c 0
def lastN (k : Nat) : Nat := [35, 31, 52].getD k 0
def firstN (k : Nat) : Nat := [0, 1, 3].getD k 0
/-- Where a code begins: where the one ahead ends. -/
def beginN (k : Nat) : Nat → Nat
  | 0 => firstN k
  | c + 1 => beginN k c + 2 ^ addN k c

/-- What a code of a kind begins at, adds, and the error. -/
def codeN (k c : Int) : Nat × Nat × Nat :=
  if k < 0 ∨ 2 < k then (0, 0, 1) else if c < 0 ∨ (lastN k.toNat : Int) < c then (0, 0, 17) else (beginN k.toNat c.toNat, addN k.toNat c.toNat, 0)
/-- The first of n codes, from c on, that has the value. -/
def scan (k v : Nat) : Nat → Nat → Nat × Nat × Nat
  | 0, _ => (0, 0, 17)
  | n + 1, c => if beginN k c ≤ v ∧ v - beginN k c < 2 ^ addN k c then (c, v - beginN k c, 0) else scan k v n (c + 1)
def ofN (k : Int) (v : Nat) : Nat × Nat × Nat := if k < 0 ∨ 2 < k then (0, 0, 1) else scan k.toNat v (lastN k.toNat + 1) 0
def lastZ (k : Int) : Int := if k < 0 ∨ 2 < k then -1 else (lastN k.toNat : Int)

theorem addRow_len : ∀ k, k < 3 → (addRow k).length = 53 := by decide
theorem last_le : ∀ k, k < 3 → lastN k ≤ 52 := by decide
theorem last_ge : ∀ k, k < 3 → 31 ≤ lastN k := by decide
theorem add_le : ∀ k, k < 3 → ∀ c, c < 53 → addN k c ≤ 31 := by decide
theorem first_le : ∀ k, k < 3 → firstN k ≤ 3 := by decide
/-- No code ends above what 32 bits tell. -/
theorem end_le : ∀ k, k < 3 → ∀ c, c ≤ lastN k → beginN k c + 2 ^ addN k c ≤ 4294967296 := by decide +kernel
theorem begin_mono (k : Nat) : ∀ d c, beginN k c ≤ beginN k (c + d)
  | 0, _ => Nat.le_refl _
  | d + 1, c => Nat.le_trans (begin_mono k d c) (Nat.le_add_right _ _)
theorem first_begin (k c : Nat) : firstN k ≤ beginN k c := by
  have h := begin_mono k c 0
  rw [Nat.zero_add] at h
  exact h
/-- Below the first one no code has the value. -/
theorem scan_low {k v : Nat} (h : v < firstN k) : ∀ n c, scan k v n c = (0, 0, 17)
  | 0, _ => rfl
  | n + 1, c => by
    have := first_begin k c
    rw [scan, if_neg (by omega)]
    exact scan_low h n (c + 1)
theorem scan_hit {k v c n : Nat} (h : beginN k c ≤ v) (h2 : v - beginN k c < 2 ^ addN k c) : scan k v (n + 1) c = (c, v - beginN k c, 0) := by rw [scan, if_pos ⟨h, h2⟩]
theorem scan_miss {k v c n : Nat} (h : ¬ (beginN k c ≤ v ∧ v - beginN k c < 2 ^ addN k c)) : scan k v (n + 1) c = scan k v n (c + 1) := by rw [scan, if_neg h]
/-- A value behind where a code begins, by less than it adds, is that code's. -/
theorem scan_at {k c x : Nat} (hx : x < 2 ^ addN k c) : ∀ d e n, d + e = c → c < d + n → scan k (beginN k c + x) n d = (c, x, 0)
  | d, 0, n, hd, hn => by
    obtain rfl : d = c := by omega
    obtain ⟨m, rfl⟩ : ∃ m, n = m + 1 := ⟨n - 1, by omega⟩
    rw [scan_hit (by omega) (by omega)]
    congr 2
    omega
  | d, e + 1, n, hd, hn => by
    obtain ⟨m, rfl⟩ : ∃ m, n = m + 1 := ⟨n - 1, by omega⟩
    have h := begin_mono k e (d + 1)
    rw [show d + 1 + e = c by omega] at h
    have h' : beginN k d + 2 ^ addN k d ≤ beginN k c := h
    rw [scan_miss (by omega)]
    exact scan_at hx (d + 1) e m (by omega) (by omega)
/-- What is found is small. -/
theorem scan_lt {k v : Nat} (hv : v < 4294967296) : ∀ n c, (scan k v n c).1 ≤ c + n ∧ (scan k v n c).2.1 ≤ v ∧ (scan k v n c).2.2 ≤ 17
  | 0, c => ⟨Nat.zero_le _, Nat.zero_le _, Nat.le_refl _⟩
  | n + 1, c => by
    rw [scan]
    split
    · exact ⟨by show c ≤ _; omega, by show v - _ ≤ v; omega, Nat.zero_le _⟩
    · have := scan_lt (k := k) hv n (c + 1)
      omega

/-- The package's three tables hold what they were laid with. -/
def Glob (w : World) : Prop :=
  (∀ k, k < 3 → w.cell? ⟨0, k, none⟩ = some (.int .i64 (lastN k : Int))) ∧
  (∀ k, k < 3 → ∀ c, c < 53 → w.cell? ⟨1, k * 53 + c, none⟩ = some (.int .i64 (addN k c : Int))) ∧
  (∀ k, k < 3 → w.cell? ⟨2, k, none⟩ = some (.int .u32 (firstN k : Int))) ∧ 3 ≤ w.heap.size
theorem Glob.keep {w w' : World} (h : Glob w) (he : ∀ j, j < 3 → w'.heap[j]? = w.heap[j]?) (hs : 3 ≤ w'.heap.size) : Glob w' :=
  ⟨fun k hk => (World.cell?_of_block (w := w) (w' := w') (a := ⟨0, k, none⟩) (he 0 (by omega))).trans (h.1 k hk),
   fun k hk c hc => (World.cell?_of_block (w := w) (w' := w') (a := ⟨1, k * 53 + c, none⟩) (he 1 (by omega))).trans (h.2.1 k hk c hc),
   fun k hk => (World.cell?_of_block (w := w) (w' := w') (a := ⟨2, k, none⟩) (he 2 (by omega))).trans (h.2.2.1 k hk), hs⟩
theorem Glob.below {B : Nat} {w w' : World} (h : Glob w) (hb : Below B w w') (hB : 3 ≤ B) : Glob w' :=
  h.keep (fun j hj => hb.block j (by omega)) (Nat.le_trans h.2.2.2 hb.size)
theorem Glob.drew {w : World} (h : Glob w) : Glob w.drew := h

/-- A table of tables: cell for cell. -/
theorem cells_of_tab2 {H : Type} {enc : TypeId × Value → H} {P : Program} {w : World} {base : Nat} {sp : Nat → Bool} {held : Bool} {fuel : Nat} {t e f : TypeId} {n m : Nat} {k : IntKind} {cs : List Value} {zss : List (List Int)} {p : List MemPlace}
    (ht : P.underlying t = some (.array n e)) (he : P.underlying e = some (.array m f)) (hf : P.underlying f = some (.int k)) (hcf : P.cellsOf f = 1) (hce : P.cellsOf e = m) (hct : P.cellsOf t = n * m)
    (h : DataW.trod enc P w base sp held fuel t cs = some (.agg (zss.map (Lib.tabData k)), p)) :
    ∀ i, i < n → ∃ zs, zss[i]? = some zs ∧ ((cs.drop (i * m)).take m) = zs.map fun z => Value.int k z := by
  cases fuel with
  | zero => simp [DataW.trod] at h
  | succ fuel =>
    simp only [DataW.trod, ht, hce, hct] at h
    split at h
    · obtain ⟨xs, hm, hx⟩ := Option.map_eq_some_iff.1 h
      have hxs : xs.map (·.1) = zss.map (Lib.tabData k) := by
        have := congrArg Prod.fst hx
        simpa using this
      intro i hi
      obtain ⟨b, hb, hfb⟩ := Lib.mapM_at hm i i (by simp [hi])
      have h2 : (xs.map (·.1))[i]? = some b.1 := by simp [hb]
      rw [hxs, List.getElem?_map] at h2
      obtain ⟨zs, hz, hzb⟩ := Option.map_eq_some_iff.1 h2
      obtain ⟨b1, b2⟩ := b
      obtain rfl : Lib.tabData k zs = b1 := hzb
      exact ⟨zs, hz, Lib.cells_of_tab he hf hcf hce hfb⟩
    · cases h
end Go.Proofs.YtcekhmomilhmoaaDoor
