/- The contracts of CocPlain, TabPlain, TabProg, TabRead, TabReads, CocProg, TabCostP, TabCost, TabShort, TabMin, TabTally, TabWaysP, TabWays, TabWrite, CocRef, CocRefO, TabRef, TabRefD, in one text. -/
import Derived.Test.YtlidnialggpcpaaGreatDoorPileA
import Derived.Lib.LaidTab
import Derived.Test.YtlidnialggpcpaaGreatDoorPileD
import Derived.Test.YtlidnialggpcpaaGreatDoorPileC
import Derived.Test.YtlidnialggpcpaaGreatDoorRows
import Derived.WalkKit
import Derived.WalkSpells
import Derived.WalkLawsBesides
import Derived.Laws.BitsAllLaws
import Derived.Lib.Hide
import Derived.Outline
import Derived.BigQuiet
import Derived.Deep.LoopGhost
import Derived.Deep.CutRange
import Derived.Deep.DeepCutAuto
import Derived.Deep.RegionHeld3
import Derived.Deep.RegionWith
import Derived.Great.Ranges
import Derived.StillTailTactics
import Derived.IntWalk
import Derived.Deep.QuietTactic
import Derived.Deep.MidRow
/- Codes of lengths and offsets, on numbers: where they begin, what they add, which one a value has; the package's three tables as they are laid. -/
namespace Go.Proofs.YtlidnialggpcpaaGreatDoor.cd
open Go.RowKit

/-- What codes add, by kind; 53 of each. -/
def addRow (k : Nat) : List Nat :=
  [[0, 0, 0, 0, 0, 0, 0, 0, 0, 0, 0, 0, 0, 0, 0, 0, 1, 1, 1, 1, 2, 2, 3, 3, 4, 6, 7, 8, 9, 10, 11, 12, 13, 14, 15, 16] ++ List.replicate 17 0,
   List.range 32 ++ List.replicate 21 0,
   List.replicate 32 0 ++ [1, 1, 1, 1, 2, 2, 3, 3, 4, 4, 5, 7, 8, 9, 10, 11, 12, 13, 14, 15, 16]].getD k []
def addN (k c : Nat) : Nat := (addRow k).getD c 0
def lastN (k : Nat) : Nat := [35, 31, 52].getD k 0
def firstN (k : Nat) : Nat := [0, 1, 3].getD k 0
/-- Where a code begins: where the one ahead ends. -/
def beginN (k : Nat) : Nat → Nat
  | 0 => firstN k
  | c + 1 => beginN k c + 2 ^ addN k c

/-- What a code of a kind begins at, adds, and the error. -/
def codeN (k c : Int) : Nat × Nat × Nat :=
  if k < 0 ∨ 2 < k then (0, 0, 1) else if c < 0 ∨ (lastN k.toNat : Int) < c then (0, 0, 17) else (beginN k.toNat c.toNat, addN k.toNat c.toNat, 0)
/-- The first of n codes, from c on, that has the value. -/
def scan (k v : Nat) : Nat → Nat → Nat × Nat × Nat
  | 0, _ => (0, 0, 17)
  | n + 1, c => if beginN k c ≤ v ∧ v - beginN k c < 2 ^ addN k c then (c, v - beginN k c, 0) else scan k v n (c + 1)
def ofN (k : Int) (v : Nat) : Nat × Nat × Nat := if k < 0 ∨ 2 < k then (0, 0, 1) else scan k.toNat v (lastN k.toNat + 1) 0
def lastZ (k : Int) : Int := if k < 0 ∨ 2 < k then -1 else (lastN k.toNat : Int)

theorem addRow_len : ∀ k, k < 3 → (addRow k).length = 53 := by decide
theorem last_le : ∀ k, k < 3 → lastN k ≤ 52 := by decide
theorem last_ge : ∀ k, k < 3 → 31 ≤ lastN k := by decide
theorem add_le : ∀ k, k < 3 → ∀ c, c < 53 → addN k c ≤ 31 := by decide
theorem first_le : ∀ k, k < 3 → firstN k ≤ 3 := by decide
/-- No code ends above what 32 bits tell. -/
theorem end_le : ∀ k, k < 3 → ∀ c, c ≤ lastN k → beginN k c + 2 ^ addN k c ≤ 4294967296 := by decide +kernel
theorem begin_mono (k : Nat) : ∀ d c, beginN k c ≤ beginN k (c + d)
  | 0, _ => Nat.le_refl _
  | d + 1, c => Nat.le_trans (begin_mono k d c) (Nat.le_add_right _ _)
theorem first_begin (k c : Nat) : firstN k ≤ beginN k c := by
  have h := begin_mono k c 0
  rw [Nat.zero_add] at h
  exact h
/-- Below the first one no code has the value. -/
theorem scan_low {k v : Nat} (h : v < firstN k) : ∀ n c, scan k v n c = (0, 0, 17)
  | 0, _ => rfl
  | n + 1, c => by
    have := first_begin k c
    rw [scan, if_neg (by omega)]
    exact scan_low h n (c + 1)
theorem scan_hit {k v c n : Nat} (h : beginN k c ≤ v) (h2 : v - beginN k c < 2 ^ addN k c) : scan k v (n + 1) c = (c, v - beginN k c, 0) := by rw [scan, if_pos ⟨h, h2⟩]
theorem scan_miss {k v c n : Nat} (h : ¬ (beginN k c ≤ v ∧ v - beginN k c < 2 ^ addN k c)) : scan k v (n + 1) c = scan k v n (c + 1) := by rw [scan, if_neg h]
/-- The package's three tables hold what they were laid with. -/
def Glob (w : World) : Prop :=
  (∀ k, k < 3 → w.cell? ⟨3, k, none⟩ = some (.int .i64 (lastN k : Int))) ∧
  (∀ k, k < 3 → ∀ c, c < 53 → w.cell? ⟨4, k * 53 + c, none⟩ = some (.int .i64 (addN k c : Int))) ∧
  (∀ k, k < 3 → w.cell? ⟨2, k, none⟩ = some (.int .u32 (firstN k : Int))) ∧ 8 ≤ w.heap.size
theorem Glob.keep {w w' : World} (h : Glob w) (he : ∀ j, j < 8 → w'.heap[j]? = w.heap[j]?) (hs : 8 ≤ w'.heap.size) : Glob w' :=
  ⟨fun k hk => (World.cell?_of_block (w := w) (w' := w') (a := ⟨3, k, none⟩) (he _ (by simp only; omega))).trans (h.1 k hk),
   fun k hk c hc => (World.cell?_of_block (w := w) (w' := w') (a := ⟨4, k * 53 + c, none⟩) (he _ (by simp only; omega))).trans (h.2.1 k hk c hc),
   fun k hk => (World.cell?_of_block (w := w) (w' := w') (a := ⟨2, k, none⟩) (he _ (by simp only; omega))).trans (h.2.2.1 k hk), hs⟩
theorem Glob.below {B : Nat} {w w' : World} (h : Glob w) (hb : Below B w w') (hB : 8 ≤ B) : Glob w' :=
  h.keep (fun j hj => hb.block j (by omega)) (Nat.le_trans h.2.2.2 hb.size)
theorem Glob.drew {w : World} (h : Glob w) : Glob w.drew := h

/-- A table of tables: cell for cell. -/
theorem cells_of_tab2 {H : Type} {enc : TypeId × Value → H} {P : Program} {w : World} {base : Nat} {sp : Nat → Bool} {held : Bool} {fuel : Nat} {t e f : TypeId} {n m : Nat} {k : IntKind} {cs : List Value} {zss : List (List Int)} {p : List MemPlace}
    (ht : P.underlying t = some (.array n e)) (he : P.underlying e = some (.array m f)) (hf : P.underlying f = some (.int k)) (hcf : P.cellsOf f = 1) (hce : P.cellsOf e = m) (hct : P.cellsOf t = n * m)
    (h : DataW.trod enc P w base sp held fuel t cs = some (.agg (zss.map (Lib.tabData k)), p)) :
    ∀ i, i < n → ∃ zs, zss[i]? = some zs ∧ ((cs.drop (i * m)).take m) = zs.map fun z => Value.int k z := by
  cases fuel with
  | zero => simp [DataW.trod] at h
  | succ fuel =>
    simp only [DataW.trod, ht, hce, hct] at h
    split at h
    · obtain ⟨xs, hm, hx⟩ := Option.map_eq_some_iff.1 h
      have hxs : xs.map (·.1) = zss.map (Lib.tabData k) := by
        have := congrArg Prod.fst hx
        simpa using this
      intro i hi
      obtain ⟨b, hb, hfb⟩ := Lib.mapM_at hm i i (by simp [hi])
      have h2 : (xs.map (·.1))[i]? = some b.1 := by simp [hb]
      rw [hxs, List.getElem?_map] at h2
      obtain ⟨zs, hz, hzb⟩ := Option.map_eq_some_iff.1 h2
      obtain ⟨b1, b2⟩ := b
      obtain rfl : Lib.tabData k zs = b1 := hzb
      exact ⟨zs, hz, Lib.cells_of_tab he hf hcf hce hfb⟩
    · cases h
end Go.Proofs.YtlidnialggpcpaaGreatDoor.cd

/- Tables of codes, on lists: the given counts, the greatest powers and codes, by kind; the package's four variables as they are laid. -/
namespace Go.Proofs.YtlidnialggpcpaaGreatDoor
open Go.RowKit

def partsN (k : Nat) : List Int :=
  [[4, 3, 2, 2, 2, 2, 2, 2, 2, 2, 2, 2, 2, 1, 1, 1, 2, 2, 2, 2, 2, 2, 2, 2, 2, 3, 2, 1, 1, 1, 1, 1, -1, -1, -1, -1],
   [1, 1, 1, 1, 1, 1, 2, 2, 2, 1, 1, 1, 1, 1, 1, 1, 1, 1, 1, 1, 1, 1, 1, 1, -1, -1, -1, -1, -1],
   [1, 4, 3, 2, 2, 2, 2, 2, 2, 1, 1, 1, 1, 1, 1, 1, 1, 1, 1, 1, 1, 1, 1, 1, 1, 1, 1, 1, 1, 1, 1, 1, 1, 1, 1, 1, 1, 1, 1, 1, 1, 1, 1, 1, 1, 1, -1, -1, -1, -1, -1, -1, -1]].getD k []
def logN (k : Nat) : Nat := [6, 5, 6].getD k 0
def mostN (k : Nat) : Nat := [9, 8, 9].getD k 0
def lastN (k : Nat) : Nat := [35, 31, 52].getD k 0
/-- The last code that a given table has. -/
def hasN (k : Nat) : Nat := [35, 28, 52].getD k 0
def lastZ (k : Int) : Int := if k < 0 ∨ 2 < k then -1 else (lastN k.toNat : Int)
def mostZ (k : Int) : Int := if k < 0 ∨ 2 < k then 0 else (mostN k.toNat : Int)

theorem lastZ_nat {n : Nat} (h : n < 3) : lastZ (n : Int) = (lastN n : Int) := by unfold lastZ; rw [if_neg (by omega)]; rfl
theorem mostZ_nat {n : Nat} (h : n < 3) : mostZ (n : Int) = (mostN n : Int) := by unfold mostZ; rw [if_neg (by omega)]; rfl
theorem last_le : ∀ k, k < 3 → lastN k ≤ 52 := by decide
theorem last_ge : ∀ k, k < 3 → 31 ≤ lastN k := by decide
theorem most_ge : ∀ k, k < 3 → 8 ≤ mostN k := by decide
theorem most_le : ∀ k, k < 3 → mostN k ≤ 9 := by decide
theorem log_le : ∀ k, k < 3 → logN k ≤ 6 := by decide
theorem parts_len : ∀ k, k < 3 → (partsN k).length = hasN k + 1 := by decide
theorem has_le : ∀ k, k < 3 → hasN k ≤ lastN k := by decide
theorem given_may : ∀ k, k < 3 → mayB (logN k : Int) (partsN k) = true := by decide +kernel
theorem parts_bd : ∀ k, k < 3 → ∀ p ∈ partsN k, -9223372036854775808 ≤ p ∧ p ≤ 9223372036854775807 := by decide +kernel
/-- The package's four variables hold what they were laid with; B: all of it lies below that block. -/
def Glob (B : Nat) (w : World) : Prop :=
  (∀ k, k < 3 → w.cell? ⟨3, k, none⟩ = some (.int .i64 (lastN k : Int))) ∧
  (∀ k, k < 3 → w.cell? ⟨5, k, none⟩ = some (.int .i64 (logN k : Int))) ∧
  (∀ k, k < 3 → w.cell? ⟨7, k, none⟩ = some (.int .i64 (mostN k : Int))) ∧
  (∀ k, k < 3 → ∃ A, w.cell? ⟨6, k, none⟩ = some (.slice (some A) (partsN k).length (partsN k).length) ∧ DatE icel w 0 B (some A) (partsN k)) ∧ 8 ≤ B ∧ B ≤ w.heap.size
theorem Glob.keep {B : Nat} {w w' : World} (h : Glob B w) (he : ∀ j, j < B → w'.heap[j]? = w.heap[j]?) (hs : B ≤ w'.heap.size) : Glob B w' := by
  obtain ⟨h1, h2, h3, h4, h5, h6⟩ := h
  refine ⟨fun k hk => (World.cell?_of_block (w := w) (w' := w') (a := ⟨3, k, none⟩) (he _ (by simp only; omega))).trans (h1 k hk),
   fun k hk => (World.cell?_of_block (w := w) (w' := w') (a := ⟨5, k, none⟩) (he _ (by simp only; omega))).trans (h2 k hk),
   fun k hk => (World.cell?_of_block (w := w) (w' := w') (a := ⟨7, k, none⟩) (he _ (by simp only; omega))).trans (h3 k hk), fun k hk => ?_, h5, hs⟩
  obtain ⟨A, h7, h8⟩ := h4 k hk
  exact ⟨A, (World.cell?_of_block (w := w) (w' := w') (a := ⟨6, k, none⟩) (he _ (by simp only; omega))).trans h7, h8.keep fun j _ hj => he j hj⟩
theorem Glob.size {B : Nat} {w : World} (h : Glob B w) : B ≤ w.heap.size := h.2.2.2.2.2
theorem Glob.below {B C : Nat} {w w' : World} (h : Glob B w) (hb : Below C w w') (hB : B ≤ C) : Glob B w' :=
  h.keep (fun j hj => hb.block j (by omega)) (Nat.le_trans h.size hb.size)
theorem Glob.alloc {B : Nat} {w : World} (h : Glob B w) (o : Obj) : Glob B (w.alloc o) :=
  h.keep (fun j hj => Below.heap_alloc w o j (by have := h.size; omega)) (by have := h.size; simp; omega)
theorem Glob.drew {B : Nat} {w : World} (h : Glob B w) : Glob B w.drew := h
theorem Glob.set {B : Nat} {w : World} (h : Glob B w) {p : Addr} (hp : B ≤ p.block) (v : Value) : Glob B (w.setCell p v) :=
  h.keep (fun j hj => Below.heap_setCell w p v j (by omega)) (by have := h.size; simp; omega)
theorem Glob.grown {B : Nat} {w w' : World} {row : Option Nat} (h : Glob B w) (hg : w.grownBy w' row) (hr : ∀ k, row = some k → B ≤ k) : Glob B w' :=
  h.keep (fun j hj => hg.block j (by have := h.size; omega) (fun e => by have := hr j e.symm; omega)) (Nat.le_trans h.size hg.size)
/-- The table that a kind is given. -/
def tabG (k : Nat) : List En := tab (logN k) (partsN k)
theorem givenF {k : Nat} (h : k < 3) : MayF (logN k) (partsN k) := mayF (given_may k h)
theorem tabG_len {k : Nat} (h : k < 3) : (tabG k).length = 2 ^ logN k := tab_length (givenF h)
end Go.Proofs.YtlidnialggpcpaaGreatDoor

/- The contracts of the program's isKind, Most, Default and slices.Clone of ints and entries. -/
namespace Go.Proofs.YtlidnialggpcpaaGreatDoor
open Go.RowKit

theorem codeKind_any (k : Int) (w : World) :
    Calls Tryz.prog 94 #[.int .i64 k] w fun e w' => e = .returned (.bool (decide (0 ≤ k ∧ k ≤ 2))) ∧ w = w' := by
  by_cases h0 : 0 ≤ k
  · by_cases h2 : k ≤ 2
    · rw [show decide (0 ≤ k ∧ k ≤ 2) = true by simp [h0, h2]]
      go_enter Tryz.func94, Tryz.ntmps94
      go_wp2
      go_ret
      exact ⟨rfl, rfl⟩
    · rw [show decide (0 ≤ k ∧ k ≤ 2) = false by simp [h2]]
      have hd : decide (k ≤ 2) = false := by simp; omega
      go_enter Tryz.func94, Tryz.ntmps94
      go_wp2
      go_ret
      exact ⟨rfl, rfl⟩
  · rw [show decide (0 ≤ k ∧ k ≤ 2) = false by simp [h0]]
    go_enter Tryz.func94, Tryz.ntmps94
    go_wp2
    go_ret
    exact ⟨rfl, rfl⟩

theorem last_any {B : Nat} (k : Int) (w : World) (hgl : Glob B w) :
    Calls Tryz.prog 106 #[.int .i64 k] w fun e w' => e = .returned (.int .i64 (lastZ k)) ∧ w = w' := by
  by_cases hb : 0 ≤ k ∧ k ≤ 2
  · obtain ⟨n, rfl⟩ := Int.eq_ofNat_of_zero_le hb.1
    have hn : n < 3 := by omega
    have q := hgl.1 n hn
    have hz := lastZ_nat hn
    rw [hz]
    have HI : Hid (∀ W, Calls Tryz.prog 94 #[.int .i64 (n : Int)] W fun e w' => e = .returned (.bool true) ∧ W = w') := fun W => by
      have := codeKind_any (n : Int) W
      rwa [decide_eq_true hb] at this
    obtain ⟨l, hl⟩ : ∃ l, l = lastN n := ⟨_, rfl⟩
    rw [← hl] at q ⊢
    clear hl hz hb hgl
    go_enter Tryz.func106, Tryz.ntmps106
    go_wp2_with (go_at_call 94; refine (HI.out _).mono ?_; rintro e' w' ⟨rfl, rfl⟩)
    go_ret
    exact ⟨rfl, rfl⟩
  · have hz : lastZ k = -1 := by unfold lastZ; rw [if_pos (by omega)]
    rw [hz]
    have HI : Hid (∀ W, Calls Tryz.prog 94 #[.int .i64 k] W fun e w' => e = .returned (.bool false) ∧ W = w') := fun W => by
      have := codeKind_any k W
      rwa [decide_eq_false hb] at this
    clear hz hb hgl
    go_enter Tryz.func106, Tryz.ntmps106
    go_wp2_with (go_at_call 94; refine (HI.out _).mono ?_; rintro e' w' ⟨rfl, rfl⟩)
    go_ret
    exact ⟨rfl, rfl⟩

theorem kind_any {B : Nat} (k : Int) (w : World) (hgl : Glob B w) :
    Calls Tryz.prog 74 #[.int .i64 k] w fun e w' => e = .returned (.bool (decide (0 ≤ k ∧ k ≤ 2))) ∧ w = w' := by
  have HL := Lib.hid (last_any k w hgl)
  by_cases hb : 0 ≤ k ∧ k ≤ 2
  · have h0 : 0 ≤ lastZ k := by unfold lastZ; rw [if_neg (by omega)]; omega
    rw [decide_eq_true hb]
    generalize lastZ k = l at *
    clear hgl hb
    go_enter Tryz.func74, Tryz.ntmps74
    go_wp2_with (go_at_call 106; refine HL.out.mono ?_; rintro e' w' ⟨rfl, rfl⟩)
    go_ret
    exact ⟨rfl, rfl⟩
  · have h0 : lastZ k = -1 := by unfold lastZ; rw [if_pos (by omega)]
    rw [decide_eq_false hb]
    rw [h0] at HL
    clear hgl hb h0
    go_enter Tryz.func74, Tryz.ntmps74
    go_wp2_with (go_at_call 106; refine HL.out.mono ?_; rintro e' w' ⟨rfl, rfl⟩)
    go_ret
    exact ⟨rfl, rfl⟩

theorem most_any {B : Nat} (k : Int) (w : World) (hgl : Glob B w) :
    Calls Tryz.prog 112 #[.int .i64 k] w fun e w' => e = .returned (.int .i64 (mostZ k)) ∧ w = w' := by
  have HK := Lib.hid (kind_any k w hgl)
  by_cases hb : 0 ≤ k ∧ k ≤ 2
  · rw [decide_eq_true hb] at HK
    obtain ⟨n, rfl⟩ := Int.eq_ofNat_of_zero_le hb.1
    have hn : n < 3 := by omega
    have q := hgl.2.2.1 n hn
    rw [mostZ_nat hn]
    obtain ⟨l, hl⟩ : ∃ l, l = mostN n := ⟨_, rfl⟩
    rw [← hl] at q ⊢
    clear hl hb hgl
    go_enter Tryz.func112, Tryz.ntmps112
    go_wp2_with (go_at_call 74; refine HK.out.mono ?_; rintro e' w' ⟨rfl, rfl⟩)
    go_ret
    exact ⟨rfl, rfl⟩
  · rw [decide_eq_false hb] at HK
    rw [show mostZ k = 0 by unfold mostZ; rw [if_pos (by omega)]]
    clear hb hgl
    go_enter Tryz.func112, Tryz.ntmps112
    go_wp2_with (go_at_call 74; refine HK.out.mono ?_; rintro e' w' ⟨rfl, rfl⟩)
    go_ret
    exact ⟨rfl, rfl⟩

/-! Clones. -/
theorem ownR_empty {α : Type} (z : Nat) (f : α → List Value) (w : World) (u base : Nat) (h : base ≤ w.heap.size) : OwR z f (w.alloc (.cells #[] u)) u base (.slice (some ⟨w.heap.size, 0, none⟩) 0 0) [] :=
  World.ownsRow_made (base := base) (e := u) (size := z) w #[] 0 h (by simp [maxLen]) (by simp)

theorem cloneR_some {w : World} {lo hi n c : Nat} {a : Addr} {es : List En} (hd : DatR 3 ecell w lo hi (some a) es) (hn : es.length = n) (hb : es.length ≤ 1099511627776) (hhi : hi ≤ w.heap.size) :
    Calls Tryz.prog 45 #[.slice (some a) n c] w fun e w' => ∃ v, e = .returned v ∧ OwR 3 ecell w' 111 w.heap.size v es ∧ Below w.heap.size w w' := by
  obtain ⟨i0, hi0, hz0, hz1, hz2⟩ := info_parts entry_info
  have hq := Lib.run_eql_slice_nil (P := Tryz.prog) w 25 111 (some a) n c 0 0 Tryz.underlying25
  have hO := Lib.hid (ownR_empty 3 ecell w 111 w.heap.size (Nat.le_refl _))
  have hD := Lib.hid (hd.alloc hhi (.cells #[] 111))
  clear hd
  have HN := Lib.hid hn
  clear hn
  go_enter Tryz.func45, Tryz.ntmps45
  go_wp2_with (at_builtin; refine list_appR ecell_len (by decide) ecell_one _ rfl _ _ 25 rfl i0 (.agg #[.int .u8 0, .int .i64 0, .int .i64 0]) 24 Tryz.underlying25 hi0 hz0 hz1 hz2 rfl (by decide) rfl hO.out rfl hD.out HN.out ?_ ?_ ?_)
  · simp only [List.length_nil]; have := HN.out; omega
  · simp
  intro v' w1 ho hg _
  have HO := Lib.hid ho
  have HG := Lib.hid hg
  clear ho hg hO hD
  go_wp2
  go_ret
  exact ⟨_, rfl, HO.out, ((Below.refl _ _).alloc (Nat.le_refl _) _).grown HG.out (by simp) (by intro k hk; simp [Value.ownBlock] at hk; omega)⟩

/-! Default. -/
theorem pushI_facts {wx w2 : World} {b : Nat} {t : TypeId} {x v v1 : Value} {xs ys : List Int} {o : Obj} (hb : Box wx b t #[x, v]) (ho : OwE icel wx 3 (b + 1) v xs) (ho1 : OwE icel w2 3 (b + 1) v1 ys) (hg : (wx.alloc o).grownBy w2 v.ownBlock) :
    w2.cell? ⟨b, 0, none⟩ = some x ∧ w2.cell? ⟨b, 1, none⟩ = some v ∧ w2.frozen? ⟨b, 1, none⟩ = false ∧
    Hid (Box (w2.setCell ⟨b, 1, none⟩ v1) b t #[x, v1] ∧ OwE icel (w2.setCell ⟨b, 1, none⟩ v1) 3 (b + 1) v1 ys ∧ Below b wx (w2.setCell ⟨b, 1, none⟩ v1)) := by
  have hne : some b ≠ v.ownBlock := fun e => by have := (ho.block b e.symm).1; omega
  have hb2 : Box w2 b t #[x, v] := (hb.alloc o).grown hg hne
  have hlt := hb.lt
  refine ⟨hb2.cell 0, hb2.cell 1, hb2.free 1, hb2.put 1 v1, ?_, ?_⟩
  · exact ho1.keep fun k hk => Below.heap_setCell _ _ _ k (by have := (ho1.block k hk).1; simp; omega)
  · have hB : Below b wx (wx.alloc o) := (Below.refl _ _).alloc (by omega) _
    exact (hB.grown hg (by simp; omega) (fun k hk => by have := (ho.block k hk).1; omega)).setCell (Nat.le_refl _) _
set_option maxRecDepth 100000 in
set_option maxHeartbeats 2000000 in
theorem given_any {B : Nat} (n : Nat) (w : World) (hgl : Glob B w) (hn : n < 3) :
    Calls Tryz.prog 76 #[.int .i64 (n : Int)] w fun e w' => ∃ v, e = .returned (.agg #[.int .i64 (logN n : Int), v]) ∧ OwE icel w' 3 w.heap.size v (partsN n) ∧ Below w.heap.size w w' := by
  obtain ⟨i0, hi0, hz0, hz1, hz2⟩ := info_parts int_info
  have HI := Lib.hid (And.intro hi0 (And.intro hz0 (And.intro hz1 hz2)))
  have hgl1 := hgl.alloc (.cells #[.int .i64 0, .slice none 0 0] 164)
  have q0 := hgl1.2.1 n hn
  obtain ⟨A, q1, hd⟩ := ((hgl1.alloc (.cells #[.int .i64 (logN n : Int), .slice none 0 0] 164)).2.2.2.1 n hn)
  have hB0 := hgl.size
  have hlen := parts_len n hn
  have hhas := has_le n hn
  have hla := last_le n hn
  have hnn : (n : Int) < 3 := by omega
  generalize logN n = lg at *
  generalize partsN n = ps at *
  obtain ⟨m, hm⟩ : ∃ m, m = ps.length := ⟨_, rfl⟩
  rw [← hm] at q1 hlen
  have hm1 : 1 ≤ m := by omega
  have hm53 : m ≤ 53 := by omega
  obtain ⟨W, hW⟩ : ∃ W, W = (w.alloc (.cells #[.int .i64 0, .slice none 0 0] 164)).alloc (.cells #[.int .i64 (lg : Int), .slice none 0 0] 164) := ⟨_, rfl⟩
  have hB1 : Below w.heap.size w W := by rw [hW]; exact ((Below.refl _ _).alloc (Nat.le_refl _) _).alloc (by simp) _
  have hbr : Box W w.heap.size 164 #[.int .i64 0, .slice none 0 0] := by rw [hW]; exact (Box.new w _ _).alloc _
  have hbx : Box W (w.heap.size + 1) 164 #[.int .i64 (lg : Int), .slice none 0 0] := by
    rw [hW]
    have := Box.new (w.alloc (.cells #[.int .i64 0, .slice none 0 0] 164)) 164 #[.int .i64 (lg : Int), .slice none 0 0]
    rw [World.size_alloc] at this
    exact this
  rw [← hW] at q1 hd
  have HM := Lib.hid hm
  obtain ⟨d, o, hA, _, hdB, hc⟩ := hd (by omega)
  obtain rfl := Option.some.inj hA
  have HC := Lib.hid hc
  have HS := Lib.hid (And.intro hbr (And.intro hbx hB1))
  have hWz : W.heap.size = w.heap.size + 2 := by rw [hW]; simp
  have HWz := Lib.hid hWz
  clear hgl hgl1 hd hm hlen hhas hla hi0 hz0 hz1 hz2 hbr hbx hB1 hc hWz hA
  go_enter Tryz.func76, Tryz.ntmps76
  go_upto_region 2 with (fail)
  rw [← hW]
  clear hW q0
  go_wp2_with fail
  go_loopg [14] m (fun gh i wx => ∃ (j : Nat) (v : Value), j + gh = m ∧ i = .int .i64 (j : Int) ∧ Box wx (w.heap.size + 1) 164 #[.int .i64 (lg : Int), v] ∧ OwE icel wx 3 (w.heap.size + 1 + 1) v (ps.take j) ∧ Box wx w.heap.size 164 #[.int .i64 0, .slice none 0 0] ∧ Below w.heap.size w wx ∧ Hid (Below W.heap.size W wx ∨ True) ∧ (∀ i, i < ps.length → wx.cell? ⟨d, o + i, none⟩ = W.cell? ⟨d, o + i, none⟩))
  case atStart => exact ⟨0, _, by omega, rfl, HS.out.2.1, OwE.nil _ _ _ _, HS.out.1, HS.out.2.2, .inr trivial, fun _ _ => rfl⟩
  case round =>
    obtain ⟨j, v, hj, rfl, hb, ho, hr, hB, _, hsame⟩ := hrel
    obtain ⟨Av, nv, cv, rfl⟩ := ho.slice
    obtain ⟨c0, c1, f0, f1⟩ := box2 hb
    have HX := Lib.hid hb
    have HO := Lib.hid ho
    have HR := Lib.hid hr
    have HBx := Lib.hid hB
    have HJ := Lib.hid hj
    have HSm := Lib.hid hsame
    have hlt := hb.lt
    have hjm : j ≤ m := by omega
    clear hb ho hr hB hj hsame q1
    by_cases hjl : j < m
    · obtain ⟨g', rfl⟩ : ∃ g', gk = g' + 1 := ⟨gk - 1, by have := HJ.out; omega⟩
      have hji : (j : Int) < (m : Int) := by omega
      have hjp : j < ps.length := by have := HM.out; omega
      have q2 := (HSm.out j hjp).trans (HC.out j hjp)
      have HTk := Lib.hid (List.take_succ_eq_append_getElem hjp)
      have HLn : Hid ((ps.take j).length ≤ 53) := by show (ps.take j).length ≤ 53; rw [List.length_take]; omega
      unfold icel at q2
      generalize ps[j] = x at *
      have HA := Lib.hid (HO.out.alloc (.cells #[.int .i64 x] 3))
      have HD1 := Lib.hid (datE_one icel wr x 3 _ rfl)
      go_wp2_with (at_builtin; refine list_appE icel_one _ rfl _ _ 72 rfl i0 (.int .i64 0) 8 Tryz.underlying72 HI.out.1 HI.out.2.1 HI.out.2.2.1 HI.out.2.2.2 rfl (by decide) rfl HA.out rfl HD1.out rfl ?_ ?_ ?_)
      · have := HLn.out; first | omega | (simp; omega)
      · first | omega | (simp; omega)
      intro v1 w4 ho1 hg1 hat1
      obtain ⟨Av1, nv1, cv1, rfl⟩ := ho1.slice
      obtain ⟨k0, k1, kf, HK⟩ := pushI_facts HX.out HO.out ho1 hg1
      have HKr := Lib.hid (HR.out.below HK.out.2.2 (by omega))
      have HKb := Lib.hid (HBx.out.trans (HK.out.2.2.mono (by omega)))
      have HKs : Hid (∀ i, i < ps.length → (w4.setCell ⟨w.heap.size + 1, 1, none⟩ (.slice Av1 nv1 cv1)).cell? ⟨d, o + i, none⟩ = W.cell? ⟨d, o + i, none⟩) := fun i hi => (HK.out.2.2.cell (p := ⟨d, o + i, none⟩) (show d < w.heap.size + 1 by omega)).trans (HSm.out i hi)
      clear ho1 hg1 hat1 HA HD1 c0 c1 f0 f1
      go_wp2_with fail
      go_roundg g'
      case rel =>
        refine ⟨j + 1, _, by have := HJ.out; omega, by go_num, HK.out.1, ?_, HKr.out, HKb.out, .inr trivial, HKs.out⟩
        rw [HTk.out]
        exact HK.out.2.1
      case measure => omega
    · obtain rfl : j = m := by omega
      have hji : ¬ (j : Int) < (j : Int) := by omega
      have hT : ps.take j = ps := List.take_of_length_le (by have := HM.out; omega)
      rw [hT] at HO
      obtain ⟨r0, r1, k0, k1⟩ := box2 HR.out
      clear hT
      go_wp2_with fail
      refine bodyPost_ret (v := .agg #[.int .i64 (lg : Int), .slice Av nv cv]) (by simp [results, Tryz.results76, go_sem, r0, r1]) rfl ⟨_, rfl, ?_, ?_⟩
      · refine (HO.out.keep fun k hk => ?_).mono (by omega)
        have hk4 := (HO.out.block k hk).1
        rw [Below.heap_setCell _ _ _ k (by show k ≠ w.heap.size; omega), Below.heap_setCell _ _ _ k (by show k ≠ w.heap.size; omega)]
      · exact (HBx.out.setCell (Nat.le_refl _) _).setCell (Nat.le_refl _) _

set_option maxRecDepth 100000 in
set_option maxHeartbeats 2000000 in
theorem default_any {B : Nat} (n : Nat) (w : World) (hgl : Glob B w) (hn : n < 3) :
    Calls Tryz.prog 39 #[.int .i64 (n : Int)] w fun e w' => ∃ v, e = .returned (.tuple #[.agg #[.int .i64 (logN n : Int), v], .int .i64 0]) ∧ OwR 3 ecell w' 111 w.heap.size v (tabG n) ∧ Below w.heap.size w w' := by
  have hgl1 := hgl.alloc (.cells #[.int .i64 0, .slice none 0 0] 27)
  have HK := Lib.hid (kind_any (n : Int) _ hgl1)
  rw [decide_eq_true (show (0 : Int) ≤ (n : Int) ∧ (n : Int) ≤ 2 by omega)] at HK
  have HG := Lib.hid (given_any n _ hgl1 hn)
  have hlen := parts_len n hn
  have hhas := has_le n hn
  have hla := last_le n hn
  have HMay := Lib.hid (given_may n hn)
  have HBd := Lib.hid (parts_bd n hn)
  have HX := Lib.hid (Box.new w 27 #[.int .i64 0, .slice none 0 0])
  have HB0 : Hid (Below w.heap.size w (w.alloc (.cells #[.int .i64 0, .slice none 0 0] 27))) := (Below.refl _ _).alloc (Nat.le_refl _) _
  have hsz1 : (w.alloc (.cells #[.int .i64 0, .slice none 0 0] 27)).heap.size = w.heap.size + 1 := by simp
  have HSz := Lib.hid hsz1
  have hm53 : (partsN n).length ≤ 53 := by omega
  have HM := Lib.hid hm53
  unfold tabG
  generalize logN n = lg at *
  generalize partsN n = ps at *
  clear hgl hgl1 hlen hhas hla hsz1 hm53
  go_enter Tryz.func39, Tryz.ntmps39
  go_wp2_with (go_at_call 74; refine HK.out.mono ?_; rintro e' w' ⟨rfl, rfl⟩)
  generalize w.alloc (.cells #[.int .i64 0, .slice none 0 0] 27) = W at *
  have hWs : w.heap.size < W.heap.size := by have := HSz.out; omega
  refine HG.out.mono ?_
  rintro e w1 ⟨v1, rfl, ho1, hB1⟩
  obtain ⟨A1, c1, rfl, hc1, hd1⟩ := ho1.form
  have HBu := Lib.hid (build_yes (cp := c1) lg HMay.out hd1 rfl hc1 (by have := HM.out; unfold maxLen; omega) (Nat.le_refl _) HBd.out)
  have HB1 := Lib.hid hB1
  obtain ⟨m, hm⟩ : ∃ m, m = ps.length := ⟨_, rfl⟩
  rw [← hm] at HBu ⊢
  clear ho1 hc1 hd1 hB1 hm
  go_wp2_with fail
  refine HBu.out.mono ?_
  rintro e w2 ⟨v2, rfl, ho2, hB2⟩
  obtain ⟨A2, n2, c2, rfl⟩ := ho2.slice
  have HO2 := Lib.hid ho2
  have HB2 := Lib.hid (HB1.out.trans (hB2.mono HB1.out.size))
  have hs2 := hB2.size
  have hs1 := HB1.out.size
  obtain ⟨t0, t1, k0, k1⟩ := box2 (HX.out.below HB2.out hWs)
  clear ho2 hB2
  go_wp2_with fail
  refine bodyPost_ret (v := .tuple #[.agg #[.int .i64 (lg : Int), .slice A2 n2 c2], .int .i64 0]) (by simp [results, Tryz.results39, go_sem, t0, t1]) rfl ⟨.slice A2 n2 c2, rfl, ?_, ?_⟩
  · refine (HO2.out.keep fun k hk => ?_).mono (show w.heap.size ≤ w1.heap.size by omega)
    have hk4 : w1.heap.size ≤ k := (HO2.out.block k hk).1
    rw [Below.heap_setCell _ _ _ k (by show k ≠ w.heap.size; omega), Below.heap_setCell _ _ _ k (by show k ≠ w.heap.size; omega)]
  · exact ((HB0.out.trans (HB2.out.mono (by omega))).setCell (Nat.le_refl _) _).setCell (Nat.le_refl _) _
end Go.Proofs.YtlidnialggpcpaaGreatDoor

/- The contracts of the program's readSingle and readAgain. -/
namespace Go.Proofs.YtlidnialggpcpaaGreatDoor
open Go.RowKit

theorem quiet_t {P : Program} {f : FuncId} {args : Array Value} {w : World} {n : Nat} {v : Value}
    (h : Calls P f args (w.drewN n) fun e w' => e = .returned v ∧ w.drewN n = w') : Calls P f args (w.drewN n) fun e w'' => e = .returned v ∧ ∃ m, w'' = w.drewN m :=
  h.mono fun _ _ ⟨he, hm⟩ => ⟨he, n, hm.symm⟩
theorem below_drewN {B : Nat} {a w : World} (h : Below B a w) (n : Nat) : Below B a (w.drewN n) := ⟨h.os, h.tape, h.output, h.size, h.block⟩

section
variable {B n m c lo hi : Nat} {w : World} {A : Option Addr} {own : Bool} {xs r : List UInt8} {z : UInt8}
theorem single_nil :
    Calls Tryz.prog 79 #[.int .i64 (n : Int), .slice A 0 c] w fun e w' => e = .returned (.tuple #[.agg #[.int .i64 0, .slice none 0 0], .int .i64 0, .int .i64 10]) ∧ Below w.heap.size w w' := by
  go_enter Tryz.func79, Tryz.ntmps79
  go_wp2_with fail
  refine bodyPost_ret (v := .tuple #[.agg #[.int .i64 0, .slice none 0 0], .int .i64 0, .int .i64 10]) (by simp [results, Tryz.results79, go_sem]) rfl ⟨rfl, ?_⟩
  exact (Below.refl _ _).alloc (Nat.le_refl _) _

set_option maxRecDepth 100000 in
set_option maxHeartbeats 1000000 in
theorem single_big (hgl : Glob B w) (hn : n < 3) (hd : Dat own w lo hi A xs) (hhi : hi ≤ w.heap.size) (hx : xs = z :: r) (hm : xs.length = m) (hz : lastN n < z.toNat) :
    Calls Tryz.prog 79 #[.int .i64 (n : Int), .slice A m c] w fun e w' => e = .returned (.tuple #[.agg #[.int .i64 0, .slice none 0 0], .int .i64 0, .int .i64 11]) ∧ Below w.heap.size w w' := by
  have HL : Hid (∀ W, Glob B W → Calls Tryz.prog 106 #[.int .i64 (n : Int)] W fun e w' => e = .returned (.int .i64 (lastN n : Int)) ∧ W = w') := fun W hW => by
    have := last_any (n : Int) W hW
    rwa [lastZ_nat hn] at this
  have HG := Lib.hid (hgl.alloc (.cells #[.int .i64 0, .slice none 0 0] 27))
  have hd1 := hd.alloc hhi (.cells #[.int .i64 0, .slice none 0 0] 27)
  subst hx
  obtain ⟨d, o, rfl, _, _, hc⟩ := hd1 (by simp)
  have q : World.cell? _ ⟨d, o, none⟩ = some (.int .u8 (z.toNat : Int)) := hc.1 0 (by simp)
  have hm1 : m = r.length + 1 := by rw [← hm]; rfl
  have hz8 := z.toNat_lt
  have HX := Lib.hid (Box.new w 27 #[.int .i64 0, .slice none 0 0])
  generalize lastN n = l at *
  generalize z.toNat = y at *
  have hm0 : ¬ (m : Int) = 0 := by omega
  have hmp : (0 : Int) < (m : Int) := by omega
  have hlz : (l : Int) < (y : Int) := by omega
  clear hgl hd hd1 hc hm hm1
  go_enter Tryz.func79, Tryz.ntmps79
  go_wp2_with fail
  go_quiet ((go_at_call 106; exact quiet_t (HL.out ((w.alloc (.cells #[.int .i64 0, .slice none 0 0] 27)).drewN _) HG.out)))
  obtain ⟨t0, t1, k0, k1⟩ := box2 HX.out
  go_wp2
  refine bodyPost_ret (v := .tuple #[.agg #[.int .i64 0, .slice none 0 0], .int .i64 0, .int .i64 11]) (by simp [results, Tryz.results79, go_sem]) rfl ⟨rfl, ?_⟩
  exact ((below_drewN ((Below.refl _ _).alloc (Nat.le_refl _) _) _).setCell (Nat.le_refl _) _).setCell (Nat.le_refl _) _

set_option maxRecDepth 100000 in
set_option maxHeartbeats 1000000 in
theorem single_ok (hgl : Glob B w) (hn : n < 3) (hd : Dat own w lo hi A xs) (hhi : hi ≤ w.heap.size) (hx : xs = z :: r) (hm : xs.length = m) (hz : z.toNat ≤ lastN n) :
    Calls Tryz.prog 79 #[.int .i64 (n : Int), .slice A m c] w fun e w' => ∃ v, e = .returned (.tuple #[.agg #[.int .i64 0, v], .int .i64 1, .int .i64 0]) ∧ OwR 3 ecell w' 111 w.heap.size v [⟨(z.toNat : Int), 0, 0⟩] ∧ Below w.heap.size w w' := by
  have HL : Hid (∀ W, Glob B W → Calls Tryz.prog 106 #[.int .i64 (n : Int)] W fun e w' => e = .returned (.int .i64 (lastN n : Int)) ∧ W = w') := fun W hW => by
    have := last_any (n : Int) W hW
    rwa [lastZ_nat hn] at this
  have HG := Lib.hid (hgl.alloc (.cells #[.int .i64 0, .slice none 0 0] 27))
  have hd1 := hd.alloc hhi (.cells #[.int .i64 0, .slice none 0 0] 27)
  subst hx
  obtain ⟨d, o, rfl, _, _, hc⟩ := hd1 (by simp)
  have q : World.cell? _ ⟨d, o, none⟩ = some (.int .u8 (z.toNat : Int)) := hc.1 0 (by simp)
  have hm1 : m = r.length + 1 := by rw [← hm]; rfl
  have hz8 := z.toNat_lt
  have HX := Lib.hid (Box.new w 27 #[.int .i64 0, .slice none 0 0])
  generalize lastN n = l at *
  generalize z.toNat = y at *
  have hm0 : ¬ (m : Int) = 0 := by omega
  have hmp : (0 : Int) < (m : Int) := by omega
  have hlz : decide ((l : Int) < (y : Int)) = false := by simp; omega
  have HB0 : Hid (Below w.heap.size w (w.alloc (.cells #[.int .i64 0, .slice none 0 0] 27))) := (Below.refl _ _).alloc (Nat.le_refl _) _
  have hsz : (w.alloc (.cells #[.int .i64 0, .slice none 0 0] 27)).heap.size = w.heap.size + 1 := by simp
  have HSz := Lib.hid hsz
  clear hgl hd hd1 hc hm hm1 hsz
  go_enter Tryz.func79, Tryz.ntmps79
  go_wp2_with fail
  generalize w.alloc (.cells #[.int .i64 0, .slice none 0 0] 27) = W at *
  go_quiet ((go_at_call 106; exact quiet_t (HL.out (W.drewN _) HG.out)))
  go_wp2_with (go_at_call 40; refine (one_any _ _).mono ?_; rintro e' w1 ⟨v1, rfl, ho, hB⟩; obtain ⟨A1, n1, c1, rfl⟩ := ho.slice; have HO := Lib.hid ho; have HB1 := Lib.hid (show Below W.heap.size W w1 from ⟨hB.os, hB.tape, hB.output, hB.size, hB.block⟩); obtain ⟨t0, t1, k0, k1⟩ := box2 (HX.out.below HB1.out (by have := HSz.out; omega)); clear ho hB)
  have hs := HSz.out
  go_wp2
  refine bodyPost_ret (v := .tuple #[.agg #[.int .i64 0, .slice A1 n1 c1], .int .i64 1, .int .i64 0]) (by simp [results, Tryz.results79, go_sem, t0, t1]) rfl ⟨_, rfl, ?_, ?_⟩
  · refine (HO.out.keep fun k hk => ?_).mono (show w.heap.size ≤ W.heap.size by omega)
    have hk4 : W.heap.size ≤ k := (HO.out.block k hk).1
    rw [Below.heap_setCell _ _ _ k (by show k ≠ w.heap.size; omega), Below.heap_setCell _ _ _ k (by show k ≠ w.heap.size; omega)]
  · exact ((HB0.out.trans (HB1.out.mono (by omega))).setCell (Nat.le_refl _) _).setCell (Nat.le_refl _) _

/-! Again. -/
theorem again_nil (L : Int) (A : Option Addr) (c : Nat) (w : World) :
    Calls Tryz.prog 81 #[.agg #[.int .i64 L, .slice A 0 c]] w fun e w' => e = .returned (.tuple #[.agg #[.int .i64 0, .slice none 0 0], .int .i64 0, .int .i64 11]) ∧ Below w.heap.size w w' := by
  go_enter Tryz.func81, Tryz.ntmps81
  go_wp2_with fail
  refine bodyPost_ret (v := .tuple #[.agg #[.int .i64 0, .slice none 0 0], .int .i64 0, .int .i64 11]) (by simp [results, Tryz.results81, go_sem]) rfl ⟨rfl, ?_⟩
  exact ((Below.refl _ _).alloc (Nat.le_refl _) _).alloc (by simp) _

end
end Go.Proofs.YtlidnialggpcpaaGreatDoor

/- The contracts of the program's Read, by modes 1 and 3. Made by gen-TabReads.py. -/
namespace Go.Proofs.YtlidnialggpcpaaGreatDoor
open Go.RowKit

set_option maxRecDepth 100000 in
set_option maxHeartbeats 1000000 in
theorem read1_nil {B n ne ce : Nat} {E : Option Addr} {w : World} (L : Int) {A : Option Addr} {c : Nat} (hgl : Glob B w) (hn : n < 3) :
    Calls Tryz.prog 48 #[.int .i64 (n : Int), .int .i64 1, .slice A 0 c, .agg #[.int .i64 L, .slice E ne ce]] w fun e w' => e = .returned (.tuple #[.agg #[.int .i64 0, .slice none 0 0], .int .i64 0, .int .i64 10]) ∧ Below w.heap.size w w' := by
  have HB2 : Hid (Below w.heap.size w ((w.alloc (.cells #[.int .i64 L, .slice E ne ce] 27)).alloc (.cells #[.int .i64 0, .slice none 0 0] 27))) := ((Below.refl _ _).alloc (Nat.le_refl _) _).alloc (by simp) _
  have hsz : ((w.alloc (.cells #[.int .i64 L, .slice E ne ce] 27)).alloc (.cells #[.int .i64 0, .slice none 0 0] 27)).heap.size = w.heap.size + 2 := by simp
  have HSz := Lib.hid hsz
  have hx1 := Box.new (w.alloc (.cells #[.int .i64 L, .slice E ne ce] 27)) 27 #[.int .i64 0, .slice none 0 0]
  rw [World.size_alloc] at hx1
  have HX1 := Lib.hid hx1
  have HX0 := Lib.hid ((Box.new w 27 #[.int .i64 L, .slice E ne ce]).alloc (.cells #[.int .i64 0, .slice none 0 0] 27))
  have hg := (hgl.alloc (.cells #[.int .i64 L, .slice E ne ce] 27)).alloc (.cells #[.int .i64 0, .slice none 0 0] 27)
  have HG := Lib.hid hg
  have HK := Lib.hid (kind_any (n : Int) _ hg)
  rw [decide_eq_true (show (0 : Int) ≤ (n : Int) ∧ (n : Int) ≤ 2 by omega)] at HK
  have HC := Lib.hid (single_nil (n := n) (A := A) (c := c) (w := (w.alloc (.cells #[.int .i64 L, .slice E ne ce] 27)).alloc (.cells #[.int .i64 0, .slice none 0 0] 27)))
  clear hg hx1 hsz hgl 
  go_enter Tryz.func48, Tryz.ntmps48
  go_wp2_with (go_at_call 74; refine HK.out.mono ?_; rintro e' w' ⟨rfl, rfl⟩)
  go_wp2_with (go_at_call 79; refine HC.out.mono ?_; rintro e' w1 ⟨rfl, hB1⟩; have HB1 := Lib.hid hB1; obtain ⟨t0, t1, k0, k1⟩ := box2 (HX1.out.below hB1 (by have := HSz.out; omega)); clear hB1)
  have hs1 := HB1.out.size
  have hs2 := HSz.out
  refine bodyPost_ret (v := .tuple #[.agg #[.int .i64 0, .slice none 0 0], .int .i64 0, .int .i64 10]) (by simp [results, Tryz.results48, go_sem, t0, t1]) rfl ⟨rfl, ?_⟩
  exact ((HB2.out.trans (HB1.out.mono (by omega))).setCell (by show w.heap.size ≤ w.heap.size + 1; omega) _).setCell (by show w.heap.size ≤ w.heap.size + 1; omega) _
set_option maxRecDepth 100000 in
set_option maxHeartbeats 1000000 in
theorem read1_big {B n ne ce : Nat} {E : Option Addr} {w : World} (L : Int) {own : Bool} {lo hi m c : Nat} {A : Option Addr} {xs r : List UInt8} {z : UInt8} (hgl : Glob B w) (hn : n < 3) (hd : Dat own w lo hi A xs) (hhi : hi ≤ w.heap.size) (hx : xs = z :: r) (hm : xs.length = m) (hz : lastN n < z.toNat) :
    Calls Tryz.prog 48 #[.int .i64 (n : Int), .int .i64 1, .slice A m c, .agg #[.int .i64 L, .slice E ne ce]] w fun e w' => e = .returned (.tuple #[.agg #[.int .i64 0, .slice none 0 0], .int .i64 0, .int .i64 11]) ∧ Below w.heap.size w w' := by
  have HB2 : Hid (Below w.heap.size w ((w.alloc (.cells #[.int .i64 L, .slice E ne ce] 27)).alloc (.cells #[.int .i64 0, .slice none 0 0] 27))) := ((Below.refl _ _).alloc (Nat.le_refl _) _).alloc (by simp) _
  have hsz : ((w.alloc (.cells #[.int .i64 L, .slice E ne ce] 27)).alloc (.cells #[.int .i64 0, .slice none 0 0] 27)).heap.size = w.heap.size + 2 := by simp
  have HSz := Lib.hid hsz
  have hx1 := Box.new (w.alloc (.cells #[.int .i64 L, .slice E ne ce] 27)) 27 #[.int .i64 0, .slice none 0 0]
  rw [World.size_alloc] at hx1
  have HX1 := Lib.hid hx1
  have HX0 := Lib.hid ((Box.new w 27 #[.int .i64 L, .slice E ne ce]).alloc (.cells #[.int .i64 0, .slice none 0 0] 27))
  have hg := (hgl.alloc (.cells #[.int .i64 L, .slice E ne ce] 27)).alloc (.cells #[.int .i64 0, .slice none 0 0] 27)
  have HG := Lib.hid hg
  have HK := Lib.hid (kind_any (n : Int) _ hg)
  rw [decide_eq_true (show (0 : Int) ≤ (n : Int) ∧ (n : Int) ≤ 2 by omega)] at HK
  have HC := Lib.hid (single_big (c := c) hg hn ((hd.alloc hhi (.cells #[.int .i64 L, .slice E ne ce] 27)).alloc (by simp; omega) (.cells #[.int .i64 0, .slice none 0 0] 27)) (by simp; omega) hx hm hz)
  clear hg hx1 hsz hgl hd hx hm hz
  go_enter Tryz.func48, Tryz.ntmps48
  go_wp2_with (go_at_call 74; refine HK.out.mono ?_; rintro e' w' ⟨rfl, rfl⟩)
  go_wp2_with (go_at_call 79; refine HC.out.mono ?_; rintro e' w1 ⟨rfl, hB1⟩; have HB1 := Lib.hid hB1; obtain ⟨t0, t1, k0, k1⟩ := box2 (HX1.out.below hB1 (by have := HSz.out; omega)); clear hB1)
  have hs1 := HB1.out.size
  have hs2 := HSz.out
  refine bodyPost_ret (v := .tuple #[.agg #[.int .i64 0, .slice none 0 0], .int .i64 0, .int .i64 11]) (by simp [results, Tryz.results48, go_sem, t0, t1]) rfl ⟨rfl, ?_⟩
  exact ((HB2.out.trans (HB1.out.mono (by omega))).setCell (by show w.heap.size ≤ w.heap.size + 1; omega) _).setCell (by show w.heap.size ≤ w.heap.size + 1; omega) _
set_option maxRecDepth 100000 in
set_option maxHeartbeats 1000000 in
theorem read1_ok {B n ne ce : Nat} {E : Option Addr} {w : World} (L : Int) {own : Bool} {lo hi m c : Nat} {A : Option Addr} {xs r : List UInt8} {z : UInt8} (hgl : Glob B w) (hn : n < 3) (hd : Dat own w lo hi A xs) (hhi : hi ≤ w.heap.size) (hx : xs = z :: r) (hm : xs.length = m) (hz : z.toNat ≤ lastN n) :
    Calls Tryz.prog 48 #[.int .i64 (n : Int), .int .i64 1, .slice A m c, .agg #[.int .i64 L, .slice E ne ce]] w fun e w' => ∃ v, e = .returned (.tuple #[.agg #[.int .i64 0, v], .int .i64 1, .int .i64 0]) ∧ OwR 3 ecell w' 111 w.heap.size v [⟨(z.toNat : Int), 0, 0⟩] ∧ Below w.heap.size w w' := by
  have HB2 : Hid (Below w.heap.size w ((w.alloc (.cells #[.int .i64 L, .slice E ne ce] 27)).alloc (.cells #[.int .i64 0, .slice none 0 0] 27))) := ((Below.refl _ _).alloc (Nat.le_refl _) _).alloc (by simp) _
  have hsz : ((w.alloc (.cells #[.int .i64 L, .slice E ne ce] 27)).alloc (.cells #[.int .i64 0, .slice none 0 0] 27)).heap.size = w.heap.size + 2 := by simp
  have HSz := Lib.hid hsz
  have hx1 := Box.new (w.alloc (.cells #[.int .i64 L, .slice E ne ce] 27)) 27 #[.int .i64 0, .slice none 0 0]
  rw [World.size_alloc] at hx1
  have HX1 := Lib.hid hx1
  have HX0 := Lib.hid ((Box.new w 27 #[.int .i64 L, .slice E ne ce]).alloc (.cells #[.int .i64 0, .slice none 0 0] 27))
  have hg := (hgl.alloc (.cells #[.int .i64 L, .slice E ne ce] 27)).alloc (.cells #[.int .i64 0, .slice none 0 0] 27)
  have HG := Lib.hid hg
  have HK := Lib.hid (kind_any (n : Int) _ hg)
  rw [decide_eq_true (show (0 : Int) ≤ (n : Int) ∧ (n : Int) ≤ 2 by omega)] at HK
  have HC := Lib.hid (single_ok (c := c) hg hn ((hd.alloc hhi (.cells #[.int .i64 L, .slice E ne ce] 27)).alloc (by simp; omega) (.cells #[.int .i64 0, .slice none 0 0] 27)) (by simp; omega) hx hm hz)
  clear hg hx1 hsz hgl hd hx hm hz
  go_enter Tryz.func48, Tryz.ntmps48
  go_wp2_with (go_at_call 74; refine HK.out.mono ?_; rintro e' w' ⟨rfl, rfl⟩)
  go_wp2_with (go_at_call 79; refine HC.out.mono ?_; rintro e' w1 ⟨v1, rfl, ho1, hB1⟩; obtain ⟨A1, n1, c1, rfl⟩ := ho1.slice; have HO1 := Lib.hid ho1; have HB1 := Lib.hid hB1; obtain ⟨t0, t1, k0, k1⟩ := box2 (HX1.out.below hB1 (by have := HSz.out; omega)); clear ho1 hB1)
  have hs1 := HB1.out.size
  have hs2 := HSz.out
  refine bodyPost_ret (v := .tuple #[.agg #[.int .i64 0, .slice A1 n1 c1], .int .i64 1, .int .i64 0]) (by simp [results, Tryz.results48, go_sem, t0, t1]) rfl ⟨_, rfl, ?_, ?_⟩
  · refine (HO1.out.keep fun k hk => ?_).mono (by omega)
    have hk4 := (HO1.out.block k hk).1
    rw [Below.heap_setCell _ _ _ k (by show k ≠ w.heap.size + 1; omega), Below.heap_setCell _ _ _ k (by show k ≠ w.heap.size + 1; omega)]
  · exact ((HB2.out.trans (HB1.out.mono (by omega))).setCell (by show w.heap.size ≤ w.heap.size + 1; omega) _).setCell (by show w.heap.size ≤ w.heap.size + 1; omega) _
set_option maxRecDepth 100000 in
set_option maxHeartbeats 1000000 in
theorem read3_nil {B n ce m c : Nat} {E A : Option Addr} {w : World} (L : Int) (hgl : Glob B w) (hn : n < 3) :
    Calls Tryz.prog 48 #[.int .i64 (n : Int), .int .i64 3, .slice A m c, .agg #[.int .i64 L, .slice E 0 ce]] w fun e w' => e = .returned (.tuple #[.agg #[.int .i64 0, .slice none 0 0], .int .i64 0, .int .i64 11]) ∧ Below w.heap.size w w' := by
  have HB2 : Hid (Below w.heap.size w ((w.alloc (.cells #[.int .i64 L, .slice E 0 ce] 27)).alloc (.cells #[.int .i64 0, .slice none 0 0] 27))) := ((Below.refl _ _).alloc (Nat.le_refl _) _).alloc (by simp) _
  have hsz : ((w.alloc (.cells #[.int .i64 L, .slice E 0 ce] 27)).alloc (.cells #[.int .i64 0, .slice none 0 0] 27)).heap.size = w.heap.size + 2 := by simp
  have HSz := Lib.hid hsz
  have hx1 := Box.new (w.alloc (.cells #[.int .i64 L, .slice E 0 ce] 27)) 27 #[.int .i64 0, .slice none 0 0]
  rw [World.size_alloc] at hx1
  have HX1 := Lib.hid hx1
  have HX0 := Lib.hid ((Box.new w 27 #[.int .i64 L, .slice E 0 ce]).alloc (.cells #[.int .i64 0, .slice none 0 0] 27))
  have hg := (hgl.alloc (.cells #[.int .i64 L, .slice E 0 ce] 27)).alloc (.cells #[.int .i64 0, .slice none 0 0] 27)
  have HG := Lib.hid hg
  have HK := Lib.hid (kind_any (n : Int) _ hg)
  rw [decide_eq_true (show (0 : Int) ≤ (n : Int) ∧ (n : Int) ≤ 2 by omega)] at HK
  have HC := Lib.hid (again_nil L E ce ((w.alloc (.cells #[.int .i64 L, .slice E 0 ce] 27)).alloc (.cells #[.int .i64 0, .slice none 0 0] 27)))
  clear hg hx1 hsz hgl 
  go_enter Tryz.func48, Tryz.ntmps48
  go_wp2_with (go_at_call 74; refine HK.out.mono ?_; rintro e' w' ⟨rfl, rfl⟩)
  go_wp2_with (go_at_call 81; refine HC.out.mono ?_; rintro e' w1 ⟨rfl, hB1⟩; have HB1 := Lib.hid hB1; obtain ⟨t0, t1, k0, k1⟩ := box2 (HX1.out.below hB1 (by have := HSz.out; omega)); clear hB1)
  have hs1 := HB1.out.size
  have hs2 := HSz.out
  refine bodyPost_ret (v := .tuple #[.agg #[.int .i64 0, .slice none 0 0], .int .i64 0, .int .i64 11]) (by simp [results, Tryz.results48, go_sem, t0, t1]) rfl ⟨rfl, ?_⟩
  exact ((HB2.out.trans (HB1.out.mono (by omega))).setCell (by show w.heap.size ≤ w.heap.size + 1; omega) _).setCell (by show w.heap.size ≤ w.heap.size + 1; omega) _
end Go.Proofs.YtlidnialggpcpaaGreatDoor

/- The contracts of the program's isKind, size, begin, Last, Code and Of. -/
namespace Go.Proofs.YtlidnialggpcpaaGreatDoor.cd
open Go.RowKit

theorem quiet_one {P : Program} {f : FuncId} {args : Array Value} {w : World} {n : Nat} {v : Value}
    (h : Calls P f args (w.drewN n) fun e w' => e = .returned v ∧ w.drewN n = w') : Calls P f args (w.drewN n) fun e w'' => e = .returned v ∧ ∃ m, w'' = w.drewN m :=
  h.mono fun _ _ ⟨he, hm⟩ => ⟨he, n, hm.symm⟩
theorem below_drawn {B : Nat} {a w : World} (h : Below B a w) (n : Nat) : Below B a (w.drewN n) := ⟨h.os, h.tape, h.output, h.size, h.block⟩

theorem isKind_any (k : Int) (w : World) :
    Calls Tryz.prog 94 #[.int .i64 k] w fun e w' => e = .returned (.bool (decide (0 ≤ k ∧ k ≤ 2))) ∧ w = w' := by
  by_cases h0 : 0 ≤ k
  · by_cases h2 : k ≤ 2
    · rw [show decide (0 ≤ k ∧ k ≤ 2) = true by simp [h0, h2]]
      go_enter Tryz.func94, Tryz.ntmps94
      go_wp2
      go_ret
      exact ⟨rfl, rfl⟩
    · rw [show decide (0 ≤ k ∧ k ≤ 2) = false by simp [h2]]
      have hd : decide (k ≤ 2) = false := by simp; omega
      go_enter Tryz.func94, Tryz.ntmps94
      go_wp2
      go_ret
      exact ⟨rfl, rfl⟩
  · rw [show decide (0 ≤ k ∧ k ≤ 2) = false by simp [h0]]
    go_enter Tryz.func94, Tryz.ntmps94
    go_wp2
    go_ret
    exact ⟨rfl, rfl⟩

theorem pow_u32 (n : Nat) (h : n ≤ 31) : IntKind.u32.wrap ((2 : Int) ^ n) = ((2 ^ n : Nat) : Int) := by
  have hp : 2 ^ n ≤ 2 ^ 31 := Nat.pow_le_pow_right (by omega) h
  rw [show (2 : Int) ^ n = ((2 ^ n : Nat) : Int) by simp, IntKind.wrap_u32']
  generalize 2 ^ n = X at hp ⊢
  omega

theorem size_any (k c : Nat) (w : World) (hgl : Glob w) (hk : k < 3) (hc : c < 53) :
    Calls Tryz.prog 95 #[.int .i64 (k : Int), .int .i64 (c : Int)] w fun e w' => e = .returned (.int .u32 ((2 ^ addN k c : Nat) : Int)) ∧ w = w' := by
  have q := hgl.2.1 k hk c hc
  have ha := add_le k hk c hc
  obtain ⟨n, hn⟩ : ∃ n, n = addN k c := ⟨_, rfl⟩
  rw [← hn] at q ha ⊢
  have hp := pow_u32 n ha
  clear hn hgl
  go_enter Tryz.func95, Tryz.ntmps95
  go_wp2
  go_ret
  exact ⟨rfl, rfl⟩

set_option maxRecDepth 100000 in
set_option maxHeartbeats 1000000 in
theorem begin_any (k c : Nat) (w : World) (hgl : Glob w) (hk : k < 3) (hc : c ≤ lastN k) :
    Calls Tryz.prog 96 #[.int .i64 (k : Int), .int .i64 (c : Int)] w fun e w' => e = .returned (.int .u32 (beginN k c : Int)) ∧ w = w' := by
  have HG := Lib.hid hgl
  have q := hgl.2.2.1 k hk
  have hl := last_le k hk
  clear hgl
  go_enter Tryz.func96, Tryz.ntmps96
  go_wp2_with fail
  go_loopg [5, 11] c (fun gh y i wx => ∃ j : Nat, w = wx ∧ j + gh = c ∧ i = .int .i64 (j : Int) ∧ y = .int .u32 (beginN k j : Int))
  case atStart => exact ⟨0, rfl, by omega, rfl, rfl⟩
  case round =>
    obtain ⟨j, rfl, hj, rfl, rfl⟩ := hrel
    have HJ := Lib.hid hj
    have hjc : j ≤ c := by omega
    clear hj
    by_cases hlt : j < c
    · have he := end_le k hk j (by omega)
      obtain ⟨b, hb⟩ : ∃ b, b = beginN k j := ⟨_, rfl⟩
      obtain ⟨s, hs⟩ : ∃ s, s = 2 ^ addN k j := ⟨_, rfl⟩
      have HB : Hid (beginN k (j + 1) = b + s) := by rw [hb, hs]; rfl
      have HZ : Hid (∀ W, Glob W → Calls Tryz.prog 95 #[.int .i64 (k : Int), .int .i64 (j : Int)] W fun e w' => e = .returned (.int .u32 (s : Int)) ∧ W = w') := fun W hW => by rw [hs]; exact size_any k j W hW hk (by omega)
      rw [← hb, ← hs] at he
      rw [← hb]
      clear hb hs
      have hwr : IntKind.u32.wrap ((b : Int) + (s : Int)) = ((b + s : Nat) : Int) := by
        rw [IntKind.wrap_u32']
        have h1 := HB.out
        have h2 := end_le k hk (j + 1) (by omega)
        have h3 : 0 < 2 ^ addN k (j + 1) := Nat.two_pow_pos _
        omega
      go_wp2_with (go_at_call 95; refine (HZ.out _ HG.out).mono ?_; rintro e' w' ⟨rfl, rfl⟩)
      go_roundg (c - (j + 1))
      case measure => have := HJ.out; omega
      case rel => exact ⟨j + 1, rfl, by omega, by go_num, by rw [HB.out, Int.natCast_add]⟩
    · obtain rfl : j = c := by omega
      go_wp2_with fail
      go_ret
      exact ⟨rfl, rfl⟩

theorem last_any (k : Int) (w : World) (hgl : Glob w) :
    Calls Tryz.prog 106 #[.int .i64 k] w fun e w' => e = .returned (.int .i64 (lastZ k)) ∧ w = w' := by
  by_cases hb : 0 ≤ k ∧ k ≤ 2
  · obtain ⟨n, rfl⟩ := Int.eq_ofNat_of_zero_le hb.1
    have hn : n < 3 := by omega
    have q := hgl.1 n hn
    have hz : lastZ (n : Int) = (lastN n : Int) := by unfold lastZ; rw [if_neg (by omega)]; rfl
    rw [hz]
    have HI : Hid (∀ W, Calls Tryz.prog 94 #[.int .i64 (n : Int)] W fun e w' => e = .returned (.bool true) ∧ W = w') := fun W => by
      have := isKind_any (n : Int) W
      rwa [decide_eq_true hb] at this
    obtain ⟨l, hl⟩ : ∃ l, l = lastN n := ⟨_, rfl⟩
    rw [← hl] at q ⊢
    clear hl hz hb hgl
    go_enter Tryz.func106, Tryz.ntmps106
    go_wp2_with (go_at_call 94; refine (HI.out _).mono ?_; rintro e' w' ⟨rfl, rfl⟩)
    go_ret
    exact ⟨rfl, rfl⟩
  · have hz : lastZ k = -1 := by unfold lastZ; rw [if_pos (by omega)]
    rw [hz]
    have HI : Hid (∀ W, Calls Tryz.prog 94 #[.int .i64 k] W fun e w' => e = .returned (.bool false) ∧ W = w') := fun W => by
      have := isKind_any k W
      rwa [decide_eq_false hb] at this
    clear hz hb hgl
    go_enter Tryz.func106, Tryz.ntmps106
    go_wp2_with (go_at_call 94; refine (HI.out _).mono ?_; rintro e' w' ⟨rfl, rfl⟩)
    go_ret
    exact ⟨rfl, rfl⟩

/-- A code's answer. -/
def ansC (x : Nat × Nat × Nat) : Value := .tuple #[.int .u32 (x.1 : Int), .int .i64 (x.2.1 : Int), .int .i64 (x.2.2 : Int)]
/-- A value's answer. -/
def ansO (x : Nat × Nat × Nat) : Value := .tuple #[.int .i64 (x.1 : Int), .int .u32 (x.2.1 : Int), .int .i64 (x.2.2 : Int)]

set_option maxRecDepth 100000 in
set_option maxHeartbeats 1000000 in
theorem code_any (k c : Int) (w : World) (hgl : Glob w) :
    Calls Tryz.prog 64 #[.int .i64 k, .int .i64 c] w fun e w' => e = .returned (ansC (codeN k c)) ∧ Below w.heap.size w w' := by
  by_cases hb : 0 ≤ k ∧ k ≤ 2
  · obtain ⟨n, rfl⟩ := Int.eq_ofNat_of_zero_le hb.1
    have hn : n < 3 := by omega
    have q := hgl.1 n hn
    have HG := Lib.hid hgl
    have HI : Hid (∀ W, Calls Tryz.prog 94 #[.int .i64 (n : Int)] W fun e w' => e = .returned (.bool true) ∧ W = w') := fun W => by
      have := isKind_any (n : Int) W
      rwa [decide_eq_true hb] at this
    have hz : codeN (n : Int) c = if c < 0 ∨ (lastN n : Int) < c then (0, 0, 17) else (beginN n c.toNat, addN n c.toNat, 0) := by unfold codeN; rw [if_neg (by omega)]; rfl
    rw [hz]
    clear hz
    by_cases hc : 0 ≤ c ∧ c ≤ (lastN n : Int)
    · rw [if_neg (by omega)]
      obtain ⟨m, rfl⟩ := Int.eq_ofNat_of_zero_le hc.1
      have hl := last_le n hn
      have hm : m ≤ lastN n := by omega
      have q1 := hgl.2.1 n hn m (by omega)
      have HB : Hid (∀ W, Glob W → Calls Tryz.prog 96 #[.int .i64 (n : Int), .int .i64 (m : Int)] W fun e w' => e = .returned (.int .u32 (beginN n m : Int)) ∧ W = w') := fun W hW => begin_any n m W hW hn hm
      rw [show ((m : Int)).toNat = m from rfl]
      generalize beginN n m = b at *
      generalize addN n m = a at *
      generalize lastN n = l at *
      have hml : (m : Int) ≤ (l : Int) := by omega
      have hm53 : m < 53 := by omega
      have hd : decide ((l : Int) < (m : Int)) = false := by simp; omega
      clear hgl hb hc hm
      go_enter Tryz.func64, Tryz.ntmps64
      go_wp2_with (first
        | (go_at_call 94; refine (HI.out _).mono ?_; rintro e' w' ⟨rfl, rfl⟩)
        | (go_at_call 96; refine (HB.out _ HG.out).mono ?_; rintro e' w' ⟨rfl, rfl⟩))
      go_quiet ((go_at_call 96; exact quiet_one (HB.out (w.drewN _) (show Glob (w.drewN _) from HG.out))))
      go_wp2
      go_ret3
      exact ⟨rfl, below_drawn (Below.refl _ _) _⟩
    · rw [if_pos (by omega)]
      rcases Int.lt_or_le c 0 with h0 | h0
      · generalize lastN n = l at *
        clear hgl hb hc
        go_enter Tryz.func64, Tryz.ntmps64
        go_wp2_with (go_at_call 94; refine (HI.out _).mono ?_; rintro e' w' ⟨rfl, rfl⟩)
        go_ret3
        exact ⟨rfl, Below.refl _ _⟩
      · obtain ⟨m, rfl⟩ := Int.eq_ofNat_of_zero_le h0
        have hlm : lastN n < m := by omega
        generalize lastN n = l at *
        clear hgl hb hc h0
        go_enter Tryz.func64, Tryz.ntmps64
        go_wp2_with (go_at_call 94; refine (HI.out _).mono ?_; rintro e' w' ⟨rfl, rfl⟩)
        go_ret3
        exact ⟨rfl, Below.refl _ _⟩
  · have hz : codeN k c = (0, 0, 1) := by unfold codeN; rw [if_pos (by omega)]
    rw [hz]
    have HI : Hid (∀ W, Calls Tryz.prog 94 #[.int .i64 k] W fun e w' => e = .returned (.bool false) ∧ W = w') := fun W => by
      have := isKind_any k W
      rwa [decide_eq_false hb] at this
    clear hz hb hgl
    go_enter Tryz.func64, Tryz.ntmps64
    go_wp2_with (go_at_call 94; refine (HI.out _).mono ?_; rintro e' w' ⟨rfl, rfl⟩)
    go_ret3
    exact ⟨rfl, Below.refl _ _⟩

set_option maxRecDepth 100000 in
set_option maxHeartbeats 1000000 in
theorem of_any (k : Int) (v : Nat) (w : World) (hgl : Glob w) (hv : v < 4294967296) :
    Calls Tryz.prog 63 #[.int .i64 k, .int .u32 (v : Int)] w fun e w' => e = .returned (ansO (ofN k v)) ∧ w = w' := by
  by_cases hb : 0 ≤ k ∧ k ≤ 2
  · obtain ⟨n, rfl⟩ := Int.eq_ofNat_of_zero_le hb.1
    have hn : n < 3 := by omega
    have q := hgl.1 n hn
    have q2 := hgl.2.2.1 n hn
    have HG := Lib.hid hgl
    have hl := last_le n hn
    have hf3 := first_le n hn
    have HI : Hid (∀ W, Calls Tryz.prog 94 #[.int .i64 (n : Int)] W fun e w' => e = .returned (.bool true) ∧ W = w') := fun W => by
      have := isKind_any (n : Int) W
      rwa [decide_eq_true hb] at this
    have hz : ofN (n : Int) v = scan n v (lastN n + 1) 0 := by unfold ofN; rw [if_neg (by omega)]; rfl
    rw [hz]
    clear hz hb hgl
    rcases Nat.lt_or_ge v (firstN n) with hlo | hlo
    · rw [scan_low hlo]
      generalize lastN n = l at *
      generalize firstN n = f at *
      go_enter Tryz.func63, Tryz.ntmps63
      go_wp2_with (go_at_call 94; refine (HI.out _).mono ?_; rintro e' w' ⟨rfl, rfl⟩)
      go_ret3
      exact ⟨rfl, rfl⟩
    · obtain ⟨l, hll⟩ : ∃ l, l = lastN n := ⟨_, rfl⟩
      obtain ⟨f, hff⟩ : ∃ f, f = firstN n := ⟨_, rfl⟩
      have HF := Lib.hid hff
      have HL := Lib.hid hll
      obtain ⟨Z, hZ⟩ : ∃ Z, Z = scan n v (l + 1) 0 := ⟨_, rfl⟩
      have HZ := Lib.hid hZ
      rw [← hll, ← hZ]
      rw [← hll] at q hl
      rw [← hff] at q2 hlo hf3
      clear hZ hff hll
      have hsub : IntKind.u32.wrap ((v : Int) - (f : Int)) = ((v - f : Nat) : Int) := by rw [IntKind.wrap_u32']; omega
      go_enter Tryz.func63, Tryz.ntmps63
      go_wp2_with (go_at_call 94; refine (HI.out _).mono ?_; rintro e' w' ⟨rfl, rfl⟩)
      rw [show decide (v < f) = false by simp; omega]
      go_loopg [7, 29] (l + 1) (fun gh y i wx => ∃ j : Nat, w = wx ∧ j + gh = l + 1 ∧ i = .int .i64 (j : Int) ∧ y = .int .u32 ((v - beginN n j : Nat) : Int) ∧ beginN n j ≤ v ∧ Z = scan n v gh j)
      case atStart => exact ⟨0, rfl, by omega, rfl, by rw [HF.out]; rfl, by rw [HF.out] at hlo; exact hlo, HZ.out⟩
      case round =>
        obtain ⟨j, rfl, hj, rfl, rfl, hbv, hzz⟩ := hrel
        have HJ := Lib.hid hj
        have HZZ := Lib.hid hzz
        have hjl : j ≤ l + 1 := by omega
        clear hj hzz
        by_cases hlt : j < l + 1
        · have hjN : j ≤ lastN n := by have := HL.out; omega
          obtain ⟨g, rfl⟩ : ∃ g, gk = g + 1 := ⟨gk - 1, by have := HJ.out; omega⟩
          obtain ⟨b, hbb⟩ : ∃ b, b = beginN n j := ⟨_, rfl⟩
          obtain ⟨s, hs⟩ : ∃ s, s = 2 ^ addN n j := ⟨_, rfl⟩
          have HB : Hid (beginN n (j + 1) = b + s) := by rw [hbb, hs]; rfl
          have HS : Hid (∀ W, Glob W → Calls Tryz.prog 95 #[.int .i64 (n : Int), .int .i64 (j : Int)] W fun e w' => e = .returned (.int .u32 (s : Int)) ∧ W = w') := fun W hW => by rw [hs]; exact size_any n j W hW hn (by omega)
          have he := end_le n hn j hjN
          rw [← hbb, ← hs] at he
          rw [← hbb] at hbv ⊢
          have HQ : Hid (Z = if b ≤ v ∧ v - b < s then (j, v - b, 0) else scan n v g (j + 1)) := by rw [hbb, hs]; exact HZZ.out
          clear hbb hs HZZ
          obtain ⟨d, hd⟩ : ∃ d, d = v - b := ⟨_, rfl⟩
          rw [← hd]
          have HD := Lib.hid hd
          clear hd
          by_cases hin : d < s
          · have HQ2 : Hid (Z = (j, d, 0)) := by
              have hd := HD.out
              show Z = (j, d, 0)
              rw [HQ.out, if_pos ⟨hbv, by omega⟩, hd]
            clear HQ
            go_wp2_with (go_at_call 95; refine (HS.out _ HG.out).mono ?_; rintro e' w' ⟨rfl, rfl⟩)
            go_ret3
            exact ⟨by rw [HQ2.out]; rfl, rfl⟩
          · have HQ2 : Hid (Z = scan n v g (j + 1)) := by
              have hd := HD.out
              show Z = scan n v g (j + 1)
              rw [HQ.out, if_neg (by omega)]
            clear HQ
            have hsu : IntKind.u32.wrap ((d : Int) - (s : Int)) = ((d - s : Nat) : Int) := by have := HD.out; rw [IntKind.wrap_u32']; omega
            go_wp2_with (go_at_call 95; refine (HS.out _ HG.out).mono ?_; rintro e' w' ⟨rfl, rfl⟩)
            go_roundg g
            case measure => omega
            case rel =>
              have := HD.out
              exact ⟨j + 1, rfl, by have := HJ.out; omega, by go_num, by rw [HB.out, show d - s = v - (b + s) by omega], by rw [HB.out]; omega, HQ2.out⟩
        · have hg : gk = 0 := by have := HJ.out; omega
          have HQ2 : Hid (Z = (0, 0, 17)) := by
            have hz := HZZ.out
            rw [hg] at hz
            exact hz
          clear HZZ
          go_wp2_with fail
          go_ret3
          exact ⟨by rw [HQ2.out]; rfl, rfl⟩
  · have hz : ofN k v = (0, 0, 1) := by unfold ofN; rw [if_pos (by omega)]
    rw [hz]
    have HI : Hid (∀ W, Calls Tryz.prog 94 #[.int .i64 k] W fun e w' => e = .returned (.bool false) ∧ W = w') := fun W => by
      have := isKind_any k W
      rwa [decide_eq_false hb] at this
    clear hz hb hgl
    go_enter Tryz.func63, Tryz.ntmps63
    go_wp2_with (go_at_call 94; refine (HI.out _).mono ?_; rintro e' w' ⟨rfl, rfl⟩)
    go_ret3
    exact ⟨rfl, rfl⟩
end Go.Proofs.YtlidnialggpcpaaGreatDoor.cd

/- How often each code stands in a table, and how many bits it has there; arrays of 53 numbers. Nothing of the program's code is named here. -/
namespace Go.Proofs.YtlidnialggpcpaaGreatDoor
open Go.RowKit

/-- An array of 53 numbers. -/
def a53 (k : IntKind) (f : Nat → Nat) : Array Value := ((List.range 53).map fun s => Value.int k (f s : Int)).toArray
theorem a53_size (k : IntKind) (f : Nat → Nat) : (a53 k f).size = 53 := by simp [a53]
theorem a53_get (k : IntKind) (f : Nat → Nat) (s : Nat) (h : s < 53) : (a53 k f)[s]? = some (.int k (f s : Int)) := by simp [a53, h]
theorem a53_one (k : IntKind) (f : Nat → Nat) : (a53 k f).all (·.oneCell') = true := by
  rw [Array.all_eq_true']
  intro x hx
  simp only [a53, List.mem_toArray, List.mem_map] at hx
  obtain ⟨s, _, rfl⟩ := hx
  rfl
theorem a53_set (k : IntKind) (f : Nat → Nat) (s x : Nat) : (a53 k f).setIfInBounds s (.int k (x : Int)) = a53 k (fun i => if i = s then x else f i) := by
  apply Array.ext'
  unfold a53
  simp only [List.setIfInBounds_toArray]
  apply List.ext_getElem
  · simp
  intro j h1 h2
  rw [List.getElem_set]
  simp only [List.getElem_map, List.getElem_range]
  by_cases hj : s = j
  · subst hj; simp
  · rw [if_neg hj, if_neg (fun e => hj e.symm)]
theorem a53_cells (k : IntKind) (f : Nat → Nat) : (Value.agg (a53 k f)).cells = a53 k f := by
  first | rfl | simp [Value.cells, a53]

/-- How many of the first j states have symbol s, and how many bits these have. -/
def stF (es : List En) : Nat → Nat → Nat
  | 0, _ => 0
  | j + 1, s => stF es j s + if (es.getD j ⟨0, 0, 0⟩).s = (s : Int) then 1 else 0
def btF (es : List En) : Nat → Nat → Nat
  | 0, _ => 0
  | j + 1, s => btF es j s + if (es.getD j ⟨0, 0, 0⟩).s = (s : Int) then (es.getD j ⟨0, 0, 0⟩).b.toNat else 0
theorem stF_le (es : List En) : ∀ j s, stF es j s ≤ j
  | 0, _ => Nat.le_refl _
  | j + 1, s => by
    have := stF_le es j s
    rw [stF]
    split <;> omega
theorem btF_le (es : List En) (hb : ∀ i, (es.getD i ⟨0, 0, 0⟩).b ≤ 15) : ∀ j s, btF es j s ≤ 15 * j
  | 0, _ => Nat.le_refl _
  | j + 1, s => by
    have := btF_le es hb j s
    have := hb j
    rw [btF]
    split <;> omega
theorem stF_pos (es : List En) : ∀ j s, 0 < stF es j s ↔ ∃ i, i < j ∧ (es.getD i ⟨0, 0, 0⟩).s = (s : Int)
  | 0, s => by simp [stF]
  | j + 1, s => by
    have ih := stF_pos es j s
    rw [stF]
    constructor
    · intro h
      by_cases h0 : (es.getD j ⟨0, 0, 0⟩).s = (s : Int)
      · exact ⟨j, by omega, h0⟩
      · rw [if_neg h0] at h
        obtain ⟨i, h1, h2⟩ := ih.1 (by omega)
        exact ⟨i, by omega, h2⟩
    · rintro ⟨i, h1, h2⟩
      by_cases h0 : i = j
      · subst h0
        rw [if_pos h2]
        omega
      · have := ih.2 ⟨i, by omega, h2⟩
        omega
theorem stF_step (es : List En) (j s : Nat) (hs : (es.getD j ⟨0, 0, 0⟩).s = (s : Int)) : (fun i => if i = s then stF es j s + 1 else stF es j i) = stF es (j + 1) := by
  funext i
  rw [stF]
  by_cases h : i = s
  · subst h
    rw [if_pos rfl, if_pos hs]
  · rw [if_neg h, if_neg (fun q => h (by omega))]
    rfl
theorem btF_step (es : List En) (j s b : Nat) (hs : (es.getD j ⟨0, 0, 0⟩).s = (s : Int)) (hb : (es.getD j ⟨0, 0, 0⟩).b = (b : Int)) : (fun i => if i = s then btF es j s + b else btF es j i) = btF es (j + 1) := by
  funext i
  rw [btF]
  by_cases h : i = s
  · subst h
    rw [if_pos rfl, if_pos hs, hb]
    rfl
  · rw [if_neg h, if_neg (fun q => h (by omega))]
    rfl

/-- A table's entries that a way may have: symbols below 53, bits up to 15. -/
def Small (es : List En) : Prop := ∀ i, ∃ s b : Nat, (es.getD i ⟨0, 0, 0⟩).s = (s : Int) ∧ (es.getD i ⟨0, 0, 0⟩).b = (b : Int) ∧ s < 53 ∧ b ≤ 15
/-- Each code that is there is a symbol. -/
def HasAll (es : List En) (f : Nat → Nat) : Prop := ∀ s, s < 53 → 0 < f s → 0 < stF es es.length s

/-- What codes from i on, k of them, have behind s bits. -/
def cvT (es : List En) (f : Nat → Nat) : Nat → Nat → Int → Int
  | 0, _, s => s
  | k + 1, i, s => if f i = 0 then cvT es f k (i + 1) s else if stF es es.length i = 0 then 9223372036854775807 else cvT es f k (i + 1) (s + ((f i * btF es es.length i / stF es es.length i : Nat) : Int))
theorem cvT_lt {es : List En} {f : Nat → Nat} (hs : Small es) (hn : es.length ≤ 65536) (hf : ∀ s, f s ≤ 4294967295) (k : Nat) : ∀ (i : Nat) (s : Int), s ≤ 10000000 + (i : Int) * 4503599627370496 → i + k ≤ 53 → (cvT es f k i s < 9223372036854775807 ↔ ∀ y, i ≤ y → y < i + k → 0 < f y → 0 < stF es es.length y) := by
  induction k with
  | zero =>
    intro i s h h2
    rw [cvT]
    exact ⟨fun _ y h3 h4 => by omega, fun _ => by omega⟩
  | succ k ih =>
    intro i s h h2
    rw [cvT]
    have hbt := btF_le es (fun i => by obtain ⟨_, b', _, h, _, h'⟩ := hs i; omega) es.length i
    have hP := Nat.mul_le_mul (hf i) (show btF es es.length i ≤ 983040 by omega)
    have hQ := Nat.div_le_self (f i * btF es es.length i) (stF es es.length i)
    generalize f i * btF es es.length i / stF es es.length i = Q at *
    generalize f i * btF es es.length i = M at *
    have hM : (Q : Int) ≤ 4503599627370496 := by omega
    have hnx : ∀ s' : Int, s' ≤ s + 4503599627370496 → s' ≤ 10000000 + ((i + 1 : Nat) : Int) * 4503599627370496 := fun s' h' => by omega
    by_cases h0 : f i = 0
    · rw [if_pos h0, ih (i + 1) s (hnx s (by omega)) (by omega)]
      constructor
      · intro q y h3 h4 h5
        by_cases e : y = i
        · subst e; omega
        · exact q y (by omega) (by omega) h5
      · intro q y h3 h4 h5
        exact q y (by omega) (by omega) h5
    · rw [if_neg h0]
      by_cases h1 : stF es es.length i = 0
      · rw [if_pos h1]
        constructor
        · intro q; exact absurd q (Int.lt_irrefl _)
        · intro q
          have := q i (Nat.le_refl _) (by omega) (by omega)
          omega
      · rw [if_neg h1, ih (i + 1) _ (hnx _ (by omega)) (by omega)]
        constructor
        · intro q y h3 h4 h5
          by_cases e : y = i
          · subst e; omega
          · exact q y (by omega) (by omega) h5
        · intro q y h3 h4 h5
          exact q y (by omega) (by omega) h5
end Go.Proofs.YtlidnialggpcpaaGreatDoor

/- The contract of the program's cost. -/
namespace Go.Proofs.YtlidnialggpcpaaGreatDoor
open Go.RowKit

theorem a53_zero_int : (Tryz.prog.info? 187).map (·.zero) = some (some (.agg (a53 .i64 fun _ => 0))) := by kernel_rfl
theorem a53_zero_u32 : (Tryz.prog.info? 210).map (·.zero) = some (some (.agg (a53 .u32 fun _ => 0))) := by kernel_rfl

theorem info_u32n : (Tryz.prog.info? 43).map (·.size) = some 1 := by kernel_rfl
theorem idx53 (f : Nat → Nat) (i : Nat) (hi : i < 53) (W : World) : (Instr.index 210 (.agg (a53 .u32 f)) (.int .i64 (i : Int))).run Tryz.prog W = .ok (.int .u32 (f i : Int)) W := by
  obtain ⟨i0, hi0, hi1⟩ := Option.map_eq_some_iff.1 info_u32n
  have h2 := a53_get .u32 f i hi
  simp [Instr.index, run_underlying Tryz.underlying210, asIntOf, sizeOf, typeInfo, hi0, hi1, part, go_sem, h2]
  intro h
  omega

/-- A way, as its cells. -/
structure Wy where
  log : Int
  e : Option Addr
  n : Nat
  c : Nat
  mode : Int
  t : Option Addr
  tn : Nat
  tc : Nat
def wcells (x : Wy) : Array Value := #[.int .i64 x.log, .slice x.e x.n x.c, .int .i64 x.mode, .slice x.t x.tn x.tc]

/-- What a way costs. -/
def costV (x : Wy) (es : List En) (f : Nat → Nat) : Int := cvT es f 53 0 (8 * (x.tn : Int) + x.log)
/-- What cost has made so far. -/
def CM (w wx : World) (x : Wy) (f g h : Nat → Nat) : Prop :=
  Box wx w.heap.size 213 (wcells x) ∧ Box wx (w.heap.size + 1) 210 (a53 .u32 f) ∧ Box wx (w.heap.size + 2) 187 (a53 .i64 g) ∧ Box wx (w.heap.size + 3) 187 (a53 .i64 h) ∧ Below w.heap.size w wx

set_option maxRecDepth 100000 in
set_option maxHeartbeats 2000000 in
theorem cost_any {w : World} {lo hi : Nat} {es : List En} (x : Wy) (f : Nat → Nat) (hd : DatR 3 ecell w lo hi x.e es) (hhi : hi ≤ w.heap.size) (hN : es.length = x.n) (hN2 : x.n ≤ 65536) (hes : Small es) (hf : ∀ s, f s ≤ 4294967295) (hL : 0 ≤ x.log ∧ x.log ≤ 15) (ht : x.tn ≤ 1000000) :
    Calls Tryz.prog 132 #[.agg (wcells x), .agg (a53 .u32 f)] w fun e w' => e = .returned (.int .i64 (costV x es f)) ∧ Below w.heap.size w w' := by
  obtain ⟨L, E, N, ce, mode, T, tn, tc⟩ := x
  simp only at hd hN hN2 hL ht
  have HD := Lib.hid hd
  have HN := Lib.hid hN
  have HEs := Lib.hid hes
  have HF := Lib.hid hf
  clear hd hN hes hf
  unfold costV
  simp only [wcells]
  obtain ⟨S0, hS0⟩ : ∃ S0 : Int, S0 = 8 * (tn : Int) + L := ⟨_, rfl⟩
  rw [← hS0]
  obtain ⟨V, hV⟩ : ∃ V, V = cvT es f 53 0 S0 := ⟨_, rfl⟩
  rw [← hV]
  have HV := Lib.hid hV
  have HS0 := Lib.hid hS0
  clear hV hS0
  go_enter Tryz.func132, Tryz.ntmps132
  go_upto_region 2 with (first
    | (refine Go.Great.wpList_boxTo rfl 210 _ rfl _ rfl (w.heap.size + 1) (by simp) (a53 .u32 f) (a53_cells _ _) ?_)
    | (refine wpList_alloc_z rfl 187 rfl (a53 .i64 fun _ => 0) a53_zero_int ?_))
  have hcm : CM w ((((w.alloc (.cells #[.int .i64 L, .slice E N ce, .int .i64 mode, .slice T tn tc] 213)).alloc (.cells (a53 .u32 f) 210)).alloc (.cells (a53 .i64 fun _ => 0) 187)).alloc (.cells (a53 .i64 fun _ => 0) 187)) ⟨L, E, N, ce, mode, T, tn, tc⟩ f (stF es 0) (btF es 0) := by
    have h1 := Box.new (w.alloc (.cells #[.int .i64 L, .slice E N ce, .int .i64 mode, .slice T tn tc] 213)) 210 (a53 .u32 f)
    have h2 := Box.new ((w.alloc (.cells #[.int .i64 L, .slice E N ce, .int .i64 mode, .slice T tn tc] 213)).alloc (.cells (a53 .u32 f) 210)) 187 (a53 .i64 fun _ => 0)
    have h3 := Box.new (((w.alloc (.cells #[.int .i64 L, .slice E N ce, .int .i64 mode, .slice T tn tc] 213)).alloc (.cells (a53 .u32 f) 210)).alloc (.cells (a53 .i64 fun _ => 0) 187)) 187 (a53 .i64 fun _ => 0)
    simp only [World.size_alloc] at h1 h2 h3
    exact ⟨(((Box.new w _ _).alloc _).alloc _).alloc _, (h1.alloc _).alloc _, h2.alloc _, h3, ((((Below.refl _ _).alloc (Nat.le_refl _) _).alloc (by simp) _).alloc (by simp; omega) _).alloc (by simp; omega) _⟩
  have HCM := Lib.hid hcm
  clear hcm
  generalize (((w.alloc (.cells #[.int .i64 L, .slice E N ce, .int .i64 mode, .slice T tn tc] 213)).alloc (.cells (a53 .u32 f) 210)).alloc (.cells (a53 .i64 fun _ => 0) 187)).alloc (.cells (a53 .i64 fun _ => 0) 187) = W at *
  have hw0 : W.cell? ⟨w.heap.size, 0, none⟩ = some (.int .i64 L) := HCM.out.1.cell 0
  have hw1 : W.cell? ⟨w.heap.size, 1, none⟩ = some (.slice E N ce) := HCM.out.1.cell 1
  go_wp2_with fail
  clear hw0 hw1
  go_loopg [16] N (fun gh i wx => ∃ j : Nat, j + gh = N ∧ i = .int .i64 (j : Int) ∧ CM w wx ⟨L, E, N, ce, mode, T, tn, tc⟩ f (stF es j) (btF es j))
  case atStart => exact ⟨0, by omega, rfl, HCM.out⟩
  case round =>
    clear HCM
    obtain ⟨j, hj, rfl, hcm⟩ := hrel
    have HCM := Lib.hid hcm
    have HJ := Lib.hid hj
    have hjN : j ≤ N := by omega
    clear hcm hj
    by_cases hlt : j < N
    · obtain ⟨g', rfl⟩ : ∃ g', gk = g' + 1 := ⟨gk - 1, by have := HJ.out; omega⟩
      have hki : (j : Int) < (N : Int) := by omega
      have hjl : j < es.length := by have := HN.out; omega
      obtain ⟨d, o, rfl, _, hdhi, hc⟩ := (HD.out.below HCM.out.2.2.2.2 hhi).ent (by omega)
      obtain ⟨e0, e1, e2⟩ := hc j hjl
      obtain ⟨s, b, hs, hb, hs53, hb15⟩ := HEs.out j
      have hg := getD_of es j ⟨0, 0, 0⟩ hjl
      have HS1 := Lib.hid (stF_step es j s hs)
      have HS2 := Lib.hid (btF_step es j s b hs hb)
      rw [hg] at hs hb
      rw [hs] at e0
      rw [hb] at e1
      have hst := stF_le es j s
      have hbt := btF_le es (fun i => by obtain ⟨_, b', _, h, _, h'⟩ := HEs.out i; omega) j s
      generalize es[j].e = e9 at *
      have c2 := (HCM.out.2.2.1.cell s).trans (a53_get _ _ s hs53)
      have f2 := HCM.out.2.2.1.free s
      have hlt2 := HCM.out.2.2.1.lt
      have hlt3 := HCM.out.2.2.2.1.lt
      have hput := HCM.out.2.2.1.put s (.int .i64 ((stF es j s + 1 : Nat) : Int))
      rw [a53_set, HS1.out] at hput
      have HPut := Lib.hid hput
      have hs53z : (s : Int) < 53 := by omega
      have hd1 : d < wr.heap.size := by have := HCM.out.2.2.2.2.size; omega
      clear hc hg hput hs hb
      obtain ⟨x, hx⟩ : ∃ x, x = stF es j s := ⟨_, rfl⟩
      rw [← hx] at c2 hst HPut
      clear hx
      go_upto_region 6 with (fail)
      have hbe := Box.new (wr.setCell ⟨w.heap.size + 1 + 1, s, none⟩ (.int .i64 ((x : Int) + 1))) 111 #[.int .u8 (s : Int), .int .i64 (b : Int), .int .i64 e9]
      rw [show (wr.setCell ⟨w.heap.size + 1 + 1, s, none⟩ (.int .i64 ((x : Int) + 1))).heap.size = wr.heap.size by simp] at hbe
      have hcm5 : CM w ((wr.setCell ⟨w.heap.size + 1 + 1, s, none⟩ (.int .i64 ((x : Int) + 1))).alloc (.cells #[.int .u8 (s : Int), .int .i64 (b : Int), .int .i64 e9] 111)) ⟨L, some ⟨d, o, none⟩, N, ce, mode, T, tn, tc⟩ f (stF es (j + 1)) (btF es j) :=
        ⟨(HCM.out.1.far (by show w.heap.size ≠ w.heap.size + 1 + 1; omega) _).alloc _, (HCM.out.2.1.far (by show w.heap.size + 1 ≠ w.heap.size + 1 + 1; omega) _).alloc _, HPut.out.alloc _, (HCM.out.2.2.2.1.far (by show w.heap.size + 3 ≠ w.heap.size + 1 + 1; omega) _).alloc _,
          (HCM.out.2.2.2.2.setCell (by show w.heap.size ≤ w.heap.size + 1 + 1; omega) _).alloc (by simp; omega) _⟩
      have HCM5 := Lib.hid hcm5
      have HBE := Lib.hid hbe
      have hs5 : wr.heap.size < ((wr.setCell ⟨w.heap.size + 1 + 1, s, none⟩ (.int .i64 ((x : Int) + 1))).alloc (.cells #[.int .u8 (s : Int), .int .i64 (b : Int), .int .i64 e9] 111)).heap.size := by simp
      clear hcm5 hbe HPut HCM c2 f2 e0 e1 e2 hst hlt2 hlt3
      generalize ((wr.setCell ⟨w.heap.size + 1 + 1, s, none⟩ (.int .i64 ((x : Int) + 1))).alloc (.cells #[.int .u8 (s : Int), .int .i64 (b : Int), .int .i64 e9] 111)) = W5 at *
      have q0 : W5.cell? ⟨wr.heap.size, 0, none⟩ = some (.int .u8 (s : Int)) := HBE.out.cell 0
      have q1 : W5.cell? ⟨wr.heap.size, 1, none⟩ = some (.int .i64 (b : Int)) := HBE.out.cell 1
      have c3 := (HCM5.out.2.2.2.1.cell s).trans (a53_get _ _ s hs53)
      have f3 := HCM5.out.2.2.2.1.free s
      have hput := HCM5.out.2.2.2.1.put s (.int .i64 ((btF es j s + b : Nat) : Int))
      rw [a53_set, HS2.out] at hput
      have HPut := Lib.hid hput
      obtain ⟨y, hy⟩ : ∃ y, y = btF es j s := ⟨_, rfl⟩
      rw [← hy] at c3 hbt HPut
      have ew : IntKind.i64.wrap ((y : Int) + (b : Int)) = (y : Int) + (b : Int) := IntWalk.i64_in _ (by omega)
      generalize wr.heap.size = g9 at *
      clear hy hput
      go_still_tail 8, (by kernel_rfl)
      change wpList _ _ _ _ _ W5.drew
      go_wp2
      go_roundg g'
      case rel =>
        refine ⟨j + 1, by have := HJ.out; omega, by go_num, HCM5.out.1.far (by show w.heap.size ≠ w.heap.size + 3; omega) _, HCM5.out.2.1.far (by show w.heap.size + 1 ≠ w.heap.size + 3; omega) _, HCM5.out.2.2.1.far (by show w.heap.size + 2 ≠ w.heap.size + 3; omega) _, HPut.out, (show Below w.heap.size w W5.drew from below_drewN HCM5.out.2.2.2.2 1).setCell (by show w.heap.size ≤ w.heap.size + 3; omega) _⟩
      case measure => omega
    · obtain rfl : j = N := by omega
      have hki : ¬ (j : Int) < (j : Int) := by omega
      have hw0 : wr.cell? ⟨w.heap.size, 0, none⟩ = some (.int .i64 L) := HCM.out.1.cell 0
      have hw3 : wr.cell? ⟨w.heap.size, 3, none⟩ = some (.slice T tn tc) := HCM.out.1.cell 3
      go_upto_region 9 with (fail)
      clear hw0 hw3
      have hS0 := HS0.out
      rw [← hS0]
      have hS0l : 0 ≤ S0 ∧ S0 ≤ 10000000 := by omega
      clear hS0 HJ hlt hki hL
      go_wp2_with (refine wpList_load_row rfl 210 _ rfl (w.heap.size + 1) rfl 210 (a53 .u32 f) (0, 0) _ HCM.out.2.1 Tryz.underlying210 rfl (by rw [a53_size]; kernel_rfl) ?_)
      have hbn : ∀ i, (es.getD i ⟨0, 0, 0⟩).b ≤ 15 := fun i => by obtain ⟨_, b', _, h, _, h'⟩ := HEs.out i; omega
      have HBn := Lib.hid hbn
      clear hbn
      go_loopg [9, 44] 53 (fun gh S v wx => ∃ (i q : Nat) (s : Int), i + gh = 53 ∧ v = .int .i64 (i : Int) ∧ S = .int .i64 s ∧ 0 ≤ s ∧ s ≤ 10000000 + i * 4503599627370496 ∧ cvT es f gh i s = V ∧ wx = wr.drewN q)
      case atStart => exact ⟨0, 0, S0, rfl, rfl, rfl, hS0l.1, by have := hS0l.2; omega, HV.out.symm, rfl⟩
      case round =>
        obtain ⟨i, q, s, hi, rfl, rfl, hs0, hs1, hall, rfl⟩ := hrel
        have HI := Lib.hid hi
        have HAll := Lib.hid hall
        have hi53 : i ≤ 53 := by omega
        clear hi hall
        by_cases hlt : i < 53
        · obtain ⟨g', rfl⟩ : ∃ g', gk = g' + 1 := ⟨gk - 1, by have := HI.out; omega⟩
          have hki : (i : Int) < 53 := by omega
          have hix := idx53 f i hlt
          have hfi := HF.out i
          have c2 := (HCM.out.2.2.1.cell i).trans (a53_get _ _ i hlt)
          have c3 := (HCM.out.2.2.2.1.cell i).trans (a53_get _ _ i hlt)
          have hst := stF_le es j i
          have hbt := btF_le es HBn.out j i
          obtain ⟨F, hFe⟩ : ∃ F, F = f i := ⟨_, rfl⟩
          obtain ⟨X, hXe⟩ : ∃ X, X = stF es j i := ⟨_, rfl⟩
          obtain ⟨Y, hYe⟩ : ∃ Y, Y = btF es j i := ⟨_, rfl⟩
          rw [← hFe] at hix hfi
          rw [← hXe] at c2 hst
          rw [← hYe] at c3 hbt
          have HFe := Lib.hid hFe
          have HXe := Lib.hid hXe
          have HYe := Lib.hid hYe
          clear hFe hXe hYe
          have hstep := HAll.out
          rw [cvT, HN.out, ← HXe.out, ← HFe.out, ← HYe.out] at hstep
          clear HAll
          by_cases hF0 : F = 0
          · subst hF0
            rw [if_pos rfl] at hstep
            have HSt := Lib.hid hstep
            clear hstep
            go_wp2_with fail
            go_roundg g'
            case rel => exact ⟨i + 1, q, s, by have := HI.out; omega, by go_num, rfl, hs0, by omega, HSt.out, rfl⟩
            case measure => omega
          · have hF0b : ((F : Int) == 0) = false := by simp; omega
            rw [if_neg hF0] at hstep
            by_cases hX0 : X = 0
            · subst hX0
              rw [if_pos rfl] at hstep
              have HSt := Lib.hid hstep
              clear hstep
              go_wp2_with fail
              go_ret
              exact ⟨by rw [← HSt.out]; rfl, below_drewN HCM.out.2.2.2.2 _⟩
            · have hX0b : ((X : Int) == 0) = false := by simp; omega
              rw [if_neg hX0] at hstep
              have hP := Nat.mul_le_mul hfi (show Y ≤ 983040 by omega)
              obtain ⟨M, hM⟩ : ∃ M, M = F * Y := ⟨_, rfl⟩
              rw [← hM] at hP hstep
              have hMi : (F : Int) * (Y : Int) = (M : Int) := by rw [hM]; simp
              obtain ⟨Q, hQ⟩ : ∃ Q, Q = M / X := ⟨_, rfl⟩
              rw [← hQ] at hstep
              have HSt := Lib.hid hstep
              have hQi : (M : Int).tdiv (X : Int) = (Q : Int) := by rw [hQ]; simp
              have hQi2 : (M : Int) / (X : Int) = (Q : Int) := by rw [hQ]; simp
              have hQl : Q ≤ M := by rw [hQ]; exact Nat.div_le_self _ _
              have hwF : IntKind.i64.wrap (F : Int) = (F : Int) := IntWalk.i64_in _ (by omega)
              have hwM : IntKind.i64.wrap (M : Int) = (M : Int) := IntWalk.i64_in _ (by omega)
              have hwQ : IntKind.i64.wrap (Q : Int) = (Q : Int) := IntWalk.i64_in _ (by omega)
              have hwS : IntKind.i64.wrap (s + (Q : Int)) = s + (Q : Int) := IntWalk.i64_in _ (by omega)
              have hnew : 0 ≤ s + (Q : Int) ∧ s + (Q : Int) ≤ 10000000 + ((i + 1 : Nat) : Int) * 4503599627370496 := by omega
              have HNew := Lib.hid hnew
              clear hM hQ hP hQl hnew hst hbt hstep
              go_upto_region 15 with (fail)
              go_quiet (fail)
              go_wp2_with fail
              go_roundg g'
              case rel => exact ⟨i + 1, _, s + (Q : Int), by have := HI.out; omega, by go_num, rfl, HNew.out.1, HNew.out.2, HSt.out, rfl⟩
              case measure => omega
        · obtain rfl : i = 53 := by omega
          obtain rfl : gk = 0 := by have := HI.out; omega
          have hki : ¬ ((53 : Nat) : Int) < 53 := by omega
          go_wp2_with fail
          go_ret
          exact ⟨by rw [← HAll.out]; rfl, below_drewN HCM.out.2.2.2.2 _⟩
end Go.Proofs.YtlidnialggpcpaaGreatDoor

/- The contracts of the program's shortest: its closure, slices.MinFunc of ways. -/
namespace Go.Proofs.YtlidnialggpcpaaGreatDoor
open Go.RowKit

theorem isNaNI_any (x : Int) (w : World) : Calls Tryz.prog 141 #[.int .i64 x] w fun e w' => e = .returned (.bool false) ∧ w' = w := by
  go_enter Tryz.func141, Tryz.ntmps141
  go_wp2_with fail
  go_ret
  exact ⟨rfl, rfl⟩
/-- What a comparison of two ints answers. -/
def cmpZ (x y : Int) : Int := if x < y then -1 else if y < x then 1 else 0
theorem cmpZ_lt (x y : Int) : cmpZ x y < 0 ↔ x < y := by
  unfold cmpZ
  split
  · exact ⟨fun _ => by assumption, fun _ => by decide⟩
  · split
    · exact ⟨fun h => by simp at h, fun h => absurd h (by assumption)⟩
    · exact ⟨fun h => by simp at h, fun h => absurd h (by assumption)⟩
theorem compareI_any (x y : Int) (w : World) : Calls Tryz.prog 131 #[.int .i64 x, .int .i64 y] w fun e w' => e = .returned (.int .i64 (cmpZ x y)) ∧ w' = w := by
  unfold cmpZ
  by_cases h : x < y
  · rw [if_pos h]
    go_enter Tryz.func131, Tryz.ntmps131
    go_wp2_with (go_at_call 141; refine (isNaNI_any _ _).mono ?_; rintro e w' ⟨rfl, rfl⟩)
    go_ret
    exact ⟨rfl, rfl⟩
  · rw [if_neg h]
    by_cases h' : y < x
    · rw [if_pos h']
      go_enter Tryz.func131, Tryz.ntmps131
      go_wp2_with (go_at_call 141; refine (isNaNI_any _ _).mono ?_; rintro e w' ⟨rfl, rfl⟩)
      go_ret
      exact ⟨rfl, rfl⟩
    · rw [if_neg h']
      go_enter Tryz.func131, Tryz.ntmps131
      go_wp2_with (go_at_call 141; refine (isNaNI_any _ _).mono ?_; rintro e w' ⟨rfl, rfl⟩)
      go_ret
      exact ⟨rfl, rfl⟩

/-- A way whose table lies in the world: its entries es. -/
structure Lies (w : World) (x : Wy) (es : List En) : Prop where
  ent : DatR 3 ecell w 0 w.heap.size x.e es
  len : es.length = x.n
  n2 : x.n ≤ 65536
  small : Small es
  log : 0 ≤ x.log ∧ x.log ≤ 15
  tn : x.tn ≤ 1000000
theorem Lies.below {w w' : World} {x : Wy} {es : List En} (h : Lies w x es) (hB : Below w.heap.size w w') : Lies w' x es :=
  ⟨(h.ent.below hB (Nat.le_refl _)).mono (Nat.le_refl _) hB.size, h.len, h.n2, h.small, h.log, h.tn⟩
theorem Lies.cost {w : World} {x : Wy} {es : List En} (h : Lies w x es) (f : Nat → Nat) (hf : ∀ s, f s ≤ 4294967295) :
    Calls Tryz.prog 132 #[.agg #[.int .i64 x.log, .slice x.e x.n x.c, .int .i64 x.mode, .slice x.t x.tn x.tc], .agg (a53 .u32 f)] w fun e w' => e = .returned (.int .i64 (costV x es f)) ∧ Below w.heap.size w w' :=
  cost_any x f h.ent (Nat.le_refl _) h.len h.n2 h.small hf h.log h.tn

/-- A world in which what stood in W stands as it was. -/
structure QuB (W : World) where
  w : World
  below : Below W.heap.size W w
instance (W : World) : Inhabited (QuB W) := ⟨⟨W, Below.refl _ _⟩⟩
theorem wp_region_quiet_bw {P : Program} {id : Nat} {Q : Exit → Act → World → Prop} {a : Act} {w : World} {l : List Oper} (hm : P.follows .mixedOrders = true) (hB : Region.lexB .any l.toArray = true)
    (h : wpQuiet P l.toArray (fun w' => ∃ p : QuB w, w' = p.w) (fun a' => ∀ w', (∃ p : QuB w, w' = p.w) → Q .normal a' w') l a) : (Code.region id l.toArray true).wp P Q a w :=
  wp_region_quiet (C := fun w' => ∃ p : QuB w, w' = p.w) hm hB ⟨⟨w.drew, (Below.refl _ _).drew⟩, rfl⟩ (by simpa using h)
theorem calls_bw {P : Program} {f : FuncId} {args : Array Value} {W : World} {v : Value} (p : QuB W)
    (h : Calls P f args p.w fun e w' => e = .returned v ∧ Below p.w.heap.size p.w w') : Calls P f args p.w fun e w'' => e = .returned v ∧ ∃ q : QuB W, w'' = q.w :=
  h.mono fun _ w' ⟨he, hb⟩ => ⟨he, ⟨w', p.below.trans (hb.mono p.below.size)⟩, rfl⟩

/-- A load of a whole row, in such a region. -/
theorem wpQuiet_load_row {P : Program} {ops : Array Oper} {C : World → Prop} {Q : Act → Prop} {a : Act} {o : Oper} {rest : List Oper} (hgd : o.guard = none) (ty : TypeId) (x : Operand) (ho : o.op = .load ty x)
    (g : Nat) (hx : a.eval x = .pointer (some ⟨g, 0, none⟩)) (cs : Array Value) (hr : ∀ w, C w → (loadVar ty ⟨g, 0, none⟩).run P w = .ok (.agg cs) w) (h : wpQuiet P ops C Q rest (a.put o.dst (.agg cs))) : wpQuiet P ops C Q (o :: rest) a := by
  have hw : Region.wanted o (yielded ops a.tmps) = true := by simp [Region.wanted, hgd]
  unfold wpQuiet
  rw [if_pos hw]
  refine ⟨.agg cs, fun w hC => ?_, h⟩
  unfold Oper.quietAt execOp
  simp only [ho, hx, Instr.loadAt, Instr.sureAddr, Sem.run_bind, Sem.run_pure, Result.andThen_ok, hr w hC]
  exact ⟨rfl, rfl⟩

theorem Box.four {w : World} {g : Nat} {t : TypeId} {a0 a1 a2 a3 : Value} (h : Box w g t #[a0, a1, a2, a3]) :
    w.cell? ⟨g, 0, none⟩ = some a0 ∧ w.cell? ⟨g, 1, none⟩ = some a1 ∧ w.cell? ⟨g, 2, none⟩ = some a2 ∧ w.cell? ⟨g, 3, none⟩ = some a3 :=
  ⟨h.cell 0, h.cell 1, h.cell 2, h.cell 3⟩

set_option maxRecDepth 100000 in
set_option maxHeartbeats 2000000 in
theorem shortest1_any {w : World} {g : Nat} {ex ey : List En} (x y : Wy) (f : Nat → Nat) (hx : Lies w x ex) (hy : Lies w y ey) (hf : ∀ s, f s ≤ 4294967295) (hg : Box w g 210 (a53 .u32 f)) :
    Calls Tryz.prog 130 #[.agg #[.int .i64 x.log, .slice x.e x.n x.c, .int .i64 x.mode, .slice x.t x.tn x.tc], .agg #[.int .i64 y.log, .slice y.e y.n y.c, .int .i64 y.mode, .slice y.t y.tn y.tc], .pointer (some ⟨g, 0, none⟩)] w fun e w' => e = .returned (.int .i64 (cmpZ (costV x ex f) (costV y ey f))) ∧ Below w.heap.size w w' := by
  have mixed : Tryz.prog.follows .mixedOrders = true := by kernel_rfl
  have HX := Lib.hid hx
  have HY := Lib.hid hy
  have HF := Lib.hid hf
  obtain ⟨V1, hV1⟩ : ∃ V, V = costV x ex f := ⟨_, rfl⟩
  obtain ⟨V2, hV2⟩ : ∃ V, V = costV y ey f := ⟨_, rfl⟩
  have HC1 : Hid (∀ V, Below w.heap.size w V → Calls Tryz.prog 132 #[.agg #[.int .i64 x.log, .slice x.e x.n x.c, .int .i64 x.mode, .slice x.t x.tn x.tc], .agg (a53 .u32 f)] V fun e w' => e = .returned (.int .i64 V1) ∧ Below V.heap.size V w') := fun V hV => by rw [hV1]; exact (hx.below hV).cost f hf
  have HC2 : Hid (∀ V, Below w.heap.size w V → Calls Tryz.prog 132 #[.agg #[.int .i64 y.log, .slice y.e y.n y.c, .int .i64 y.mode, .slice y.t y.tn y.tc], .agg (a53 .u32 f)] V fun e w' => e = .returned (.int .i64 V2) ∧ Below V.heap.size V w') := fun V hV => by rw [hV2]; exact (hy.below hV).cost f hf
  rw [← hV1, ← hV2]
  obtain ⟨L1, E1, n1, c1, m1, T1, tn1, tc1⟩ := x
  obtain ⟨L2, E2, n2, c2, m2, T2, tn2, tc2⟩ := y
  simp only at HC1 HC2 ⊢
  have hb0 := (Box.new w 213 #[.int .i64 L1, .slice E1 n1 c1, .int .i64 m1, .slice T1 tn1 tc1]).alloc (.cells #[.int .i64 L2, .slice E2 n2 c2, .int .i64 m2, .slice T2 tn2 tc2] 213)
  have hb1 := Box.new (w.alloc (.cells #[.int .i64 L1, .slice E1 n1 c1, .int .i64 m1, .slice T1 tn1 tc1] 213)) 213 #[.int .i64 L2, .slice E2 n2 c2, .int .i64 m2, .slice T2 tn2 tc2]
  rw [World.size_alloc] at hb1
  have hB2 : Below w.heap.size w ((w.alloc (.cells #[.int .i64 L1, .slice E1 n1 c1, .int .i64 m1, .slice T1 tn1 tc1] 213)).alloc (.cells #[.int .i64 L2, .slice E2 n2 c2, .int .i64 m2, .slice T2 tn2 tc2] 213)) := ((Below.refl _ _).alloc (Nat.le_refl _) _).alloc (by simp) _
  have H0 := Lib.hid hb0
  have H1 := Lib.hid hb1
  have HB2 := Lib.hid hB2
  have HG2 := Lib.hid (hg.below hB2 hg.lt)
  have hs2 : ((w.alloc (.cells #[.int .i64 L1, .slice E1 n1 c1, .int .i64 m1, .slice T1 tn1 tc1] 213)).alloc (.cells #[.int .i64 L2, .slice E2 n2 c2, .int .i64 m2, .slice T2 tn2 tc2] 213)).heap.size = w.heap.size + 2 := by simp
  have HS2 := Lib.hid hs2
  clear hx hy hf hg hb0 hb1 hB2 hs2 hV1 hV2
  go_enter Tryz.func130, Tryz.ntmps130
  go_wp2_with fail
  generalize (w.alloc (.cells #[.int .i64 L1, .slice E1 n1 c1, .int .i64 m1, .slice T1 tn1 tc1] 213)).alloc (.cells #[.int .i64 L2, .slice E2 n2 c2, .int .i64 m2, .slice T2 tn2 tc2] 213) = W at *
  have hg0 : w.heap.size < W.heap.size := by have := HS2.out; omega
  have hg1 : w.heap.size + 1 < W.heap.size := by have := HS2.out; omega
  have hx4 : ∀ p : QuB W, p.w.cell? ⟨w.heap.size, 0, none⟩ = some (.int .i64 L1) ∧ p.w.cell? ⟨w.heap.size, 1, none⟩ = some (.slice E1 n1 c1) ∧ p.w.cell? ⟨w.heap.size, 2, none⟩ = some (.int .i64 m1) ∧ p.w.cell? ⟨w.heap.size, 3, none⟩ = some (.slice T1 tn1 tc1) := fun p => (H0.out.below p.below hg0).four
  have hy4 : ∀ p : QuB W, p.w.cell? ⟨w.heap.size + 1, 0, none⟩ = some (.int .i64 L2) ∧ p.w.cell? ⟨w.heap.size + 1, 1, none⟩ = some (.slice E2 n2 c2) ∧ p.w.cell? ⟨w.heap.size + 1, 2, none⟩ = some (.int .i64 m2) ∧ p.w.cell? ⟨w.heap.size + 1, 3, none⟩ = some (.slice T2 tn2 tc2) := fun p => (H1.out.below p.below hg1).four
  have hl2 : ∀ V, (∃ p : QuB W, V = p.w) → (loadVar 210 ⟨g, 0, none⟩).run Tryz.prog V = .ok (.agg (a53 .u32 f)) V := fun V ⟨p, hp⟩ => hp ▸ run_loadVar_row (P := Tryz.prog) p.w g 210 210 (a53 .u32 f) (0, 0) _ (HG2.out.below p.below HG2.out.lt) Tryz.underlying210 rfl (by rw [a53_size]; kernel_rfl)
  have hc1 : ∀ p : QuB W, Calls Tryz.prog 132 #[.agg #[.int .i64 L1, .slice E1 n1 c1, .int .i64 m1, .slice T1 tn1 tc1], .agg (a53 .u32 f)] p.w fun e w'' => e = .returned (.int .i64 V1) ∧ ∃ q : QuB W, w'' = q.w := fun p => calls_bw p (HC1.out p.w (HB2.out.trans (p.below.mono (Nat.le_of_lt hg0))))
  have hc2 : ∀ p : QuB W, Calls Tryz.prog 132 #[.agg #[.int .i64 L2, .slice E2 n2 c2, .int .i64 m2, .slice T2 tn2 tc2], .agg (a53 .u32 f)] p.w fun e w'' => e = .returned (.int .i64 V2) ∧ ∃ q : QuB W, w'' = q.w := fun p => calls_bw p (HC2.out p.w (HB2.out.trans (p.below.mono (Nat.le_of_lt hg0))))
  have hcc : ∀ p : QuB W, Calls Tryz.prog 131 #[.int .i64 V1, .int .i64 V2] p.w fun e w'' => e = .returned (.int .i64 (cmpZ V1 V2)) ∧ ∃ q : QuB W, w'' = q.w := fun p => (compareI_any V1 V2 p.w).mono fun _ _ ⟨he, hw⟩ => ⟨he, p, hw⟩
  have HC := Lib.hid (And.intro hc1 (And.intro hc2 hcc))
  have HL2 := Lib.hid hl2
  clear hc1 hc2 hcc HC1 HC2 hl2
  refine wp_region_quiet_bw mixed (by kernel_rfl) ?_
  quiet_step (fail)
  refine wpQuiet_load_row rfl 210 _ rfl g rfl (a53 .u32 f) HL2.out ?_
  quiet_step ((go_at_call 132; exact HC.out.1 _))
  quiet_step (fail)
  refine wpQuiet_load_row rfl 210 _ rfl g rfl (a53 .u32 f) HL2.out ?_
  quiet_step ((go_at_call 132; exact HC.out.2.1 _))
  quiet_step ((go_at_call 131; exact HC.out.2.2 _))
  quiet_step (fail)
  refine wpQuiet_nil ?_
  intro _ hw'
  obtain ⟨p, rfl⟩ := hw'
  clear hx4 hy4
  go_wp2_with fail
  go_ret
  exact ⟨rfl, HB2.out.trans (p.below.mono (Nat.le_of_lt hg0))⟩
end Go.Proofs.YtlidnialggpcpaaGreatDoor

/- The contract of slices.MinFunc over ways, and of the program's shortest. -/
namespace Go.Proofs.YtlidnialggpcpaaGreatDoor
open Go.RowKit

theorem cost_has {w : World} {x : Wy} {es : List En} (h : Lies w x es) {f : Nat → Nat} (hf : ∀ s, f s ≤ 4294967295) : costV x es f < 9223372036854775807 ↔ HasAll es f := by
  unfold costV HasAll
  have h1 := h.log
  have h2 := h.tn
  rw [cvT_lt h.small (by rw [h.len]; exact h.n2) hf 53 0 _ (by omega) (by omega)]
  constructor
  · intro q s h3 h4
    exact q s (Nat.zero_le _) (by omega) h4
  · intro q y _ h3 h4
    exact q y (by omega) h4

/-- A way's cells, with its entries beside. -/
def wyc (p : Wy × List En) : List Value := [.int .i64 p.1.log, .slice p.1.e p.1.n p.1.c, .int .i64 p.1.mode, .slice p.1.t p.1.tn p.1.tc]
theorem wyc_len : ∀ x, (wyc x).length = 4 := fun _ => rfl
theorem wyc_one : ∀ x, ∀ v ∈ wyc x, v.oneCell' = true := fun x v hv => by
  simp only [wyc, List.mem_cons, List.not_mem_nil, or_false] at hv
  rcases hv with rfl | rfl | rfl | rfl <;> rfl
def wd : Wy × List En := (⟨0, none, 0, 0, 0, none, 0, 0⟩, [])
/-- The way at a place. -/
def wayAt (xs : List (Wy × List En)) (k : Nat) : Wy × List En := xs.getD k wd
theorem wayAt_of (xs : List (Wy × List En)) (k : Nat) (h : k < xs.length) : wayAt xs k = xs[k] := getD_of xs k wd h
theorem DatR.way {w : World} {lo hi : Nat} {A : Option Addr} {xs : List (Wy × List En)} (h : DatR 4 wyc w lo hi A xs) (hx : 0 < xs.length) :
    ∃ d o, A = some ⟨d, o, none⟩ ∧ lo ≤ d ∧ d < hi ∧ ∀ j, j < xs.length → w.cell? ⟨d, o + j * 4, none⟩ = some (.int .i64 (wayAt xs j).1.log) ∧ w.cell? ⟨d, o + j * 4 + 1, none⟩ = some (.slice (wayAt xs j).1.e (wayAt xs j).1.n (wayAt xs j).1.c) ∧
      w.cell? ⟨d, o + j * 4 + 2, none⟩ = some (.int .i64 (wayAt xs j).1.mode) ∧ w.cell? ⟨d, o + j * 4 + 3, none⟩ = some (.slice (wayAt xs j).1.t (wayAt xs j).1.tn (wayAt xs j).1.tc) := by
  obtain ⟨d, o, hA, h1, h2, hc⟩ := h hx
  refine ⟨d, o, hA, h1, h2, fun j hj => ?_⟩
  rw [wayAt_of xs j hj]
  exact ⟨hc j hj 0 _ rfl, hc j hj 1 _ rfl, hc j hj 2 _ rfl, hc j hj 3 _ rfl⟩
/-- All ways of a list lie in the world. -/
def AllLie (w : World) (xs : List (Wy × List En)) : Prop := ∀ p ∈ xs, Lies w p.1 p.2
theorem AllLie.below {w w' : World} {xs : List (Wy × List En)} (h : AllLie w xs) (hB : Below w.heap.size w w') : AllLie w' xs := fun p hp => (h p hp).below hB
theorem AllLie.at {w : World} {xs : List (Wy × List En)} (h : AllLie w xs) (j : Nat) (hj : j < xs.length) : Lies w (wayAt xs j).1 (wayAt xs j).2 := by
  rw [wayAt_of xs j hj]
  exact h _ (List.getElem_mem hj)
theorem Box.put4 {w : World} {g : Nat} {t : TypeId} {a0 a1 a2 a3 : Value} (h : Box w g t #[a0, a1, a2, a3]) (b0 b1 b2 b3 : Value) :
    Box ((((w.setCell ⟨g, 0, none⟩ b0).setCell ⟨g, 1, none⟩ b1).setCell ⟨g, 2, none⟩ b2).setCell ⟨g, 3, none⟩ b3) g t #[b0, b1, b2, b3] := (((h.put 0 b0).put 1 b1).put 2 b2).put 3 b3

set_option maxRecDepth 100000 in
set_option maxHeartbeats 4000000 in
theorem minFunc_any {w : World} {lo hi n c g : Nat} {A : Option Addr} {xs : List (Wy × List En)} (f : Nat → Nat) (hd : DatR 4 wyc w lo hi A xs) (hhi : hi ≤ w.heap.size) (hn : xs.length = n) (h0 : 0 < n) (hm : n ≤ 1000) (hall : AllLie w xs) (hf : ∀ s, f s ≤ 4294967295) (hg : Box w g 210 (a53 .u32 f)) :
    Calls Tryz.prog 129 #[.slice A n c, .func (.func 130) #[] #[.pointer (some ⟨g, 0, none⟩)]] w fun e w' =>
      ∃ k, k < n ∧ e = .returned (.agg #[.int .i64 (wayAt xs k).1.log, .slice (wayAt xs k).1.e (wayAt xs k).1.n (wayAt xs k).1.c, .int .i64 (wayAt xs k).1.mode, .slice (wayAt xs k).1.t (wayAt xs k).1.tn (wayAt xs k).1.tc]) ∧
        (∀ i, i < n → HasAll (wayAt xs i).2 f → HasAll (wayAt xs k).2 f) ∧ Below w.heap.size w w' := by
  have mixed : Tryz.prog.follows .mixedOrders = true := by kernel_rfl
  have HD := Lib.hid hd
  have HN := Lib.hid hn
  have HAl := Lib.hid hall
  have HF := Lib.hid hf
  have HG := Lib.hid hg
  have hnz : ¬ (n : Int) < 1 := by omega
  have hnp : (0 : Int) < (n : Int) := by omega
  have HB1 : Hid (Below w.heap.size w (w.alloc (.cells #[.int .i64 0, .slice none 0 0, .int .i64 0, .slice none 0 0] 213))) := (Below.refl _ _).alloc (Nat.le_refl _) _
  obtain ⟨d, o, rfl, _, hdhi, hc⟩ := (hd.below HB1.out hhi).way (by omega)
  obtain ⟨c0, c1, c2, c3⟩ := hc 0 (by omega)
  rw [Nat.zero_mul, Nat.add_zero] at c0 c1 c2 c3
  clear hd hn hall hf hg hc
  go_enter Tryz.func129, Tryz.ntmps129
  go_wp2_with fail
  have hb0 := (Box.new w 213 #[.int .i64 0, .slice none 0 0, .int .i64 0, .slice none 0 0]).alloc (.cells #[.int .i64 (wayAt xs 0).1.log, .slice (wayAt xs 0).1.e (wayAt xs 0).1.n (wayAt xs 0).1.c, .int .i64 (wayAt xs 0).1.mode, .slice (wayAt xs 0).1.t (wayAt xs 0).1.tn (wayAt xs 0).1.tc] 213)
  have hb1 := Box.new (w.alloc (.cells #[.int .i64 0, .slice none 0 0, .int .i64 0, .slice none 0 0] 213)) 213 #[.int .i64 (wayAt xs 0).1.log, .slice (wayAt xs 0).1.e (wayAt xs 0).1.n (wayAt xs 0).1.c, .int .i64 (wayAt xs 0).1.mode, .slice (wayAt xs 0).1.t (wayAt xs 0).1.tn (wayAt xs 0).1.tc]
  rw [World.size_alloc] at hb1
  have H0 := Lib.hid hb0
  have H1 := Lib.hid hb1
  have HB2 : Hid (Below w.heap.size w ((w.alloc (.cells #[.int .i64 0, .slice none 0 0, .int .i64 0, .slice none 0 0] 213)).alloc (.cells #[.int .i64 (wayAt xs 0).1.log, .slice (wayAt xs 0).1.e (wayAt xs 0).1.n (wayAt xs 0).1.c, .int .i64 (wayAt xs 0).1.mode, .slice (wayAt xs 0).1.t (wayAt xs 0).1.tn (wayAt xs 0).1.tc] 213))) := HB1.out.alloc (by simp) _
  clear hb0 hb1 c0 c1 c2 c3
  generalize ((w.alloc (.cells #[.int .i64 0, .slice none 0 0, .int .i64 0, .slice none 0 0] 213)).alloc (.cells #[.int .i64 (wayAt xs 0).1.log, .slice (wayAt xs 0).1.e (wayAt xs 0).1.n (wayAt xs 0).1.c, .int .i64 (wayAt xs 0).1.mode, .slice (wayAt xs 0).1.t (wayAt xs 0).1.tn (wayAt xs 0).1.tc] 213)) = W at *
  go_loopg [6] (n - 1) (fun gh v wx => ∃ i k : Nat, i + gh = n ∧ 1 ≤ i ∧ v = .int .i64 (i : Int) ∧ k < i ∧ Box wx w.heap.size 213 #[.int .i64 0, .slice none 0 0, .int .i64 0, .slice none 0 0] ∧
    Box wx (w.heap.size + 1) 213 #[.int .i64 (wayAt xs k).1.log, .slice (wayAt xs k).1.e (wayAt xs k).1.n (wayAt xs k).1.c, .int .i64 (wayAt xs k).1.mode, .slice (wayAt xs k).1.t (wayAt xs k).1.tn (wayAt xs k).1.tc] ∧ (∀ j, j < i → HasAll (wayAt xs j).2 f → HasAll (wayAt xs k).2 f) ∧ Below w.heap.size w wx)
  case atStart =>
    refine ⟨1, 0, by omega, Nat.le_refl _, rfl, by omega, H0.out, H1.out, fun j hj h => ?_, HB2.out⟩
    obtain rfl : j = 0 := by omega
    exact h
  case round =>
    clear H0 H1 HB1 HB2
    obtain ⟨i, k, hi, hi1, rfl, hki, hb0, hb1, hbest, hB⟩ := hrel
    have H0 := Lib.hid hb0
    have H1 := Lib.hid hb1
    have HBest := Lib.hid hbest
    have HB := Lib.hid hB
    have HI := Lib.hid hi
    have hin : i ≤ n := by omega
    have hs1 := hb1.lt
    clear hb0 hb1 hbest hB hi
    by_cases hlt : i < n
    · obtain ⟨g', rfl⟩ : ∃ g', gk = g' + 1 := ⟨gk - 1, by have := HI.out; omega⟩
      have hkz : (i : Int) < (n : Int) := by omega
      have hi0 : (0 : Int) ≤ (i : Int) := by omega
      obtain ⟨d', o', hdo, _, _, hc⟩ := (HD.out.below HB.out hhi).way (by have := HN.out; omega)
      obtain ⟨rfl, rfl⟩ : d = d' ∧ o = o' := by
        injection hdo with h
        injection h with h1 h2
        exact ⟨h1, h2⟩
      have hci := hc i (by have := HN.out; omega)
      have hdw : d < wr.heap.size := by have := HB.out.size; omega
      have hLi := (HAl.out.below HB.out).at i (by have := HN.out; omega)
      have hLk := (HAl.out.below HB.out).at k (by have := HN.out; omega)
      have HVi := Lib.hid (cost_has hLi HF.out)
      have HVk := Lib.hid (cost_has hLk HF.out)
      obtain ⟨Vi, hVi⟩ : ∃ V, V = costV (wayAt xs i).1 (wayAt xs i).2 f := ⟨_, rfl⟩
      obtain ⟨Vk, hVk⟩ : ∃ V, V = costV (wayAt xs k).1 (wayAt xs k).2 f := ⟨_, rfl⟩
      have HCp : Hid (∀ p : QuB wr, Calls Tryz.prog 130 #[.agg #[.int .i64 (wayAt xs i).1.log, .slice (wayAt xs i).1.e (wayAt xs i).1.n (wayAt xs i).1.c, .int .i64 (wayAt xs i).1.mode, .slice (wayAt xs i).1.t (wayAt xs i).1.tn (wayAt xs i).1.tc], .agg #[.int .i64 (wayAt xs k).1.log, .slice (wayAt xs k).1.e (wayAt xs k).1.n (wayAt xs k).1.c, .int .i64 (wayAt xs k).1.mode, .slice (wayAt xs k).1.t (wayAt xs k).1.tn (wayAt xs k).1.tc], .pointer (some ⟨g, 0, none⟩)] p.w fun e w'' => e = .returned (.int .i64 (cmpZ Vi Vk)) ∧ ∃ q : QuB wr, w'' = q.w) := fun p => by
        rw [hVi, hVk]
        exact calls_bw p (shortest1_any (g := g) (wayAt xs i).1 (wayAt xs k).1 f (hLi.below p.below) (hLk.below p.below) HF.out ((HG.out.below HB.out HG.out.lt).below p.below (Nat.lt_of_lt_of_le HG.out.lt HB.out.size)))
      rw [← hVi] at HVi
      rw [← hVk] at HVk
      have hx4 : ∀ p : QuB wr, p.w.cell? ⟨d, o + i * 4, none⟩ = some (.int .i64 (wayAt xs i).1.log) ∧ p.w.cell? ⟨d, o + i * 4 + 1, none⟩ = some (.slice (wayAt xs i).1.e (wayAt xs i).1.n (wayAt xs i).1.c) ∧ p.w.cell? ⟨d, o + i * 4 + 2, none⟩ = some (.int .i64 (wayAt xs i).1.mode) ∧ p.w.cell? ⟨d, o + i * 4 + 3, none⟩ = some (.slice (wayAt xs i).1.t (wayAt xs i).1.tn (wayAt xs i).1.tc) :=
        fun p => ⟨(p.below.cell (p := ⟨d, o + i * 4, none⟩) hdw).trans hci.1, (p.below.cell (p := ⟨d, o + i * 4 + 1, none⟩) hdw).trans hci.2.1, (p.below.cell (p := ⟨d, o + i * 4 + 2, none⟩) hdw).trans hci.2.2.1, (p.below.cell (p := ⟨d, o + i * 4 + 3, none⟩) hdw).trans hci.2.2.2⟩
      have HX4 := Lib.hid hx4
      have hy4 : ∀ p : QuB wr, p.w.cell? ⟨w.heap.size + 1, 0, none⟩ = some (.int .i64 (wayAt xs k).1.log) ∧ p.w.cell? ⟨w.heap.size + 1, 1, none⟩ = some (.slice (wayAt xs k).1.e (wayAt xs k).1.n (wayAt xs k).1.c) ∧ p.w.cell? ⟨w.heap.size + 1, 2, none⟩ = some (.int .i64 (wayAt xs k).1.mode) ∧ p.w.cell? ⟨w.heap.size + 1, 3, none⟩ = some (.slice (wayAt xs k).1.t (wayAt xs k).1.tn (wayAt xs k).1.tc) := fun p => (H1.out.below p.below hs1).four
      have HR := Lib.hid (cmpZ_lt Vi Vk)
      generalize cmpZ Vi Vk = R at *
      clear hc hci hdo hLi hLk hVi hVk
      go_upto_region 7 with (fail)
      refine wp_region_quiet_bw mixed (by kernel_rfl) ?_
      quiet_step (fail)
      quiet_step (fail)
      quiet_step (fail)
      quiet_step (fail)
      quiet_step (fail)
      quiet_step (fail)
      quiet_step ((go_at_call 130; exact HCp.out _))
      quiet_step (fail)
      refine wpQuiet_nil ?_
      intro _ hw'
      obtain ⟨p, rfl⟩ := hw'
      have q4 := HX4.out p
      clear hx4 hy4
      by_cases hR : R < 0
      · have f1 := (H1.out.below p.below hs1).free
        have hf0 := f1 0
        have hf1 := f1 1
        have hf2 := f1 2
        have hf3 := f1 3
        have y4 := (H1.out.below p.below hs1).four
        clear f1
        go_wp2_with fail
        go_roundg g'
        case rel =>
          refine ⟨i + 1, i, by have := HI.out; omega, by omega, by go_num, by omega, ?_, (H1.out.below p.below hs1).put4 _ _ _ _, ?_, ?_⟩
          · have h := H0.out.below p.below (by omega)
            exact (((h.far (by show w.heap.size ≠ w.heap.size + 1; omega) _).far (by show w.heap.size ≠ w.heap.size + 1; omega) _).far (by show w.heap.size ≠ w.heap.size + 1; omega) _).far (by show w.heap.size ≠ w.heap.size + 1; omega) _
          · intro j hj h
            rcases Nat.lt_or_ge j i with h2 | h2
            · have h3 := HVk.out.2 (HBest.out j h2 h)
              exact HVi.out.1 (Int.lt_trans (HR.out.1 hR) h3)
            · obtain rfl : j = i := by omega
              exact h
          · have h := HB.out.trans (p.below.mono HB.out.size)
            exact (((h.setCell (by show w.heap.size ≤ w.heap.size + 1; omega) _).setCell (by show w.heap.size ≤ w.heap.size + 1; omega) _).setCell (by show w.heap.size ≤ w.heap.size + 1; omega) _).setCell (by show w.heap.size ≤ w.heap.size + 1; omega) _
        case measure => omega
      · have hRf : decide (R < 0) = false := decide_eq_false hR
        go_wp2_with fail
        go_roundg g'
        case rel =>
          refine ⟨i + 1, k, by have := HI.out; omega, by omega, by go_num, by omega, H0.out.below p.below (by omega), H1.out.below p.below hs1, ?_, HB.out.trans (p.below.mono HB.out.size)⟩
          intro j hj h
          rcases Nat.lt_or_ge j i with h2 | h2
          · exact HBest.out j h2 h
          · obtain rfl : j = i := by omega
            have h3 := HVi.out.2 h
            have h4 : ¬ Vi < Vk := fun q => by have := HR.out.2 q; omega
            exact HVk.out.1 (by omega)
        case measure => omega
    · obtain rfl : i = n := by omega
      have hkz : ¬ (i : Int) < (i : Int) := by omega
      have y4 := H1.out.four
      have f1 := H0.out.free
      have hf0 := f1 0
      have hf1 := f1 1
      have hf2 := f1 2
      have hf3 := f1 3
      have z4 := H0.out.four
      clear f1
      go_wp2_with fail
      obtain ⟨r0, r1, r2, r3⟩ := (H0.out.put4 (.int .i64 (wayAt xs k).1.log) (.slice (wayAt xs k).1.e (wayAt xs k).1.n (wayAt xs k).1.c) (.int .i64 (wayAt xs k).1.mode) (.slice (wayAt xs k).1.t (wayAt xs k).1.tn (wayAt xs k).1.tc)).four
      refine bodyPost_ret (v := .agg #[.int .i64 (wayAt xs k).1.log, .slice (wayAt xs k).1.e (wayAt xs k).1.n (wayAt xs k).1.c, .int .i64 (wayAt xs k).1.mode, .slice (wayAt xs k).1.t (wayAt xs k).1.tn (wayAt xs k).1.tc]) (by simp [results, Tryz.results129, go_sem, r0, r1, r2, r3]) rfl ⟨k, hki, rfl, HBest.out, ?_⟩
      exact (((HB.out.setCell (Nat.le_refl _) _).setCell (Nat.le_refl _) _).setCell (Nat.le_refl _) _).setCell (Nat.le_refl _) _

set_option maxRecDepth 100000 in
set_option maxHeartbeats 2000000 in
theorem shortest_any {w : World} {n c hi lo : Nat} {A : Option Addr} {xs : List (Wy × List En)} (f : Nat → Nat) (hd : DatR 4 wyc w lo hi A xs) (hhi : hi ≤ w.heap.size) (hn : xs.length = n) (h0 : 0 < n) (hm : n ≤ 1000) (hall : AllLie w xs) (hf : ∀ s, f s ≤ 4294967295) :
    Calls Tryz.prog 120 #[.slice A n c, .agg (a53 .u32 f)] w fun e w' =>
      ∃ k, k < n ∧ e = .returned (.agg #[.int .i64 (wayAt xs k).1.log, .slice (wayAt xs k).1.e (wayAt xs k).1.n (wayAt xs k).1.c, .int .i64 (wayAt xs k).1.mode, .slice (wayAt xs k).1.t (wayAt xs k).1.tn (wayAt xs k).1.tc]) ∧
        (∀ i, i < n → HasAll (wayAt xs i).2 f → HasAll (wayAt xs k).2 f) ∧ Below w.heap.size w w' := by
  have hmf : ∀ (fn : Fn) (first cap : Array Value) (w : World), (Instr.makeFunc fn first cap).run Tryz.prog w = .ok (.func fn first cap) w := fun _ _ _ _ => rfl
  have hb0 := (Box.new w 210 (a53 .u32 f)).alloc (.cells #[.int .i64 0, .slice none 0 0, .int .i64 0, .slice none 0 0] 213)
  have hb1 := Box.new (w.alloc (.cells (a53 .u32 f) 210)) 213 #[.int .i64 0, .slice none 0 0, .int .i64 0, .slice none 0 0]
  rw [World.size_alloc] at hb1
  have hB : Below w.heap.size w ((w.alloc (.cells (a53 .u32 f) 210)).alloc (.cells #[.int .i64 0, .slice none 0 0, .int .i64 0, .slice none 0 0] 213)) := ((Below.refl _ _).alloc (Nat.le_refl _) _).alloc (by simp) _
  have HM := Lib.hid (minFunc_any (c := c) f (hd.below hB hhi) (Nat.le_trans hhi hB.size) hn h0 hm (hall.below hB) hf hb0)
  have H1 := Lib.hid hb1
  have HB := Lib.hid hB
  have hs : ((w.alloc (.cells (a53 .u32 f) 210)).alloc (.cells #[.int .i64 0, .slice none 0 0, .int .i64 0, .slice none 0 0] 213)).heap.size = w.heap.size + 2 := by simp
  have HS := Lib.hid hs
  clear hb0 hb1 hB hd hn hall hf hs
  go_enter Tryz.func120, Tryz.ntmps120
  go_wp2_with (first
    | (refine Go.Great.wpList_boxTo rfl 210 _ rfl _ rfl w.heap.size rfl (a53 .u32 f) (a53_cells _ _) ?_)
    | (go_at_call 129; refine HM.out.mono ?_; rintro e' w1 ⟨k, hk, rfl, hbest, hB1⟩; have HK := Lib.hid (And.intro hk hbest); have HB1 := Lib.hid (HB.out.trans (hB1.mono HB.out.size)); have hb1 := H1.out.below hB1 (by have := HS.out; omega); obtain ⟨z0, z1, z2, z3⟩ := hb1.four; have f0 := hb1.free 0; have f1 := hb1.free 1; have f2 := hb1.free 2; have f3 := hb1.free 3; have H1' := Lib.hid hb1; clear hk hbest hB1 hb1))
  obtain ⟨r0, r1, r2, r3⟩ := (H1'.out.put4 (.int .i64 (wayAt xs k).1.log) (.slice (wayAt xs k).1.e (wayAt xs k).1.n (wayAt xs k).1.c) (.int .i64 (wayAt xs k).1.mode) (.slice (wayAt xs k).1.t (wayAt xs k).1.tn (wayAt xs k).1.tc)).four
  refine bodyPost_ret (v := .agg #[.int .i64 (wayAt xs k).1.log, .slice (wayAt xs k).1.e (wayAt xs k).1.n (wayAt xs k).1.c, .int .i64 (wayAt xs k).1.mode, .slice (wayAt xs k).1.t (wayAt xs k).1.tn (wayAt xs k).1.tc]) (by simp [results, Tryz.results120, go_sem, r0, r1, r2, r3]) rfl ⟨k, HK.out.1, rfl, HK.out.2, ?_⟩
  exact (((HB1.out.setCell (by show w.heap.size ≤ w.heap.size + 1; omega) _).setCell (by show w.heap.size ≤ w.heap.size + 1; omega) _).setCell (by show w.heap.size ≤ w.heap.size + 1; omega) _).setCell (by show w.heap.size ≤ w.heap.size + 1; omega) _
end Go.Proofs.YtlidnialggpcpaaGreatDoor

/- The contracts of the program's mayBe (slices.Min, slices.Max), tally and alone. -/
namespace Go.Proofs.YtlidnialggpcpaaGreatDoor
open Go.RowKit

set_option maxRecDepth 100000 in
theorem minZ_any {w : World} {lo hi n c : Nat} {A : Option Addr} {xs : List Int} (hd : DatE icel w lo hi A xs) (hn : xs.length = n) (h0 : 0 < n) (hm : n ≤ 1000000) :
    Calls Tryz.prog 97 #[.slice A n c] w fun e w' => ∃ m : Int, e = .returned (.int .i64 m) ∧ m ∈ xs ∧ (∀ x ∈ xs, m ≤ x) ∧ w' = w := by
  have HD := Lib.hid (And.intro hd hn)
  have hl0 : 0 < xs.length := by omega
  obtain ⟨d, o, rfl, _, _, hc⟩ := hd (by omega)
  have HC := Lib.hid hc
  have hc0 := hc 0 (by omega)
  simp only [Nat.add_zero] at hc0
  unfold icel at hc0
  obtain ⟨x0, e0⟩ : ∃ x, x = xs[0]'hl0 := ⟨_, rfl⟩
  rw [← e0] at hc0
  have HE := Lib.hid e0
  clear hd hc e0 hn
  have h1 : ¬ (n : Int) < 1 := by omega
  have hnz : (0 : Int) < (n : Int) := by omega
  go_enter Tryz.func97, Tryz.ntmps97
  go_wp2_with fail
  go_loopg [3, 4] n (fun g1 vm vi wx => ∃ (i : Nat) (m : Int), vi = .int .i64 (i : Int) ∧ vm = .int .i64 m ∧ 1 ≤ i ∧ i ≤ n ∧ n - i ≤ g1 ∧ m ∈ xs ∧ (∀ x ∈ xs.take i, m ≤ x) ∧ wx = w)
  case atStart =>
    refine ⟨1, x0, by go_num, rfl, by omega, by omega, by omega, by rw [HE.out]; exact List.getElem_mem _, fun x hx => ?_, rfl⟩
    rw [List.take_succ_eq_append_getElem hl0] at hx
    simp at hx
    rw [hx, HE.out]
    exact Int.le_refl _
  case round =>
    obtain ⟨i, m, rfl, rfl, h1i, hin, hg, hm1, hm2, rfl⟩ := hrel
    by_cases hlt : i < n
    · have hltz : (i : Int) < (n : Int) := by omega
      have hil : i < xs.length := by rw [HD.out.2]; exact hlt
      have hci := HC.out i hil
      unfold icel at hci
      have hts : xs.take (i + 1) = xs.take i ++ [xs[i]] := List.take_succ_eq_append_getElem hil
      have hmi := List.getElem_mem hil
      have HM := Lib.hid (And.intro hm1 (And.intro hm2 (And.intro hts hmi)))
      clear hm1 hm2 hts hmi
      generalize xs[i] = y at *
      go_wp2_with fail
      all_goals
        go_roundg (n - (i + 1))
        case measure => omega
        case rel =>
          obtain ⟨hm1, hm2, hts, hmi⟩ := HM.out
          refine ⟨i + 1, min m y, by go_num, rfl, by omega, by omega, by omega, ?_, fun x hy => ?_, rfl⟩
          · by_cases h : m ≤ y
            · rw [Int.min_eq_left h]; exact hm1
            · rw [Int.min_eq_right (by omega)]; exact hmi
          · rw [hts] at hy
            rcases List.mem_append.1 hy with q | q
            · have := hm2 x q; omega
            · rw [List.mem_singleton.1 q]; omega
    · obtain rfl : i = n := by omega
      have hltz : ¬ (i : Int) < (i : Int) := by omega
      go_wp2_with fail
      go_ret
      exact ⟨m, rfl, hm1, by rw [List.take_of_length_le (by rw [HD.out.2]; exact Nat.le_refl _)] at hm2; exact hm2, rfl⟩
set_option maxRecDepth 100000 in
theorem maxZ_any {w : World} {lo hi n c : Nat} {A : Option Addr} {xs : List Int} (hd : DatE icel w lo hi A xs) (hn : xs.length = n) (h0 : 0 < n) (hm : n ≤ 1000000) :
    Calls Tryz.prog 98 #[.slice A n c] w fun e w' => ∃ m : Int, e = .returned (.int .i64 m) ∧ m ∈ xs ∧ (∀ x ∈ xs, x ≤ m) ∧ w' = w := by
  have HD := Lib.hid (And.intro hd hn)
  have hl0 : 0 < xs.length := by omega
  obtain ⟨d, o, rfl, _, _, hc⟩ := hd (by omega)
  have HC := Lib.hid hc
  have hc0 := hc 0 (by omega)
  simp only [Nat.add_zero] at hc0
  unfold icel at hc0
  obtain ⟨x0, e0⟩ : ∃ x, x = xs[0]'hl0 := ⟨_, rfl⟩
  rw [← e0] at hc0
  have HE := Lib.hid e0
  clear hd hc e0 hn
  have h1 : ¬ (n : Int) < 1 := by omega
  have hnz : (0 : Int) < (n : Int) := by omega
  go_enter Tryz.func98, Tryz.ntmps98
  go_wp2_with fail
  go_loopg [3, 4] n (fun g1 vm vi wx => ∃ (i : Nat) (m : Int), vi = .int .i64 (i : Int) ∧ vm = .int .i64 m ∧ 1 ≤ i ∧ i ≤ n ∧ n - i ≤ g1 ∧ m ∈ xs ∧ (∀ x ∈ xs.take i, x ≤ m) ∧ wx = w)
  case atStart =>
    refine ⟨1, x0, by go_num, rfl, by omega, by omega, by omega, by rw [HE.out]; exact List.getElem_mem _, fun x hx => ?_, rfl⟩
    rw [List.take_succ_eq_append_getElem hl0] at hx
    simp at hx
    rw [hx, HE.out]
    exact Int.le_refl _
  case round =>
    obtain ⟨i, m, rfl, rfl, h1i, hin, hg, hm1, hm2, rfl⟩ := hrel
    by_cases hlt : i < n
    · have hltz : (i : Int) < (n : Int) := by omega
      have hil : i < xs.length := by rw [HD.out.2]; exact hlt
      have hci := HC.out i hil
      unfold icel at hci
      have hts : xs.take (i + 1) = xs.take i ++ [xs[i]] := List.take_succ_eq_append_getElem hil
      have hmi := List.getElem_mem hil
      have HM := Lib.hid (And.intro hm1 (And.intro hm2 (And.intro hts hmi)))
      clear hm1 hm2 hts hmi
      generalize xs[i] = y at *
      go_wp2_with fail
      all_goals
        go_roundg (n - (i + 1))
        case measure => omega
        case rel =>
          obtain ⟨hm1, hm2, hts, hmi⟩ := HM.out
          refine ⟨i + 1, max m y, by go_num, rfl, by omega, by omega, by omega, ?_, fun x hy => ?_, rfl⟩
          · by_cases h : y ≤ m
            · rw [Int.max_eq_left h]; exact hm1
            · rw [Int.max_eq_right (by omega)]; exact hmi
          · rw [hts] at hy
            rcases List.mem_append.1 hy with q | q
            · have := hm2 x q; omega
            · rw [List.mem_singleton.1 q]; omega
    · obtain rfl : i = n := by omega
      have hltz : ¬ (i : Int) < (i : Int) := by omega
      go_wp2_with fail
      go_ret
      exact ⟨m, rfl, hm1, by rw [List.take_of_length_le (by rw [HD.out.2]; exact Nat.le_refl _)] at hm2; exact hm2, rfl⟩

/-- May these be codes of a kind? -/
def codesB (n : Nat) (l : List Int) : Bool := decide (0 < l.length) && l.all fun x => decide (0 ≤ x) && decide (x ≤ (lastN n : Int))
theorem codesB_iff {n : Nat} {l : List Int} : codesB n l = true ↔ 0 < l.length ∧ ∀ x ∈ l, 0 ≤ x ∧ x ≤ (lastN n : Int) := by
  unfold codesB
  simp
set_option maxRecDepth 100000 in
set_option maxHeartbeats 1000000 in
theorem mayBeT_any {B : Nat} {w : World} {lo hi m c : Nat} {A : Option Addr} {l : List Int} (n : Nat) (hn : n < 3) (hgl : Glob B w) (hd : DatE icel w lo hi A l) (hm : l.length = m) (hm2 : m ≤ 1000) :
    Calls Tryz.prog 117 #[.int .i64 (n : Int), .slice A m c] w fun e w' => e = .returned (.bool (codesB n l)) ∧ w' = w := by
  by_cases h0 : m = 0
  · subst h0
    have hb : codesB n l = false := by
      rw [Bool.eq_false_iff]
      intro h
      have := (codesB_iff.1 h).1
      omega
    rw [hb]
    clear hd hgl hm hb
    go_enter Tryz.func117, Tryz.ntmps117
    go_wp2_with fail
    go_ret
    exact ⟨rfl, rfl⟩
  · have HMin := Lib.hid (minZ_any (c := c) hd hm (by omega) (by omega))
    have HMax := Lib.hid (maxZ_any (c := c) hd hm (by omega) (by omega))
    have HL : Hid (Calls Tryz.prog 106 #[.int .i64 (n : Int)] w fun e w' => e = .returned (.int .i64 (lastN n : Int)) ∧ w = w') := by
      have := last_any (n : Int) w hgl
      rwa [lastZ_nat hn] at this
    have HIff := Lib.hid (codesB_iff (n := n) (l := l))
    have HM := Lib.hid hm
    generalize codesB n l = b at *
    have hm0 : (0 : Int) < (m : Int) := by omega
    have hm1 : (m : Int) ≤ 131072 := by omega
    generalize lastN n = la at *
    clear hd hgl hm
    go_enter Tryz.func117, Tryz.ntmps117
    go_wp2_with fail
    refine HMin.out.mono ?_
    rintro e w1 ⟨mn, rfl, hmn, hmn2, rfl⟩
    have HMn := Lib.hid (And.intro hmn hmn2)
    clear hmn hmn2
    by_cases hneg : mn < 0
    · have hb : b = false := by
        rw [Bool.eq_false_iff]
        intro h
        have := ((HIff.out.1 h).2 mn HMn.out.1).1
        omega
      subst hb
      have hd : decide ((0 : Int) ≤ mn) = false := by simp; omega
      go_wp2_with fail
      go_ret
      exact ⟨rfl, rfl⟩
    · have hd : (0 : Int) ≤ mn := by omega
      go_wp2_with fail
      refine HMax.out.mono ?_
      rintro e w2 ⟨mx, rfl, hmx, hmx2, rfl⟩
      have HMx := Lib.hid (And.intro hmx hmx2)
      clear hmx hmx2
      go_wp2_with fail
      refine HL.out.mono ?_
      rintro e w3 ⟨rfl, rfl⟩
      by_cases hbig : mx ≤ (la : Int)
      · have hb : b = true := by
          refine HIff.out.2 ⟨by have := HM.out; omega, fun x hx => ⟨?_, ?_⟩⟩
          · have := HMn.out.2 x hx; omega
          · have := HMx.out.2 x hx; omega
        subst hb
        go_wp2_with fail
        go_ret
        exact ⟨rfl, rfl⟩
      · have hb : b = false := by
          rw [Bool.eq_false_iff]
          intro h
          have := ((HIff.out.1 h).2 mx HMx.out.1).2
          omega
        subst hb
        have hbf : decide (mx ≤ (la : Int)) = false := decide_eq_false hbig
        go_wp2_with fail
        go_ret
        exact ⟨rfl, rfl⟩

/-- How often a code is. -/
def oft (l : List Int) (s : Nat) : Nat := l.count (s : Int)
theorem oft_le (l : List Int) (s : Nat) : oft l s ≤ l.length := List.count_le_length
theorem oft_pos (l : List Int) (s : Nat) : 0 < oft l s ↔ (s : Int) ∈ l := List.count_pos_iff
theorem oft_step (l : List Int) (j s : Nat) (h : j < l.length) (hs : l[j] = (s : Int)) : (fun i => if i = s then oft (l.take j) s + 1 else oft (l.take j) i) = oft (l.take (j + 1)) := by
  funext i
  unfold oft
  rw [List.take_succ_eq_append_getElem h, List.count_append, hs]
  by_cases e : i = s
  · subst e
    simp
  · rw [if_neg e]
    have : List.count (i : Int) [(s : Int)] = 0 := by
      rw [List.count_eq_zero]
      simp
      omega
    omega

set_option maxRecDepth 100000 in
set_option maxHeartbeats 1000000 in
theorem tallyT_any {w : World} {lo hi m c : Nat} {A : Option Addr} {l : List Int} (hd : DatE icel w lo hi A l) (hhi : hi ≤ w.heap.size) (hm : l.length = m) (hm2 : m ≤ 1000) (hb : ∀ x ∈ l, 0 ≤ x ∧ x ≤ 52) :
    Calls Tryz.prog 118 #[.slice A m c] w fun e w' => e = .returned (.agg (a53 .u32 (oft l))) ∧ Below w.heap.size w w' := by
  have HD := Lib.hid hd
  have HM := Lib.hid hm
  have HBd := Lib.hid hb
  have hb0 := (Box.new w 210 (a53 .u32 fun _ => 0)).alloc (.cells (a53 .u32 fun _ => 0) 210)
  have hb1 := Box.new (w.alloc (.cells (a53 .u32 fun _ => 0) 210)) 210 (a53 .u32 fun _ => 0)
  rw [World.size_alloc] at hb1
  have H0 := Lib.hid hb0
  have H1 := Lib.hid hb1
  have HB : Hid (Below w.heap.size w ((w.alloc (.cells (a53 .u32 fun _ => 0) 210)).alloc (.cells (a53 .u32 fun _ => 0) 210))) := ((Below.refl _ _).alloc (Nat.le_refl _) _).alloc (by simp) _
  clear hd hm hb hb0 hb1
  go_enter Tryz.func118, Tryz.ntmps118
  go_upto_region 2 with (refine wpList_alloc_z rfl 210 rfl (a53 .u32 fun _ => 0) a53_zero_u32 ?_)
  generalize (w.alloc (.cells (a53 .u32 fun _ => 0) 210)).alloc (.cells (a53 .u32 fun _ => 0) 210) = W at *
  go_wp2_with fail
  go_loopg [8] m (fun gh v wx => ∃ j : Nat, j + gh = m ∧ v = .int .i64 (j : Int) ∧ Box wx w.heap.size 210 (a53 .u32 fun _ => 0) ∧ Box wx (w.heap.size + 1) 210 (a53 .u32 (oft (l.take j))) ∧ Below w.heap.size w wx)
  case atStart => exact ⟨0, by omega, rfl, H0.out, H1.out, HB.out⟩
  case round =>
    clear H0 H1 HB
    obtain ⟨j, hj, rfl, hb0, hb1, hB⟩ := hrel
    have H0 := Lib.hid hb0
    have H1 := Lib.hid hb1
    have HB := Lib.hid hB
    have HJ := Lib.hid hj
    have hjm : j ≤ m := by omega
    clear hb0 hb1 hB hj
    by_cases hlt : j < m
    · obtain ⟨g', rfl⟩ : ∃ g', gk = g' + 1 := ⟨gk - 1, by have := HJ.out; omega⟩
      have hkz : (j : Int) < (m : Int) := by omega
      have hjl : j < l.length := by have := HM.out; omega
      obtain ⟨d, o, rfl, _, _, hc⟩ := (HD.out.below HB.out hhi) (by omega)
      have q := hc j hjl
      unfold icel at q
      obtain ⟨hx0, hx1⟩ := HBd.out l[j] (List.getElem_mem hjl)
      obtain ⟨s, hs⟩ := Int.eq_ofNat_of_zero_le hx0
      rw [hs] at q hx1
      have hs53 : s < 53 := by omega
      have hsz : (s : Int) < 53 := by omega
      have c1 := (H1.out.cell s).trans (a53_get _ _ s hs53)
      have f1 := H1.out.free s
      have hle := oft_le (l.take j) s
      rw [List.length_take] at hle
      have hput := H1.out.put s (.int .u32 ((oft (l.take j) s + 1 : Nat) : Int))
      rw [a53_set, oft_step l j s hjl hs] at hput
      have HPut := Lib.hid hput
      obtain ⟨x, hx⟩ : ∃ x, x = oft (l.take j) s := ⟨_, rfl⟩
      rw [← hx] at c1 hle HPut
      have hx32 : IntKind.u32.wrap ((x : Int) + 1) = (x : Int) + 1 := by rw [IntKind.wrap_u32']; omega
      clear hc hput hx hs hx0 hx1
      go_wp2_with fail
      go_roundg g'
      case rel => exact ⟨j + 1, by have := HJ.out; omega, by go_num, H0.out.far (by show w.heap.size ≠ w.heap.size + 1; omega) _, HPut.out, HB.out.setCell (by show w.heap.size ≤ w.heap.size + 1; omega) _⟩
      case measure => omega
    · obtain rfl : j = m := by omega
      have hkz : ¬ (j : Int) < (j : Int) := by omega
      have hT : l.take j = l := List.take_of_length_le (by have := HM.out; omega)
      rw [hT] at H1
      clear hT
      go_wp2_with (first
        | (refine wpList_load_row rfl 210 _ rfl (w.heap.size + 1) rfl 210 (a53 .u32 (oft l)) (0, 0) _ H1.out Tryz.underlying210 rfl (by rw [a53_size]; kernel_rfl) ?_)
        | (refine wpList_store_row rfl 210 _ _ rfl w.heap.size (a53 .u32 (oft l)) rfl rfl 210 _ H0.out (by rw [a53_size]; kernel_rfl) (by rw [a53_size, a53_size]) (a53_one _ _) ?_))
      refine bodyPost_ret (v := .agg (a53 .u32 (oft l))) (results_cell_row Tryz.results118 _ _ w.heap.size 210 (a53 .u32 (oft l)) (0, 0) _ rfl (setRow_heap _ _ _ _ _ _ H0.out) Tryz.underlying210 rfl (by rw [a53_size]; kernel_rfl)) rfl ⟨rfl, ?_⟩
      exact below_row HB.out (Nat.le_refl _) _

set_option maxRecDepth 100000 in
set_option maxHeartbeats 1000000 in
theorem alone_any (s : Nat) (w : World) (hs : s < 256) :
    Calls Tryz.prog 119 #[.int .i64 (s : Int)] w fun e w' => ∃ v c t, e = .returned (.agg #[.int .i64 0, v, .int .i64 1, .slice (some ⟨t, 0, none⟩) 1 c]) ∧ OwR 3 ecell w' 111 w.heap.size v [⟨(s : Int), 0, 0⟩] ∧ 1 ≤ c ∧ t < w'.heap.size ∧ w'.cell? ⟨t, 0, none⟩ = some (.int .u8 (s : Int)) ∧ Below w.heap.size w w' := by
  have hw : IntKind.u8.wrap (s : Int) = (s : Int) := by rw [IntKind.wrap_u8']; omega
  have HX := Lib.hid (Box.new w 213 #[.int .i64 0, .slice none 0 0, .int .i64 0, .slice none 0 0])
  have HB0 : Hid (Below w.heap.size w (w.alloc (.cells #[.int .i64 0, .slice none 0 0, .int .i64 0, .slice none 0 0] 213))) := (Below.refl _ _).alloc (Nat.le_refl _) _
  have hsz : (w.alloc (.cells #[.int .i64 0, .slice none 0 0, .int .i64 0, .slice none 0 0] 213)).heap.size = w.heap.size + 1 := by simp
  have HS := Lib.hid hsz
  clear hsz
  go_enter Tryz.func119, Tryz.ntmps119
  go_wp2_with fail
  generalize w.alloc (.cells #[.int .i64 0, .slice none 0 0, .int .i64 0, .slice none 0 0] 213) = W at *
  refine (one_any _ _).mono ?_
  rintro e w1 ⟨v, rfl, ho, hB⟩
  obtain ⟨A1, n1, c1, rfl⟩ := ho.slice
  have HO := Lib.hid (ho.alloc (.cells #[.int .u8 (s : Int)] 5))
  have HB1 := Lib.hid (HB0.out.trans (hB.mono HB0.out.size))
  have hb1 := (HX.out.below hB (by have := HS.out; omega)).alloc (.cells #[.int .u8 (s : Int)] 5)
  have H1 := Lib.hid hb1
  have HT := Lib.hid (Box.new w1 5 #[.int .u8 (s : Int)])
  have hs1 := hB.size
  obtain ⟨z0, z1, z2, z3⟩ := hb1.four
  have f0 := hb1.free 0
  have f1 := hb1.free 1
  have f2 := hb1.free 2
  have f3 := hb1.free 3
  clear ho hB hb1
  go_wp2_with fail
  obtain ⟨r0, r1, r2, r3⟩ := (H1.out.put4 (.int .i64 0) (.slice A1 n1 c1) (.int .i64 1) (.slice (some ⟨w1.heap.size, 0, none⟩) 1 1)).four
  have hss := HS.out
  refine bodyPost_ret (v := .agg #[.int .i64 0, .slice A1 n1 c1, .int .i64 1, .slice (some ⟨w1.heap.size, 0, none⟩) 1 1]) (by simp [results, Tryz.results119, go_sem, r0, r1, r2, r3]) rfl ⟨_, 1, w1.heap.size, rfl, ?_, Nat.le_refl _, by simp, ?_, ?_⟩
  · refine (HO.out.keep fun k hk => ?_).mono (show w.heap.size ≤ W.heap.size by omega)
    have hk4 : W.heap.size ≤ k := (HO.out.block k hk).1
    rw [Below.heap_setCell _ _ _ k (by show k ≠ w.heap.size; omega), Below.heap_setCell _ _ _ k (by show k ≠ w.heap.size; omega), Below.heap_setCell _ _ _ k (by show k ≠ w.heap.size; omega), Below.heap_setCell _ _ _ k (by show k ≠ w.heap.size; omega)]
  · exact ((((HT.out.far (by show w1.heap.size ≠ w.heap.size; omega) _).far (by show w1.heap.size ≠ w.heap.size; omega) _).far (by show w1.heap.size ≠ w.heap.size; omega) _).far (by show w1.heap.size ≠ w.heap.size; omega) _).cell 0
  · exact ((((HB1.out.alloc HB1.out.size _).setCell (Nat.le_refl _) _).setCell (Nat.le_refl _) _).setCell (Nat.le_refl _) _).setCell (Nat.le_refl _) _
end Go.Proofs.YtlidnialggpcpaaGreatDoor

/- Tables by which codes may be written: plain lemmas, and what stands in memory while a list of ways grows. -/
namespace Go.Proofs.YtlidnialggpcpaaGreatDoor
open Go.RowKit

theorem small_tab {l : Nat} {ps : List Int} (h : MayF l ps) (hl : ps.length ≤ 53) : Small (tab l ps) := fun i => by
  by_cases hi : i < (tab l ps).length
  · obtain ⟨s, b, e, h1, _, h3, _⟩ := tab_fine h i hi
    have hs := tab_sym h i hi
    have hsl : i < (syms l ps).length := by rw [h.syms_len, ← tab_length h]; exact hi
    have hlt := h.syms_lt _ (List.getElem_mem hsl)
    rw [getD_of _ _ _ hsl] at hs
    rw [getD_of _ _ _ hi, h1]
    rw [h1] at hs
    have hs2 : s = (syms l ps)[i] := by
      have : (s : Int) = ((syms l ps)[i] : Nat) := hs
      omega
    exact ⟨s, b, rfl, rfl, by omega, h3⟩
  · rw [List.getD_eq_getElem?_getD, List.getElem?_eq_none (by omega)]
    exact ⟨0, 0, rfl, rfl, by omega, by omega⟩
theorem hasAll_tab {l : Nat} {ps : List Int} (h : MayF l ps) {f : Nat → Nat} (hf : ∀ s, s < 53 → 0 < f s → 1 ≤ (wi (ps.getD s 0)).toNat) : HasAll (tab l ps) f := fun s hs h0 => by
  obtain ⟨i, hi, e⟩ := tab_has h s (hf s hs h0)
  rw [stF_pos]
  exact ⟨i, hi, by rw [getD_of _ _ _ hi]; exact e⟩
/-- The numbers of an array, as a list. -/
def osF (f : Nat → Nat) : List Nat := (List.range 53).map f
theorem osF_len (f : Nat → Nat) : (osF f).length = 53 := by simp [osF]
theorem osF_get (f : Nat → Nat) (s : Nat) (hs : s < 53) : (osF f).getD s 0 = f s := by
  rw [List.getD_eq_getElem?_getD]
  simp [osF, hs]
theorem osF_box {w : World} {g : Nat} {t : TypeId} {f : Nat → Nat} (h : Box w g t (a53 .u32 f)) : DatE ucel w g (g + 1) (some ⟨g, 0, none⟩) (osF f) := fun _ =>
  ⟨g, 0, rfl, Nat.le_refl _, by omega, fun j hj => by
    rw [osF_len] at hj
    rw [Nat.zero_add, h.cell j, a53_get _ _ j hj]
    simp [osF, ucel]⟩
theorem cnt_pos_of : ∀ (a : List Nat) (i : Nat), 0 < a.getD i 0 → 0 < cnt a := fun a i h => by
  have hi : i < a.length := by
    rcases Nat.lt_or_ge i a.length with q | q
    · exact q
    · rw [List.getD_eq_getElem?_getD, List.getElem?_eq_none q] at h
      exact absurd h (by decide)
  have e : a = a.take i ++ ([a[i]] ++ a.drop (i + 1)) := by
    rw [List.singleton_append, List.getElem_cons_drop, List.take_append_drop]
  rw [getD_of a i 0 hi] at h
  rw [e, cnt_append, cnt_append]
  have : cnt [a[i]] = 1 := by
    have := cnt_snoc [] a[i]
    rw [if_pos h] at this
    exact this
  omega
theorem cnt_two {a : List Nat} {i j : Nat} (hij : i < j) (hi : 0 < a.getD i 0) (hj : 0 < a.getD j 0) : 2 ≤ cnt a := by
  have e : cnt a = cnt (a.take j) + cnt (a.drop j) := by rw [← cnt_append, List.take_append_drop]
  have h1 := cnt_pos_of (a.take j) i (by rw [List.getD_eq_getElem?_getD, List.getElem?_take, if_pos hij, ← List.getD_eq_getElem?_getD]; exact hi)
  have h2 := cnt_pos_of (a.drop j) 0 (by rw [List.getD_eq_getElem?_getD, List.getElem?_drop, Nat.add_zero, ← List.getD_eq_getElem?_getD]; exact hj)
  omega
/-- Counts that are made of how often codes are have a part of each of them. -/
theorem good_has {f : Nat → Nat} {ps : List Int} (hg : Good ((osF f).take (ends (osF f))) ps) (s : Nat) (hs : s < 53) (h0 : 0 < f s) : 1 ≤ (wi (ps.getD s 0)).toNat := by
  have h1 := ends_spec (osF f)
  have hlt : s < ends (osF f) := by
    rcases Nat.lt_or_ge s (ends (osF f)) with q | q
    · exact q
    · have := h1.1 s q
      rw [osF_get f s hs] at this
      omega
  obtain ⟨g1, g2⟩ := hg.get s
  have h2 : 0 < ((osF f).take (ends (osF f))).getD s 0 := by
    rw [List.getD_eq_getElem?_getD, List.getElem?_take, if_pos hlt, ← List.getD_eq_getElem?_getD, osF_get f s hs]
    exact h0
  have h3 := g2.2 h2
  have h4 := (wi_pos (show -1 ≤ ps.getD s 0 by omega)).2.1
  omega
theorem ends_last {f : Nat → Nat} {n : Nat} (hn : lastN n ≤ 52) (hf : ∀ s, lastN n < s → f s = 0) : ends (osF f) ≤ lastN n + 1 := by
  have h1 := (ends_spec (osF f)).2
  have h2 := ends_le (osF f)
  rw [osF_len] at h2
  rcases Nat.lt_or_ge (lastN n + 1) (ends (osF f)) with q | q
  · have h3 := h1 (by omega)
    rw [osF_get f _ (by omega), hf _ (by omega)] at h3
    omega
  · exact q

/-! What stands in memory. -/
theorem OwR.ne_box {α : Type} {z : Nat} {fc : α → List Value} {w : World} {u base : Nat} {v : Value} {xs : List α} {g : Nat} {t : TypeId} {cs : Array Value} (h : OwR z fc w u base v xs) (hg : Box w g t cs) (hne : u ≠ t) : v.ownBlock ≠ some g := by
  rcases h.2 with ⟨rfl, _⟩ | ⟨g', cap, cur, rfl, _, hh, _⟩
  · simp [Value.ownBlock]
  · intro he
    have : g' = g := by simpa [Value.ownBlock] using he
    subst this
    unfold Box at hg
    rw [hg] at hh
    injection hh with hh
    injection hh with h1 h2
    exact hne h2.symm
/-- A slice lies in old blocks, beside the row. -/
def Apart (w : World) (row : Option Nat) (A : Option Addr) : Prop := ∀ d o s, A = some ⟨d, o, s⟩ → d < w.heap.size ∧ row ≠ some d
theorem Apart.none (w : World) (row : Option Nat) : Apart w row none := fun _ _ _ h => by cases h
theorem Apart.mono {w w' : World} {row row' : Option Nat} {A : Option Addr} (h : Apart w row A) (hs : w.heap.size ≤ w'.heap.size) (hr : row' = row ∨ row' = some w.heap.size ∨ ∃ k, row' = some k ∧ w.heap.size ≤ k) : Apart w' row' A := fun d o s e => by
  obtain ⟨h1, h2⟩ := h d o s e
  refine ⟨by omega, ?_⟩
  rcases hr with rfl | rfl | ⟨k, rfl, hk⟩
  · exact h2
  · intro q; injection q with q; omega
  · intro q; injection q with q; omega
theorem DatR.growA {α : Type} {z : Nat} {fc : α → List Value} {w w' : World} {row : Option Nat} {A : Option Addr} {xs : List α} (h : DatR z fc w 0 w.heap.size A xs) (ha : Apart w row A) (hg : w.grownBy w' row) : DatR z fc w' 0 w'.heap.size A xs := fun hx => by
  obtain ⟨d, o, hA, _, h2, hc⟩ := h hx
  refine ⟨d, o, hA, Nat.zero_le _, Nat.lt_of_lt_of_le h2 hg.size, fun j hj i v hv => ?_⟩
  exact (World.cell?_of_block (hg.block d h2 (fun e => (ha d o _ hA).2 e.symm))).trans (hc j hj i v hv)
theorem Dat.growA {own : Bool} {w w' : World} {row : Option Nat} {A : Option Addr} {xs : List UInt8} (h : Dat own w 0 w.heap.size A xs) (ha : Apart w row A) (hg : w.grownBy w' row) : Dat own w' 0 w'.heap.size A xs := fun hx => by
  obtain ⟨d, o, hA, _, h2, _⟩ := h hx
  have hk := hg.block d h2 (fun e => (ha d o _ hA).2 e.symm)
  have h' : Dat own w d (d + 1) A xs := fun hx => by
    obtain ⟨d', o', hA', h1', h2', hc'⟩ := h hx
    obtain rfl : d' = d := by rw [hA] at hA'; injection hA' with q; injection q with q; exact q.symm
    exact ⟨d', o', hA', Nat.le_refl _, by omega, hc'⟩
  exact ((h'.keep fun k h3 h4 => by obtain rfl : k = d := by omega
                                    exact hk).mono (Nat.zero_le _) (Nat.le_trans h2 hg.size)) hx
theorem Lies.growA {w w' : World} {row : Option Nat} {x : Wy} {es : List En} (h : Lies w x es) (ha : Apart w row x.e) (hg : w.grownBy w' row) : Lies w' x es :=
  ⟨h.ent.growA ha hg, h.len, h.n2, h.small, h.log, h.tn⟩

/-- A way by which codes of a kind may be written: the given table, or one that its bytes tell. -/
def WayGood (n : Nat) (w : World) (p : Wy × List En) : Prop :=
  (p.1.mode = 0 ∧ p.1.log = (logN n : Int) ∧ p.2 = tabG n ∧ p.1.tn = 0 ∧ p.1.t = none ∧ p.1.tc = 0) ∨
  (p.1.mode = 2 ∧ ∃ (l : Nat) (ps : List Int), mayB (l : Int) ps = true ∧ p.1.log = (l : Int) ∧ l ≤ mostN n ∧ ps.length ≤ lastN n + 1 ∧ p.2 = tab l ps ∧ p.1.tn = (bytesOf (wrC l ps)).length ∧ p.1.tn ≤ p.1.tc ∧ Dat true w 0 w.heap.size p.1.t (bytesOf (wrC l ps)))
theorem WayGood.growA {n : Nat} {w w' : World} {row : Option Nat} {p : Wy × List En} (h : WayGood n w p) (ha : Apart w row p.1.t) (hg : w.grownBy w' row) : WayGood n w' p := by
  rcases h with h | ⟨h1, l, ps, h2, h3, h4, h5, h6, h7, h8, h9⟩
  · exact .inl h
  · exact .inr ⟨h1, l, ps, h2, h3, h4, h5, h6, h7, h8, h9.growA ha hg⟩
theorem WayGood.below {n : Nat} {w w' : World} {p : Wy × List En} (h : WayGood n w p) (hB : Below w.heap.size w w') : WayGood n w' p := by
  rcases h with h | ⟨h1, l, ps, h2, h3, h4, h5, h6, h7, h8, h9⟩
  · exact .inl h
  · exact .inr ⟨h1, l, ps, h2, h3, h4, h5, h6, h7, h8, (h9.below hB (Nat.le_refl _)).mono (Nat.le_refl _) hB.size⟩

/-- One way in its place: it lies there, is good, and stands beside the row. -/
structure At1 (n : Nat) (w : World) (row : Option Nat) (p : Wy × List En) : Prop where
  lies : Lies w p.1 p.2
  good : WayGood n w p
  ape : Apart w row p.1.e
  apt : Apart w row p.1.t
theorem At1.below {n : Nat} {w w' : World} {row : Option Nat} {p : Wy × List En} (h : At1 n w row p) (hB : Below w.heap.size w w') : At1 n w' row p :=
  ⟨h.lies.below hB, h.good.below hB, h.ape.mono hB.size (.inl rfl), h.apt.mono hB.size (.inl rfl)⟩
theorem At1.grown {n : Nat} {w w' : World} {row row' : Option Nat} {p : Wy × List En} (h : At1 n w row p) (hg : w.grownBy w' row) (hr : row' = row ∨ row' = some w.heap.size) : At1 n w' row' p :=
  ⟨h.lies.growA h.ape hg, h.good.growA h.apt hg, h.ape.mono hg.size (hr.elim .inl fun e => .inr (.inl e)), h.apt.mono hg.size (hr.elim .inl fun e => .inr (.inl e))⟩
/-- A slice lies from block b on. -/
def LowA (b : Nat) (A : Option Addr) : Prop := ∀ d o s, A = some ⟨d, o, s⟩ → b ≤ d
/-- The list of ways, as far as powers below lg have been tried. -/
structure WI (n : Nat) (f : Nat → Nat) (w wx : World) (v : Value) (xs : List (Wy × List En)) (lg : Nat) : Prop where
  ow : OwR 4 wyc wx 213 (w.heap.size + 1) v xs
  each : ∀ p ∈ xs, At1 n wx v.ownBlock p
  box : Box wx w.heap.size 210 (a53 .u32 f)
  bel : Below w.heap.size w wx
  len : 1 ≤ xs.length ∧ xs.length + 4 ≤ lg
  has : ∀ l, 5 ≤ l → l < lg → cnt (osF f) ≤ 2 ^ l → ∃ p ∈ xs, HasAll p.2 f
  low : ∀ p ∈ xs, LowA w.heap.size p.1.e
theorem WI.below {n : Nat} {f : Nat → Nat} {w wx wy : World} {v : Value} {xs : List (Wy × List En)} {lg : Nat} (h : WI n f w wx v xs lg) (hB : Below wx.heap.size wx wy) : WI n f w wy v xs lg :=
  ⟨h.ow.below hB (Nat.le_refl _), fun p hp => (h.each p hp).below hB, h.box.below hB h.box.lt, h.bel.trans (hB.mono h.bel.size), h.len, h.has, h.low⟩
theorem WI.skip {n : Nat} {f : Nat → Nat} {w wx : World} {v : Value} {xs : List (Wy × List En)} {lg : Nat} (h : WI n f w wx v xs lg) (hno : ¬ cnt (osF f) ≤ 2 ^ lg) : WI n f w wx v xs (lg + 1) :=
  ⟨h.ow, h.each, h.box, h.bel, ⟨h.len.1, by have := h.len.2; omega⟩, fun l h1 h2 h3 => by
    by_cases e : l = lg
    · subst e; exact absurd h3 hno
    · exact h.has l h1 (by omega) h3, h.low⟩
theorem WI.push {n : Nat} {f : Nat → Nat} {w wx wy : World} {v v' : Value} {xs : List (Wy × List En)} {lg : Nat} {p : Wy × List En} (h : WI n f w wx v xs lg) (hp : At1 n wx v.ownBlock p) (ha : HasAll p.2 f) (hl : LowA w.heap.size p.1.e)
    (ho : OwR 4 wyc wy 213 (w.heap.size + 1) v' (xs ++ [p])) (hg : wx.grownBy wy v.ownBlock) (hv : v'.ownBlock = v.ownBlock ∨ v'.ownBlock = some wx.heap.size) : WI n f w wy v' (xs ++ [p]) (lg + 1) :=
  ⟨ho, fun q hq => by
      rcases List.mem_append.1 hq with h1 | h1
      · exact (h.each q h1).grown hg hv
      · rw [List.mem_singleton.1 h1]; exact hp.grown hg hv,
    h.box.grown hg (fun e => (h.ow.ne_box h.box (by decide)) e.symm),
    h.bel.grown hg h.bel.size (fun k hk => by have := (h.ow.block k hk).1; omega),
    by have := h.len; simp; omega,
    fun l _ _ _ => ⟨p, by simp, ha⟩, fun q hq => by
      rcases List.mem_append.1 hq with h1 | h1
      · exact h.low q h1
      · rw [List.mem_singleton.1 h1]; exact hl⟩
end Go.Proofs.YtlidnialggpcpaaGreatDoor

/- The contract of the program's ways. -/
namespace Go.Proofs.YtlidnialggpcpaaGreatDoor
open Go.RowKit

theorem way_info : (Tryz.prog.info? 213).map (fun i => (i.zero, i.size, i.bytes)) = some (some (.agg #[.int .i64 0, .slice none 0 0, .int .i64 0, .slice none 0 0]), 4, 64) := by kernel_rfl

/-- Where a slice of the call's own lies. -/
theorem OwB.where {w : World} {u base n c : Nat} {A : Option Addr} {xs : List UInt8} (h : OwB w u base (.slice A n c) xs) : ∀ d o s, A = some ⟨d, o, s⟩ → base ≤ d ∧ d < w.heap.size := fun d o s e => by
  subst e
  rcases h.2 with ⟨hv, _⟩ | ⟨g', cap, cur, hv, hb, hh, _⟩
  · cases hv
  · injection hv with h1 h2 h3
    injection h1 with h1
    injection h1 with h1 h4 h5
    subst h1
    exact ⟨hb, (Array.getElem?_eq_some_iff.1 hh).1⟩

set_option maxRecDepth 100000 in
set_option maxHeartbeats 2000000 in
theorem ways_any {B n : Nat} {w : World} (f : Nat → Nat) (hn : n < 3) (hgl : Glob B w) (hf : ∀ s, f s ≤ 1000) (hz : ∀ s, lastN n < s → f s = 0) (h2 : 2 ≤ cnt (osF f)) :
    Calls Tryz.prog 121 #[.int .i64 (n : Int), .agg (a53 .u32 f)] w fun e w' => ∃ v xs, e = .returned v ∧ WI n f w w' v xs (mostN n + 1) := by
  obtain ⟨i0, hi0, hz0, hz1, hz2⟩ := info_parts way_info
  have HI := Lib.hid (And.intro hi0 (And.intro hz0 (And.intro hz1 hz2)))
  have HF := Lib.hid hf
  have HZ := Lib.hid hz
  have H2 := Lib.hid h2
  have HG := Lib.hid hgl
  have hmo := most_le n hn
  have hmo8 := most_ge n hn
  have HGF := Lib.hid (givenF hn)
  have hla := last_le n hn
  have hsum : (osF f).sum ≤ 1000 * 53 := by
    have h := sum_le (osF f) 1000 (fun o ho => by
      simp only [osF, List.mem_map] at ho
      obtain ⟨s, _, rfl⟩ := ho
      exact hf s)
    rw [osF_len] at h
    exact h
  have HSm := Lib.hid hsum
  have HMost : Hid (∀ V, Glob B V → Calls Tryz.prog 112 #[.int .i64 (n : Int)] V fun e w' => e = .returned (.int .i64 (mostN n : Int)) ∧ V = w') := fun V hV => by
    have := most_any (n : Int) V hV
    rwa [mostZ_nat hn] at this
  have hb0 := Box.new w 210 (a53 .u32 f)
  have HB0 := Lib.hid (And.intro hb0 ((Below.refl w.heap.size w).alloc (Nat.le_refl _) (.cells (a53 .u32 f) 210)))
  have hs0 : (w.alloc (.cells (a53 .u32 f) 210)).heap.size = w.heap.size + 1 := by simp
  have HS0 := Lib.hid hs0
  have HGs := Lib.hid hgl.size
  clear hi0 hz0 hz1 hz2 hf hz h2 hgl hsum hb0 hs0
  obtain ⟨M, hM⟩ : ∃ M, M = mostN n := ⟨_, rfl⟩
  rw [← hM] at hmo hmo8 HMost ⊢
  have HM := Lib.hid hM
  clear hM
  go_enter Tryz.func121, Tryz.ntmps121
  go_wp2_with (refine Go.Great.wpList_boxTo rfl 210 _ rfl _ rfl w.heap.size rfl (a53 .u32 f) (a53_cells _ _) ?_)
  generalize w.alloc (.cells (a53 .u32 f) 210) = W at *
  refine (default_any n W (HG.out.below HB0.out.2 HGs.out) hn).mono ?_
  rintro e w1 ⟨v1, rfl, ho1, hB1⟩
  obtain ⟨d1, c1, rfl, hd1l, hd1, hc1⟩ := ho1.place (by rw [tabG_len hn]; exact Nat.two_pow_pos _)
  have HL1 := Lib.hid (tabG_len hn)
  have HO1 := Lib.hid ho1
  have HB1 := Lib.hid (HB0.out.2.trans (hB1.mono HB0.out.2.size))
  have HBx := Lib.hid (HB0.out.1.below hB1 HB0.out.1.lt)
  obtain ⟨N, hN⟩ : ∃ N, N = (tabG n).length := ⟨_, rfl⟩
  rw [← hN] at ho1 hc1 ⊢
  have HN := Lib.hid hN
  clear ho1 hB1 hN
  go_upto_region 3 with (fail)
  have hw2 : WI n f w ((w1.alloc (.cells #[.int .i64 (logN n : Int), .slice (some ⟨d1, 0, none⟩) N c1] 27)).alloc (.cells #[.int .i64 (logN n : Int), .slice (some ⟨d1, 0, none⟩) N c1, .int .i64 0, .slice none 0 0] 213))
      (.slice (some ⟨w1.heap.size + 1, 0, none⟩) 1 1) [(⟨(logN n : Int), some ⟨d1, 0, none⟩, N, c1, 0, none, 0, 0⟩, tabG n)] 5 := by
    have hB2 := (Below.refl w1.heap.size w1).alloc (Nat.le_refl _) (.cells #[.int .i64 (logN n : Int), .slice (some ⟨d1, 0, none⟩) N c1] 27)
    have hB3 := hB2.alloc hB2.size (.cells #[.int .i64 (logN n : Int), .slice (some ⟨d1, 0, none⟩) N c1, .int .i64 0, .slice none 0 0] 213)
    have hsz : ((w1.alloc (.cells #[.int .i64 (logN n : Int), .slice (some ⟨d1, 0, none⟩) N c1] 27)).alloc (.cells #[.int .i64 (logN n : Int), .slice (some ⟨d1, 0, none⟩) N c1, .int .i64 0, .slice none 0 0] 213)).heap.size = w1.heap.size + 2 := by simp
    have hs1 := HB1.out.size
    have hs0 := HS0.out
    have hsW : W.heap.size ≤ w1.heap.size := by omega
    refine ⟨?_, ?_, HBx.out.below hB3 HBx.out.lt, HB1.out.trans (hB3.mono HB1.out.size), ⟨by simp, by simp⟩, fun l h1 h2 _ => by omega, ?_⟩
    · refine ⟨rfl, .inr ⟨w1.heap.size + 1, 1, #[.int .i64 (logN n : Int), .slice (some ⟨d1, 0, none⟩) N c1, .int .i64 0, .slice none 0 0], rfl, by omega, ?_, Nat.le_refl _, by decide, rfl, rfl⟩⟩
      have h := heap_alloc_new (w1.alloc (.cells #[.int .i64 (logN n : Int), .slice (some ⟨d1, 0, none⟩) N c1] 27)) (.cells #[.int .i64 (logN n : Int), .slice (some ⟨d1, 0, none⟩) N c1, .int .i64 0, .slice none 0 0] 213)
      rw [World.size_alloc] at h
      exact h
    · intro p hp
      rw [List.mem_singleton.1 hp]
      refine ⟨⟨?_, HN.out.symm, ?_, ?_, ?_, by simp⟩, .inl ⟨rfl, rfl, rfl, rfl, rfl, rfl⟩, ?_, Apart.none _ _⟩
      · exact ((HO1.out.dat ecell_len).below hB3 (Nat.le_refl _)).mono (Nat.zero_le _) hB3.size
      · have h6 : 2 ^ logN n ≤ 2 ^ 6 := Nat.pow_le_pow_right (by omega) (log_le n hn)
        have := HL1.out
        have := HN.out
        show N ≤ 65536
        omega
      · exact small_tab HGF.out (by rw [parts_len n hn]; have := has_le n hn; omega)
      · have := log_le n hn
        show (0 : Int) ≤ (logN n : Int) ∧ (logN n : Int) ≤ 15
        omega
      · intro d o s e
        injection e with e
        injection e with e1 e2 e3
        subst e1
        refine ⟨by rw [hsz]; omega, fun q => ?_⟩
        have q' : w1.heap.size + 1 = d1 := by simpa [Value.ownBlock] using q
        omega
    · have hd1 := (HO1.out.block d1 rfl).1
      have hw1 : w.heap.size ≤ d1 := by omega
      clear hd1
      intro p hp
      rw [List.mem_singleton.1 hp]
      intro d o s e
      have e' : (some (⟨d1, 0, none⟩ : Addr)) = some ⟨d, o, s⟩ := e
      have e1 : d1 = d := congrArg Addr.block (Option.some.inj e')
      rw [← e1]
      exact hw1
  have HW := Lib.hid hw2
  clear hw2 HO1 HB1 HBx HB0 HL1 HN
  generalize (w1.alloc (.cells #[.int .i64 (logN n : Int), .slice (some ⟨d1, 0, none⟩) N c1] 27)).alloc (.cells #[.int .i64 (logN n : Int), .slice (some ⟨d1, 0, none⟩) N c1, .int .i64 0, .slice none 0 0] 213) = W2 at *
  go_wp2_with fail
  go_loopg [7, 8] (M - 4) (fun gh v7 v8 wx => ∃ (lg : Nat) (xs : List (Wy × List En)), lg + gh = M + 1 ∧ 5 ≤ lg ∧ v8 = .int .i64 (lg : Int) ∧ WI n f w wx v7 xs lg)
  case atStart => exact ⟨5, _, by omega, Nat.le_refl _, rfl, HW.out⟩
  case round =>
    clear HW
    obtain ⟨lg, xs, hgh, hl5, rfl, hwi⟩ := hrel
    have HW := Lib.hid hwi
    have HH := Lib.hid hgh
    have hlM : lg ≤ M + 1 := by omega
    have hgl := HG.out.below hwi.bel HGs.out
    have HW0 : Hid (w.heap.size ≤ wr.heap.size) := hwi.bel.size
    have HMr := Lib.hid (HMost.out _ hgl)
    clear hwi hgh hgl
    by_cases hlt : lg ≤ M
    · obtain ⟨g', rfl⟩ : ∃ g', gk = g' + 1 := ⟨gk - 1, by have := HH.out; omega⟩
      have hkz : (lg : Int) ≤ (M : Int) := by omega
      have HOf := Lib.hid (of_any (c := 53) (lg : Int) (osF_box HW.out.box) HW.out.box.lt (osF_len f) (by decide) (fun o ho => by
        simp only [osF, List.mem_map] at ho
        obtain ⟨s, _, rfl⟩ := ho
        have := HF.out s
        omega) (Nat.le_refl _))
      go_wp2_with fail
      refine HMr.out.mono ?_
      rintro e w' ⟨rfl, rfl⟩
      go_wp2_with fail
      refine HOf.out.mono ?_
      rintro e w4 ⟨hB4, hor⟩
      have HW4 := Lib.hid (HW.out.below hB4)
      have hs4 := hB4.size
      clear hB4
      rcases hor with ⟨hyes, ps, v4, rfl, ho4, hmay, hpl, hgood⟩ | ⟨hno, rfl⟩
      · have hE0 : 0 < ps.length := (mayB_iff.1 hmay).2.2.1
        obtain ⟨d4, c4, rfl, hd4l, hd4⟩ := ho4.place hE0
        obtain ⟨A', c', hv, hc4, hdd⟩ := ho4.form
        injection hv with hv1 hv2 hv3
        subst hv1 hv3
        have HD4 := Lib.hid (hdd.alloc (Nat.le_refl _) (.cells #[.int .i64 (lg : Int), .slice (some ⟨d4, 0, none⟩) ps.length c4] 164))
        have HMay := Lib.hid hmay
        have HF6 := Lib.hid (mayF hmay)
        have hE256 := HF6.out.len
        have HBd := Lib.hid (may_bounds hmay)
        have HGd := Lib.hid hgood
        have HPl := Lib.hid hpl
        obtain ⟨E, hE⟩ : ∃ E, E = ps.length := ⟨_, rfl⟩
        rw [← hE] at hE0 hc4 hE256 HD4 ⊢
        have HE := Lib.hid hE
        have HX5 := Lib.hid (Box.new w4 164 #[.int .i64 (lg : Int), .slice (some ⟨d4, 0, none⟩) E c4])
        have hb5 : Below w4.heap.size w4 (w4.alloc (.cells #[.int .i64 (lg : Int), .slice (some ⟨d4, 0, none⟩) E c4] 164)) := (Below.refl _ _).alloc (Nat.le_refl _) _
        have HW5 := Lib.hid (HW4.out.below hb5)
        have hs5 : (w4.alloc (.cells #[.int .i64 (lg : Int), .slice (some ⟨d4, 0, none⟩) E c4] 164)).heap.size = w4.heap.size + 1 := by simp
        have HS5 := Lib.hid hs5
        obtain ⟨q0, q1, _, _⟩ := box2 HX5.out
        have HRow : Hid (∀ k, Value.ownBlock u7 = some k → k < wr.heap.size) := fun k hk => (HW.out.ow.block k hk).2
        clear ho4 hmay hgood hpl hE hb5 hs5 HW4 hyes hdd hv2
        go_upto_region 8 with (fail)
        generalize w4.alloc (.cells #[.int .i64 (lg : Int), .slice (some ⟨d4, 0, none⟩) E c4] 164) = W5 at *
        have HBu := Lib.hid (build_yes (cp := c4) lg HMay.out HD4.out HE.out.symm hc4 (by unfold maxLen; omega) (by have := HS5.out; omega) HBd.out)
        go_wp2_with fail
        refine HBu.out.mono ?_
        rintro e' w6 ⟨v6, rfl, ho6, hB6⟩
        obtain ⟨d6, c6, rfl, hd6l, hd6, hc6⟩ := ho6.place (by rw [tab_length HF6.out]; exact Nat.two_pow_pos _)
        have HN6 := Lib.hid (tab_length HF6.out)
        have h2l : 2 ^ lg ≤ 2 ^ 9 := Nat.pow_le_pow_right (by omega) (by omega)
        have HO6 := Lib.hid (ho6.dat ecell_len)
        obtain ⟨N6, hN6⟩ : ∃ N6, N6 = (tab lg ps).length := ⟨_, rfl⟩
        rw [← hN6] at hc6 ⊢
        have HNe := Lib.hid hN6
        have hb7 : Below w6.heap.size w6 (w6.alloc (.cells #[.int .i64 (lg : Int), .slice (some ⟨d6, 0, none⟩) N6 c6] 27)) := (Below.refl _ _).alloc (Nat.le_refl _) _
        have HW7 := Lib.hid ((HW5.out.below hB6).below hb7)
        have HX7 := Lib.hid ((HX5.out.below hB6 HX5.out.lt).below hb7 (HX5.out.below hB6 HX5.out.lt).lt)
        have HY7 := Lib.hid (Box.new w6 27 #[.int .i64 (lg : Int), .slice (some ⟨d6, 0, none⟩) N6 c6])
        have HD7 := Lib.hid ((HD4.out.below hB6 (by have := HS5.out; omega)).below hb7 (by have := HS5.out; have := hB6.size; omega))
        have HO7 := Lib.hid (HO6.out.below hb7 (Nat.le_refl _))
        have hs7 : (w6.alloc (.cells #[.int .i64 (lg : Int), .slice (some ⟨d6, 0, none⟩) N6 c6] 27)).heap.size = w6.heap.size + 1 := by simp
        have HS7 := Lib.hid hs7
        have hs6 := hB6.size
        obtain ⟨t0, t1, _, _⟩ := box2 HX7.out
        clear ho6 hB6 hN6 hb7 hs7 q0 q1 HO6 HX5 HW5 HD4
        go_upto_region 9 with (fail)
        generalize w6.alloc (.cells #[.int .i64 (lg : Int), .slice (some ⟨d6, 0, none⟩) N6 c6] 27) = W7 at *
        have HWr := Lib.hid (write_told (c := c4) lg HMay.out HD7.out HE.out.symm hc4 (by unfold maxLen; omega) (by have := HS5.out; have := HS7.out; omega) HBd.out)
        go_wp2_with fail
        refine HWr.out.mono ?_
        rintro e' w8 ⟨v8, rfl, ho8, hB8⟩
        obtain ⟨A8, c8, rfl, hc8, hd8⟩ := ho8.form
        have HWh := Lib.hid ho8.where
        obtain ⟨K8, hK8⟩ : ∃ K8, K8 = (bytesOf (wrC lg ps)).length := ⟨_, rfl⟩
        rw [← hK8] at hc8 ⊢
        have HK8 := Lib.hid hK8
        have hs8 := hB8.size
        have hb9 : Below w8.heap.size w8 (w8.alloc (.cells #[.int .i64 (lg : Int), .slice (some ⟨d6, 0, none⟩) N6 c6, .int .i64 2, .slice A8 K8 c8] 213)) := (Below.refl _ _).alloc (Nat.le_refl _) _
        have HW9 := Lib.hid ((HW7.out.below hB8).below hb9)
        obtain ⟨y0, y1, _, _⟩ := box2 (HY7.out.below hB8 HY7.out.lt)
        have HO9 := Lib.hid (((HO7.out.below hB8 (by have := HS7.out; omega)).below hb9 (by have := HS7.out; omega)).mono (lo' := 0) (hi' := (w8.alloc (.cells #[.int .i64 (lg : Int), .slice (some ⟨d6, 0, none⟩) N6 c6, .int .i64 2, .slice A8 K8 c8] 213)).heap.size) (Nat.zero_le _) (by have := HS7.out; simp; omega))
        have HD9 := Lib.hid ((hd8.below hb9 (Nat.le_refl _)).mono (lo' := 0) (hi' := (w8.alloc (.cells #[.int .i64 (lg : Int), .slice (some ⟨d6, 0, none⟩) N6 c6, .int .i64 2, .slice A8 K8 c8] 213)).heap.size) (Nat.zero_le _) (by simp))
        have hs9 : (w8.alloc (.cells #[.int .i64 (lg : Int), .slice (some ⟨d6, 0, none⟩) N6 c6, .int .i64 2, .slice A8 K8 c8] 213)).heap.size = w8.heap.size + 1 := by simp
        have HS9 := Lib.hid hs9
        have HDn := Lib.hid (datR_one (f := wyc) (z := 4) w8 (⟨(lg : Int), some ⟨d6, 0, none⟩, N6, c6, 2, A8, K8, c8⟩, tab lg ps) 213 #[.int .i64 (lg : Int), .slice (some ⟨d6, 0, none⟩) N6 c6, .int .i64 2, .slice A8 K8 c8] rfl)
        clear ho8 hd8 hB8 hb9 hK8 hs9 t0 t1 HW7 HX7 HD7 HO7
        have hlen9 := HW9.out.len.2
        have hlt9 := HW9.out.box.lt
        have hp9 : At1 n (w8.alloc (.cells #[.int .i64 (lg : Int), .slice (some ⟨d6, 0, none⟩) N6 c6, .int .i64 2, .slice A8 K8 c8] 213)) (Value.ownBlock u7) (⟨(lg : Int), some ⟨d6, 0, none⟩, N6, c6, 2, A8, K8, c8⟩, tab lg ps) := by
          have e5 := HS5.out
          have e7 := HS7.out
          have e9 := HS9.out
          have hps : ps.length ≤ lastN n + 1 := by rw [HPl.out]; exact ends_last hla HZ.out
          refine ⟨⟨HO9.out, HNe.out.symm, ?_, small_tab HF6.out (by omega), ?_, ?_⟩, .inr ⟨rfl, lg, ps, HMay.out, rfl, by rw [← HM.out]; exact hlt, hps, rfl, HK8.out, hc8, HD9.out⟩, ?_, ?_⟩
          · show N6 ≤ 65536
            have := HN6.out
            have := HNe.out
            omega
          · show (0 : Int) ≤ (lg : Int) ∧ (lg : Int) ≤ 15
            omega
          · show K8 ≤ 1000000
            have h1 := wrC_bound HMay.out
            have h2 := wrC_len lg ps
            have h3 := HK8.out
            omega
          · intro d o s e
            injection e with e
            injection e with e1 e2 e3
            subst e1
            refine ⟨by omega, fun q => ?_⟩
            have := HRow.out d6 q
            omega
          · intro d o s e
            obtain ⟨h1, h2⟩ := HWh.out d o s e
            refine ⟨by omega, fun q => ?_⟩
            have := HRow.out d q
            omega
        have hd6 : w.heap.size ≤ d6 := by
          have e0 := HW0.out
          have e5 := HS5.out
          have e7 := HS7.out
          have e9 := HS9.out
          omega
        have hl9 : LowA w.heap.size (some (⟨d6, 0, none⟩ : Addr)) := fun d o s e => by
          have e1 : d6 = d := congrArg Addr.block (Option.some.inj e)
          rw [← e1]
          exact hd6
        have HL9 := Lib.hid hl9
        clear hl9 hd6
        have HP9 := Lib.hid (And.intro hp9 (hasAll_tab HF6.out (f := f) (fun s hs h0 => good_has HGd.out s hs h0)))
        clear hp9 h2l
        go_wp2_with (at_builtin; refine list_appR wyc_len (by decide) wyc_one _ rfl _ _ 216 rfl i0 (.agg #[.int .i64 0, .slice none 0 0, .int .i64 0, .slice none 0 0]) 64 Tryz.underlying216 HI.out.1 HI.out.2.1 HI.out.2.2.1 HI.out.2.2.2 rfl (by decide) rfl HW9.out.ow rfl HDn.out rfl ?_ ?_ ?_)
        · omega
        · omega
        intro v10 w10 ho10 hg10 hat10
        have HWx := Lib.hid (HW9.out.push HP9.out.1 HP9.out.2 HL9.out ho10 hg10 (by rw [HS9.out]; exact hat10))
        clear ho10 hg10 hat10 HW9 HP9 HDn HD9 HO9
        go_wp2_with fail
        go_roundg g'
        case rel => exact ⟨lg + 1, _, by have := HH.out; omega, by omega, by go_num, HWx.out⟩
        case measure => omega
      · have hnc : ¬ cnt (osF f) ≤ 2 ^ lg := fun hc => by
          have : mayOf (osF f) (lg : Int) = true := mayOf_iff.2 ⟨by omega, by omega, by rw [osF_len]; omega, H2.out, by simpa using hc, by have := HSm.out; omega⟩
          rw [this] at hno
          cases hno
        have HW5 := Lib.hid ((HW4.out.below ((Below.refl _ _).alloc (Nat.le_refl _) (.cells #[.int .i64 0, .slice none 0 0] 164))).skip hnc)
        clear hno hnc
        go_wp2_with fail
        go_roundg g'
        case rel => exact ⟨lg + 1, xs, by have := HH.out; omega, by omega, by go_num, HW5.out⟩
        case measure => omega
    · have hkz : decide (lg ≤ M) = false := decide_eq_false hlt
      have HLg : Hid (lg = M + 1) := by have := HH.out; unfold Hid; omega
      clear HH hlM hlt
      go_wp2_with fail
      refine HMr.out.mono ?_
      rintro e w' ⟨rfl, rfl⟩
      go_wp2_with fail
      go_ret
      refine ⟨_, xs, rfl, ?_⟩
      rw [← HLg.out]
      exact HW.out
end Go.Proofs.YtlidnialggpcpaaGreatDoor

/- The contract of the program's Write. -/
namespace Go.Proofs.YtlidnialggpcpaaGreatDoor
open Go.RowKit

/-- An array of 53 numbers, as a list of cells. -/
def l53 (k : IntKind) (f : Nat → Nat) : List Value := (List.range 53).map fun s => Value.int k (f s : Int)
theorem l53_arr (k : IntKind) (f : Nat → Nat) : (l53 k f).toArray = a53 k f := rfl
theorem l53_len (k : IntKind) (f : Nat → Nat) : (l53 k f).length = 53 := by simp [l53]
theorem Box.range {w : World} {g : Nat} {t : TypeId} {k : IntKind} {f : Nat → Nat} (h : Box w g t (a53 k f)) : w.rangeAt g 0 (l53 k f) := fun j v hv => by
  rw [Nat.zero_add]
  refine (h.cell j).trans ?_
  rw [← l53_arr]
  simpa using hv

/-- A way that is chosen for codes: it has each of them, and is told alone, given, or told. -/
structure WrOk (n : Nat) (l : List Int) (w : World) (x : Wy) (es : List En) : Prop where
  lies : Lies w x es
  has : HasAll es (oft l)
  how : (x.mode = 1 ∧ x.log = 0 ∧ x.tn = 1 ∧ 1 ≤ x.tc ∧ ∃ s : Nat, s ≤ lastN n ∧ es = [⟨(s : Int), 0, 0⟩] ∧ Dat false w 0 w.heap.size x.t [UInt8.ofNat s]) ∨ (WayGood n w (x, es) ∧ ¬ ∀ y ∈ l, y = l.getD 0 0)
theorem WrOk.below {n : Nat} {l : List Int} {w w' : World} {x : Wy} {es : List En} (h : WrOk n l w x es) (hB : Below w.heap.size w w') : WrOk n l w' x es :=
  ⟨h.lies.below hB, h.has, h.how.imp (fun ⟨h1, h2, h3, h4, s, h5, h6, h7⟩ => ⟨h1, h2, h3, h4, s, h5, h6, (h7.below hB (Nat.le_refl _)).mono (Nat.le_refl _) hB.size⟩) (fun ⟨h1, h2⟩ => ⟨h1.below hB, h2⟩)⟩

/-- The codes of a list of a kind, as numbers. -/
theorem codes_facts {n : Nat} {l : List Int} (hn : n < 3) (h : codesB n l = true) : 0 < l.length ∧ (∀ x ∈ l, 0 ≤ x ∧ x ≤ 52) ∧ (∀ s, lastN n < s → oft l s = 0) ∧ ∃ s : Nat, l.getD 0 0 = (s : Int) ∧ s ≤ lastN n ∧ (s : Int) ∈ l := by
  obtain ⟨h0, h1⟩ := codesB_iff.1 h
  have hla := last_le n hn
  refine ⟨h0, fun x hx => ?_, fun s hs => ?_, ?_⟩
  · have := h1 x hx; omega
  · rcases Nat.eq_zero_or_pos (oft l s) with e | e
    · exact e
    · have := h1 _ ((oft_pos l s).1 e)
      omega
  · have hm : l.getD 0 0 ∈ l := by rw [getD_of l 0 0 h0]; exact List.getElem_mem h0
    obtain ⟨h2, h3⟩ := h1 _ hm
    obtain ⟨s, hs⟩ := Int.eq_ofNat_of_zero_le h2
    rw [hs] at h3 hm
    exact ⟨s, hs, by omega, hm⟩
theorem two_codes {s : Nat} {l : List Int} (hb : ∀ x ∈ l, 0 ≤ x ∧ x ≤ 52) (hs : (s : Int) ∈ l) (hlt : oft l s < l.length) : 2 ≤ cnt (osF (oft l)) ∧ ¬ ∀ y ∈ l, y = (s : Int) := by
  have hne : ¬ ∀ y ∈ l, y = (s : Int) := fun h => by
    have : oft l s = l.length := by
      unfold oft
      rw [List.count_eq_length]
      exact fun y hy => (h y hy).symm
    omega
  refine ⟨?_, hne⟩
  obtain ⟨y, hy⟩ := Classical.not_forall.1 hne
  obtain ⟨hyl, hys⟩ := Classical.not_imp.1 hy
  obtain ⟨t, ht⟩ := Int.eq_ofNat_of_zero_le (hb y hyl).1
  subst ht
  have h1 := hb _ hs
  have h2 := hb _ hyl
  have p1 : 0 < (osF (oft l)).getD s 0 := by rw [osF_get _ _ (by omega)]; exact (oft_pos l s).2 hs
  have p2 : 0 < (osF (oft l)).getD t 0 := by rw [osF_get _ _ (by omega)]; exact (oft_pos l t).2 hyl
  rcases Nat.lt_or_gt_of_ne (show s ≠ t from fun e => hys (by rw [e])) with q | q
  · exact cnt_two q p1 p2
  · exact cnt_two q p2 p1
theorem all_same {s : Nat} {l : List Int} (heq : oft l s = l.length) : HasAll [⟨(s : Int), 0, 0⟩] (oft l) := fun t _ h0 => by
  have h1 := (oft_pos l t).1 h0
  have h2 : (t : Int) = (s : Int) := by
    unfold oft at heq
    rw [List.count_eq_length] at heq
    exact (heq _ h1).symm
  rw [stF_pos]
  exact ⟨0, by simp, by simp [List.getD]; omega⟩
theorem small_one {s : Nat} (hs : s < 53) : Small [⟨(s : Int), 0, 0⟩] := fun i => by
  rcases i with _ | i
  · exact ⟨s, 0, rfl, rfl, hs, by omega⟩
  · exact ⟨0, 0, rfl, rfl, by omega, by omega⟩

/-! A way's block is none of its table's, nor of its bytes'. -/
def Off (g : Nat) (A : Option Addr) : Prop := ∀ d o s, A = some ⟨d, o, s⟩ → d ≠ g
theorem box4_u8 {w : World} {g i : Nat} {t : TypeId} {a b y : Int} {A A' : Option Addr} {n n' c c' : Nat} (h : Box w g t #[.int .i64 a, .slice A n c, .int .i64 b, .slice A' n' c']) : w.cell? ⟨g, i, none⟩ ≠ some (.int .u8 y) := fun q => by
  rw [h.cell i] at q
  rcases i with _ | _ | _ | _ | i <;> simp at q
theorem box2_u8 {w : World} {g i : Nat} {t : TypeId} {a y : Int} {A : Option Addr} {n c : Nat} (h : Box w g t #[.int .i64 a, .slice A n c]) : w.cell? ⟨g, i, none⟩ ≠ some (.int .u8 y) := fun q => by
  rw [h.cell i] at q
  rcases i with _ | _ | i <;> simp at q
theorem DatR.off {w : World} {lo hi g : Nat} {A : Option Addr} {es : List En} (h : DatR 3 ecell w lo hi A es) (hx : 0 < es.length) (hb : ∀ i y, w.cell? ⟨g, i, none⟩ ≠ some (.int .u8 y)) : Off g A := fun d o s e q => by
  subst q
  obtain ⟨d', o', hA, _, _, hc⟩ := h hx
  rw [e] at hA
  injection hA with hA
  injection hA with h1 h2 h3
  subst h1
  exact hb _ _ (hc 0 hx 0 _ rfl)
theorem Dat.off {own : Bool} {w : World} {lo hi g : Nat} {A : Option Addr} {xs : List UInt8} (h : Dat own w lo hi A xs) (hx : 0 < xs.length) (hb : ∀ i y, w.cell? ⟨g, i, none⟩ ≠ some (.int .u8 y)) : Off g A := fun d o s e q => by
  subst q
  obtain ⟨d', o', hA, _, _, hc, _⟩ := h hx
  rw [e] at hA
  injection hA with hA
  injection hA with h1 h2 h3
  subst h1
  exact hb _ _ (hc 0 hx)
theorem DatR.setA {α : Type} {z : Nat} {fc : α → List Value} {w : World} {hi g i : Nat} {A : Option Addr} {xs : List α} (h : DatR z fc w 0 hi A xs) (ho : Off g A) (v : Value) : DatR z fc (w.setCell ⟨g, i, none⟩ v) 0 hi A xs := fun hx => by
  obtain ⟨d, o, hA, h1, h2, hc⟩ := h hx
  exact ⟨d, o, hA, h1, h2, fun j hj k u hu => (cell?_far _ _ (ho d o _ hA)).trans (hc j hj k u hu)⟩
theorem Dat.setA {own : Bool} {w : World} {hi g i : Nat} {A : Option Addr} {xs : List UInt8} (h : Dat own w 0 hi A xs) (ho : Off g A) (v : Value) : Dat own (w.setCell ⟨g, i, none⟩ v) 0 hi A xs := fun hx => by
  obtain ⟨d, o, hA, h1, h2, _⟩ := h hx
  have h' : Dat own w d (d + 1) A xs := fun hx => by
    obtain ⟨d', o', hA', h1', h2', hc'⟩ := h hx
    obtain rfl : d' = d := by rw [hA] at hA'; injection hA' with q; injection q with q; exact q.symm
    exact ⟨d', o', hA', Nat.le_refl _, by omega, hc'⟩
  have hne := ho d o _ hA
  exact ((h'.far (p := ⟨g, i, none⟩) (by show g < d ∨ d + 1 ≤ g; omega) v).mono (Nat.zero_le _) h2) hx
theorem Lies.set {w : World} {x : Wy} {es : List En} {g i : Nat} (h : Lies w x es) (ho : Off g x.e) (v : Value) : Lies (w.setCell ⟨g, i, none⟩ v) x es :=
  ⟨by have := h.ent.setA (i := i) ho v; simpa using this, h.len, h.n2, h.small, h.log, h.tn⟩
theorem WayGood.set {n : Nat} {w : World} {p : Wy × List En} {g i : Nat} (h : WayGood n w p) (ho : Off g p.1.t) (v : Value) : WayGood n (w.setCell ⟨g, i, none⟩ v) p := by
  rcases h with h | ⟨h1, l, ps, h2, h3, h4, h5, h6, h7, h8, h9⟩
  · exact .inl h
  · exact .inr ⟨h1, l, ps, h2, h3, h4, h5, h6, h7, h8, by have := h9.setA (i := i) ho v; simpa using this⟩
theorem WayGood.off {n g : Nat} {w : World} {p : Wy × List En} (h : WayGood n w p) (hb : ∀ i y, w.cell? ⟨g, i, none⟩ ≠ some (.int .u8 y)) : Off g p.1.t := by
  rcases h with ⟨_, _, _, _, h1, _⟩ | ⟨_, lg, ps, hmay, _, _, _, _, h7, _, h9⟩
  · rw [h1]
    exact fun _ _ _ q => by cases q
  · refine h9.off ?_ hb
    rw [wrC_len]
    have : 4 ≤ (wrC lg ps).length := by unfold wrC; rw [List.length_append, low_length]; omega
    omega
theorem WrOk.off {n g : Nat} {l : List Int} {w : World} {x : Wy} {es : List En} (h : WrOk n l w x es) {s : Nat} (hs : s < 53) (hsl : (s : Int) ∈ l) (hb : ∀ i y, w.cell? ⟨g, i, none⟩ ≠ some (.int .u8 y)) : Off g x.e ∧ Off g x.t := by
  refine ⟨h.lies.ent.off ?_ hb, ?_⟩
  · have h1 := h.has s hs ((oft_pos l s).2 hsl)
    have h2 := stF_le es es.length s
    omega
  · rcases h.how with ⟨_, _, _, _, t, _, _, hd⟩ | ⟨hg, _⟩
    · exact hd.off (by simp) hb
    · exact hg.off hb
theorem WrOk.set {n g i : Nat} {l : List Int} {w : World} {x : Wy} {es : List En} (h : WrOk n l w x es) (ho : Off g x.e ∧ Off g x.t) (v : Value) : WrOk n l (w.setCell ⟨g, i, none⟩ v) x es :=
  ⟨h.lies.set ho.1 v, h.has, h.how.imp (fun ⟨h1, h2, h3, h4, s, h5, h6, h7⟩ => ⟨h1, h2, h3, h4, s, h5, h6, by have := h7.setA (i := i) ho.2 v; simpa using this⟩) (fun ⟨h1, h2⟩ => ⟨h1.set ho.2 v, h2⟩)⟩

set_option maxRecDepth 100000 in
set_option maxHeartbeats 1000000 in
theorem writeT_low {B : Nat} {w : World} {lo hi m c n : Nat} {A : Option Addr} {l : List Int} (hn : n < 3) (hgl : Glob B w) (hd : DatE icel w lo hi A l) (hhi : hi ≤ w.heap.size) (hm : l.length = m) (hm2 : m ≤ 1000) (hyes : codesB n l = true) :
    Calls Tryz.prog 99 #[.int .i64 (n : Int), .slice A m c] w fun e w' => ∃ x es, e = .returned (.tuple #[.agg #[.int .i64 x.log, .slice x.e x.n x.c], .int .i64 x.mode, .slice x.t x.tn x.tc, .int .i64 0]) ∧ WrOk n l w' x es ∧ Below w.heap.size w w' ∧ LowA w.heap.size x.e := by
  have hgl1 := hgl.alloc (.cells #[.int .i64 0, .slice none 0 0] 27)
  have hd1 := hd.alloc hhi (.cells #[.int .i64 0, .slice none 0 0] 27)
  have HK := Lib.hid (kind_any (n : Int) _ hgl1)
  rw [decide_eq_true (show (0 : Int) ≤ (n : Int) ∧ (n : Int) ≤ 2 by omega)] at HK
  have HMb := Lib.hid (mayBeT_any (c := c) n hn hgl1 hd1 hm hm2)
  rw [hyes] at HMb
  obtain ⟨h0, hb52, hz, s, hs0, hsl, hsm⟩ := codes_facts hn hyes
  have hla := last_le n hn
  have HTa := Lib.hid (tallyT_any (c := c) hd1 (Nat.le_trans hhi (by simp)) hm hm2 hb52)
  have HX := Lib.hid (Box.new w 27 #[.int .i64 0, .slice none 0 0])
  have HB0 : Hid (Below w.heap.size w (w.alloc (.cells #[.int .i64 0, .slice none 0 0] 27))) := (Below.refl _ _).alloc (Nat.le_refl _) _
  have hsz : (w.alloc (.cells #[.int .i64 0, .slice none 0 0] 27)).heap.size = w.heap.size + 1 := by simp
  have HSz := Lib.hid hsz
  have HG := Lib.hid hgl
  have HD := Lib.hid hd
  have HM := Lib.hid hm
  have HFa := Lib.hid (And.intro hb52 (And.intro hz (And.intro hs0 hsm)))
  have hm0 : 0 < m := by omega
  clear hgl hgl1 hd hd1 hm hyes hb52 hz hs0 hsm hsz h0
  go_enter Tryz.func99, Tryz.ntmps99
  go_upto_region 3 with (first
    | (go_at_call 74; refine HK.out.mono ?_; rintro e' w' ⟨rfl, rfl⟩)
    | (go_at_call 117; refine HMb.out.mono ?_; rintro e' w' ⟨rfl, rfl⟩))
  go_wp2_with fail
  refine HTa.out.mono ?_
  rintro e' w1 ⟨rfl, hB1⟩
  have HB1 := Lib.hid (HB0.out.trans (hB1.mono HB0.out.size))
  have HX1 := Lib.hid (HX.out.below hB1 HX.out.lt)
  have hs1 := hB1.size
  clear hB1
  go_upto_region 4 with (first
    | (refine wpList_alloc_z rfl 210 rfl (a53 .u32 fun _ => 0) a53_zero_u32 ?_)
    | (refine wpList_store_row rfl 210 _ _ rfl w1.heap.size (a53 .u32 (oft l)) rfl rfl 210 _ (heap_alloc_new w1 _) (by rw [a53_size]; kernel_rfl) (by rw [a53_size, a53_size]) (a53_one _ _) ?_))
  have hb8 := setRow_heap (w1.alloc (.cells (a53 .u32 fun _ => 0) 210)) _ _ (a53 .u32 (oft l)) _ _ (heap_alloc_new w1 _)
  have hB2 : Below w1.heap.size w1 ((w1.alloc (.cells (a53 .u32 fun _ => 0) 210)).setRow w1.heap.size (a53 .u32 (oft l))) := below_row ((Below.refl _ _).alloc (Nat.le_refl _) _) (Nat.le_refl _) _
  have H8 : Hid (Box ((w1.alloc (.cells (a53 .u32 fun _ => 0) 210)).setRow w1.heap.size (a53 .u32 (oft l))) w1.heap.size 210 (a53 .u32 (oft l))) := hb8
  have HB2 := Lib.hid (HB1.out.trans (hB2.mono HB1.out.size))
  have HX2 := Lib.hid (HX1.out.below hB2 HX1.out.lt)
  clear hb8 hB2 HB1 HX1 HX HB0 HK HMb HTa
  generalize (w1.alloc (.cells (a53 .u32 fun _ => 0) 210)).setRow w1.heap.size (a53 .u32 (oft l)) = W2 at *
  have hs8 : w1.heap.size < W2.heap.size := H8.out.lt
  have hs0 : w.heap.size < w1.heap.size := by have := HSz.out; omega
  generalize w1.heap.size = g8 at *
  clear hs1 HSz
  obtain ⟨d, o, rfl, _, hdh, hc⟩ := (HD.out.below HB2.out hhi) (by have := HM.out; omega)
  have q0 : W2.cell? ⟨d, o, none⟩ = some (.int .i64 (s : Int)) := by
    have h := hc 0 (by have := HM.out; omega)
    rw [Nat.add_zero, ← getD_of l 0 0 (by have := HM.out; omega), HFa.out.2.2.1] at h
    exact h
  have HQ0 := Lib.hid q0
  have hdw : d < w.heap.size := by omega
  clear hc hdh
  have hmz : (0 : Int) < (m : Int) := by omega
  go_wp2_with fail
  refine (alone_any s _ (by omega)).mono ?_
  rintro e' w3 ⟨v, c9, t9, rfl, ho9, hc9, ht9, hct, hB3⟩
  obtain ⟨A1, n1, c1, rfl⟩ := ho9.slice
  have hb4 : Below w3.heap.size w3 (w3.alloc (.cells #[.int .i64 0, .slice A1 n1 c1, .int .i64 1, .slice (some ⟨t9, 0, none⟩) 1 c9] 213)) := (Below.refl _ _).alloc (Nat.le_refl _) _
  have HB4 := Lib.hid ((HB2.out.trans (hB3.mono HB2.out.size)).trans (hb4.mono (HB2.out.trans (hB3.mono HB2.out.size)).size))
  have HX4 := Lib.hid ((HX2.out.below hB3 HX2.out.lt).below hb4 (HX2.out.below hB3 HX2.out.lt).lt)
  have H84 := Lib.hid ((H8.out.below hB3 H8.out.lt).below hb4 (H8.out.below hB3 H8.out.lt).lt)
  have H9 := Lib.hid (Box.new w3 213 #[.int .i64 0, .slice A1 n1 c1, .int .i64 1, .slice (some ⟨t9, 0, none⟩) 1 c9])
  have HA1 := Lib.hid ((ho9.dat ecell_len).below hb4 (Nat.le_refl _))
  have HA2 := Lib.hid ho9.len
  have hct4 : (w3.alloc (.cells #[.int .i64 0, .slice A1 n1 c1, .int .i64 1, .slice (some ⟨t9, 0, none⟩) 1 c9] 213)).cell? ⟨t9, 0, none⟩ = some (.int .u8 (s : Int)) := (hb4.cell (p := ⟨t9, 0, none⟩) ht9).trans hct
  have q4 : (w3.alloc (.cells #[.int .i64 0, .slice A1 n1 c1, .int .i64 1, .slice (some ⟨t9, 0, none⟩) 1 c9] 213)).cell? ⟨d, o, none⟩ = some (.int .i64 (s : Int)) := by
    have h1 := hB3.cell (p := ⟨d, o, none⟩) (show d < W2.heap.size by omega)
    have h2 := hb4.cell (p := ⟨d, o, none⟩) (show d < w3.heap.size by have := hB3.size; omega)
    exact h2.trans (h1.trans HQ0.out)
  have c4 := (H84.out.cell s).trans (a53_get _ _ s (by omega))
  have hs3 := hB3.size
  have hs4 : (w3.alloc (.cells #[.int .i64 0, .slice A1 n1 c1, .int .i64 1, .slice (some ⟨t9, 0, none⟩) 1 c9] 213)).heap.size = w3.heap.size + 1 := by simp
  have HS4 := Lib.hid hs4
  have HCt := Lib.hid hct4
  have hsz53 : (s : Int) < 53 := by omega
  have hfs : oft l s ≤ m := by have := oft_le l s; have := HM.out; omega
  obtain ⟨fs, hfe⟩ : ∃ fs, fs = oft l s := ⟨_, rfl⟩
  rw [← hfe] at c4 hfs
  have HFe := Lib.hid hfe
  have hwf : IntKind.i64.wrap (fs : Int) = (fs : Int) := IntWalk.i64_in _ (by omega)
  have HL1 : Hid (LowA w.heap.size A1) := fun d o s e => by
    subst e
    have h1 := (ho9.block d rfl).1
    omega
  clear ho9 hB3 hb4 hct hct4 q0 hs4 hfe HX2 H8 HB2
  go_upto_region 5 with (fail)
  generalize w3.alloc (.cells #[.int .i64 0, .slice A1 n1 c1, .int .i64 1, .slice (some ⟨t9, 0, none⟩) 1 c9] 213) = W4 at *
  go_upto_if 34 with (fail)
  have hg9 : w.heap.size < w3.heap.size := by omega
  have hg89 : g8 < w3.heap.size := by omega
  go_cut [35, 36, 37, 38, 39] (fun _ _ _ _ _ wx => ∃ (x : Wy) (es : List En), Box wx w3.heap.size 213 #[.int .i64 x.log, .slice x.e x.n x.c, .int .i64 x.mode, .slice x.t x.tn x.tc] ∧ Box wx w.heap.size 27 #[.int .i64 0, .slice none 0 0] ∧ WrOk n l wx x es ∧ (Below w.heap.size w wx ∧ LowA w.heap.size x.e))
  case first =>
    by_cases hlt : fs < m
    · have hsplit := two_codes HFa.out.1 HFa.out.2.2.2 (by rw [← HFe.out, HM.out]; exact hlt)
      have HSp := Lib.hid hsplit
      have hf : ∀ t, oft l t ≤ 1000 := fun t => by have := oft_le l t; have := HM.out; omega
      have HF := Lib.hid hf
      have HWy := Lib.hid (ways_any (w := W4.drew) (oft l) hn (HG.out.below HB4.out.drew (by exact HG.out.size)) hf HFa.out.2.1 hsplit.1)
      clear hsplit hf
      go_upto_region 6 with (fail)
      refine wp_region_noPanic ?_
      refine wp_region_held_drew (S := fun w' => w'.rangeAt g8 0 (l53 .u32 (oft l))) (by kernel_rfl) (Box.range (w := W4.drew) (t := 210) H84.out) (fun hHeld => ?_)
      refine wpAnyH_take (i := 0) (v := .int .i64 (n : Int)) rfl (by kernel_rfl) (by kernel_rfl) (by kernel_rfl) (fun _ _ _ h => h) (Or.inl ⟨by rfl, fun w' _ => ?_⟩) hHeld ?_
      · go_simp
      refine wpAnyH_take (i := 1) (v := _) rfl (by kernel_rfl) (by kernel_rfl) (by kernel_rfl) (fun _ _ _ h => h) (yieldsIf_load_mid (by rfl) _ _ rfl g8 0 rfl (l53 .u32 (oft l)) _ (fun _ h => h) Tryz.underlying210 rfl (by rw [l53_len]; kernel_rfl)) hHeld ?_
      refine wpAnyH_take (i := 3) (v := _) rfl (by kernel_rfl) (by kernel_rfl) (by kernel_rfl) (fun _ _ _ h => h) (yieldsIf_load_mid (by rfl) _ _ rfl g8 0 rfl (l53 .u32 (oft l)) _ (fun _ h => h) Tryz.underlying210 rfl (by rw [l53_len]; kernel_rfl)) hHeld ?_
      simp only [Act.put, List.setIfInBounds_toArray, l53_arr]
      refine wpAnyH_ready (rs := [2]) (by kernel_rfl) (by simp) ?_
      refine AllReadyH.cons rfl (fun K hK => ?_) AllReadyH.nil
      go_simp
      refine HWy.out.mono ?_
      rintro e' w5 ⟨v5, xs, rfl, hwi⟩
      obtain ⟨A5, c5, rfl, hc5, hd5⟩ := hwi.ow.form wyc_len
      have HW5 := Lib.hid hwi
      have hB5 : Below W4.heap.size W4 w5 := ⟨hwi.bel.os, hwi.bel.tape, hwi.bel.output, hwi.bel.size, hwi.bel.block⟩
      have H85 := Lib.hid (H84.out.below hB5 H84.out.lt)
      have H95 := Lib.hid (H9.out.below hB5 H9.out.lt)
      have HX5 := Lib.hid (HX4.out.below hB5 HX4.out.lt)
      have HB5 := Lib.hid (HB4.out.trans (hB5.mono HB4.out.size))
      have hmo := most_le n hn
      have hmo8 := most_ge n hn
      have HSh := Lib.hid (shortest_any (c := c5) (oft l) hd5 (Nat.le_refl _) rfl (by have := hwi.len.1; omega) (by have := hwi.len.2; omega) (fun p hp => (hwi.each p hp).lies) (fun t => by have := HF.out t; omega))
      clear hwi hB5 hd5 HWy H84 H9 HX4 HA1 HCt
      dsimp only
      refine hK.out _ _ (Box.range H85.out) (fun hHeld2 => ?_)
      clear hK K
      try simp only [Act.put, List.setIfInBounds_toArray]
      refine wpAnyH_ready (rs := [4]) (by kernel_rfl) (by simp) ?_
      refine AllReadyH.cons rfl (fun K hK => ?_) AllReadyH.nil
      go_simp
      refine HSh.out.mono ?_
      rintro e' w6 ⟨k, hk, rfl, hbest, hB6⟩
      have HLw : Hid (LowA w.heap.size (wayAt xs k).1.e) := fun d o s e => by
        have h1 := HW5.out.low (wayAt xs k) (by rw [wayAt_of xs k hk]; exact List.getElem_mem hk) d o s e
        have h2 := HB4.out.size
        have h3 : W4.drew.heap.size = W4.heap.size := rfl
        omega
      have HW6 : Hid (At1 n w6 none (wayAt xs k)) := by
        have hm := HW5.out.each (wayAt xs k) (by rw [wayAt_of xs k hk]; exact List.getElem_mem hk)
        have h6 := hm.below hB6
        exact ⟨h6.lies, h6.good, fun d o s e => ⟨(h6.ape d o s e).1, fun q => by cases q⟩, fun d o s e => ⟨(h6.apt d o s e).1, fun q => by cases q⟩⟩
      have HHas : Hid (HasAll (wayAt xs k).2 (oft l)) := by
        obtain ⟨p, hp, hpa⟩ := HW5.out.has (mostN n) (by omega) (by omega) (by
          have h1 := cnt_le (osF (oft l))
          rw [osF_len] at h1
          have h2 : 2 ^ 8 ≤ 2 ^ mostN n := Nat.pow_le_pow_right (by omega) hmo8
          omega)
        obtain ⟨i, hi, rfl⟩ := List.getElem_of_mem hp
        have := hbest i hi
        rw [wayAt_of xs i hi] at this
        exact this hpa
      have H96 := Lib.hid (H95.out.below hB6 H95.out.lt)
      have HX6 := Lib.hid (HX5.out.below hB6 HX5.out.lt)
      have H86 := Lib.hid (H85.out.below hB6 H85.out.lt)
      have HB6 := Lib.hid (HB5.out.trans (hB6.mono HB5.out.size))
      have z4 := H96.out.four
      have f0 := H96.out.free 0
      have f1 := H96.out.free 1
      have f2 := H96.out.free 2
      have f3 := H96.out.free 3
      generalize wayAt xs k = xe at *
      obtain ⟨⟨L, E, n2, c2, md, T, tn, tc⟩, es⟩ := xe
      clear hk hbest hB6 HSh HW5 H85 H95 HX5 HB5 HB4
      dsimp only at HW6 HHas HLw ⊢
      refine hK.out _ _ (Box.range H86.out) (fun hHeld3 => ?_)
      clear hK K
      try simp only [Act.put, List.setIfInBounds_toArray]
      refine wpAnyH_ready (rs := [5]) (by kernel_rfl) (by simp) ?_
      refine AllReadyH.cons rfl (fun K hK => ?_) AllReadyH.nil
      go_simp
      have n9 : g8 ≠ w3.heap.size := by omega
      have hx9 : w.heap.size ≠ w3.heap.size := by omega
      have hle : w.heap.size ≤ w3.heap.size := by omega
      refine hK.out _ _ (Box.range ((((H86.out.far (by exact n9) _).far (by exact n9) _).far (by exact n9) _).far (by exact n9) _)) (fun hHeld4 => ?_)
      clear hK K
      refine wpAnyH_done (by kernel_rfl) ?_ _
      refine NoPanic.normal ?_
      go_wp2_with fail
      go_meet
      have hok : WrOk n l w6 ⟨L, E, n2, c2, md, T, tn, tc⟩ es := ⟨HW6.out.lies, HHas.out, .inr ⟨HW6.out.good, by rw [HFa.out.2.2.1]; exact HSp.out.2⟩⟩
      have hoff := hok.off (by omega) HFa.out.2.2.2 (fun i y => box4_u8 H96.out)
      refine ⟨⟨L, E, n2, c2, md, T, tn, tc⟩, es, H96.out.put4 _ _ _ _, (((HX6.out.far (by exact hx9) _).far (by exact hx9) _).far (by exact hx9) _).far (by exact hx9) _, (((hok.set hoff _).set hoff _).set hoff _).set hoff _, (((HB6.out.setCell (by exact hle) _).setCell (by exact hle) _).setCell (by exact hle) _).setCell (by exact hle) _, HLw.out⟩
    · have heq : oft l s = l.length := by have := HFe.out; have := HM.out; omega
      have hltf : decide (fs < m) = false := decide_eq_false hlt
      have hx : WrOk n l W4 ⟨0, A1, n1, c1, 1, some ⟨t9, 0, none⟩, 1, c9⟩ [⟨(s : Int), 0, 0⟩] := by
        have e4 := HS4.out
        refine ⟨⟨HA1.out.mono (Nat.zero_le _) (by omega), HA2.out, ?_, small_one (by omega), ⟨by show (0 : Int) ≤ 0; omega, by show (0 : Int) ≤ 15; omega⟩, by show 1 ≤ 1000000; omega⟩, all_same heq, .inl ⟨rfl, rfl, rfl, hc9, s, hsl, rfl, fun _ => ⟨t9, 0, rfl, Nat.zero_le _, by omega, fun j hj => ?_, fun q => by cases q⟩⟩⟩
        · have := HA2.out
          have h1 : n1 = 1 := this.symm
          show n1 ≤ 65536
          omega
        · obtain rfl : j = 0 := by simpa using hj
          have h8 : (UInt8.ofNat s).toNat = s := by rw [UInt8.toNat_ofNat']; omega
          rw [Nat.add_zero, HCt.out]
          simp [cel, h8]
      have HXw := Lib.hid hx
      clear hx
      go_wp2_with fail
      go_meet
      exact ⟨_, _, H9.out, HX4.out, HXw.out, HB4.out, HL1.out⟩
  case rest =>
    obtain ⟨⟨L, E, n2, c2, md, T, tn, tc⟩, es, hb9, hbx, hwr, hB, hlow⟩ := hcut
    have HLo := Lib.hid hlow
    have hoff := hwr.off (by omega) HFa.out.2.2.2 (fun i y => box2_u8 hbx)
    have HWr := Lib.hid (And.intro hwr hoff)
    have HB := Lib.hid hB
    have HBx := Lib.hid hbx
    dsimp only at hb9
    have z4 := hb9.four
    obtain ⟨r0, r1, k0, k1⟩ := box2 hbx
    have n9 : w3.heap.size ≠ w.heap.size := by omega
    have z5 : Hid (∀ u v, ((wc.setCell ⟨w.heap.size, 0, none⟩ u).setCell ⟨w.heap.size, 1, none⟩ v).cell? ⟨w3.heap.size, 0, none⟩ = some (.int .i64 L) ∧ ((wc.setCell ⟨w.heap.size, 0, none⟩ u).setCell ⟨w.heap.size, 1, none⟩ v).cell? ⟨w3.heap.size, 1, none⟩ = some (.slice E n2 c2) ∧
        ((wc.setCell ⟨w.heap.size, 0, none⟩ u).setCell ⟨w.heap.size, 1, none⟩ v).cell? ⟨w3.heap.size, 2, none⟩ = some (.int .i64 md) ∧ ((wc.setCell ⟨w.heap.size, 0, none⟩ u).setCell ⟨w.heap.size, 1, none⟩ v).cell? ⟨w3.heap.size, 3, none⟩ = some (.slice T tn tc)) := fun u v => ((hb9.far (by exact n9) u).far (by exact n9) v).four
    clear hwr hB hlow hb9 hbx hoff H9 HX4 HB4 H84 HA1 HA2 HCt HS4 HQ0 HG HD
    go_upto_region 7 with (fail)
    go_region_held3 (fun w' => w'.cell? ⟨w3.heap.size, 0, none⟩ = some (.int .i64 L) ∧ w'.cell? ⟨w3.heap.size, 1, none⟩ = some (.slice E n2 c2) ∧ w'.cell? ⟨w3.heap.size, 2, none⟩ = some (.int .i64 md) ∧ w'.cell? ⟨w3.heap.size, 3, none⟩ = some (.slice T tn tc))
      (first | exact z4 | exact z5.out _ _ | go_keep)
      (fail)
    go_wp2_with fail
    refine bodyPost_ret (v := .tuple #[.agg #[.int .i64 L, .slice E n2 c2], .int .i64 md, .slice T tn tc, .int .i64 0]) (by simp [results, Tryz.results99, go_sem, r0, r1]) rfl ⟨⟨L, E, n2, c2, md, T, tn, tc⟩, rfl, ⟨es, ?_⟩, ?_, HLo.out⟩
    · exact ((HWr.out.1.set HWr.out.2 _).set HWr.out.2 _).below (Below.refl _ _).drew
    · exact ((HB.out.setCell (Nat.le_refl _) _).setCell (Nat.le_refl _) _).drew
end Go.Proofs.YtlidnialggpcpaaGreatDoor

/- The contracts of the document's Begins, Adds, Code and Of. -/
namespace Go.Proofs.YtlidnialggpcpaaGreatDoor.cd
open Go.RowKit

/-- A number of 32 bits, an int. -/
def cu (n : Nat) : Value := .int .u32 (n : Int)
def ci (n : Nat) : Value := .int .i64 (n : Int)
/-- All beginnings, all that is added. -/
def begs (k : Int) : List Nat := if k < 0 ∨ 2 < k then [] else (List.range (lastN k.toNat + 1)).map (beginN k.toNat)
def adds (k : Int) : List Nat := if k < 0 ∨ 2 < k then [] else (List.range (lastN k.toNat + 1)).map (addN k.toNat)

theorem begs_zero : begs 0 = [0, 1, 2, 3, 4, 5, 6, 7, 8, 9, 10, 11, 12, 13, 14, 15, 16, 18, 20, 22, 24, 28, 32, 40, 48, 64, 128, 256, 512, 1024, 2048, 4096, 8192, 16384, 32768, 65536] := by decide +kernel
theorem begs_two : begs 2 = [3, 4, 5, 6, 7, 8, 9, 10, 11, 12, 13, 14, 15, 16, 17, 18, 19, 20, 21, 22, 23, 24, 25, 26, 27, 28, 29, 30, 31, 32, 33, 34, 35, 37, 39, 41, 43, 47, 51, 59, 67, 83, 99, 131, 259, 515, 1027, 2051, 4099, 8195, 16387, 32771, 65539] := by decide +kernel
theorem begs_one : begs 1 = (List.range 32).map (2 ^ ·) := by decide +kernel
theorem adds_zero : adds 0 = [0, 0, 0, 0, 0, 0, 0, 0, 0, 0, 0, 0, 0, 0, 0, 0, 1, 1, 1, 1, 2, 2, 3, 3, 4, 6, 7, 8, 9, 10, 11, 12, 13, 14, 15, 16] := by decide +kernel
theorem adds_two : adds 2 = [0, 0, 0, 0, 0, 0, 0, 0, 0, 0, 0, 0, 0, 0, 0, 0, 0, 0, 0, 0, 0, 0, 0, 0, 0, 0, 0, 0, 0, 0, 0, 0, 1, 1, 1, 1, 2, 2, 3, 3, 4, 4, 5, 7, 8, 9, 10, 11, 12, 13, 14, 15, 16] := by decide +kernel
theorem adds_one : adds 1 = List.range 32 := by decide +kernel

/-- A new row. -/
theorem datE_row {α : Type} (f : α → Value) (w : World) (xs : List α) (u : TypeId) (fr : Nat × Nat) (cs : Array Value) (h : cs = (xs.map f).toArray) : DatE f (w.alloc (.cells cs u fr)) w.heap.size (w.heap.size + 1) (some ⟨w.heap.size, 0, none⟩) xs := fun _ =>
  ⟨w.heap.size, 0, rfl, Nat.le_refl _, by omega, fun j hj => by
    rw [Nat.zero_add, cell_of_row _ _ j _ u fr (heap_alloc_new w _), h]
    simp [hj]⟩

/-- A slice that was made, of these elements. -/
def Made (f : Nat → Value) (w w' : World) (e : Ending) (xs : List Nat) : Prop :=
  ∃ A c, e = .returned (.slice A xs.length c) ∧ DatE f w' w.heap.size w'.heap.size A xs ∧ Below w.heap.size w w'

theorem grow_own {f : Nat → Value} {u : TypeId} {w wx w1 : World} {v : Value} {xs : List Nat} {o : Obj} (hB : Below w.heap.size w wx) (hO : OwE f wx u w.heap.size v xs) (hg : (wx.alloc o).grownBy w1 v.ownBlock) : Below w.heap.size w w1 :=
  (hB.alloc hB.size _).grown hg (Nat.le_trans hB.size (by simp)) fun k hk => (hO.block k hk).1
theorem cu_one (n : Nat) : (cu n).oneCell' = true := rfl
theorem ci_one (n : Nat) : (ci n).oneCell' = true := rfl
theorem u32_info : (Tryz.prog.info? 43).map (fun i => (i.zero, i.size, i.bytes)) = some (some (.int .u32 0), 1, 4) := by kernel_rfl
theorem int_info : (Tryz.prog.info? 3).map (fun i => (i.zero, i.size, i.bytes)) = some (some (.int .i64 0), 1, 8) := by kernel_rfl

set_option maxRecDepth 100000 in
set_option maxHeartbeats 1000000 in
theorem begins_any (k : Int) (w : World) :
    Calls Tryz.prog 30 #[.int .i64 k] w fun e w' => Made cu w w' e (begs k) := by
  by_cases h0 : k = 0
  · subst h0
    go_enter Tryz.func30, Tryz.ntmps30
    go_wp2
    go_ret
    rw [begs_zero]
    refine ⟨_, _, rfl, (datE_row cu w _ 43 (0, 0) _ (by rfl)).mono (Nat.le_refl _) (by simp), (Below.refl _ _).alloc (Nat.le_refl _) _⟩
  by_cases h2 : k = 2
  · subst h2
    go_enter Tryz.func30, Tryz.ntmps30
    go_wp2
    go_ret
    rw [begs_two]
    refine ⟨_, _, rfl, (datE_row cu w _ 43 (0, 0) _ (by rfl)).mono (Nat.le_refl _) (by simp), (Below.refl _ _).alloc (Nat.le_refl _) _⟩
  have e0 : (k == 0) = false := by simp; omega
  have e2 : (k == 2) = false := by simp; omega
  by_cases h1 : k = 1
  · subst h1
    obtain ⟨i0, hi0, hz0, hz1, hz2⟩ := info_parts u32_info
    rw [begs_one]
    go_enter Tryz.func30, Tryz.ntmps30
    go_wp2_with fail
    go_loopg [3, 4, 5] 32 (fun gh v y i wx => ∃ j : Nat, j + gh = 32 ∧ i = .int .i64 (j : Int) ∧ y = .int .u32 ((2 ^ j % 4294967296 : Nat) : Int) ∧ OwE cu wx 43 w.heap.size v ((List.range j).map (2 ^ ·)) ∧ Below w.heap.size w wx)
    case atStart => exact ⟨0, rfl, rfl, rfl, OwE.nil _ _ _ _, Below.refl _ _⟩
    case round =>
      obtain ⟨j, hj, rfl, rfl, ho, hB⟩ := hrel
      have HJ := Lib.hid hj
      have hj32 : j ≤ 32 := by omega
      clear hj
      by_cases hlt : j < 32
      · have hp : 2 ^ j ≤ 2 ^ 31 := Nat.pow_le_pow_right (by omega) (by omega)
        have HN : Hid (2 ^ (j + 1) % 4294967296 = (2 ^ j % 4294967296) * 2 % 4294967296) := by unfold Hid; rw [Nat.pow_succ]; omega
        have HE : Hid ((2 : Nat) ^ j = 2 ^ j % 4294967296) := by show (2 : Nat) ^ j = 2 ^ j % 4294967296; exact (Nat.mod_eq_of_lt (Nat.lt_of_le_of_lt hp (by decide))).symm
        obtain ⟨y, hy⟩ : ∃ y, y = 2 ^ j % 4294967296 := ⟨_, rfl⟩
        rw [← hy] at HN HE
        rw [← hy]
        have hy4 : y < 4294967296 := by omega
        have hwr : IntKind.u32.wrap ((y : Int) * 2) = ((y * 2 % 4294967296 : Nat) : Int) := by rw [IntKind.wrap_u32']; omega
        clear hy hp
        have hw2 := hB.size
        have HA := Lib.hid (ho.alloc (.cells #[.int .u32 (y : Int)] 43))
        have HD1 := Lib.hid (datE_one cu wr y 43 _ rfl)
        have HO2 := Lib.hid ho
        have HB2 := Lib.hid hB
        clear ho hB
        go_wp2_with (at_builtin; refine list_appE cu_one _ rfl _ _ 86 rfl i0 (.int .u32 0) 4 Tryz.underlying86 hi0 hz0 hz1 hz2 rfl (by decide) rfl HA.out rfl HD1.out rfl ?_ ?_ ?_)
        · simp; omega
        · simp; omega
        intro v1 w1 ho1 hg1 _
        have HG := Lib.hid (grow_own HB2.out HO2.out hg1)
        have HO3 := Lib.hid ho1
        clear ho1 hg1
        go_wp2_with fail
        go_roundg (32 - (j + 1))
        case measure => have := HJ.out; omega
        case rel => exact ⟨j + 1, by omega, by go_num, by rw [HN.out]; simp, by rw [List.range_succ, List.map_append]; show OwE cu _ _ _ _ (_ ++ [2 ^ j]); rw [HE.out]; exact HO3.out, HG.out⟩
      · obtain rfl : j = 32 := by omega
        obtain ⟨A, c, rfl, hc, hd⟩ := ho.form
        rw [List.length_map, List.length_range] at hc
        go_wp2_with fail
        go_ret
        exact ⟨A, c, by simp, hd, hB⟩
  · have e1 : (k == 1) = false := by simp; omega
    have hz : begs k = [] := by unfold begs; rw [if_pos (by omega)]
    rw [hz]
    go_enter Tryz.func30, Tryz.ntmps30
    go_wp2_with fail
    go_loopg [3, 4, 5] 0 (fun _ v y i wx => w = wx ∧ i = .int .i64 0 ∧ v = .slice none 0 0)
    case atStart => exact ⟨rfl, rfl, rfl⟩
    case round =>
      obtain ⟨rfl, rfl, rfl⟩ := hrel
      go_wp2_with fail
      go_ret
      exact ⟨_, _, rfl, DatE.nil _ _ _ _ _, Below.refl _ _⟩

set_option maxRecDepth 100000 in
set_option maxHeartbeats 1000000 in
theorem adds_any (k : Int) (w : World) :
    Calls Tryz.prog 31 #[.int .i64 k] w fun e w' => Made ci w w' e (adds k) := by
  by_cases h0 : k = 0
  · subst h0
    go_enter Tryz.func31, Tryz.ntmps31
    go_wp2
    go_ret
    rw [adds_zero]
    refine ⟨_, _, rfl, (datE_row ci w _ 3 (0, 0) _ (by rfl)).mono (Nat.le_refl _) (by simp), (Below.refl _ _).alloc (Nat.le_refl _) _⟩
  by_cases h2 : k = 2
  · subst h2
    go_enter Tryz.func31, Tryz.ntmps31
    go_wp2
    go_ret
    rw [adds_two]
    refine ⟨_, _, rfl, (datE_row ci w _ 3 (0, 0) _ (by rfl)).mono (Nat.le_refl _) (by simp), (Below.refl _ _).alloc (Nat.le_refl _) _⟩
  have e0 : (k == 0) = false := by simp; omega
  have e2 : (k == 2) = false := by simp; omega
  by_cases h1 : k = 1
  · subst h1
    obtain ⟨i0, hi0, hz0, hz1, hz2⟩ := info_parts int_info
    rw [adds_one]
    go_enter Tryz.func31, Tryz.ntmps31
    go_wp2_with fail
    go_loopg [3, 4] 32 (fun gh v i wx => ∃ j : Nat, j + gh = 32 ∧ i = .int .i64 (j : Int) ∧ OwE ci wx 3 w.heap.size v (List.range j) ∧ Below w.heap.size w wx)
    case atStart => exact ⟨0, rfl, rfl, OwE.nil _ _ _ _, Below.refl _ _⟩
    case round =>
      obtain ⟨j, hj, rfl, ho, hB⟩ := hrel
      have HJ := Lib.hid hj
      have hj32 : j ≤ 32 := by omega
      clear hj
      by_cases hlt : j < 32
      · have hw2 := hB.size
        have HA := Lib.hid (ho.alloc (.cells #[.int .i64 (j : Int)] 3))
        have HD1 := Lib.hid (datE_one ci wr j 3 _ rfl)
        have HO2 := Lib.hid ho
        have HB2 := Lib.hid hB
        clear ho hB
        go_wp2_with (at_builtin; refine list_appE ci_one _ rfl _ _ 72 rfl i0 (.int .i64 0) 8 Tryz.underlying72 hi0 hz0 hz1 hz2 rfl (by decide) rfl HA.out rfl HD1.out rfl ?_ ?_ ?_)
        · simp; omega
        · simp; omega
        intro v1 w1 ho1 hg1 _
        have HG := Lib.hid (grow_own HB2.out HO2.out hg1)
        have HO3 := Lib.hid ho1
        clear ho1 hg1
        go_wp2_with fail
        go_roundg (32 - (j + 1))
        case measure => have := HJ.out; omega
        case rel => exact ⟨j + 1, by omega, by go_num, by rw [List.range_succ]; exact HO3.out, HG.out⟩
      · obtain rfl : j = 32 := by omega
        obtain ⟨A, c, rfl, hc, hd⟩ := ho.form
        rw [List.length_range] at hc
        go_wp2_with fail
        go_ret
        exact ⟨A, c, by simp, hd, hB⟩
  · have e1 : (k == 1) = false := by simp; omega
    have hz : adds k = [] := by unfold adds; rw [if_pos (by omega)]
    rw [hz]
    go_enter Tryz.func31, Tryz.ntmps31
    go_wp2_with fail
    go_loopg [3, 4] 0 (fun _ v i wx => w = wx ∧ i = .int .i64 0 ∧ v = .slice none 0 0)
    case atStart => exact ⟨rfl, rfl, rfl⟩
    case round =>
      obtain ⟨rfl, rfl, rfl⟩ := hrel
      go_wp2_with fail
      go_ret
      exact ⟨_, _, rfl, DatE.nil _ _ _ _ _, Below.refl _ _⟩
end Go.Proofs.YtlidnialggpcpaaGreatDoor.cd

/- The contracts of the document's Code and Of. -/
namespace Go.Proofs.YtlidnialggpcpaaGreatDoor.cd
open Go.RowKit

/-- A row of a kind that there is: its cells. -/
theorem made_cells {f : Nat → Value} {g : Nat → Nat} {n : Nat} {w w' : World} {e : Ending} {xs : List Nat} (h : Made f w w' e xs) (hx : xs = (List.range (lastN n + 1)).map g) :
    ∃ d o c, e = .returned (.slice (some ⟨d, o, none⟩) (lastN n + 1) c) ∧ w.heap.size ≤ d ∧ d < w'.heap.size ∧ (∀ j, j ≤ lastN n → w'.cell? ⟨d, o + j, none⟩ = some (f (g j))) ∧ Below w.heap.size w w' := by
  obtain ⟨A, c, rfl, hd, hB⟩ := h
  have hl : xs.length = lastN n + 1 := by rw [hx]; simp
  obtain ⟨d, o, rfl, h1, h2, hc⟩ := hd (by omega)
  refine ⟨d, o, c, by rw [hl], h1, h2, fun j hj => ?_, hB⟩
  subst hx
  rw [hc j (by omega)]
  simp

theorem begins_at (n : Nat) (w : World) (hn : n < 3) :
    Calls Tryz.prog 30 #[.int .i64 (n : Int)] w fun e w' => ∃ d o c, e = .returned (.slice (some ⟨d, o, none⟩) (lastN n + 1) c) ∧ w.heap.size ≤ d ∧ d < w'.heap.size ∧ (∀ j, j ≤ lastN n → w'.cell? ⟨d, o + j, none⟩ = some (.int .u32 (beginN n j : Int))) ∧ Below w.heap.size w w' :=
  (begins_any (n : Int) w).mono fun _ _ h => made_cells h (by unfold begs; rw [if_neg (by omega)]; rfl)
theorem adds_at (n : Nat) (w : World) (hn : n < 3) :
    Calls Tryz.prog 31 #[.int .i64 (n : Int)] w fun e w' => ∃ d o c, e = .returned (.slice (some ⟨d, o, none⟩) (lastN n + 1) c) ∧ w.heap.size ≤ d ∧ d < w'.heap.size ∧ (∀ j, j ≤ lastN n → w'.cell? ⟨d, o + j, none⟩ = some (.int .i64 (addN n j : Int))) ∧ Below w.heap.size w w' :=
  (adds_any (n : Int) w).mono fun _ _ h => made_cells h (by unfold adds; rw [if_neg (by omega)]; rfl)
theorem begins_not (k : Int) (w : World) (hk : k < 0 ∨ 2 < k) :
    Calls Tryz.prog 30 #[.int .i64 k] w fun e w' => ∃ A c, e = .returned (.slice A 0 c) ∧ Below w.heap.size w w' :=
  (begins_any k w).mono fun _ _ ⟨A, c, he, _, hB⟩ => by
    have hz : begs k = [] := by unfold begs; rw [if_pos hk]
    rw [hz] at he
    exact ⟨A, c, he, hB⟩

set_option maxRecDepth 100000 in
set_option maxHeartbeats 1000000 in
theorem refCode_any (k c : Int) (w : World) :
    Calls Tryz.prog 62 #[.int .i64 k, .int .i64 c] w fun e w' => e = .returned (ansC (codeN k c)) ∧ Below w.heap.size w w' := by
  by_cases hb : 0 ≤ k ∧ k ≤ 2
  · obtain ⟨n, rfl⟩ := Int.eq_ofNat_of_zero_le hb.1
    have hn : n < 3 := by omega
    have hz : codeN (n : Int) c = if c < 0 ∨ (lastN n : Int) < c then (0, 0, 17) else (beginN n c.toNat, addN n c.toNat, 0) := by unfold codeN; rw [if_neg (by omega)]; rfl
    rw [hz]
    have hl := last_le n hn
    have HB := Lib.hid (fun W => begins_at n W hn)
    have HA := Lib.hid (fun W => adds_at n W hn)
    clear hz hb
    by_cases hc : 0 ≤ c ∧ c ≤ (lastN n : Int)
    · rw [if_neg (by omega)]
      obtain ⟨m, rfl⟩ := Int.eq_ofNat_of_zero_le hc.1
      have hm : m ≤ lastN n := by omega
      rw [show ((m : Int)).toNat = m from rfl]
      obtain ⟨b, hbb⟩ : ∃ b, b = beginN n m := ⟨_, rfl⟩
      obtain ⟨a, haa⟩ : ∃ a, a = addN n m := ⟨_, rfl⟩
      obtain ⟨l, hll⟩ : ∃ l, l = lastN n := ⟨_, rfl⟩
      rw [← hbb, ← haa]
      rw [← hll] at hm hl hc HB HA
      have HBB := Lib.hid hbb
      have HAA := Lib.hid haa
      clear hbb haa hc hll
      have hml : (m : Int) < (l : Int) + 1 := by omega
      have hd1 : decide ((m : Int) ≥ (l : Int) + 1) = false := by simp; omega
      go_enter Tryz.func62, Tryz.ntmps62
      go_upto_region 6 with (go_at_call 30; refine (HB.out _).mono ?_; rintro e' w1 ⟨d1, o1, c1, rfl, hg1, hg2, hc1, hB1⟩; have q1 := (hc1 m hm).trans (by rw [← HBB.out]); have HB1 := Lib.hid hB1; clear hc1 hB1)
      go_region_with ((go_at_call 31; refine (HA.out _).mono ?_; rintro e' w2 ⟨d2, o2, c2, rfl, hg3, hg4, hc2, hB2⟩; have s1 : w2.cell? ⟨d1, o1 + m, none⟩ = some (.int .u32 (b : Int)) := (hB2.cell (p := ⟨d1, o1 + m, none⟩) (by exact hg2)).trans q1; have q2 : w2.cell? ⟨d2, o2 + m, none⟩ = some (.int .i64 (a : Int)) := (hc2 m hm).trans (by rw [← HAA.out]); have HB2 : Hid (Below w1.heap.size w1 w2) := (⟨hB2.os, hB2.tape, hB2.output, hB2.size, hB2.block⟩ : Below w1.heap.size w1 w2); clear hc2 hB2))
      all_goals (go_wp2_with fail; go_ret3; exact ⟨rfl, HB1.out.trans (HB2.out.mono HB1.out.size)⟩)
    · rw [if_pos (by omega)]
      obtain ⟨l, hll⟩ : ∃ l, l = lastN n := ⟨_, rfl⟩
      rw [← hll] at hl hc HB HA
      clear hll
      rcases Int.lt_or_le c 0 with h0 | h0
      · clear hc
        go_enter Tryz.func62, Tryz.ntmps62
        go_wp2_with (go_at_call 30; refine (HB.out _).mono ?_; rintro e' w1 ⟨d1, o1, c1, rfl, hg1, hg2, hc1, hB1⟩; have HB1 := Lib.hid hB1; clear hc1 hB1)
        go_ret3
        exact ⟨rfl, HB1.out⟩
      · obtain ⟨m, rfl⟩ := Int.eq_ofNat_of_zero_le h0
        have hml : ¬ (m : Int) < (l : Int) + 1 := by omega
        have hd1 : decide ((m : Int) ≥ (l : Int) + 1) = true := by simp; omega
        clear hc h0
        go_enter Tryz.func62, Tryz.ntmps62
        go_wp2_with (go_at_call 30; refine (HB.out _).mono ?_; rintro e' w1 ⟨d1, o1, c1, rfl, hg1, hg2, hc1, hB1⟩; have HB1 := Lib.hid hB1; clear hc1 hB1)
        go_ret3
        exact ⟨rfl, HB1.out⟩
  · have hz : codeN k c = (0, 0, 1) := by unfold codeN; rw [if_pos (by omega)]
    rw [hz]
    have HB := Lib.hid (fun W => begins_not k W (by omega))
    clear hz hb
    go_enter Tryz.func62, Tryz.ntmps62
    go_wp2_with (go_at_call 30; refine (HB.out _).mono ?_; rintro e' w1 ⟨A1, c1, rfl, hB1⟩; have HB1 := Lib.hid hB1; clear hB1)
    go_ret3
    exact ⟨rfl, HB1.out⟩

set_option maxRecDepth 100000 in
set_option maxHeartbeats 1000000 in
theorem refOf_any (k : Int) (v : Nat) (w : World) (hv : v < 4294967296) :
    Calls Tryz.prog 12 #[.int .i64 k, .int .u32 (v : Int)] w fun e w' => e = .returned (ansO (ofN k v)) ∧ Below w.heap.size w w' := by
  by_cases hb : 0 ≤ k ∧ k ≤ 2
  · obtain ⟨n, rfl⟩ := Int.eq_ofNat_of_zero_le hb.1
    have hn : n < 3 := by omega
    have hl := last_le n hn
    have HB := Lib.hid (fun W => begins_at n W hn)
    have HA := Lib.hid (fun W => adds_at n W hn)
    have hz : ofN (n : Int) v = scan n v (lastN n + 1) 0 := by unfold ofN; rw [if_neg (by omega)]; rfl
    rw [hz]
    clear hz hb
    obtain ⟨l, hll⟩ : ∃ l, l = lastN n := ⟨_, rfl⟩
    have HL := Lib.hid hll
    obtain ⟨Z, hZ⟩ : ∃ Z, Z = scan n v (l + 1) 0 := ⟨_, rfl⟩
    have HZ := Lib.hid hZ
    rw [← hll, ← hZ]
    rw [← hll] at hl HB HA
    clear hZ hll
    go_enter Tryz.func12, Tryz.ntmps12
    go_wp2_with (first
      | (go_at_call 30; refine (HB.out _).mono ?_; rintro e' w1 ⟨d1, o1, c1, rfl, hg1, hg2, hc1, hB1⟩; have HC1 := Lib.hid hc1; have HB1 := Lib.hid hB1; clear hc1 hB1)
      | (go_at_call 31; refine (HA.out _).mono ?_; rintro e' w2 ⟨d2, o2, c2, rfl, hg3, hg4, hc2, hB2⟩; have HC2 := Lib.hid hc2; have HB2 := Lib.hid hB2; clear hc2 hB2))
    go_loopg [9] (l + 1) (fun gh i wx => ∃ j : Nat, j + gh = l + 1 ∧ i = .int .i64 (j : Int) ∧ Z = scan n v gh j ∧ Below w2.heap.size w2 wx)
    case atStart => exact ⟨0, by omega, rfl, HZ.out, Below.refl _ _⟩
    case round =>
      obtain ⟨j, hj, rfl, hzz, hBx⟩ := hrel
      have HJ := Lib.hid hj
      have HZZ := Lib.hid hzz
      have HBX := Lib.hid hBx
      have hs := hBx.size
      have hjl : j ≤ l + 1 := by omega
      clear hj hzz hBx
      by_cases hlt : j < l + 1
      · obtain ⟨g, rfl⟩ : ∃ g, gk = g + 1 := ⟨gk - 1, by have := HJ.out; omega⟩
        have hjl' : j ≤ l := by omega
        have hjN : j ≤ lastN n := by have := HL.out; omega
        have ha := add_le n hn j (by have := last_le n hn; omega)
        have q1 : wr.cell? ⟨d1, o1 + j, none⟩ = some (.int .u32 (beginN n j : Int)) := (HBX.out.cell (p := ⟨d1, o1 + j, none⟩) (by have := HB2.out.size; exact Nat.lt_of_lt_of_le hg2 this)).trans ((HB2.out.cell (p := ⟨d1, o1 + j, none⟩) (by exact hg2)).trans (HC1.out j hjl'))
        have q2 : wr.cell? ⟨d2, o2 + j, none⟩ = some (.int .i64 (addN n j : Int)) := (HBX.out.cell (p := ⟨d2, o2 + j, none⟩) (by exact hg4)).trans (HC2.out j hjl')
        obtain ⟨b, hbb⟩ : ∃ b, b = beginN n j := ⟨_, rfl⟩
        obtain ⟨a, haa⟩ : ∃ a, a = addN n j := ⟨_, rfl⟩
        have HQ : Hid (Z = if b ≤ v ∧ v - b < 2 ^ a then (j, v - b, 0) else scan n v g (j + 1)) := by rw [hbb, haa]; exact HZZ.out
        rw [← hbb] at q1
        rw [← haa] at q2 ha
        clear hbb haa HZZ
        have hp := pow_u32 a ha
        obtain ⟨s, hs2⟩ : ∃ s, s = 2 ^ a := ⟨_, rfl⟩
        rw [← hs2] at hp HQ
        clear hs2
        have hjlt : (j : Int) < (l : Int) + 1 := by omega
        by_cases hge : b ≤ v
        · have hsub : IntKind.u32.wrap ((v : Int) - (b : Int)) = ((v - b : Nat) : Int) := by rw [IntKind.wrap_u32']; omega
          have hd1 : decide ((v : Int) ≥ (b : Int)) = true := by simp; omega
          by_cases hin : v - b < s
          · have HQ2 : Hid (Z = (j, v - b, 0)) := by
              show Z = (j, v - b, 0)
              rw [HQ.out, if_pos ⟨hge, hin⟩]
            clear HQ
            go_upto_region 8 with fail
            go_quiet (fail)
            go_wp2_with fail
            go_quiet (fail)
            go_wp2_with fail
            go_ret3
            exact ⟨by rw [HQ2.out]; rfl, below_drawn (below_drawn (HB1.out.trans ((HB2.out.trans (HBX.out.mono HB2.out.size)).mono HB1.out.size)) _) _⟩
          · have HQ2 : Hid (Z = scan n v g (j + 1)) := by
              show Z = scan n v g (j + 1)
              rw [HQ.out, if_neg (by omega)]
            clear HQ
            go_upto_region 8 with fail
            go_quiet (fail)
            go_wp2_with fail
            go_roundg g
            case measure => omega
            case rel => exact ⟨j + 1, by have := HJ.out; omega, by go_num, HQ2.out, below_drawn HBX.out _⟩
        · have HQ2 : Hid (Z = scan n v g (j + 1)) := by
            show Z = scan n v g (j + 1)
            rw [HQ.out, if_neg (by omega)]
          have hd1 : decide ((v : Int) ≥ (b : Int)) = false := by simp; omega
          clear HQ
          go_upto_region 8 with fail
          go_quiet (fail)
          go_wp2_with fail
          go_roundg g
          case measure => omega
          case rel => exact ⟨j + 1, by have := HJ.out; omega, by go_num, HQ2.out, below_drawn HBX.out _⟩
      · have hg : gk = 0 := by have := HJ.out; omega
        have HQ2 : Hid (Z = (0, 0, 17)) := by
          have hz := HZZ.out
          rw [hg] at hz
          exact hz
        clear HZZ
        have hjlt : ¬ (j : Int) < (l : Int) + 1 := by omega
        go_wp2_with fail
        go_ret3
        exact ⟨by rw [HQ2.out]; rfl, HB1.out.trans ((HB2.out.trans (HBX.out.mono HB2.out.size)).mono HB1.out.size)⟩
  · have hz : ofN k v = (0, 0, 1) := by unfold ofN; rw [if_pos (by omega)]
    rw [hz]
    have HB := Lib.hid (fun W => begins_not k W (by omega))
    clear hz hb
    go_enter Tryz.func12, Tryz.ntmps12
    go_wp2_with (go_at_call 30; refine (HB.out _).mono ?_; rintro e' w1 ⟨A1, c1, rfl, hB1⟩; have HB1 := Lib.hid hB1; clear hB1)
    go_ret3
    exact ⟨rfl, HB1.out⟩
end Go.Proofs.YtlidnialggpcpaaGreatDoor.cd

/- The contracts of the document's tables: Given, Default, Most, Same, One; of how many codes there are; of the law's tableOf. -/
namespace Go.Proofs.YtlidnialggpcpaaGreatDoor
open Go.RowKit

def cu (n : Nat) : Value := .int .u32 (n : Int)
theorem cu_one (n : Nat) : (cu n).oneCell' = true := rfl
theorem u32_info : (Tryz.prog.info? 43).map (fun i => (i.zero, i.size, i.bytes)) = some (some (.int .u32 0), 1, 4) := by kernel_rfl

/-- How many codes a kind has. -/
def manyZ (k : Int) : Nat := if k < 0 ∨ 2 < k then 0 else lastN k.toNat + 1
theorem manyZ_nat {n : Nat} (h : n < 3) : manyZ (n : Int) = lastN n + 1 := by unfold manyZ; rw [if_neg (by omega)]; rfl

set_option maxRecDepth 100000 in
set_option maxHeartbeats 1000000 in
theorem begins_any (k : Int) (w : World) :
    Calls Tryz.prog 30 #[.int .i64 k] w fun e w' => ∃ A c, e = .returned (.slice A (manyZ k) c) ∧ Below w.heap.size w w' := by
  by_cases h0 : k = 0
  · subst h0
    go_enter Tryz.func30, Tryz.ntmps30
    go_wp2
    go_ret
    exact ⟨_, _, rfl, (Below.refl _ _).alloc (Nat.le_refl _) _⟩
  by_cases h2 : k = 2
  · subst h2
    go_enter Tryz.func30, Tryz.ntmps30
    go_wp2
    go_ret
    exact ⟨_, _, rfl, (Below.refl _ _).alloc (Nat.le_refl _) _⟩
  have e0 : (k == 0) = false := by simp; omega
  have e2 : (k == 2) = false := by simp; omega
  by_cases h1 : k = 1
  · subst h1
    obtain ⟨i0, hi0, hz0, hz1, hz2⟩ := info_parts u32_info
    go_enter Tryz.func30, Tryz.ntmps30
    go_wp2_with fail
    go_loopg [3, 4, 5] 32 (fun gh v y i wx => ∃ (j Y : Nat) (L : List Nat), j + gh = 32 ∧ L.length = j ∧ i = .int .i64 (j : Int) ∧ y = .int .u32 (Y : Int) ∧ OwE cu wx 43 w.heap.size v L ∧ Below w.heap.size w wx)
    case atStart => exact ⟨0, 1, [], rfl, rfl, rfl, rfl, OwE.nil _ _ _ _, Below.refl _ _⟩
    case round =>
      obtain ⟨j, Y, L, hj, hL, rfl, rfl, ho, hB⟩ := hrel
      have HJ := Lib.hid hj
      have HLn := Lib.hid hL
      have hj32 : j ≤ 32 := by omega
      clear hj
      by_cases hlt : j < 32
      · have hL2 : L.length + 1 ≤ 1099511627776 := by omega
        obtain ⟨Z, hZ⟩ : ∃ Z : Nat, IntKind.u32.wrap ((Y : Int) * 2) = (Z : Int) := ⟨(IntKind.u32.wrap ((Y : Int) * 2)).toNat, by rw [IntKind.wrap_u32']; omega⟩
        have hw2 := hB.size
        have HA := Lib.hid (ho.alloc (.cells #[.int .u32 (Y : Int)] 43))
        have HD1 := Lib.hid (datE_one cu wr Y 43 _ rfl)
        have HO2 := Lib.hid ho
        have HB2 := Lib.hid hB
        clear ho hB hL
        go_wp2_with (at_builtin; refine list_appE cu_one _ rfl _ _ 86 rfl i0 (.int .u32 0) 4 Tryz.underlying86 hi0 hz0 hz1 hz2 rfl (by decide) rfl HA.out rfl HD1.out rfl ?_ ?_ ?_)
        · exact hL2
        · simp; omega
        intro v1 w1 ho1 hg1 _
        have HG := Lib.hid ((HB2.out.alloc HB2.out.size (.cells #[.int .u32 (Y : Int)] 43)).grown hg1 (HB2.out.alloc HB2.out.size _).size fun k hk => (HO2.out.block k hk).1)
        have HO3 := Lib.hid ho1
        clear ho1 hg1
        go_wp2_with fail
        go_roundg (32 - (j + 1))
        case measure => have := HJ.out; omega
        case rel => exact ⟨j + 1, Z, _, by omega, by rw [List.length_append, HLn.out]; rfl, by go_num, rfl, HO3.out, HG.out⟩
      · obtain rfl : j = 32 := by omega
        obtain ⟨A, c, rfl, hc, hd⟩ := ho.form
        rw [hL] at hc ⊢
        go_wp2_with fail
        go_ret
        exact ⟨A, c, rfl, hB⟩
  · have e1 : (k == 1) = false := by simp; omega
    have hz : manyZ k = 0 := by unfold manyZ; rw [if_pos (by omega)]
    rw [hz]
    go_enter Tryz.func30, Tryz.ntmps30
    go_wp2_with fail
    go_loopg [3, 4, 5] 0 (fun _ v y i wx => w = wx ∧ i = .int .i64 0 ∧ v = .slice none 0 0)
    case atStart => exact ⟨rfl, rfl, rfl⟩
    case round =>
      obtain ⟨rfl, rfl, rfl⟩ := hrel
      go_wp2_with fail
      go_ret
      exact ⟨_, _, rfl, Below.refl _ _⟩

theorem refMost_any (n : Nat) (w : World) (hn : n < 3) :
    Calls Tryz.prog 58 #[.int .i64 (n : Int)] w fun e w' => e = .returned (.int .i64 (mostN n : Int)) ∧ w = w' := by
  rcases (show n = 0 ∨ n = 1 ∨ n = 2 by omega) with rfl | rfl | rfl
  all_goals
    go_enter Tryz.func58, Tryz.ntmps58
    go_wp2
    go_ret
    exact ⟨rfl, rfl⟩

theorem datE_row2 {α : Type} (f : α → Value) (w : World) (o : Obj) (xs : List α) (u : TypeId) (cs : Array Value) (h : cs.toList = xs.map f) :
    DatE f ((w.alloc o).alloc (.cells cs u)) w.heap.size ((w.alloc o).alloc (.cells cs u)).heap.size (some ⟨w.heap.size + 1, 0, none⟩) xs := by
  have h1 := datE_row f (w.alloc o) xs u cs h
  rw [World.size_alloc] at h1
  exact h1.mono (by omega) (by simp)
set_option maxRecDepth 100000 in
set_option maxHeartbeats 2000000 in
theorem refGiven_any (n : Nat) (w : World) (hn : n < 3) :
    Calls Tryz.prog 87 #[.int .i64 (n : Int)] w fun e w' => ∃ d c, e = .returned (.agg #[.int .i64 (logN n : Int), .slice (some ⟨d, 0, none⟩) (partsN n).length c]) ∧ (partsN n).length ≤ c ∧ DatE icel w' w.heap.size w'.heap.size (some ⟨d, 0, none⟩) (partsN n) ∧ Below w.heap.size w w' := by
  rcases (show n = 0 ∨ n = 1 ∨ n = 2 by omega) with rfl | rfl | rfl
  all_goals
    go_enter Tryz.func87, Tryz.ntmps87
    go_wp2
    refine bodyPost_ret (v := .agg #[.int .i64 (logN _ : Int), .slice (some ⟨w.heap.size + 1, 0, none⟩) (partsN _).length (partsN _).length]) (by simp [results, Tryz.results87, go_sem]; exact ⟨rfl, rfl⟩) rfl ⟨w.heap.size + 1, _, rfl, Nat.le_refl _, ?_, ?_⟩
    · exact datE_row2 icel w _ _ _ _ rfl
    · exact ((Below.refl _ _).alloc (Nat.le_refl _) _).alloc (by simp) _

theorem refOneT_any (s : Int) (w : World) :
    Calls Tryz.prog 56 #[.int .i64 s] w fun r w' => ∃ v, r = .returned (.agg #[.int .i64 0, v]) ∧ OwR 3 rcell w' 141 w.heap.size v [⟨s, 0, 0⟩] ∧ Below w.heap.size w w' := by
  go_enter Tryz.func56, Tryz.ntmps56
  go_wp2_with fail
  refine bodyPost_ret (v := .agg #[.int .i64 0, .slice (some ⟨w.heap.size + 1, 0, none⟩) 1 1]) (by simp [results, Tryz.results56, go_sem]) rfl ⟨_, rfl, ?_, ?_⟩
  · refine ⟨rfl, .inr ⟨w.heap.size + 1, 1, #[.int .i64 s, .int .i64 0, .int .i64 0], rfl, by omega, ?_, Nat.le_refl _, by decide, rfl, rfl⟩⟩
    have := heap_alloc_new (w.alloc (.cells #[.int .i64 0, .slice (some ⟨w.heap.size + 1, 0, none⟩) 1 1] 35)) (.cells #[.int .i64 s, .int .i64 0, .int .i64 0] 141)
    rw [World.size_alloc] at this
    exact this
  · exact ((Below.refl _ _).alloc (Nat.le_refl _) _).alloc (by simp) _

end Go.Proofs.YtlidnialggpcpaaGreatDoor

/- The contract of the document's Default and Read (of given, single and told tables). -/
namespace Go.Proofs.YtlidnialggpcpaaGreatDoor
open Go.RowKit

set_option maxRecDepth 100000 in
set_option maxHeartbeats 200000 in
theorem refDefault_any (n : Nat) (w : World) (hn : n < 3) :
    Calls Tryz.prog 55 #[.int .i64 (n : Int)] w fun e w' => ∃ v, e = .returned (.tuple #[.agg #[.int .i64 (logN n : Int), v], .int .i64 0]) ∧ OwR 3 rcell w' 141 w.heap.size v (tabG n) ∧ Below w.heap.size w w' := by
  have HG := Lib.hid (refGiven_any n (w.alloc (.cells #[.int .i64 0, .slice none 0 0] 35)) hn)
  have HX := Lib.hid (Box.new w 35 #[.int .i64 0, .slice none 0 0])
  have HB0 : Hid (Below w.heap.size w (w.alloc (.cells #[.int .i64 0, .slice none 0 0] 35))) := (Below.refl _ _).alloc (Nat.le_refl _) _
  have hs : (w.alloc (.cells #[.int .i64 0, .slice none 0 0] 35)).heap.size = w.heap.size + 1 := by simp
  have HS := Lib.hid hs
  have HMay := Lib.hid (given_may n hn)
  have HBd := Lib.hid (parts_bd n hn)
  have hlen := parts_len n hn
  have hhas := has_le n hn
  have hla := last_le n hn
  have h2 : decide ((2 : Int) < (n : Int)) = false := by simp; omega
  have hm53 : (partsN n).length ≤ 53 := by omega
  have h0 : decide ((n : Int) < 0) = false := by simp
  clear hlen hhas hla
  unfold tabG
  generalize partsN n = ps at *
  generalize logN n = lg at *
  clear hs
  go_enter Tryz.func55, Tryz.ntmps55
  go_wp2_with fail
  refine HG.out.mono ?_
  rintro e w1 ⟨d, c, rfl, hc, hd, hB1⟩
  have HB1 := Lib.hid (HB0.out.trans (hB1.mono HB0.out.size))
  have HX1 := Lib.hid (HX.out.below hB1 HX.out.lt)
  have HD1 := Lib.hid hd
  have hs1 := hB1.size
  clear hB1 hd HX HB0
  go_wp2_with fail
  have hmx : ps.length ≤ maxLen := by unfold maxLen; omega
  have HR := Lib.hid (refBuild_yes (cp := c) lg HMay.out HD1.out rfl hc hmx (Nat.le_refl _) HBd.out)
  refine HR.out.mono ?_
  rintro e w2 ⟨v, rfl, ho, hB2⟩
  obtain ⟨A2, n2, c2, rfl⟩ := ho.slice
  have HO := Lib.hid ho
  have HB2 := Lib.hid (HB1.out.trans (hB2.mono HB1.out.size))
  have hss := HS.out
  have hs2 := hB2.size
  obtain ⟨t0, t1, k0, k1⟩ := box2 (HX1.out.below hB2 HX1.out.lt)
  clear ho hB2
  go_wp2_with fail
  refine bodyPost_ret (v := .tuple #[.agg #[.int .i64 (lg : Int), .slice A2 n2 c2], .int .i64 0]) (by simp [results, Tryz.results55, go_sem, t0, t1]) rfl ⟨_, rfl, ?_, ?_⟩
  · refine (HO.out.keep fun k hk => ?_).mono (show w.heap.size ≤ w1.heap.size by omega)
    have hk4 : w1.heap.size ≤ k := (HO.out.block k hk).1
    rw [Below.heap_setCell _ _ _ k (by show k ≠ w.heap.size; omega), Below.heap_setCell _ _ _ k (by show k ≠ w.heap.size; omega)]
  · exact (HB2.out.setCell (Nat.le_refl _) _).setCell (Nat.le_refl _) _


theorem str_nilT {S : ByteArray} (h : 0 < S.size) : ¬ S.toList = [] ∧ S.toList.isEmpty = false := by
  have h1 : ¬ S.toList = [] := by
    rw [ByteArray.toList_eq S]
    intro e
    have hl : S.data.toList.length = S.size := by simp
    rw [e] at hl
    simp at hl
    omega
  exact ⟨h1, by simpa using h1⟩
end Go.Proofs.YtlidnialggpcpaaGreatDoor
