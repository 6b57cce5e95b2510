
/- The contracts of the program's isKind, window, number, and of what a form of sizes holds, reads and writes; which form is the shortest. The package's two tables as they are laid (Glob). -/
import Derived.Test.YtmominbmalhdoaaDoorFrmPlain
import Derived.Test.YtmominbmalhdoaaDoorCurWrite
import Derived.Test.YtmominbmalhdoaaDoorRows
import Derived.WalkKit
import Derived.WalkSpells
import Derived.WalkLawsBesides
import Derived.Laws.BitsAllLaws
import Derived.Lib.Hide
import Derived.Outline
import Derived.BigQuiet
import Derived.Deep.LoopGhost
import Derived.Deep.CutRange
import Derived.Deep.DeepCutAuto
import Derived.Deep.RegionHeld3
import Derived.Deep.RegionWith
namespace Go.Proofs.YtmominbmalhdoaaDoor
open Go.RowKit

theorem grown_then {w w1 w2 : World} {r : Option Nat} (h : w.grownBy w1 r) (h2 : w1.grownBy w2 r) : w.grownBy w2 r :=
  ⟨h2.os.trans h.os, h2.tape.trans h.tape, h2.output.trans h.output, Nat.le_trans h.size h2.size, fun k hk hr => (h2.block k (Nat.lt_of_lt_of_le hk h.size) hr).trans (h.block k hk hr)⟩
theorem grown_drew {w w' : World} {r : Option Nat} (h : w.drew.grownBy w' r) : w.grownBy w' r := ⟨h.os, h.tape, h.output, h.size, h.block⟩
theorem grown_of_below {w w' : World} (hb : Below w.heap.size w w') (r : Option Nat) : w.grownBy w' r := ⟨hb.os, hb.tape, hb.output, hb.size, fun k hk _ => hb.block k hk⟩

/-- The package's two tables hold what they were laid with. -/
def Glob (w : World) : Prop :=
  (∀ k, k < 4 → w.cell? ⟨0, k, none⟩ = some (.int .i64 (dwN k : Int))) ∧
  (∀ k, k < 4 → w.cell? ⟨1, k * 2, none⟩ = some (.int .i64 (swN k : Int)) ∧ w.cell? ⟨1, k * 2 + 1, none⟩ = some (.int .u64 (frN k : Int))) ∧ 2 ≤ w.heap.size
theorem Glob.keep {w w' : World} (h : Glob w) (he : ∀ j, j < 2 → w'.heap[j]? = w.heap[j]?) (hs : 2 ≤ w'.heap.size) : Glob w' :=
  ⟨fun k hk => (World.cell?_of_block (w := w) (w' := w') (a := ⟨0, k, none⟩) (he 0 (by omega))).trans (h.1 k hk),
   fun k hk => ⟨(World.cell?_of_block (w := w) (w' := w') (a := ⟨1, k * 2, none⟩) (he 1 (by omega))).trans (h.2.1 k hk).1, (World.cell?_of_block (w := w) (w' := w') (a := ⟨1, k * 2 + 1, none⟩) (he 1 (by omega))).trans (h.2.1 k hk).2⟩, hs⟩
theorem Glob.below {B : Nat} {w w' : World} (h : Glob w) (hb : Below B w w') (hB : 2 ≤ B) : Glob w' :=
  h.keep (fun j hj => hb.block j (by omega)) (Nat.le_trans h.2.2 hb.size)
theorem Glob.grown {g : Nat} {w w' : World} (h : Glob w) (hb : w.grownBy w' (some g)) (hg : 2 ≤ g) : Glob w' :=
  h.keep (fun j hj => hb.block j (by have := h.2.2; omega) (by intro e; injection e; omega)) (Nat.le_trans h.2.2 hb.size)
theorem Glob.drew {w : World} (h : Glob w) : Glob w.drew := h

theorem isKind_any (k : Int) (w : World) :
    Calls Tryd.prog 31 #[.int .i64 k] w fun e w' => e = .returned (.bool (decide (0 ≤ k ∧ k ≤ 2))) ∧ w = w' := by
  by_cases h0 : 0 ≤ k
  · by_cases h2 : k ≤ 2
    · rw [show decide (0 ≤ k ∧ k ≤ 2) = true by simp [h0, h2]]
      go_enter Tryd.func31, Tryd.ntmps31
      go_wp2
      go_ret
      exact ⟨rfl, rfl⟩
    · rw [show decide (0 ≤ k ∧ k ≤ 2) = false by simp [h2]]
      have hd : decide (k ≤ 2) = false := by simp; omega
      go_enter Tryd.func31, Tryd.ntmps31
      go_wp2
      go_ret
      exact ⟨rfl, rfl⟩
  · rw [show decide (0 ≤ k ∧ k ≤ 2) = false by simp [h0]]
    go_enter Tryd.func31, Tryd.ntmps31
    go_wp2
    go_ret
    exact ⟨rfl, rfl⟩

theorem winN_lt (x : Nat) (h : x < 256) : winN x < 18446744073709551616 := by
  unfold winN
  have hp : 2 ^ (10 + x / 8) ≤ 2199023255552 := Nat.le_trans (Nat.pow_le_pow_right (by omega) (show 10 + x / 8 ≤ 41 by omega)) (by decide)
  generalize 2 ^ (10 + x / 8) = P at *
  have h2 : P / 8 * (x % 8) ≤ 2199023255552 * 7 := Nat.mul_le_mul (by omega) (by omega)
  generalize P / 8 * (x % 8) = y at *
  omega

theorem win_parts (q r : Nat) (hq : q < 32) (hr : r < 8) : ∃ P : Nat, P ≤ 2199023255552 ∧ P / 8 * r ≤ 2199023255552 * 7 ∧ 2 ^ (10 + q) = P ∧ IntKind.u64.wrap ((2 : Int) ^ (10 + q)) = (P : Int) := by
  have hp : 2 ^ (10 + q) ≤ 2199023255552 := Nat.le_trans (Nat.pow_le_pow_right (by omega) (show 10 + q ≤ 41 by omega)) (by decide)
  refine ⟨2 ^ (10 + q), hp, ?_, rfl, ?_⟩
  · generalize 2 ^ (10 + q) = P at *
    exact Nat.mul_le_mul (by omega) (by omega)
  · rw [show (2 : Int) ^ (10 + q) = ((2 ^ (10 + q) : Nat) : Int) by simp, IntKind.wrap_u64]
    generalize 2 ^ (10 + q) = P at *
    omega

set_option maxRecDepth 100000 in
theorem window_any (x : Nat) (hx : x < 256) (w : World) :
    Calls Tryd.prog 19 #[.int .u64 (x : Int)] w fun e w' => e = .returned (.int .u64 (winN x : Int)) ∧ w = w' := by
  obtain ⟨q, hq⟩ : ∃ q, q = x / 8 := ⟨_, rfl⟩
  obtain ⟨r, hr⟩ : ∃ r, r = x % 8 := ⟨_, rfl⟩
  obtain ⟨P, hP1, hP2, hP3, hP4⟩ := win_parts q r (by omega) (by omega)
  have hqi : (x : Int) / 8 = (q : Int) := by omega
  have hri : (x : Int) % 8 = (r : Int) := by omega
  obtain ⟨V, hV⟩ : ∃ V, V = winN x := ⟨_, rfl⟩
  have HV : Hid (V = P + P / 8 * r) := by unfold Hid; rw [hV]; unfold winN; rw [← hq, ← hr, hP3]
  rw [← hV]
  have hq32 : q < 32 := by omega
  have hr8 : r < 8 := by omega
  clear hV hq hr hP3
  obtain ⟨Y, hY⟩ : ∃ Y, Y = P / 8 * r := ⟨_, rfl⟩
  have hY2 : (P : Int) / 8 * (r : Int) = (Y : Int) := by rw [hY, Int.natCast_mul, Int.natCast_ediv]; rfl
  rw [← hY] at HV hP2
  clear hY
  go_enter Tryd.func19, Tryd.ntmps19
  go_wp2_with fail
  go_ret
  exact ⟨by rw [HV.out]; rfl, rfl⟩

/-- The reader's next number, told by rdn. -/
theorem rnum_any {own : Bool} {w : World} {lo g : Nat} {s : List UInt8 × Int} (m : Nat) (h1 : 1 ≤ m) (hm : m ≤ 8) (h : RD own w lo g s.1 s.2) :
    Calls Tryd.prog 18 #[.pointer (some ⟨g, 0, none⟩), .int .i64 (m : Int)] w fun e w' =>
      e = .returned (.int .u64 ((rdn s m).2 : Int)) ∧ RD own w' lo g (rdn s m).1.1 (rdn s m).1.2 ∧ Stp w w' g := by
  have hr : rdn s m = (((tk s.1 s.2 m true).1, (tk s.1 s.2 m true).2.1), le (tk s.1 s.2 m true).2.2) := by unfold rdn; rw [if_neg (by omega)]
  rw [hr]
  exact number_yes h (by omega) (by omega)

theorem number0_any {own : Bool} {w : World} {lo g : Nat} {s : List UInt8 × Int} (m : Nat) (hm : m ≤ 8) (h : RD own w lo g s.1 s.2) :
    Calls Tryd.prog 20 #[.pointer (some ⟨g, 0, none⟩), .int .i64 (m : Int)] w fun e w' =>
      e = .returned (.int .u64 ((rdn s m).2 : Int)) ∧ RD own w' lo g (rdn s m).1.1 (rdn s m).1.2 ∧ Stp w w' g := by
  by_cases h0 : m = 0
  · subst h0
    have HR := Lib.hid h
    clear h
    go_enter Tryd.func20, Tryd.ntmps20
    go_wp2_with fail
    go_ret
    exact ⟨rfl, HR.out, Stp.refl _ _⟩
  · have hr : rdn s m = (((tk s.1 s.2 m true).1, (tk s.1 s.2 m true).2.1), le (tk s.1 s.2 m true).2.2) := by unfold rdn; rw [if_neg h0]
    have HN := Lib.hid (number_yes (m := (m : Int)) h (by omega) (by omega))
    rw [hr]
    dsimp only
    have hz : ((m : Int) == 0) = false := by simpa using h0
    clear h hr
    go_enter Tryd.func20, Tryd.ntmps20
    go_wp2_with (go_at_call 18; refine HN.out.mono ?_; rintro e' w' ⟨rfl, hq⟩; have HQ := Lib.hid hq; clear hq)
    go_ret
    exact ⟨rfl, HQ.out⟩

/-- A form as a value. -/
def sfv (k : Nat) : Value := .agg #[.int .i64 (swN k : Int), .int .u64 (frN k : Int)]
/-- Whether a form tells a size. -/
def holdsB (k x : Nat) : Bool := decide (frN k ≤ x ∧ x - frN k < 256 ^ swN k)
/-- The first form that does. -/
def formN (x : Nat) : Nat := if x < 256 then 0 else if x < 65792 then 1 else if x < 4294967296 then 2 else 3
theorem form_lt (x : Nat) : formN x < 4 := by unfold formN; repeat' split
                                              all_goals omega
theorem holds_form (x : Nat) (hx : x < 18446744073709551616) : holdsB (formN x) x = true := by
  unfold formN holdsB
  split
  · simp [frN, swN]; omega
  split
  · simp [frN, swN]; omega
  split
  · simp [frN, swN]; omega
  · simp [frN, swN]; omega
theorem holds_not (x k : Nat) (hk : k < formN x) : holdsB k x = false := by
  unfold formN at hk
  unfold holdsB
  split at hk
  · omega
  rename_i h1
  split at hk
  · obtain rfl : k = 0 := by omega
    simp [frN, swN]; omega
  rename_i h2
  split at hk
  · obtain rfl | rfl : k = 0 ∨ k = 1 := by omega
    · simp [frN, swN]; omega
    · simp [frN, swN]; omega
  · rename_i h3
    obtain rfl | rfl | rfl : k = 0 ∨ k = 1 ∨ k = 2 := by omega
    · simp [frN, swN]; omega
    · simp [frN, swN]; omega
    · simp [frN, swN]; omega

set_option maxRecDepth 100000 in
theorem holds_any (k x : Nat) (hk : k < 4) (hx : x < 18446744073709551616) (w : World) :
    Calls Tryd.prog 36 #[sfv k, .int .u64 (x : Int)] w fun e w' => e = .returned (.bool (holdsB k x)) ∧ Below w.heap.size w w' := by
  obtain ⟨f, hf⟩ : ∃ f, f = frN k := ⟨_, rfl⟩
  obtain ⟨m, hm⟩ : ∃ m, m = swN k := ⟨_, rfl⟩
  have hf2 : f ≤ 256 := by rw [hf]; exact fr_le k hk
  have hm1 : 1 ≤ m := by rw [hm]; exact sw_pos k hk
  have hm8 : m ≤ 8 := by rw [hm]; exact sw_le k hk
  have hB : Hid (holdsB k x = decide (f ≤ x ∧ x - f < 256 ^ m)) := by unfold Hid holdsB; rw [hf, hm]
  have hv : sfv k = .agg #[.int .i64 (m : Int), .int .u64 (f : Int)] := by unfold sfv; rw [hf, hm]
  rw [hv]
  generalize holdsB k x = b at *
  clear hv hf hm
  by_cases h1 : f ≤ x
  · have hq : Hid (((((x - f : Nat) : Int) / 2 ^ (8 * m)) == 0) = b) := by
      have h2 : (2 : Int) ^ (8 * m) = ((256 ^ m : Nat) : Int) := by rw [show (256 : Nat) = 2 ^ 8 by rfl, ← Nat.pow_mul]; simp
      have h3 : 0 < 256 ^ m := Nat.pow_pos (by decide)
      unfold Hid
      rw [hB.out, h2, ← Int.natCast_ediv]
      generalize 256 ^ m = P at *
      by_cases hl : x - f < P
      · rw [Nat.div_eq_of_lt hl]
        simp [h1, hl]
      · have : 0 < (x - f) / P := Nat.div_pos (by omega) h3
        simp only [h1, hl, and_false, decide_false]
        simp
        omega
    clear hB
    have hi : (f : Int) ≤ (x : Int) := by omega
    have hs : IntKind.u64.wrap ((x : Int) - (f : Int)) = ((x - f : Nat) : Int) := by rw [IntKind.wrap_u64]; omega
    go_enter Tryd.func36, Tryd.ntmps36
    go_wp2_with fail
    go_ret
    exact ⟨by rw [hq.out]; rfl, (Below.refl _ _).alloc (Nat.le_refl _) _⟩
  · have hi : decide ((f : Int) ≤ (x : Int)) = false := by simp; omega
    obtain rfl : b = false := by rw [hB.out]; simp; omega
    clear hB
    go_enter Tryd.func36, Tryd.ntmps36
    go_wp2_with fail
    go_ret
    exact ⟨rfl, (Below.refl _ _).alloc (Nat.le_refl _) _⟩

set_option maxRecDepth 100000 in
theorem shortest_any (x : Nat) (hx : x < 18446744073709551616) (w : World) (hgl : Glob w) :
    Calls Tryd.prog 26 #[.int .u64 (x : Int)] w fun e w' => e = .returned (.int .i64 (formN x : Int)) ∧ Below w.heap.size w w' := by
  have HG := Lib.hid hgl
  have hw2 := hgl.2.2
  have hf := form_lt x
  have HY := Lib.hid (holds_form x hx)
  have HN := Lib.hid (fun k => holds_not x k)
  have HC := fun k (hk : k < 4) (W : World) => Lib.hid (holds_any k x hk hx W)
  generalize formN x = n at *
  clear hgl
  go_enter Tryd.func26, Tryd.ntmps26
  go_wp2_with fail
  go_loopg [3] n (fun gh i wx => ∃ j : Nat, j + gh = n ∧ i = .int .i64 (j : Int) ∧ Below w.heap.size w wx)
  case atStart => exact ⟨0, by omega, rfl, Below.refl _ _⟩
  case round =>
    obtain ⟨j, hj, rfl, hB⟩ := hrel
    have HJ := Lib.hid hj
    have hj4 : j < 4 := by omega
    have HB := Lib.hid hB
    obtain ⟨q0, q1⟩ := (HG.out.below hB hw2).2.1 j hj4
    have HCj := HC j hj4
    clear hB hj
    by_cases hlt : j < n
    · have hb := HN.out j hlt
      unfold sfv at HCj
      rw [hb] at HCj
      clear hb
      go_wp2_with (go_at_call 36; refine ((HCj _).out).mono ?_; rintro e' w1 ⟨rfl, hB1⟩; have HB1 := Lib.hid (HB.out.trans (hB1.mono HB.out.size)); clear hB1)
      go_roundg (n - (j + 1))
      case measure => have := HJ.out; omega
      case rel => exact ⟨j + 1, by omega, by go_num, HB1.out⟩
    · obtain rfl : j = n := by have := HJ.out; omega
      have hb := HY.out
      unfold sfv at HCj
      rw [hb] at HCj
      clear hb
      go_wp2_with (go_at_call 36; refine ((HCj _).out).mono ?_; rintro e' w1 ⟨rfl, hB1⟩; have HB1 := Lib.hid (HB.out.trans (hB1.mono HB.out.size)); clear hB1)
      go_ret
      exact ⟨rfl, HB1.out⟩

set_option maxRecDepth 100000 in
theorem sread_any {own : Bool} {w : World} {lo g : Nat} {s : List UInt8 × Int} (k : Nat) (hk : k < 4) (h : RD own w lo g s.1 s.2) :
    Calls Tryd.prog 21 #[sfv k, .pointer (some ⟨g, 0, none⟩)] w fun e w' =>
      e = .returned (.int .u64 ((((rdn s (swN k)).2 + frN k) % 18446744073709551616 : Nat) : Int)) ∧ RD own w' lo g (rdn s (swN k)).1.1 (rdn s (swN k)).1.2 ∧ w.grownBy w' (some g) := by
  have hm1 : 1 ≤ swN k := sw_pos k hk
  have hm8 : swN k ≤ 8 := sw_le k hk
  have hr : rdn s (swN k) = (((tk s.1 s.2 (swN k) true).1, (tk s.1 s.2 (swN k) true).2.1), le (tk s.1 s.2 (swN k) true).2.2) := by unfold rdn; rw [if_neg (by omega)]
  rw [hr]
  dsimp only
  have hgw := h.lt
  have HN := fun W (hW : RD own W lo g s.1 s.2) => Lib.hid (number_yes (m := (swN k : Int)) hW (by omega) (by omega))
  have HX := Lib.hid (h.alloc (.cells #[.int .i64 (swN k : Int), .int .u64 (frN k : Int)] 59))
  have HB : Hid (Box (w.alloc (.cells #[.int .i64 (swN k : Int), .int .u64 (frN k : Int)] 59)) w.heap.size 59 #[.int .i64 (swN k : Int), .int .u64 (frN k : Int)]) := Box.new _ _ _
  have HG : Hid (w.grownBy (w.alloc (.cells #[.int .i64 (swN k : Int), .int .u64 (frN k : Int)] 59)) (some g)) := grown_of_below ((Below.refl _ _).alloc (Nat.le_refl _) _) _
  unfold sfv
  have hf2 : frN k ≤ 256 := fr_le k hk
  have hlv : le (tk s.1 s.2 (swN k) true).2.2 = (rdn s (swN k)).2 := by rw [hr]
  have hlt := rdn_lt s (swN k)
  rw [← hlv] at hlt
  have hlt2 : le (tk s.1 s.2 (swN k) true).2.2 < 18446744073709551616 := Nat.lt_of_lt_of_le hlt (Nat.le_trans (Nat.pow_le_pow_right (by decide) hm8) (by decide))
  clear hr hlv hlt h
  generalize tk s.1 s.2 (swN k) true = T at *
  generalize swN k = m at *
  generalize frN k = f at *
  generalize le T.2.2 = y at *
  have hwr : IntKind.u64.wrap ((y : Int) + (f : Int)) = (((y + f) % 18446744073709551616 : Nat) : Int) := by rw [IntKind.wrap_u64]; omega
  go_enter Tryd.func21, Tryd.ntmps21
  go_wp2_with fail
  generalize hW : w.alloc (.cells #[.int .i64 (m : Int), .int .u64 (f : Int)] 59) = W at *
  have z0 := HB.out.cell 0
  have z1 := HB.out.cell 1
  simp at z0 z1
  have hqW := HB.out.lt
  have hqg : w.heap.size ≠ g := by omega
  have HR := HN W.drew HX.out
  clear hW HN
  go_region_held3 (fun w' => w'.cell? ⟨w.heap.size, 0, none⟩ = some (.int .i64 (m : Int)) ∧ w'.cell? ⟨w.heap.size, 1, none⟩ = some (.int .u64 (f : Int))) (first | exact ⟨z0, z1⟩ | exact ⟨k0, k1⟩ | go_keep) ((go_at_call 18; refine HR.out.mono ?_; rintro e' wn ⟨rfl, hb, hs⟩; have k0 := (World.cell?_of_block (a := ⟨w.heap.size, 0, none⟩) (hs.1.block w.heap.size (by exact hqW) (by intro h; injection h with h; exact hqg h))).trans z0; have k1 := (World.cell?_of_block (a := ⟨w.heap.size, 1, none⟩) (hs.1.block w.heap.size (by exact hqW) (by intro h; injection h with h; exact hqg h))).trans z1; have HBn := Lib.hid hb; have HSn := Lib.hid hs; clear hb hs))
  all_goals
    go_wp2_with fail
    go_ret
    exact ⟨rfl, HBn.out, grown_then HG.out (grown_drew HSn.out.1)⟩

set_option maxRecDepth 100000 in
theorem swrite_any {w : World} {base g : Nat} {xs : List UInt8} (k x : Nat) (hk : k < 4) (hx : x < 18446744073709551616) (hf : frN k ≤ x) (h : Wtr w base g xs) (hb : xs.length + 8 ≤ 1099511627776) :
    Calls Tryd.prog 29 #[sfv k, .pointer (some ⟨g, 0, none⟩), .int .u64 (x : Int)] w fun e w' =>
      e = .returned (.tuple #[]) ∧ Wtr w' base g (xs ++ put (x - frN k) (swN k)) ∧ Below base w w' := by
  have hm1 : 1 ≤ swN k := sw_pos k hk
  have hm8 : swN k ≤ 8 := sw_le k hk
  have hsz : base ≤ w.heap.size := by have := h.1; have := h.lt; omega
  have HN := Lib.hid (wnumber_yes (x - frN k) (swN k) (h.alloc (.cells #[.int .i64 (swN k : Int), .int .u64 (frN k : Int)] 59)) hm1 hm8 (by omega))
  have HB := Lib.hid ((Below.refl base w).alloc hsz (.cells #[.int .i64 (swN k : Int), .int .u64 (frN k : Int)] 59))
  have hs : IntKind.u64.wrap ((x : Int) - (frN k : Int)) = ((x - frN k : Nat) : Int) := by rw [IntKind.wrap_u64]; omega
  unfold sfv
  generalize put (x - frN k) (swN k) = ys at *
  generalize x - frN k = y at *
  generalize swN k = m at *
  generalize frN k = f at *
  clear h
  go_enter Tryd.func29, Tryd.ntmps29
  go_wp2_with (go_at_call 28; refine HN.out.mono ?_; rintro e' w' ⟨rfl, hq⟩; have HQ := Lib.hid hq; clear hq)
  go_end0
  exact ⟨rfl, HQ.out.1, HB.out.trans HQ.out.2⟩
end Go.Proofs.YtmominbmalhdoaaDoor
