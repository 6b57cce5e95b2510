
/- The contracts of the program's Writer: each method at any one, and of nil. -/
import Derived.Test.YtpdnmhnnngcbjaaDoorBitFwd
import Derived.Deep.RegionWith
import Derived.Deep.RegionHeld3
import Derived.Deep.LoopGhost
import Derived.Deep.CutRange
import Derived.Deep.DeepCutAuto
namespace Go.Proofs.YtpdnmhnnngcbjaaDoor
open Go.RowKit

/-- Block g is a Writer that has the bits l: its slice is v, in memory of its own from block base on. -/
def WR (w : World) (base g : Nat) (v : Value) (l : List Bool) : Prop :=
  base ≤ g ∧ Box w g 130 #[v, .int .i64 (l.length : Nat)] ∧ OwB w 5 base v (bytesOf l)
/-- Only block g, and the row r, have turned, and new ones have come. -/
structure Foot (w w' : World) (g : Nat) (r : Option Nat) : Prop where
  os : w'.os = w.os
  tape : w'.tape = w.tape
  output : w'.output = w.output
  size : w.heap.size ≤ w'.heap.size
  block : ∀ k, k < w.heap.size → k ≠ g → some k ≠ r → w'.heap[k]? = w.heap[k]?
/-- The row is what it was, or a new one. -/
def Near (w : World) (r r' : Option Nat) : Prop := r' = r ∨ ∃ k, r' = some k ∧ w.heap.size ≤ k

section
variable {w w' w'' : World} {base g : Nat} {r r' : Option Nat} {v : Value} {l : List Bool}
theorem Foot.refl (w : World) (g : Nat) (r : Option Nat) : Foot w w g r := ⟨rfl, rfl, rfl, Nat.le_refl _, fun _ _ _ _ => rfl⟩
theorem Foot.trans (h : Foot w w' g r) (hn : Near w r r') (h' : Foot w' w'' g r') : Foot w w'' g r :=
  ⟨h'.os.trans h.os, h'.tape.trans h.tape, h'.output.trans h.output, Nat.le_trans h.size h'.size, fun k hk hg hr => by
    have := h.size
    refine (h'.block k (by omega) hg ?_).trans (h.block k hk hg hr)
    rcases hn with e | ⟨j, e, hj⟩
    · rw [e]; exact hr
    · rw [e]; intro e2; injection e2 with e2; omega⟩
theorem Foot.below {B : Nat} (h : Foot w w' g r) (hB : B ≤ w.heap.size) (hg : B ≤ g) (hr : ∀ k, r = some k → B ≤ k) : Below B w w' :=
  ⟨h.os, h.tape, h.output, h.size, fun k hk => h.block k (by omega) (by omega) (by intro e; have := hr k e.symm; omega)⟩
theorem Foot.stp (h : Stp w w' g) : Foot w w' g r := ⟨h.1.os, h.1.tape, h.1.output, h.1.size, fun k hk hg _ => h.1.block k hk (by intro e; injection e with e; exact hg e)⟩
theorem Foot.grown (h : w.grownBy w' r) : Foot w w' g r := ⟨h.os, h.tape, h.output, h.size, fun k hk _ hr => h.block k hk hr⟩
theorem Foot.drew (w : World) (g : Nat) (r : Option Nat) : Foot w w.drew g r := ⟨rfl, rfl, rfl, Nat.le_refl _, fun _ _ _ _ => rfl⟩
theorem Near.refl (w : World) (r : Option Nat) : Near w r r := .inl rfl
theorem Near.trans {r'' : Option Nat} (h : Near w r r') (h' : Near w' r' r'') (hs : w.heap.size ≤ w'.heap.size) : Near w r r'' := by
  rcases h' with e | ⟨k, e, hk⟩
  · rw [e]; exact h
  · exact .inr ⟨k, e, by omega⟩
theorem WR.lt (h : WR w base g v l) : g < w.heap.size := h.2.1.lt
theorem WR.keep (h : WR w base g v l) (he : ∀ k, base ≤ k → k < w.heap.size → w'.heap[k]? = w.heap[k]?) : WR w' base g v l := by
  obtain ⟨hb, h1, h2⟩ := h
  refine ⟨hb, h1.keep (he g hb h1.lt), h2.1, ?_⟩
  rcases h2.2 with hn | ⟨g', cap, cur, hv, hbg, hh, q⟩
  · exact .inl hn
  · exact .inr ⟨g', cap, cur, hv, hbg, (he g' hbg (Array.getElem?_eq_some_iff.1 hh).1).trans hh, q⟩
theorem WR.below {B : Nat} (h : WR w base g v l) (hb : Below B w w') (hB : w.heap.size ≤ B) : WR w' base g v l := h.keep fun k _ h2 => hb.block k (by omega)
theorem WR.row (h : WR w base g v l) : ∀ k, v.ownBlock = some k → base ≤ k ∧ k < w.heap.size := h.2.2.block
theorem WR.form (h : WR w base g v l) : ∃ A c, v = .slice A (bytesOf l).length c ∧ (bytesOf l).length ≤ c ∧ Dat true w base w.heap.size A (bytesOf l) := h.2.2.form
end

theorem newWriter_any (w : World) :
    Calls Tryd.prog 61 #[] w fun e w' => e = .returned (.pointer (some ⟨w.heap.size, 0, none⟩)) ∧ WR w' w.heap.size w.heap.size (.slice none 0 0) [] ∧ Below w.heap.size w w' := by
  go_enter Tryd.func61, Tryd.ntmps61
  go_wp2
  go_ret
  exact ⟨rfl, ⟨Nat.le_refl _, Box.new _ _ _, OwB.nil _ _ _⟩, (Below.refl _ _).alloc (Nat.le_refl _) _⟩

theorem write_nil (x n : Int) (w : World) :
    Calls Tryd.prog 62 #[.pointer none, .int .u64 x, .int .i64 n] w fun e w' => e = .returned (.tuple #[]) ∧ w = w' := by
  go_enter Tryd.func62, Tryd.ntmps62
  go_wp2
  refine bodyPost_ret (results_none rfl _ _ _) rfl ?_
  exact ⟨rfl, rfl⟩
theorem out_nil (w : World) :
    Calls Tryd.prog 67 #[.pointer none] w fun e w' => e = .returned (.slice none 0 0) ∧ w = w' := by
  go_enter Tryd.func67, Tryd.ntmps67
  go_wp2
  go_ret
  exact ⟨rfl, rfl⟩
theorem write_no {w : World} {g : Nat} (x n : Int) (hn : wid n = false) :
    Calls Tryd.prog 62 #[.pointer (some ⟨g, 0, none⟩), .int .u64 x, .int .i64 n] w fun e w' => e = .returned (.tuple #[]) ∧ w = w' := by
  have h : n < 1 ∨ 56 < n := by unfold wid at hn; simp at hn; omega
  clear hn
  go_enter Tryd.func62, Tryd.ntmps62
  go_wp2_with (go_at_call 78; refine (isWidth_no _ _ h).mono ?_; rintro e w' ⟨rfl, rfl⟩)
  refine bodyPost_ret (results_none rfl _ _ _) rfl ?_
  exact ⟨rfl, rfl⟩

/-- What a byte becomes when a bit is laid into it. -/
theorem put_step (x j Z p : Nat) (hx : x < 18446744073709551616) (hZ : Z < 256) (hp : p < 8) :
    bits .or .u8 (Z : Int) (bits .and .u64 ((x : Int) / 2 ^ j) 1 % 256 * 2 ^ p % 256) = (((UInt8.ofNat (Z ||| (x.testBit j).toNat * 2 ^ p)).toNat : Nat) : Int) := by
  have h1 : (x : Int) / 2 ^ j = ((x / 2 ^ j : Nat) : Int) := by simp
  have h2 : x / 2 ^ j < 18446744073709551616 := Nat.lt_of_le_of_lt (Nat.div_le_self _ _) hx
  rw [h1, show (1 : Int) = ((1 : Nat) : Int) by rfl, u64_and_nat _ _ h2 (by decide), Nat.and_one_is_mod, ← testBit_toNat]
  generalize hb : (x.testBit j).toNat = b
  have hb2 : b < 2 := by rw [← hb]; exact toNat_lt2 _
  have hpp : 2 ^ p ≤ 2 ^ 7 := Nat.pow_le_pow_right (by omega) (by omega)
  have hm : b * 2 ^ p ≤ 1 * 2 ^ 7 := Nat.mul_le_mul (by omega) hpp
  have h3 : (b : Int) % 256 = (b : Int) := by omega
  have h4 : (b : Int) * 2 ^ p = ((b * 2 ^ p : Nat) : Int) := by simp
  have h5 : ((b * 2 ^ p : Nat) : Int) % 256 = ((b * 2 ^ p : Nat) : Int) := by omega
  rw [h3, h4, h5, u8_or_nat _ _ hZ (by omega)]
  have h6 : Z ||| b * 2 ^ p < 2 ^ 8 := Nat.or_lt_two_pow hZ (by omega)
  generalize Z ||| b * 2 ^ p = y at *
  simp
  omega

/-- A Writer in the midst of a bit: its slice has room for it. -/
def Mid (w : World) (base g : Nat) (v : Value) (l : List Bool) : Prop :=
  base ≤ g ∧ Box w g 130 #[v, .int .i64 (l.length : Nat)] ∧ OwB w 5 base v (pad l)

theorem Mid.open_ {w : World} {base g : Nat} {v : Value} {l : List Bool} (h : Mid w base g v l) : ∃ d c, v = .slice (some ⟨d, 0, none⟩) (l.length / 8 + 1) c ∧ d ≠ g ∧
    w.cell? ⟨g, 0, none⟩ = some (.slice (some ⟨d, 0, none⟩) (l.length / 8 + 1) c) ∧ w.cell? ⟨g, 1, none⟩ = some (.int .i64 (l.length : Nat)) ∧
    w.frozen? ⟨g, 0, none⟩ = false ∧ w.frozen? ⟨g, 1, none⟩ = false ∧
    w.cell? ⟨d, l.length / 8, none⟩ = some (.int .u8 (((pad l).getD (l.length / 8) 0).toNat : Int)) ∧ w.frozen? ⟨d, l.length / 8, none⟩ = false := by
  obtain ⟨hb, h1, h2⟩ := h
  have hlen : (pad l).length = l.length / 8 + 1 := pad_length l
  have hne := h2.ne_box h1 (by decide)
  obtain ⟨d, c, hv, hd, hlt⟩ := World.ownsRow.form h2 (by omega)
  subst hv
  have hcell := World.ownsRow.cells h2 (g := d) rfl (l.length / 8) (cel ((pad l).getD (l.length / 8) 0)) (by
    have hl2 : l.length / 8 < (pad l).length := by omega
    simp [List.getD, hl2])
  have hf : w.frozen? ⟨d, l.length / 8, none⟩ = false := by
    rcases h2.2 with ⟨e, _⟩ | ⟨g', cap, cur, e, _, hh, _⟩
    · cases e
    · injection e with e
      injection e with e
      injection e with e
      subst e
      simp [World.frozen?, hh]
  have ha : (⟨d, 0, none⟩ : Addr).add (l.length / 8) = ⟨d, l.length / 8, none⟩ := by unfold Addr.add; split <;> simp_all
  rw [ha] at hcell
  refine ⟨d, c, by rw [hlen], fun e => hne (by rw [e]; rfl), ?_, h1.cell 1, h1.free 0, h1.free 1, hcell, hf⟩
  have := h1.cell 0
  rw [hlen] at this
  exact this

theorem OwB.slice {w : World} {u base : Nat} {v : Value} {xs : List UInt8} (h : OwB w u base v xs) : ∃ A n c, v = .slice A n c := by
  obtain ⟨A, c, hv, _⟩ := h.form
  exact ⟨A, _, c, hv⟩
theorem OwB.put {w : World} {u base : Nat} {n c : Nat} {xs : List UInt8} {d : Nat} (h : OwB w u base (.slice (some ⟨d, 0, none⟩) n c) xs) (i : Nat) (y : UInt8) :
    OwB (w.setCell ⟨d, i, none⟩ (cel y)) u base (.slice (some ⟨d, 0, none⟩) n c) (xs.set i y) := by
  have hl := h.1
  rcases h.2 with ⟨e, _⟩ | ⟨g', cap, cur, e, hb, hh, hnc, hcm, hcs, ht⟩
  · cases e
  · injection e with e1 e2 e3
    injection e1 with e1
    injection e1 with e1
    subst e1
    subst e3
    refine ⟨by simp, .inr ⟨d, c, cur.setIfInBounds i (cel y), by rw [List.length_set, ← e2], hb, Box.put hh i _, by simpa using hnc, hcm, by simpa using hcs, ?_⟩⟩
    rw [Array.toList_setIfInBounds, List.take_set, List.length_set, ht, List.map_set]

/-- The bit is laid in, and counted. -/
theorem Mid.end_ {w : World} {base g d c m p x k : Nat} {Z : UInt8} {l : List Bool} (h : Mid w base g (.slice (some ⟨d, 0, none⟩) (l.length / 8 + 1) c) l) (hdg : d ≠ g) (hx : x < 18446744073709551616)
    (hZ : Z = (pad l).getD (l.length / 8) 0) (hm : m = l.length / 8) (hp : p = l.length % 8) :
    WR ((w.setCell ⟨d, m, none⟩ (.int .u8 (bits .or .u8 (Z.toNat : Int) (bits .and .u64 ((x : Int) / 2 ^ k) 1 % 256 * 2 ^ p % 256)))).setCell ⟨g, 1, none⟩ (.int .i64 ((l.length : Int) + 1))).drew base g
      (.slice (some ⟨d, 0, none⟩) (l.length / 8 + 1) c) (l ++ [x.testBit k]) ∧
    Foot w ((w.setCell ⟨d, m, none⟩ (.int .u8 (bits .or .u8 (Z.toNat : Int) (bits .and .u64 ((x : Int) / 2 ^ k) 1 % 256 * 2 ^ p % 256)))).setCell ⟨g, 1, none⟩ (.int .i64 ((l.length : Int) + 1))).drew g (some d) := by
  subst hm hp
  rw [put_step x k Z.toNat (l.length % 8) hx (UInt8.toNat_lt _) (Nat.mod_lt _ (by omega))]
  obtain ⟨hb, h1, h2⟩ := h
  refine ⟨⟨hb, ?_, ?_⟩, ⟨rfl, rfl, rfl, by simp [World.drew, World.setCell], fun j hj hg hr => ?_⟩⟩
  · have := (h1.far (p := ⟨d, l.length / 8, none⟩) (fun e => hdg e.symm) (.int .u8 (((UInt8.ofNat (Z.toNat ||| (x.testBit k).toNat * 2 ^ (l.length % 8))).toNat : Nat) : Int))).put 1 (.int .i64 ((l.length : Int) + 1))
    rw [List.length_append]
    exact this
  · have := (OwB.put h2 (l.length / 8) (UInt8.ofNat (Z.toNat ||| (x.testBit k).toNat * 2 ^ (l.length % 8)))).grown (w' := (w.setCell ⟨d, l.length / 8, none⟩ (cel (UInt8.ofNat (Z.toNat ||| (x.testBit k).toNat * 2 ^ (l.length % 8))))).setCell ⟨g, 1, none⟩ (.int .i64 ((l.length : Int) + 1))) (row := some g)
      (Stp.set _ g 1 _).1 (.inr (by simpa [Value.ownBlock] using hdg))
    rw [bytesOf_put, ← hZ]
    exact this
  · show ((w.setCell _ _).setCell _ _).heap[j]? = _
    rw [Below.heap_setCell _ _ _ j hg, Below.heap_setCell _ _ _ j (by intro e; exact hr (by rw [e]))]

theorem Mid.facts {w : World} {base g d c m : Nat} {l : List Bool} (h : Mid w base g (.slice (some ⟨d, 0, none⟩) (l.length / 8 + 1) c) l) (hm : m = l.length / 8) :
    w.cell? ⟨g, 0, none⟩ = some (.slice (some ⟨d, 0, none⟩) (m + 1) c) ∧ w.cell? ⟨g, 1, none⟩ = some (.int .i64 (l.length : Nat)) ∧
    w.frozen? ⟨g, 0, none⟩ = false ∧ w.frozen? ⟨g, 1, none⟩ = false ∧
    w.cell? ⟨d, m, none⟩ = some (.int .u8 (((pad l).getD (l.length / 8) 0).toNat : Int)) ∧ w.frozen? ⟨d, m, none⟩ = false := by
  subst hm
  obtain ⟨d', c', e, _, h1, h2, h3, h4, h5, h6⟩ := h.open_
  injection e with e _ e2
  injection e with e
  injection e with e
  subst e e2
  exact ⟨h1, h2, h3, h4, h5, h6⟩

/-- Behind an append of a new byte. -/
theorem mid_new {wr w0 w1 : World} {base g : Nat} {v v' : Value} {l : List Bool} (hB : Below wr.heap.size wr w0) (h : WR wr base g v l) (h8 : l.length % 8 = 0)
    (ho : OwB w1 5 base v' (bytesOf l ++ [0])) (hgr : w0.grownBy w1 v.ownBlock) {H : Nat} (hH : w0.heap.size = H) (hat : v'.ownBlock = v.ownBlock ∨ v'.ownBlock = some H) :
    w1.cell? ⟨g, 0, none⟩ = some v ∧ w1.cell? ⟨g, 1, none⟩ = some (.int .i64 (l.length : Nat)) ∧ w1.frozen? ⟨g, 0, none⟩ = false ∧ w1.frozen? ⟨g, 1, none⟩ = false ∧
    ∃ d c, v' = .slice (some ⟨d, 0, none⟩) (l.length / 8 + 1) c ∧ d ≠ g ∧ w1.cell? ⟨d, l.length / 8, none⟩ = some (.int .u8 (((pad l).getD (l.length / 8) 0).toNat : Int)) ∧ w1.frozen? ⟨d, l.length / 8, none⟩ = false ∧
      Hid (Mid (w1.setCell ⟨g, 0, none⟩ v') base g v' l ∧ Foot wr (w1.setCell ⟨g, 0, none⟩ v') g v.ownBlock ∧ Near wr v.ownBlock v'.ownBlock) := by
  subst hH
  obtain ⟨hb, h1, h2⟩ := h
  have hpad : pad l = bytesOf l ++ [0] := by simp [pad, h8]
  have hne := h2.ne_box h1 (by decide)
  have hlt := h1.lt
  have hx0 := h1.below hB hlt
  have hx1 := hx0.grown hgr (fun e => hne e.symm)
  have hsz := hB.size
  have hlen : (bytesOf l ++ [0]).length = l.length / 8 + 1 := by rw [← hpad, pad_length]
  obtain ⟨d, c, hv, hd, hdlt⟩ := World.ownsRow.form ho (by omega)
  have hdg : d ≠ g := by
    intro e
    subst e
    rcases hat with e | e
    · exact hne (by rw [← e, hv]; rfl)
    · rw [hv] at e
      simp only [Value.ownBlock, Option.some.injEq] at e
      omega
  rw [hlen] at hv
  have hcell := World.ownsRow.cells ho (g := d) (by rw [hv]; rfl) (l.length / 8) (cel ((bytesOf l ++ [0]).getD (l.length / 8) 0)) (by
    have hl2 : l.length / 8 < (bytesOf l ++ [0]).length := by omega
    rw [List.getElem?_map, List.getElem?_eq_getElem hl2]
    simp [List.getD, List.getElem?_eq_getElem hl2])
  have ha : (⟨d, 0, none⟩ : Addr).add (l.length / 8) = ⟨d, l.length / 8, none⟩ := by unfold Addr.add; split <;> simp_all
  rw [ha] at hcell
  have hf : w1.frozen? ⟨d, l.length / 8, none⟩ = false := by
    rcases ho.2 with ⟨e, _⟩ | ⟨g', cap, cur, e, _, hh, _⟩
    · rw [hv] at e; cases e
    · rw [hv] at e
      injection e with e
      injection e with e
      injection e with e
      subst e
      simp [World.frozen?, hh]
  refine ⟨hx1.cell 0, hx1.cell 1, hx1.free 0, hx1.free 1, d, c, hv, hdg, by rw [hpad]; exact hcell, hf, ⟨hb, hx1.put 0 _, by rw [hpad]; exact ho.grown (Stp.set _ g 0 _).1 (.inr (by rw [hv]; simpa [Value.ownBlock] using hdg))⟩, ?_, ?_⟩
  · refine ⟨hgr.os.trans hB.os, hgr.tape.trans hB.tape, hgr.output.trans hB.output, by have := hgr.size; simp [World.setCell]; omega, fun j hj hg hr => ?_⟩
    rw [Below.heap_setCell _ _ _ j hg]
    exact (hgr.block j (by omega) hr).trans (hB.block j hj)
  · rcases hat with e | e
    · exact .inl e
    · exact .inr ⟨_, e, by omega⟩

theorem mod_twice (z : Int) : z % 256 * 2 ^ 0 % 256 = z % 256 := by simp

set_option maxRecDepth 100000 in
set_option maxHeartbeats 800000 in
theorem write_yes {w : World} {base g : Nat} {v : Value} {l : List Bool} (x n : Nat) (h : WR w base g v l) (h1 : 1 ≤ n) (h2 : n ≤ 56) (hx : x < 18446744073709551616) (hb : l.length ≤ 1000000000000) :
    Calls Tryd.prog 62 #[.pointer (some ⟨g, 0, none⟩), .int .u64 (x : Int), .int .i64 (n : Int)] w fun e w' => e = .returned (.tuple #[]) ∧
      ∃ v', WR w' base g v' (l ++ low x n) ∧ Foot w w' g v.ownBlock ∧ Near w v.ownBlock v'.ownBlock := by
  obtain ⟨i0, hi0, hz0, hz1, hz2⟩ := info_parts u8_info
  have hg0 := h.1
  have hbg : base ≤ w.heap.size := by have := h.lt; omega
  have H0 := Lib.hid h
  clear h
  go_enter Tryd.func62, Tryd.ntmps62
  go_wp2_with (go_at_call 78; refine (isWidth_yes _ _ (by omega) (by omega)).mono ?_; rintro e w' ⟨rfl, rfl⟩)
  go_loopw [16] (fun i wr => ∃ k : Nat, k ≤ n ∧ i = .int .i64 k ∧ ∃ v', WR wr base g v' (l ++ low x k) ∧ Foot w wr g v.ownBlock ∧ Near w v.ownBlock v'.ownBlock) (fun i _ => n - (intOf i).toNat)
  case atStart => exact ⟨0, Nat.zero_le _, rfl, v, by simpa [low] using H0.out, Foot.refl _ _ _, Near.refl _ _⟩
  case round =>
    obtain ⟨k, hk, rfl, v', hw, hF, hN⟩ := hrel
    have HF := Lib.hid hF
    have HN := Lib.hid hN
    have HW := Lib.hid hw
    clear hF hN
    by_cases hkn : k < n
    · obtain ⟨L, hL⟩ : ∃ L, L = l ++ low x k := ⟨_, rfl⟩
      rw [← hL] at hw HW
      have hLl : L.length ≤ 1000000000056 := by rw [hL]; simp [low_length]; omega
      have HL := Lib.hid hL
      clear hL
      by_cases h8 : L.length % 8 = 0
      · obtain ⟨A, c', hv', _, _⟩ := hw.form
        subst hv'
        have c0 : wr.cell? ⟨g, 0, none⟩ = some (.slice A (bytesOf L).length c') := hw.2.1.cell 0
        have c1 : wr.cell? ⟨g, 1, none⟩ = some (.int .i64 (L.length : Nat)) := hw.2.1.cell 1
        have f0 := hw.2.1.free 0
        have H8 := Lib.hid h8
        have hbw : base ≤ wr.heap.size := by have := hw.lt; omega
        have h8' : ((L.length : Nat) : Int) % 8 = 0 := by omega
        have HD := Lib.hid (dat_one wr 0 5)
        have HO := Lib.hid (hw.2.2.alloc (.cells #[cel 0] 5))
        have HBl : Hid ((bytesOf L).length ≤ 1000000000000) := by
          show (bytesOf L).length ≤ 1000000000000
          rw [bytesOf_length]
          omega
        clear hw h8
        go_wp2_with (at_builtin; refine list_app _ rfl _ _ 27 rfl i0 Tryd.underlying27 hi0 hz0 hz1 hz2 rfl HO.out rfl HD.out rfl ?_ ?_ ?_)
        · have := HBl.out; simp; omega
        · simp; omega
        intro v1 w1 ho hgr hat
        obtain ⟨q0, q1, g0, g1, d, c, rfl, hdg, cd, fd, HM⟩ := mid_new ((Below.refl _ _).alloc (Nat.le_refl _) _) HW.out H8.out ho hgr (by simp) hat
        clear ho hgr hat
        obtain ⟨m, hme⟩ : ∃ m, m = L.length / 8 := ⟨_, rfl⟩
        have hm8 : m ≤ 1000000000056 := by omega
        have HM' : Hid (Mid (w1.setCell ⟨g, 0, none⟩ (.slice (some ⟨d, 0, none⟩) (m + 1) c)) base g (.slice (some ⟨d, 0, none⟩) (L.length / 8 + 1) c) L) := by rw [hme]; exact HM.out.1
        have HF' : Hid (Foot wr (w1.setCell ⟨g, 0, none⟩ (.slice (some ⟨d, 0, none⟩) (m + 1) c)) g (Value.slice A (bytesOf L).length c').ownBlock ∧ Near wr (Value.slice A (bytesOf L).length c').ownBlock (some d)) := by rw [hme]; exact HM.out.2
        rw [← hme] at cd fd
        rw [← hme]
        have HMm := Lib.hid hme
        clear hme HM cd fd
        go_wp2
        obtain ⟨p0, p1, pf0, pf1, pd, pfd⟩ := HM'.out.facts HMm.out
        generalize w1.setCell ⟨g, 0, none⟩ (.slice (some ⟨d, 0, none⟩) (m + 1) c) = w2 at *
        have hZ : ((pad L).getD (L.length / 8) 0).toNat < 256 := UInt8.toNat_lt _
        obtain ⟨Z, hZe⟩ : ∃ Z, Z = (pad L).getD (L.length / 8) 0 := ⟨_, rfl⟩
        rw [← hZe] at hZ pd
        have HZ := Lib.hid hZe
        have ew : IntKind.i64.wrap (m : Int) = (m : Int) := IntWalk.i64_in _ (by omega)
        have em : (m : Int) < (m : Int) + 1 := by omega
        clear hZe q0 q1 g0 g1 c0 c1 f0
        go_still_tail 21, (by kernel_rfl)
        change wpList _ _ _ _ _ w2.drew
        go_wp2
        go_roundw
        case rel =>
          have he := Mid.end_ (k := k) (p := 0) HM'.out hdg hx HZ.out HMm.out H8.out.symm
          rw [mod_twice] at he
          refine ⟨k + 1, by omega, by go_num, _, ?_, HF.out.trans HN.out (HF'.out.1.trans HF'.out.2 he.2), HN.out.trans (show Near wr _ (Value.slice (some ⟨d, 0, none⟩) (L.length / 8 + 1) c).ownBlock from HF'.out.2) HF.out.size⟩
          rw [low_succ, ← List.append_assoc, ← HL.out]
          exact he.1
        case measure => simp [intOf]; omega
      · have hmid : Mid wr base g v' L := ⟨hw.1, hw.2.1, by rw [show pad L = bytesOf L by simp [pad, h8]]; exact hw.2.2⟩
        obtain ⟨d, c, rfl, hdg, c0, c1, f0, f1, cd, fd⟩ := hmid.open_
        have HM := Lib.hid hmid
        have hZ : ((pad L).getD (L.length / 8) 0).toNat < 256 := UInt8.toNat_lt _
        clear hmid hw
        obtain ⟨Z, hZe⟩ : ∃ Z, Z = (pad L).getD (L.length / 8) 0 := ⟨_, rfl⟩
        obtain ⟨m, hme⟩ : ∃ m, m = L.length / 8 := ⟨_, rfl⟩
        obtain ⟨p, hpe⟩ : ∃ p, p = L.length % 8 := ⟨_, rfl⟩
        have hp8 : p < 8 := by omega
        have h8' : ((p : Int) == 0) = false := by simp; omega
        have hm8 : m ≤ 1000000000056 := by omega
        have e7 : ((L.length : Nat) : Int) % 8 = (p : Int) := by omega
        rw [← hZe] at hZ cd
        rw [← hme] at c0 cd fd
        have HZ := Lib.hid hZe
        have HMm := Lib.hid hme
        have HP := Lib.hid hpe
        clear hZe hme hpe h8
        have ew : IntKind.i64.wrap (m : Int) = (m : Int) := IntWalk.i64_in _ (by omega)
        have em : (m : Int) < (m : Int) + 1 := by omega
        go_wp2
        go_still_tail 21, (by kernel_rfl)
        change wpList _ _ _ _ _ wr.drew
        go_wp2
        go_roundw
        case rel =>
          have he := Mid.end_ (k := k) HM.out hdg hx HZ.out HMm.out HP.out
          refine ⟨k + 1, by omega, by go_num, _, ?_, HF.out.trans HN.out he.2, HN.out⟩
          rw [low_succ, ← List.append_assoc, ← HL.out]
          exact he.1
        case measure => simp [intOf]; omega
    · go_wp2
      go_end0
      obtain rfl : k = n := by omega
      exact ⟨rfl, v', HW.out, HF.out, HN.out⟩

/-- What is written of a number: nothing, where it may not have so many bits. -/
def lows (x : Nat) (n : Int) : List Bool := if wid n then low x n.toNat else []
theorem lows_len (x : Nat) (n : Int) : (lows x n).length ≤ 56 := by
  unfold lows
  split
  · next h => simp [wid] at h; rw [low_length]; omega
  · simp

theorem write_any {w : World} {base g : Nat} {v : Value} {l : List Bool} (x : Nat) (n : Int) (h : WR w base g v l) (hx : x < 18446744073709551616) (hb : l.length ≤ 1000000000000) :
    Calls Tryd.prog 62 #[.pointer (some ⟨g, 0, none⟩), .int .u64 (x : Int), .int .i64 n] w fun e w' => e = .returned (.tuple #[]) ∧
      ∃ v', WR w' base g v' (l ++ lows x n) ∧ Foot w w' g v.ownBlock ∧ Near w v.ownBlock v'.ownBlock := by
  by_cases hn : wid n = true
  · have hn' : 1 ≤ n ∧ n ≤ 56 := by simpa [wid] using hn
    rw [show lows x n = low x n.toNat by simp [lows, hn]]
    obtain ⟨k, rfl⟩ := Int.eq_ofNat_of_zero_le (show 0 ≤ n by omega)
    exact write_yes x k h (by omega) (by omega) hx hb
  · have hn' : wid n = false := by simpa using hn
    rw [show lows x n = [] by simp [lows, hn']]
    refine (write_no _ _ hn').mono fun e w' ⟨he, hw⟩ => ?_
    subst hw
    exact ⟨he, v, by simpa using h, Foot.refl _ _ _, Near.refl _ _⟩

theorem out_any {w : World} {base g : Nat} {v : Value} {l : List Bool} (h : WR w base g v l) (hb : l.length ≤ 1000000000000) :
    Calls Tryd.prog 67 #[.pointer (some ⟨g, 0, none⟩)] w fun e w' => ∃ v', e = .returned v' ∧ OwB w' 5 w.heap.size v' (bytesOf l) ∧ Below w.heap.size w w' := by
  obtain ⟨hg, h1, h2⟩ := h
  obtain ⟨A, c, rfl, hc, hd⟩ := h2.form
  have hc0 : w.cell? ⟨g, 0, none⟩ = some (.slice A (bytesOf l).length c) := h1.cell 0
  have hC := Lib.hid (clone_any (c := c) hd rfl (by rw [bytesOf_length]; omega) (Nat.le_refl _))
  clear h1 h2 hd hb
  go_enter Tryd.func67, Tryd.ntmps67
  go_wp2_with (go_at_call 80; refine hC.out.mono ?_; rintro e w1 ⟨v, rfl, hq⟩)
  go_ret
  exact ⟨_, rfl, hq⟩

theorem OwB.mono {w : World} {u base b : Nat} {v : Value} {xs : List UInt8} (h : OwB w u base v xs) (hb : b ≤ base) : OwB w u b v xs := by
  refine ⟨h.1, ?_⟩
  rcases h.2 with hn | ⟨g, cap, cur, hv, hg, q⟩
  · exact .inl hn
  · exact .inr ⟨g, cap, cur, hv, by omega, q⟩
/-- What Closed closes: where its block came behind the bytes. -/
theorem closed_behind {w w1 : World} {v1 : Value} {l : List Bool} (ho : OwB w1 5 w.heap.size v1 (bytesOf l)) (hB : Below w.heap.size w.drew w1) :
    ∃ bv v, Value.pointer (some ⟨w1.heap.size, 0, none⟩) = .pointer (some ⟨bv, 0, none⟩) ∧ WR (w1.alloc (.cells #[v1, .int .i64 (l.length : Nat)] 130)) w.heap.size bv v l ∧ Below w.heap.size w (w1.alloc (.cells #[v1, .int .i64 (l.length : Nat)] 130)) :=
  ⟨_, v1, rfl, ⟨hB.size, Box.new _ _ _, ho.alloc _⟩, (((Below.refl _ _).drew).trans hB).alloc hB.size _⟩
theorem closed_ahead {w w1 : World} {v1 : Value} {l : List Bool} {z0 z1 : Value} {B : Nat} (hBe : B = w.heap.size + 1) (ho : OwB w1 5 B v1 (bytesOf l)) (hB : Below B (w.alloc (.cells #[z0, z1] 130)).drew w1) :
    ∃ bv v, Value.pointer (some ⟨w.heap.size, 0, none⟩) = .pointer (some ⟨bv, 0, none⟩) ∧ WR ((w1.setCell ⟨w.heap.size, 0, none⟩ v1).setCell ⟨w.heap.size, 1, none⟩ (.int .i64 (l.length : Nat))) w.heap.size bv v l ∧
      Below w.heap.size w ((w1.setCell ⟨w.heap.size, 0, none⟩ v1).setCell ⟨w.heap.size, 1, none⟩ (.int .i64 (l.length : Nat))) := by
  have hb : Box w1 w.heap.size 130 #[z0, z1] := Box.below (w := (w.alloc (.cells #[z0, z1] 130)).drew) (Box.new w _ _) hB (by omega)
  have hB' : Below w.heap.size w w1 := (((Below.refl _ _).alloc (Nat.le_refl _) _).drew).trans (hB.mono (by omega))
  have hne : v1.ownBlock ≠ some w.heap.size := fun e => by have := (ho.block _ e).1; omega
  refine ⟨_, v1, rfl, ⟨Nat.le_refl _, (hb.put 0 _).put 1 _, ?_⟩, (hB'.setCell (Nat.le_refl _) _).setCell (Nat.le_refl _) _⟩
  exact ((ho.mono (by omega)).grown (Stp.set _ w.heap.size 0 _).1 (.inr hne)).grown (Stp.set _ w.heap.size 1 _).1 (.inr hne)

theorem behind_new {w w1 : World} {g : Nat} {u z0 z1 : Value} {t : TypeId} (hlt : g < w.heap.size) (c1 : w.cell? ⟨g, 1, none⟩ = some u) (hB : Below (w.alloc (.cells #[z0, z1] t)).drew.heap.size (w.alloc (.cells #[z0, z1] t)).drew w1) :
    w1.cell? ⟨g, 1, none⟩ = some u ∧ w1.cell? ⟨w.heap.size, 0, none⟩ = some z0 ∧ w1.cell? ⟨w.heap.size, 1, none⟩ = some z1 ∧ w1.frozen? ⟨w.heap.size, 0, none⟩ = false ∧ w1.frozen? ⟨w.heap.size, 1, none⟩ = false := by
  have hb : Box w1 w.heap.size t #[z0, z1] := Box.below (w := (w.alloc (.cells #[z0, z1] t)).drew) (Box.new w _ _) hB (by simp [World.drew])
  refine ⟨?_, hb.cell 0, hb.cell 1, hb.free 0, hb.free 1⟩
  have hB' : Below w.heap.size w w1 := (((Below.refl _ _).alloc (Nat.le_refl _) _).drew).trans (hB.mono (by simp [World.drew]))
  exact (hB'.cell (p := ⟨g, 1, none⟩) hlt).trans c1

theorem cell?_far {w : World} {g h i : Nat} (j : Nat) (u : Value) (hne : g ≠ h) : (w.setCell ⟨h, j, none⟩ u).cell? ⟨g, i, none⟩ = w.cell? ⟨g, i, none⟩ :=
  World.cell?_of_block (Below.heap_setCell w _ u g hne)
end Go.Proofs.YtpdnmhnnngcbjaaDoor
