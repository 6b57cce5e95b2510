
/- The contract of the law's sameTable, for two tables that hold the same entries. -/
import Derived.Test.YtchpaeelpaicbaaFseFirst
import Derived.Test.YtchpaeelpaicbaaFseRefP
namespace Go.Proofs.Ytchpaeelpaicbaa
open Go.RowKit

set_option maxRecDepth 100000 in
set_option maxHeartbeats 2000000 in
theorem sameTable_yes {w : World} {lo hi lo2 hi2 n c c2 : Nat} {A A2 : Option Addr} {es : List En} (L : Int) (hd : DatR 3 ecell w lo hi A es) (hd2 : DatR 3 rcell w lo2 hi2 A2 es) (hf : Fine es) (hn : es.length = n) (hn2 : n ≤ 65536) (hhi : hi ≤ w.heap.size) (hhi2 : hi2 ≤ w.heap.size) :
    Calls Try.prog 12 #[.agg #[.int .i64 L, .slice A n c], .agg #[.int .i64 L, .slice A2 n c2]] w fun e w' => e = .returned (.bool true) ∧ Below w.heap.size w w' := by
  have HD := Lib.hid hd
  have HD2 := Lib.hid hd2
  have HF := Lib.hid hf
  have HN := Lib.hid hn
  clear hd hd2 hf hn
  go_enter Try.func12, Try.ntmps12
  go_wp2_with fail
  have hb0 := (Box.new w 28 #[.int .i64 L, .slice A n c]).alloc (.cells #[.int .i64 L, .slice A2 n c2] 34)
  have hb1 := Box.new (w.alloc (.cells #[.int .i64 L, .slice A n c] 28)) 34 #[.int .i64 L, .slice A2 n c2]
  rw [World.size_alloc] at hb1
  have H0 := Lib.hid hb0
  have H1 := Lib.hid hb1
  have HB : Hid (Below w.heap.size w ((w.alloc (.cells #[.int .i64 L, .slice A n c] 28)).alloc (.cells #[.int .i64 L, .slice A2 n c2] 34))) := ((Below.refl _ _).alloc (Nat.le_refl _) _).alloc (by simp) _
  clear hb0 hb1
  generalize (w.alloc (.cells #[.int .i64 L, .slice A n c] 28)).alloc (.cells #[.int .i64 L, .slice A2 n c2] 34) = W at *
  go_loopg [5] n (fun gh i wx => ∃ k : Nat, k + gh = n ∧ i = .int .i64 (k : Int) ∧ Box wx w.heap.size 28 #[.int .i64 L, .slice A n c] ∧ Box wx (w.heap.size + 1) 34 #[.int .i64 L, .slice A2 n c2] ∧ Below w.heap.size w wx)
  case atStart => exact ⟨0, by omega, rfl, H0.out, H1.out, HB.out⟩
  case round =>
    clear H0 H1 HB
    obtain ⟨k, hk, rfl, hb0, hb1, hB⟩ := hrel
    have HK := Lib.hid hk
    have H0 := Lib.hid hb0
    have H1 := Lib.hid hb1
    have HB := Lib.hid hB
    have hsz := hB.size
    have hkn : k ≤ n := by omega
    obtain ⟨t0, t1, _, _⟩ := box2 hb0
    obtain ⟨r0, r1, _, _⟩ := box2 hb1
    clear hk hb0 hb1 hB
    by_cases hlt : k < n
    · obtain ⟨g', rfl⟩ : ∃ g', gk = g' + 1 := ⟨gk - 1, by have := HK.out; omega⟩
      have hki : (k : Int) < (n : Int) := by omega
      have hkl : k < es.length := by have := HN.out; omega
      obtain ⟨d, o, rfl, _, _, hc⟩ := (HD.out.below HB.out hhi).ent (by omega)
      obtain ⟨e0, e1, e2⟩ := hc k hkl
      obtain ⟨s, b, e, hx, hs256, hb15, _⟩ := HF.out k hkl
      rw [hx] at e0 e1 e2
      simp only at e0 e1 e2
      obtain ⟨dr, or, rfl, _, hdr, hcr⟩ := (HD2.out.below HB.out hhi2).ref (by omega)
      obtain ⟨x0, x1, x2⟩ := hcr k hkl
      rw [hx] at x0 x1 x2
      simp only at x0 x1 x2
      have hsw : IntKind.i64.wrap (s : Int) = (s : Int) := IntWalk.i64_in _ (by omega)
      have hk0 : (0 : Int) ≤ (k : Int) := by omega
      have HBe := Lib.hid (Box.new wr 67 #[.int .u8 (s : Int), .int .i64 (b : Int), .int .i64 (e : Int)])
      have HA := Lib.hid ((Below.refl wr.heap.size wr).alloc (Nat.le_refl _) (.cells #[.int .u8 (s : Int), .int .i64 (b : Int), .int .i64 (e : Int)] 67))
      clear hc hcr hx
      go_wp2_with fail
      have H0' := Lib.hid (H0.out.below HA.out H0.out.lt)
      have H1' := Lib.hid (H1.out.below HA.out H1.out.lt)
      have HB' := Lib.hid (HB.out.trans (HA.out.mono hsz))
      have x0' := (HA.out.cell (p := ⟨dr, or + k * 3, none⟩) (by show dr < wr.heap.size; omega)).trans x0
      have x1' := (HA.out.cell (p := ⟨dr, or + k * 3 + 1, none⟩) (by show dr < wr.heap.size; omega)).trans x1
      have x2' := (HA.out.cell (p := ⟨dr, or + k * 3 + 2, none⟩) (by show dr < wr.heap.size; omega)).trans x2
      have y0 := HBe.out.cell 0
      have y1 := HBe.out.cell 1
      have y2 := HBe.out.cell 2
      obtain ⟨_, r1', _, _⟩ := box2 H1'.out
      clear e0 e1 e2 x0 x1 x2 t0 t1 r0 r1 HA HBe
      generalize wr.alloc (.cells #[.int .u8 (s : Int), .int .i64 (b : Int), .int .i64 (e : Int)] 67) = W3 at *
      generalize wr.heap.size = g9 at *
      simp at y0 y1 y2
      go_quiet (fail)
      clear hsw
      go_wp2_with fail
      go_roundg g'
      case rel => exact ⟨k + 1, by have := HK.out; omega, by go_num, H0'.out, H1'.out, below_drawn HB'.out _⟩
      case measure => omega
    · obtain rfl : k = n := by omega
      have hki : ¬ (k : Int) < (k : Int) := by omega
      go_wp2_with fail
      go_ret
      exact ⟨rfl, HB.out⟩
/-- Two tables of nothing are the same. -/
theorem sameTable_none (w : World) :
    Calls Try.prog 12 #[.agg #[.int .i64 0, .slice none 0 0], .agg #[.int .i64 0, .slice none 0 0]] w fun e w' => e = .returned (.bool true) ∧ Below w.heap.size w w' :=
  sameTable_yes (lo := 0) (hi := 0) (lo2 := 0) (hi2 := 0) 0 (DatR.nil _ _ _ _ _ _) (DatR.nil _ _ _ _ _ _) (fun i h => absurd h (by simp)) rfl (by decide) (Nat.zero_le _) (Nat.zero_le _)
end Go.Proofs.Ytchpaeelpaicbaa
