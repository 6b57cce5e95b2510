
/- The document's example of sequences answers true, in whatever world, and nothing that was there has turned. -/
import Derived.Test.YtlidnialggpcpaaGreatDoorSeqWrite
import Derived.Test.YtlidnialggpcpaaGreatDoorSeqRead
namespace Go.Proofs.YtlidnialggpcpaaGreatDoor
open Go.RowKit

/-- Records that a block holds. -/
theorem datR_box {α : Type} {z : Nat} {f : α → List Value} {w : World} {b : Nat} {t : TypeId} {cs : Array Value} {xs : List α} (hz : ∀ x, (f x).length = z) (h : Box w b t cs) (hcs : cs.toList = xs.flatMap f) : DatR z f w b (b + 1) (some ⟨b, 0, none⟩) xs := fun hx =>
  ⟨b, 0, rfl, Nat.le_refl _, by omega, fun j hj i v hv => by
    have hi : i < z := by
      have := (List.getElem?_eq_some_iff.1 hv).1
      rw [hz] at this
      exact this
    rw [h.cell, ← Array.getElem?_toList, hcs, Nat.zero_add, flat_get hz _ j i hj hi]
    exact hv⟩
/-- No tables. -/
def noTs : Ts := ⟨fun _ => 0, fun _ => none, fun _ => 0, fun _ => 0⟩
theorem noTs_val : noTs.val = .agg #[.int .i64 0, .slice none 0 0, .int .i64 0, .slice none 0 0, .int .i64 0, .slice none 0 0] := rfl
theorem read_none {own : Bool} {B : Nat} {w : World} {lo hi m c : Nat} {A : Option Addr} {xs : List UInt8} (hgl : GS B w) (hd : Dat own w lo hi A xs) (hhi : hi ≤ w.heap.size) (hm : xs.length = m) (hl : xs.length ≤ 1000000000) :
    Calls Tryz.prog 8 #[.slice A m c, .agg #[.int .i64 0, .slice none 0 0, .int .i64 0, .slice none 0 0, .int .i64 0, .slice none 0 0]] w (ReadPost13 (readS xs) w) := by
  rw [← noTs_val]
  exact read13_any (x0 := noTs) (hi2 := 0) hgl hd hhi hm hl (fun k _ => .inl ⟨rfl, rfl⟩) (Nat.zero_le _) (fun _ _ _ _ _ _ _ _ => rfl)
def twoQ : List Sq := [⟨20, 3, 9⟩, ⟨0, 70, 1⟩]
theorem two_ok : ∀ q ∈ twoQ, okQ q = true := by
  intro q hq
  simp [twoQ] at hq
  rcases hq with rfl | rfl <;> decide +kernel
set_option maxRecDepth 100000 in
set_option maxHeartbeats 4000000 in
theorem seq_awake {B : Nat} (w : World) (hgl : GS B w) :
    Calls Tryz.prog 7 #[] w fun e w' => e = .returned (.bool true) ∧ Below w.heap.size w w' := by
  have hBw := hgl.size
  have HG := Lib.hid hgl
  have HW1 := Lib.hid (write13_any (qs := []) (A := none) (n := 0) (c := 0) (lo := 0) (hi := 0) hgl (DatR.nil _ _ _ _ _ _) (Nat.zero_le _) rfl (by omega) (fun q hq => by cases hq))
  clear hgl
  go_enter Tryz.func7, Tryz.ntmps7
  go_wp2_with fail
  refine HW1.out.mono ?_
  rintro e w1 ⟨hB1, ⟨_, v1, bs1, rfl, ho1, _, ⟨_, rfl⟩ | ⟨hne, _⟩⟩ | ⟨hno, _⟩⟩
  · obtain ⟨A1, c1, rfl, hc1, hd1⟩ := ho1.form
    have HB1 := Lib.hid hB1
    have HD1 := Lib.hid hd1
    have hs1 := hB1.size
    obtain ⟨W2, hW2⟩ : ∃ W2, W2 = w1.alloc (.cells #[.int .u32 20, .int .u32 3, .int .u32 9, .int .u32 0, .int .u32 70, .int .u32 1] 47) := ⟨_, rfl⟩
    have hb2 : Below w1.heap.size w1 W2 := by rw [hW2]; exact (Below.refl _ _).alloc (Nat.le_refl _) _
    have hx2 : Box W2 w1.heap.size 47 #[.int .u32 20, .int .u32 3, .int .u32 9, .int .u32 0, .int .u32 70, .int .u32 1] := by rw [hW2]; exact Box.new w1 _ _
    have hz2 : W2.heap.size = w1.heap.size + 1 := by rw [hW2]; simp
    have hd2 : DatR 3 scell W2 w1.heap.size (w1.heap.size + 1) (some ⟨w1.heap.size, 0, none⟩) twoQ := datR_box scell_len hx2 rfl
    have HW2 := Lib.hid (write13_any (c := 2) ((HG.out.below hB1 hBw).below hb2 (by omega)) hd2 (by omega) (show twoQ.length = 2 from rfl) (by omega) (fun q hq => by simp [twoQ] at hq; rcases hq with rfl | rfl <;> exact ⟨by decide, by decide, by decide⟩))
    have HB2 := Lib.hid (hB1.trans (hb2.mono hs1))
    have HD2 := Lib.hid (hd1.below hb2 (Nat.le_refl _))
    clear ho1 hc1 hd1 hB1 hb2 hx2 hd2 HW1 HD1
    go_wp2_with fail
    rw [← hW2]
    clear hW2
    refine HW2.out.mono ?_
    rintro e w3 ⟨hB3, ⟨_, v3, bs3, rfl, ho3, hl3, ⟨hne, _⟩ | ⟨_, _, T, hrd, hT, _⟩⟩ | ⟨hno, _⟩⟩
    · cases hne
    · obtain ⟨A3, c3, rfl, hc3, hd3⟩ := ho3.form
      have hs3 := hB3.size
      have HB3 := Lib.hid (HB2.out.trans (hB3.mono (by omega)))
      have HD3 := Lib.hid (HD2.out.below hB3 (by omega))
      have HR := Lib.hid (read_none (c := c3) (HG.out.below HB3.out hBw) hd3 (Nat.le_refl _) rfl (by omega))
      rw [hrd] at HR
      obtain ⟨n3, hn3⟩ : ∃ n3, n3 = bs3.length := ⟨_, rfl⟩
      rw [← hn3] at HR ⊢
      clear ho3 hc3 hd3 hB3 hrd HB2 HD2 HW2 hl3 hn3
      go_wp2_with fail
      refine HR.out.mono ?_
      rintro e w4 ⟨hB4, v4, x, rfl, ho4, hti⟩
      obtain ⟨hti, _⟩ := hti T rfl
      have hn0 : 0 < x.n 0 := by rw [hti.n 0 (by omega)]; exact (hT.tb (k := 0) (by omega)).pos
      obtain ⟨d4, c4, rfl, hd4l, hd4, hc4⟩ := ho4.place (by decide)
      have hs4 := hB4.size
      obtain ⟨W5, hW5⟩ : ∃ W5, W5 = w4.alloc (.cells x.cells 29) := ⟨_, rfl⟩
      have hb5 : Below w4.heap.size w4 W5 := by rw [hW5]; exact (Below.refl _ _).alloc (Nat.le_refl _) _
      have hx5 : Box W5 w4.heap.size 29 x.cells := by rw [hW5]; exact Box.new w4 _ _
      obtain ⟨⟨t0, t1, t2, t3, t4, t5⟩, _⟩ := box6 hx5
      have ho5 := ho4.below hb5 (Nat.le_refl _)
      obtain ⟨y0, y1, y2⟩ := (ho5.cellsS 0 (by decide)).1
      obtain ⟨z0, z1, z2⟩ := (ho5.cellsS 1 (by decide)).1
      have hd5 := (HD3.out.below hB4 (by omega)).below hb5 (by omega)
      obtain ⟨d1, o1, rfl, _, _, hc1, _⟩ := hd5 (by decide)
      have k0 : W5.cell? ⟨d1, o1, none⟩ = some (.int .u8 0) := hc1 0 (by decide)
      have HB5 := Lib.hid ((HB3.out.trans (hB4.mono (by omega))).trans (hb5.mono (by omega)))
      clear hb5 hx5 ho5 hd5 hc1 ho4 hB4 hti hT HR HB3 HD3
      simp [twoQ] at y0 y1 y2 z0 z1 z2
      unfold Ts.val
      go_upto_region 4 with (fail)
      change Code.wp _ _ _ _ (w4.alloc (.cells x.cells 29))
      rw [← hW5]
      clear hW5
      go_wp2_with fail
      go_ret
      exact ⟨rfl, HB5.out⟩
    · exact absurd two_ok hno
  · exact absurd rfl hne
  · exact absurd (fun q hq => by cases hq) hno
end Go.Proofs.YtlidnialggpcpaaGreatDoor
