
/- The contract of the law's old: tables that may count. -/
import Derived.Test.YtlidnialggpcpaaGreatDoorSeqTbs
import Derived.Test.YtlidnialggpcpaaGreatDoorSeqCopied
import Derived.Test.YtlidnialggpcpaaGreatDoorPileD
namespace Go.Proofs.YtlidnialggpcpaaGreatDoor
open Go.RowKit

theorem and3_u8 (b : Nat) (h : b < 256) : bits .and .u8 (b : Int) 3 = ((b % 4 : Nat) : Int) := by
  have key : ∀ b : Fin 256, bits .and .u8 ((b.val : Nat) : Int) 3 = ((b.val % 4 : Nat) : Int) := by decide +kernel
  exact key ⟨b, h⟩
/-- A table that may count: none, or one that has entries. -/
def OldP (w : World) (A : Option Addr) (n : Nat) : Prop := (A = none ∧ n = 0) ∨ ∃ es, DatR 3 ecell w 0 w.heap.size A es ∧ es.length = n ∧ 0 < n ∧ n ≤ 512 ∧ Fine es
theorem OldP.via {w w' : World} {A : Option Addr} {n : Nat} (h : OldP w A n) (hs : ∀ d o s, A = some ⟨d, o, s⟩ → d < w.heap.size → w'.heap[d]? = w.heap[d]?) (hz : w.heap.size ≤ w'.heap.size) : OldP w' A n := by
  rcases h with h | ⟨es, h1, h2⟩
  · exact .inl h
  · refine .inr ⟨es, fun hx => ?_, h2⟩
    obtain ⟨d, o, hA, q1, q2, hc⟩ := h1 hx
    exact ⟨d, o, hA, q1, by omega, fun j hj k u hu => (World.cell?_of_block (hs d o _ hA q2)).trans (hc j hj k u hu)⟩
theorem OldP.below {w w' : World} {A : Option Addr} {n : Nat} (h : OldP w A n) (hb : Below w.heap.size w w') : OldP w' A n := h.via (fun d _ _ _ hd => hb.block d hd) hb.size
theorem OldP.old {w : World} {A : Option Addr} {n : Nat} (h : OldP w A n) : OldT w w.heap.size A n := by
  rcases h with h | ⟨es, h1, h2, h3, h4, _⟩
  · exact .inl h
  · obtain ⟨d, o, hA, _⟩ := h1 (by omega)
    subst hA
    exact .inr ⟨_, es, rfl, h1, h2, by omega⟩
theorem OldP.model {w : World} {A : Option Addr} {n : Nat} (h : OldP w A n) : ∃ es, DatR 3 ecell w 0 w.heap.size A es ∧ es.length = n ∧ n ≤ 512 ∧ Fine es := by
  rcases h with ⟨rfl, rfl⟩ | ⟨es, h1, h2, h3, h4, h5⟩
  · exact ⟨[], DatR.nil _ _ _ _ _ _, rfl, by omega, fun i hi => absurd hi (by simp)⟩
  · exact ⟨es, h1, h2, h4, h5⟩
theorem fine_tok {n : Nat} {t : Tb} (hn : n < 3) (h : TOk n t) : Fine t.es := fun i hi => by
  obtain ⟨sy, b, e, h1, h2, h3, h4⟩ := h.ent i hi
  have := h.small
  exact ⟨sy, b, e, h1, by have := last_le n hn; omega, h3, by omega⟩
theorem fine_one13 {z : Nat} (h : z < 256) : Fine [⟨(z : Int), 0, 0⟩] := fun i hi => by
  obtain rfl : i = 0 := by simpa using hi
  exact ⟨z, 0, 0, rfl, h, by omega, by omega⟩
theorem part_zero (x : Ts) {k : Nat} (h : k < 3) : (x.with k 0 none 0 0).part (k + 1) = x.part k := by
  rcases (show k = 0 ∨ k = 1 ∨ k = 2 by omega) with rfl | rfl | rfl <;> rfl
/-- Three bytes. -/
def kcells (kb : Nat → Nat) : Array Value := #[.int .u8 (kb 0 : Int), .int .u8 (kb 1 : Int), .int .u8 (kb 2 : Int)]
theorem kcells_at (kb : Nat → Nat) {k : Nat} (h : k < 3) : (kcells kb)[k]? = some (.int .u8 (kb k : Int)) := by
  rcases (show k = 0 ∨ k = 1 ∨ k = 2 by omega) with rfl | rfl | rfl <;> rfl
/-- What stands in the loop of old behind k tables. -/
structure OlI (w wx : World) (kb : Nat → Nat) (x : Ts) (k : Nat) : Prop where
  bk : Box wx w.heap.size 41 (kcells kb)
  br : Box wx (w.heap.size + 1) 29 #[.int .i64 0, .slice none 0 0, .int .i64 0, .slice none 0 0, .int .i64 0, .slice none 0 0]
  bt : Box wx (w.heap.size + 1 + 1) 29 (x.part k)
  ol : ∀ j, j < k → OldP wx (x.A j) (x.n j) ∧ ∀ d o s, x.A j = some ⟨d, o, s⟩ → w.heap.size + 3 ≤ d
  be : Below w.heap.size w wx
  sz : w.heap.size + 3 ≤ wx.heap.size
theorem OlI.next {w wx w1 : World} {kb : Nat → Nat} {x : Ts} {k : Nat} (hk : k < 3) (h : OlI w wx kb x k) (hb : Below wx.heap.size wx w1) {l : Nat} {A : Option Addr} {n c : Nat} (ho : OldP w1 A n) (hl : ∀ d o s, A = some ⟨d, o, s⟩ → w.heap.size + 3 ≤ d) :
    OlI w ((w1.setCell ⟨w.heap.size + 1 + 1, k * 2, none⟩ (.int .i64 (l : Int))).setCell ⟨w.heap.size + 1 + 1, k * 2 + 1, none⟩ (.slice A n c)) kb (x.with k l A n c) (k + 1) := by
  have hz := hb.size
  have hs := h.sz
  have hn : ∀ j, j ≠ w.heap.size + 1 + 1 → ((w1.setCell ⟨w.heap.size + 1 + 1, k * 2, none⟩ (.int .i64 (l : Int))).setCell ⟨w.heap.size + 1 + 1, k * 2 + 1, none⟩ (.slice A n c)).heap[j]? = w1.heap[j]? := fun j hj => by
    rw [Below.heap_setCell _ _ _ j hj, Below.heap_setCell _ _ _ j hj]
  have hsz : ((w1.setCell ⟨w.heap.size + 1 + 1, k * 2, none⟩ (.int .i64 (l : Int))).setCell ⟨w.heap.size + 1 + 1, k * 2 + 1, none⟩ (.slice A n c)).heap.size = w1.heap.size := by simp [World.setCell]
  refine ⟨(h.bk.below hb (by omega)).keep (hn _ (by omega)), (h.br.below hb (by omega)).keep (hn _ (by omega)), ?_, fun j hj => ?_, ((h.be.trans (hb.mono h.be.size)).setCell (by show w.heap.size ≤ w.heap.size + 1 + 1; omega) _).setCell (by show w.heap.size ≤ w.heap.size + 1 + 1; omega) _, by omega⟩
  · have := ((h.bt.below hb (by omega)).put (k * 2) (.int .i64 (l : Int))).put (k * 2 + 1) (.slice A n c)
    rw [x.part_with hk l A n c] at this
    exact this
  · by_cases e : j = k
    · subst e
      unfold Ts.with
      dsimp only
      rw [if_pos rfl, if_pos rfl]
      exact ⟨ho.via (fun d o s e _ => hn d (by have := hl d o s e; omega)) (by omega), hl⟩
    · unfold Ts.with
      dsimp only
      rw [if_neg e, if_neg e]
      obtain ⟨h1, h2⟩ := h.ol j (by omega)
      exact ⟨(h1.below hb).via (fun d o s e _ => hn d (by have := h2 d o s e; omega)) (by omega), h2⟩
theorem OlI.skip {w wx : World} {kb : Nat → Nat} {x : Ts} {k : Nat} (hk : k < 3) (h : OlI w wx kb x k) : OlI w wx kb (x.with k 0 none 0 0) (k + 1) := by
  refine ⟨h.bk, h.br, by rw [part_zero x hk]; exact h.bt, fun j hj => ?_, h.be, h.sz⟩
  by_cases e : j = k
  · subst e
    unfold Ts.with
    dsimp only
    rw [if_pos rfl, if_pos rfl]
    exact ⟨.inl ⟨rfl, rfl⟩, fun d o s e => by cases e⟩
  · unfold Ts.with
    dsimp only
    rw [if_neg e, if_neg e]
    exact h.ol j (by omega)
section
variable {B : Nat} {w : World} {kb : Nat → Nat}
set_option maxRecDepth 100000 in
set_option maxHeartbeats 4000000 in
theorem old_any (hgl : GS B w) (hkb : ∀ k, k < 3 → kb k < 256) :
    Calls Tryz.prog 14 #[.agg (kcells kb)] w fun e w' => ∃ x : Ts, e = .returned x.val ∧ (∀ k, k < 3 → OldP w' (x.A k) (x.n k)) ∧ Below w.heap.size w w' := by
  have hBw := hgl.size
  obtain ⟨W, hW⟩ : ∃ W, W = ((w.alloc (.cells (kcells kb) 41)).alloc (.cells #[.int .i64 0, .slice none 0 0, .int .i64 0, .slice none 0 0, .int .i64 0, .slice none 0 0] 29)).alloc (.cells #[.int .i64 0, .slice none 0 0, .int .i64 0, .slice none 0 0, .int .i64 0, .slice none 0 0] 29) := ⟨_, rfl⟩
  have HI0 : Hid (OlI w W kb ⟨fun _ => 0, fun _ => none, fun _ => 0, fun _ => 0⟩ 0) := by
    rw [hW]
    have h1 := Box.new (w.alloc (.cells (kcells kb) 41)) 29 #[.int .i64 0, .slice none 0 0, .int .i64 0, .slice none 0 0, .int .i64 0, .slice none 0 0]
    have h2 := Box.new ((w.alloc (.cells (kcells kb) 41)).alloc (.cells #[.int .i64 0, .slice none 0 0, .int .i64 0, .slice none 0 0, .int .i64 0, .slice none 0 0] 29)) 29 #[.int .i64 0, .slice none 0 0, .int .i64 0, .slice none 0 0, .int .i64 0, .slice none 0 0]
    rw [World.size_alloc] at h1
    rw [World.size_alloc, World.size_alloc] at h2
    exact ⟨((Box.new w _ _).alloc _).alloc _, h1.alloc _, h2, fun j hj => absurd hj (by omega), (((Below.refl _ _).alloc (Nat.le_refl _) _).alloc (by simp) _).alloc (by simp; omega) _, by simp⟩
  have HG := Lib.hid hgl
  have HKb := Lib.hid hkb
  clear hgl hkb
  unfold kcells
  go_enter Tryz.func14, Tryz.ntmps14
  go_upto_region 2 with (fail)
  change Code.wp _ _ _ _ (((w.alloc (.cells (kcells kb) 41)).alloc (.cells #[.int .i64 0, .slice none 0 0, .int .i64 0, .slice none 0 0, .int .i64 0, .slice none 0 0] 29)).alloc (.cells #[.int .i64 0, .slice none 0 0, .int .i64 0, .slice none 0 0, .int .i64 0, .slice none 0 0] 29))
  rw [← hW]
  clear hW
  go_wp2_with fail
  go_loopg [4, 12, 13, 22] 3 (fun gh i i12 i13 i22 wx => ∃ (k : Nat) (x : Ts), k + gh = 3 ∧ i = .int .i64 (k : Int) ∧ Hid (OlI w wx kb x k))
  case atStart => exact ⟨0, _, rfl, rfl, HI0⟩
  case round =>
    obtain ⟨k, x, hk, rfl, HE⟩ := hrel
    have HK := Lib.hid hk
    have hk3 : k ≤ 3 := by omega
    clear hk HI0
    by_cases hlt : k < 3
    · obtain ⟨g', rfl⟩ : ∃ g', gk = g' + 1 := ⟨gk - 1, by have := HK.out; omega⟩
      have hki : (k : Int) < 3 := by omega
      have hkv := HKb.out k hlt
      have q0 := (HE.out.bk.cell k).trans (kcells_at kb hlt)
      have hand := and3_u8 (kb k) hkv
      have hpt := x.part_at hlt
      have hsz := HE.out.sz
      obtain ⟨b, hb⟩ : ∃ b, b = kb k := ⟨_, rfl⟩
      rw [← hb] at q0 hand hkv
      clear hb
      by_cases h1 : b % 4 = 1
      · rw [h1] at hand
        have HD := Lib.hid (default_any k wr (HG.out.t.below HE.out.be hBw) hlt)
        go_wp2_with fail
        refine HD.out.mono ?_
        rintro e w1 ⟨v1, rfl, ho1, hB1⟩
        obtain ⟨A1, c1, rfl, hc1, hd1⟩ := ho1.form ecell_len
        have hbt1 := HE.out.bt.below hB1 (by omega)
        have s0 := (hbt1.cell (k * 2)).trans hpt.1
        have s1 := (hbt1.cell (k * 2 + 1)).trans hpt.2
        have s2 := hbt1.free (k * 2)
        have s3 := hbt1.free (k * 2 + 1)
        have hlen := tabG_len hlt
        have hN64 : 2 ^ logN k ≤ 2 ^ 6 := Nat.pow_le_pow_right (by omega) (log_le k hlt)
        have hN1 : 1 ≤ 2 ^ logN k := Nat.one_le_two_pow
        have HF := Lib.hid (HE.out.next (l := logN k) (A := A1) (n := (tabG k).length) (c := c1) hlt hB1 (.inr ⟨tabG k, hd1.mono (Nat.zero_le _) (Nat.le_refl _), rfl, by omega, by omega, fine_tok hlt (tok_given hlt)⟩) (fun d o s e => by have := (ho1.block d (by rw [e]; rfl)).1; omega))
        generalize (tabG k).length = N at *
        generalize logN k = lg at *
        clear ho1 hc1 hd1 hbt1 hlen hN64 hN1 HD hB1
        go_wp2_with fail
        go_roundg g'
        case rel => exact ⟨k + 1, _, by have := HK.out; omega, by go_num, HF⟩
        case measure => omega
      · by_cases h2 : b % 4 = 2
        · rw [h2] at hand
          have hq : (b : Int) / 4 = ((b / 4 : Nat) : Int) := by omega
          obtain ⟨q, hqq⟩ : ∃ q, q = b / 4 := ⟨_, rfl⟩
          rw [← hqq] at hq
          have hq64 : q < 64 := by omega
          obtain ⟨z, hz⟩ : ∃ z, z = q % 30 := ⟨_, rfl⟩
          have hz30 : z < 30 := by omega
          have hqm : (q : Int) % 30 = (z : Int) := by omega
          have hw1 : IntKind.u8.wrap (q : Int) = (q : Int) := by rw [IntKind.wrap_u8]; omega
          have hw2 : IntKind.u8.wrap (z : Int) = (z : Int) := by rw [IntKind.wrap_u8]; omega
          clear hqq hz
          have HD := Lib.hid (one_any (z : Int) wr)
          go_wp2_with fail
          refine HD.out.mono ?_
          rintro e w1 ⟨v1, rfl, ho1, hB1⟩
          obtain ⟨A1, c1, rfl, hc1, hd1⟩ := ho1.form ecell_len
          have hbt1 := HE.out.bt.below hB1 (by omega)
          have s0 := (hbt1.cell (k * 2)).trans hpt.1
          have s1 := (hbt1.cell (k * 2 + 1)).trans hpt.2
          have s2 := hbt1.free (k * 2)
          have s3 := hbt1.free (k * 2 + 1)
          have HF := Lib.hid (HE.out.next (l := 0) (A := A1) (n := 1) (c := c1) hlt hB1 (.inr ⟨_, hd1.mono (Nat.zero_le _) (Nat.le_refl _), rfl, by omega, by omega, fine_one13 (by omega)⟩) (fun d o s e => by have := (ho1.block d (by rw [e]; rfl)).1; omega))
          clear ho1 hc1 hd1 hbt1 HD hB1
          go_wp2_with fail
          go_roundg g'
          case rel => exact ⟨k + 1, _, by have := HK.out; omega, by go_num, HF⟩
          case measure => omega
        · have hn1 : ((b % 4 : Nat) : Int) ≠ 1 := by omega
          have hn2 : ((b % 4 : Nat) : Int) ≠ 2 := by omega
          have hm1 : (((b % 4 : Nat) : Int) == 1) = false := by simp; omega
          have hm2 : (((b % 4 : Nat) : Int) == 2) = false := by simp; omega
          generalize b % 4 = r4 at *
          have HF := Lib.hid (HE.out.skip hlt)
          go_wp2_with fail
          go_roundg g'
          case rel => exact ⟨k + 1, _, by have := HK.out; omega, by go_num, HF⟩
          case measure => omega
    · obtain rfl : k = 3 := by omega
      have hki : ¬ (3 : Int) < 3 := by omega
      have hbt := HE.out.bt
      rw [x.part_all] at hbt
      obtain ⟨⟨s0, s1, s2, s3, s4, s5⟩, _⟩ := box6 hbt
      obtain ⟨⟨c0, c1, c2, c3, c4, c5⟩, f0, f1, f2, f3, f4, f5⟩ := box6 HE.out.br
      have hbz : w.heap.size + 1 ≠ w.heap.size + 1 + 1 := by omega
      have HF : Hid ((∀ k, k < 3 → OldP (set6 wr (w.heap.size + 1) (.int .i64 (x.l 0 : Int)) (.slice (x.A 0) (x.n 0) (x.c 0)) (.int .i64 (x.l 1 : Int)) (.slice (x.A 1) (x.n 1) (x.c 1)) (.int .i64 (x.l 2 : Int)) (.slice (x.A 2) (x.n 2) (x.c 2))) (x.A k) (x.n k)) ∧ Below w.heap.size w (set6 wr (w.heap.size + 1) (.int .i64 (x.l 0 : Int)) (.slice (x.A 0) (x.n 0) (x.c 0)) (.int .i64 (x.l 1 : Int)) (.slice (x.A 1) (x.n 1) (x.c 1)) (.int .i64 (x.l 2 : Int)) (.slice (x.A 2) (x.n 2) (x.c 2)))) := by
        refine ⟨fun k hk => ?_, ?_⟩
        · obtain ⟨h1, h2⟩ := HE.out.ol k hk
          exact h1.via (fun d o s e _ => set6_heap d (by have := h2 d o s e; omega)) (by rw [set6_size]; exact Nat.le_refl _)
        · exact (((((HE.out.be.setCell (by show w.heap.size ≤ w.heap.size + 1; omega) _).setCell (by show w.heap.size ≤ w.heap.size + 1; omega) _).setCell (by show w.heap.size ≤ w.heap.size + 1; omega) _).setCell (by show w.heap.size ≤ w.heap.size + 1; omega) _).setCell (by show w.heap.size ≤ w.heap.size + 1; omega) _).setCell (by show w.heap.size ≤ w.heap.size + 1; omega) _
      clear hbt HE
      go_wp2_with fail
      refine bodyPost_ret (v := x.val) (by simp [results, Tryz.results14, go_sem, Ts.val, c0, c1, c2, c3, c4, c5]) rfl ⟨x, rfl, HF.out⟩
end
end Go.Proofs.YtlidnialggpcpaaGreatDoor
