
/- The contracts of cursor's Writer, beside blocks of a set S that it does not turn. -/
import Derived.Test.YtlidnialggpcpaaGreatDoorPileA
namespace Go.Proofs.YtlidnialggpcpaaGreatDoor.cu
open Go.RowKit

/-- Block g is a writer that has the bytes xs, beside the blocks of S. -/
def WtrS (S : Nat → Prop) (w : World) (base g : Nat) (xs : List UInt8) : Prop := base ≤ g ∧ (∀ j, S j → j < w.heap.size ∧ j ≠ g) ∧ ∃ v, Box w g 148 #[v] ∧ OwB w 5 base v xs ∧ ∀ j, S j → v.ownBlock ≠ some j
/-- The blocks of S are as they were. -/
def Kept (S : Nat → Prop) (w w' : World) : Prop := ∀ j, S j → w'.heap[j]? = w.heap[j]?
theorem Kept.trans {S : Nat → Prop} {w w1 w2 : World} (h : Kept S w w1) (h2 : Kept S w1 w2) : Kept S w w2 := fun j hj => (h2 j hj).trans (h j hj)
theorem Kept.refl (S : Nat → Prop) (w : World) : Kept S w w := fun _ _ => rfl
theorem WtrS.wtr {S : Nat → Prop} {w : World} {base g : Nat} {xs : List UInt8} (h : WtrS S w base g xs) : Wtr w base g xs := by
  obtain ⟨h1, _, v, h2, h3, _⟩ := h
  exact ⟨h1, v, h2, h3⟩
theorem WtrS.lt {S : Nat → Prop} {w : World} {base g : Nat} {xs : List UInt8} (h : WtrS S w base g xs) : g < w.heap.size := h.wtr.lt
/-- Blocks that came after the writer's. -/
theorem Wtr.beside {w w' : World} {base g : Nat} {xs : List UInt8} (h : Wtr w base g xs) (hb : Below w.heap.size w w') {S : Nat → Prop} (hS : ∀ j, S j → w.heap.size ≤ j ∧ j < w'.heap.size) : WtrS S w' base g xs := by
  have hlt := h.lt
  obtain ⟨h1, v, h2, h3⟩ := h
  have hk : Wtr w' base g xs := Wtr.below ⟨h1, v, h2, h3⟩ hb (Nat.le_refl _)
  refine ⟨h1, fun j hj => ⟨(hS j hj).2, by have := (hS j hj).1; omega⟩, v, h2.below hb h2.lt, ?_, fun j hj e => by have := (h3.block j e).2; have := (hS j hj).1; omega⟩
  refine ⟨h3.1, ?_⟩
  rcases h3.2 with hn | ⟨g', cap, cur, hv, hbg, hh, r⟩
  · exact .inl hn
  · exact .inr ⟨g', cap, cur, hv, hbg, (hb.block g' (Array.getElem?_eq_some_iff.1 hh).1).trans hh, r⟩
theorem WtrS.open_ {S : Nat → Prop} {w : World} {base g : Nat} {xs : List UInt8} (h : WtrS S w base g xs) : ∃ A n c, w.cell? ⟨g, 0, none⟩ = some (.slice A n c) ∧ w.frozen? ⟨g, 0, none⟩ = false ∧ g < w.heap.size ∧
    Hid (Box w g 148 #[.slice A n c] ∧ OwB w 5 base (.slice A n c) xs ∧ (∀ j, S j → (Value.slice A n c).ownBlock ≠ some j) ∧ ∀ j, S j → j < w.heap.size ∧ j ≠ g) := by
  obtain ⟨hg, hS, v, h1, h2, h3⟩ := h
  obtain ⟨A, c, rfl, _, _⟩ := h2.form
  exact ⟨A, _, c, h1.cell 0, h1.free 0, h1.lt, h1, h2, h3, hS⟩
theorem wtrS_mid {S : Nat → Prop} {wr w0 w1 : World} {base g : Nat} {v v' : Value} {xs : List UInt8} (hB : Below wr.heap.size wr w0) (hx : Box wr g 148 #[v]) (ho : OwB wr 5 base v xs)
    (hn : ∀ j, S j → v.ownBlock ≠ some j) (hS : ∀ j, S j → j < wr.heap.size ∧ j ≠ g)
    (hgr : w0.grownBy w1 v.ownBlock) (hat : v'.ownBlock = v.ownBlock ∨ v'.ownBlock = some w0.heap.size) (hg : base ≤ g) :
    w1.cell? ⟨g, 0, none⟩ = some v ∧ w1.frozen? ⟨g, 0, none⟩ = false ∧ Hid ((Box w1 g 148 #[v] ∧ v'.ownBlock ≠ some g ∧ Below base wr w1) ∧ Kept S wr w1 ∧ (∀ j, S j → v'.ownBlock ≠ some j) ∧ ∀ j, S j → j < w1.heap.size ∧ j ≠ g) := by
  obtain ⟨q1, q2, q3⟩ := wtr_mid hB hx ho hgr hat hg
  have hz := hB.size
  refine ⟨q1, q2, q3.out, fun j hj => (hgr.block j (by have := (hS j hj).1; omega) (fun e => hn j hj e.symm)).trans (hB.block j (hS j hj).1), fun j hj => ?_, fun j hj => ⟨by have := (hS j hj).1; have := hgr.size; omega, (hS j hj).2⟩⟩
  rcases hat with e | e
  · rw [e]; exact hn j hj
  · rw [e]; intro h; injection h with h; have := (hS j hj).1; omega
theorem wtrS_end {S : Nat → Prop} {w w1 : World} {base g : Nat} {v v' : Value} {xs : List UInt8} (hm : (Box w1 g 148 #[v] ∧ v'.ownBlock ≠ some g ∧ Below base w w1) ∧ Kept S w w1 ∧ (∀ j, S j → v'.ownBlock ≠ some j) ∧ ∀ j, S j → j < w1.heap.size ∧ j ≠ g) (ho : OwB w1 5 base v' xs) (hg : base ≤ g) :
    WtrS S (w1.setCell ⟨g, 0, none⟩ v') base g xs ∧ Below base w (w1.setCell ⟨g, 0, none⟩ v') ∧ Kept S w (w1.setCell ⟨g, 0, none⟩ v') :=
  ⟨⟨hg, fun j hj => ⟨by simpa [World.setCell] using (hm.2.2.2 j hj).1, (hm.2.2.2 j hj).2⟩, _, hm.1.1.put 0 _, ho.grown (Stp.set w1 g 0 v').1 (.inr hm.1.2.1), hm.2.2.1⟩, hm.1.2.2.setCell hg _, fun j hj => (Below.heap_setCell _ _ _ j (hm.2.2.2 j hj).2).trans (hm.2.1 j hj)⟩

theorem wbytesS_any {S : Nat → Prop} {own : Bool} {w : World} {base g lo hi : Nat} {A : Option Addr} {n c : Nat} {xs ys : List UInt8} (h : WtrS S w base g xs) (hd : Dat own w lo hi A ys) (hn : ys.length = n) (hb : xs.length + n ≤ 1099511627776) :
    Calls Tryz.prog 36 #[.pointer (some ⟨g, 0, none⟩), .slice A n c] w fun e w' => e = .returned (.tuple #[]) ∧ WtrS S w' base g (xs ++ ys) ∧ Below base w w' ∧ Kept S w w' := by
  obtain ⟨i0, hi0, hz0, hz1, hz2⟩ := info_parts u8_info
  have hg := h.1
  obtain ⟨A0, n0, c0, hc, hf, hlt, HO⟩ := h.open_
  have HD := Lib.hid hd
  have HN := Lib.hid hn
  clear h hd hn
  go_enter Tryz.func36, Tryz.ntmps36
  go_wp2_with (at_builtin; refine list_app _ rfl _ _ 22 rfl i0 Tryz.underlying22 hi0 hz0 hz1 hz2 rfl HO.out.2.1 rfl HD.out HN.out hb ?_ ?_)
  · omega
  intro v' w1 ho hgr hat
  obtain ⟨hc1, hf1, HM⟩ := wtrS_mid (Below.refl _ _) HO.out.1 HO.out.2.1 HO.out.2.2.1 HO.out.2.2.2 hgr hat hg
  obtain ⟨A', n', c', hv'⟩ : ∃ A' n' c', v' = .slice A' n' c' := (by obtain ⟨A', c', hv, _⟩ := ho.form; exact ⟨A', _, c', hv⟩)
  subst hv'
  have HO' := Lib.hid ho
  clear ho hgr hat
  go_wp2
  go_end0
  exact ⟨rfl, wtrS_end HM.out HO'.out hg⟩

set_option maxHeartbeats 400000 in
theorem wnumberS_yes {S : Nat → Prop} {w : World} {base g : Nat} {xs : List UInt8} (x m : Nat) (h : WtrS S w base g xs) (h1 : 1 ≤ m) (h8 : m ≤ 8) (hb : xs.length + m ≤ 1099511627776) :
    Calls Tryz.prog 65 #[.pointer (some ⟨g, 0, none⟩), .int .u64 (x : Int), .int .i64 (m : Int)] w fun e w' => e = .returned (.tuple #[]) ∧ WtrS S w' base g (xs ++ put x m) ∧ Below base w w' ∧ Kept S w w' := by
  obtain ⟨i0, hi0, hz0, hz1, hz2⟩ := info_parts u8_info
  have hg0 := h.1
  have hbg : base ≤ w.heap.size := by have := h.lt; omega
  have H0 := Lib.hid h
  clear h
  go_enter Tryz.func65, Tryz.ntmps65
  go_wp2_with (go_at_call 78; refine (isWidth_yes _ _ (by omega) (by omega)).mono ?_; rintro e w' ⟨rfl, rfl⟩)
  go_loopw [15] (fun i wr => ∃ k : Nat, k ≤ m ∧ i = .int .i64 k ∧ WtrS S wr base g (xs ++ put x k) ∧ Below base w wr ∧ Kept S w wr) (fun i _ => m - (intOf i).toNat)
  case atStart => exact ⟨0, Nat.zero_le _, rfl, by simpa [put] using H0.out, Below.refl _ _, Kept.refl _ _⟩
  case round =>
    obtain ⟨k, hk, rfl, hw, hB⟩ := hrel
    have HB := Lib.hid hB
    obtain ⟨A, n, c, hc, hf, hlt, HO⟩ := hw.open_
    have HW := Lib.hid hw
    clear hB hw
    by_cases hkm : k < m
    · go_wp2
      have hs : IntKind.i64.wrap (8 * (k : Int)) = 8 * (k : Int) := IntWalk.i64_in _ (by omega)
      have hs0 : (0 : Int) ≤ 8 * (k : Int) := by omega
      have hs1 : (8 * (k : Int)).toNat = 8 * k := by omega
      have HD : Hid (Dat true (wr.alloc (.cells #[.int .u8 (IntKind.u8.wrap ((x : Int) / 2 ^ (8 * k)))] 5)) wr.heap.size (wr.heap.size + 1) (some ⟨wr.heap.size, 0, none⟩) [UInt8.ofNat (x / 256 ^ k % 256)]) := by
        rw [byte_step]
        exact dat_one wr _ _
      go_region_law ((refine step_app _ rfl _ _ 22 rfl i0 Tryz.underlying22 hi0 hz0 hz1 hz2 rfl (OwB.drew (OwB.alloc HO.out.2.1 _)) rfl (Dat.drew HD.out) rfl (by rw [List.length_append, put_length]; omega) (by simp; omega) ?_; intro v' w1 ho hgr hat; obtain ⟨hc1, hf1, HM⟩ := wtrS_mid ((Below.refl _ _).alloc (Nat.le_refl _) _).drew HO.out.1 HO.out.2.1 HO.out.2.2.1 HO.out.2.2.2 hgr hat hg0; obtain ⟨A', n', c', hv'⟩ : ∃ A' n' c', v' = .slice A' n' c' := (by obtain ⟨A', c', hv, _⟩ := ho.form; exact ⟨A', _, c', hv⟩); subst hv'; have HO' := Lib.hid ho; clear ho hgr hat))
      all_goals
        go_wp2
        go_roundw
        case rel =>
          have he := wtrS_end HM.out HO'.out hg0
          rw [List.append_assoc, ← put_snoc] at he
          exact ⟨k + 1, by omega, by go_num, he.1, HB.out.1.trans he.2.1, HB.out.2.trans he.2.2⟩
        case measure => simp [intOf]; omega
    · go_wp2
      go_end0
      obtain rfl : k = m := by omega
      exact ⟨rfl, HW.out, HB.out⟩
end Go.Proofs.YtlidnialggpcpaaGreatDoor.cu
