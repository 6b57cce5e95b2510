
/- The contracts of cursor's Writer: what is written, one behind the other; of nil: nothing. -/
import Derived.Test.YtieepdhajjibpaaDoorCurClone
namespace Go.Proofs.YtieepdhajjibpaaDoor
open Go.RowKit

/-- Block g is a writer that has the bytes xs; all its memory lies from block base on. -/
def Wtr (w : World) (base g : Nat) (xs : List UInt8) : Prop := base ≤ g ∧ ∃ v, Box w g 84 #[v] ∧ OwB w 5 base v xs

section
variable {w w' : World} {base g : Nat} {xs : List UInt8}
theorem Wtr.lt (h : Wtr w base g xs) : g < w.heap.size := by
  obtain ⟨_, v, h1, _⟩ := h
  exact h1.lt
/-- A writer stays where only blocks below its own turn. -/
theorem Wtr.keep (h : Wtr w base g xs) (he : ∀ k, base ≤ k → k < w.heap.size → w'.heap[k]? = w.heap[k]?) : Wtr w' base g xs := by
  obtain ⟨hb, v, h1, h2⟩ := h
  refine ⟨hb, v, h1.keep (he g hb h1.lt), h2.1, ?_⟩
  rcases h2.2 with hn | ⟨g', cap, cur, hv, hbg, hh, r⟩
  · exact .inl hn
  · exact .inr ⟨g', cap, cur, hv, hbg, (he g' hbg (Array.getElem?_eq_some_iff.1 hh).1).trans hh, r⟩
theorem Wtr.far (h : Wtr w base g xs) {p : Addr} (hp : p.block < base) (u : Value) : Wtr (w.setCell p u) base g xs := h.keep fun k h1 _ => Below.heap_setCell w p u k (by omega)
theorem Wtr.alloc (h : Wtr w base g xs) (o : Obj) : Wtr (w.alloc o) base g xs := h.keep fun k _ h2 => Below.heap_alloc w o k h2
theorem Wtr.below {B : Nat} (h : Wtr w base g xs) (hb : Below B w w') (hB : w.heap.size ≤ B) : Wtr w' base g xs := h.keep fun k _ h2 => hb.block k (by omega)
end

theorem newWriter_any (w : World) :
    Calls Tryd.prog 29 #[] w fun e w' => e = .returned (.pointer (some ⟨w.heap.size, 0, none⟩)) ∧ Wtr w' w.heap.size w.heap.size [] ∧ Below w.heap.size w w' := by
  go_enter Tryd.func29, Tryd.ntmps29
  go_wp2
  go_ret
  exact ⟨rfl, ⟨Nat.le_refl _, _, Box.new _ _ _, OwB.nil _ _ _⟩, (Below.refl _ _).alloc (Nat.le_refl _) _⟩

theorem wbytes_nil (v : Value) (w : World) :
    Calls Tryd.prog 31 #[.pointer none, v] w fun e w' => e = .returned (.tuple #[]) ∧ w = w' := by
  go_enter Tryd.func31, Tryd.ntmps31
  go_wp2
  refine bodyPost_ret (results_none rfl _ _ _) rfl ?_
  exact ⟨rfl, rfl⟩

theorem out_nil (w : World) :
    Calls Tryd.prog 32 #[.pointer none] w fun e w' => e = .returned (.slice none 0 0) ∧ w = w' := by
  go_enter Tryd.func32, Tryd.ntmps32
  go_wp2
  go_ret
  exact ⟨rfl, rfl⟩

/-- A writer with its one cell laid open. -/
theorem Wtr.open_ {w : World} {base g : Nat} {xs : List UInt8} (h : Wtr w base g xs) : ∃ A n c, w.cell? ⟨g, 0, none⟩ = some (.slice A n c) ∧ w.frozen? ⟨g, 0, none⟩ = false ∧ g < w.heap.size ∧
    Hid (Box w g 84 #[.slice A n c] ∧ OwB w 5 base (.slice A n c) xs) := by
  obtain ⟨hg, v, h1, h2⟩ := h
  obtain ⟨A, c, rfl, _, _⟩ := h2.form
  exact ⟨A, _, c, h1.cell 0, h1.free 0, h1.lt, h1, h2⟩

/-- Behind an append to what a writer has: its cell is as it was; the new slice lies elsewhere; nothing below base has turned. -/
theorem wtr_mid {wr w0 w1 : World} {base g : Nat} {v v' : Value} {xs : List UInt8} (hB : Below wr.heap.size wr w0) (hx : Box wr g 84 #[v]) (ho : OwB wr 5 base v xs)
    (hgr : w0.grownBy w1 v.ownBlock) (hat : v'.ownBlock = v.ownBlock ∨ v'.ownBlock = some w0.heap.size) (hg : base ≤ g) :
    w1.cell? ⟨g, 0, none⟩ = some v ∧ w1.frozen? ⟨g, 0, none⟩ = false ∧ Hid (Box w1 g 84 #[v] ∧ v'.ownBlock ≠ some g ∧ Below base wr w1) := by
  have hne := ho.ne_box hx (by decide)
  have hlt := hx.lt
  have hx0 : Box w0 g 84 #[v] := hx.below hB hlt
  have hx1 : Box w1 g 84 #[v] := hx0.grown hgr (fun e => hne e.symm)
  refine ⟨hx1.cell 0, hx1.free 0, hx1, ?_, (hB.mono (by omega)).grown hgr (by have := hB.size; omega) (fun k hk => (ho.block k hk).1)⟩
  rcases hat with e | e
  · rw [e]; exact hne
  · rw [e]; intro h; injection h with h; have := hB.size; omega

/-- What is stored into the writer's cell then makes it a writer of the longer bytes. -/
theorem wtr_end {w w1 : World} {base g : Nat} {v v' : Value} {xs : List UInt8} (hm : Box w1 g 84 #[v] ∧ v'.ownBlock ≠ some g ∧ Below base w w1) (ho : OwB w1 5 base v' xs) (hg : base ≤ g) :
    Wtr (w1.setCell ⟨g, 0, none⟩ v') base g xs ∧ Below base w (w1.setCell ⟨g, 0, none⟩ v') :=
  ⟨⟨hg, _, hm.1.put 0 _, ho.grown (Stp.set w1 g 0 v').1 (.inr hm.2.1)⟩, hm.2.2.setCell hg _⟩

theorem wbytes_any {own : Bool} {w : World} {base g lo hi : Nat} {A : Option Addr} {n c : Nat} {xs ys : List UInt8} (h : Wtr w base g xs) (hd : Dat own w lo hi A ys) (hn : ys.length = n) (hb : xs.length + n ≤ 1099511627776) :
    Calls Tryd.prog 31 #[.pointer (some ⟨g, 0, none⟩), .slice A n c] w fun e w' => e = .returned (.tuple #[]) ∧ Wtr w' base g (xs ++ ys) ∧ Below base w w' := by
  obtain ⟨i0, hi0, hz0, hz1, hz2⟩ := info_parts u8_info
  have hg := h.1
  obtain ⟨A0, n0, c0, hc, hf, hlt, HO⟩ := h.open_
  have HD := Lib.hid hd
  have HN := Lib.hid hn
  clear h hd hn
  go_enter Tryd.func31, Tryd.ntmps31
  go_wp2_with (at_builtin; refine list_app _ rfl _ _ 23 rfl i0 Tryd.underlying23 hi0 hz0 hz1 hz2 rfl HO.out.2 rfl HD.out HN.out hb ?_ ?_)
  · omega
  intro v' w1 ho hgr hat
  obtain ⟨hc1, hf1, HM⟩ := wtr_mid (Below.refl _ _) HO.out.1 HO.out.2 hgr hat hg
  obtain ⟨A', n', c', hv'⟩ : ∃ A' n' c', v' = .slice A' n' c' := (by obtain ⟨A', c', hv, _⟩ := ho.form; exact ⟨A', _, c', hv⟩)
  subst hv'
  have HO' := Lib.hid ho
  clear ho hgr hat
  go_wp2
  go_end0
  exact ⟨rfl, wtr_end HM.out HO'.out hg⟩

theorem out_any {w : World} {base g : Nat} {xs : List UInt8} (h : Wtr w base g xs) (hb : xs.length ≤ 1099511627776) :
    Calls Tryd.prog 32 #[.pointer (some ⟨g, 0, none⟩)] w fun e w' => ∃ v, e = .returned v ∧ OwB w' 5 w.heap.size v xs ∧ Below w.heap.size w w' := by
  obtain ⟨hg, v, h1, h2⟩ := h
  obtain ⟨A, c, rfl, hc, hd⟩ := h2.form
  have hc0 : w.cell? ⟨g, 0, none⟩ = some (.slice A xs.length c) := h1.cell 0
  have hC := Lib.hid (clone_any (c := c) hd rfl hb (Nat.le_refl _))
  clear h1 h2 hd hb
  go_enter Tryd.func32, Tryd.ntmps32
  go_wp2_with (go_at_call 49; refine hC.out.mono ?_; rintro e w1 ⟨v, rfl, hq⟩)
  go_ret
  exact ⟨_, rfl, hq⟩

theorem wnumber_nil (x m : Int) (w : World) :
    Calls Tryd.prog 30 #[.pointer none, .int .u64 x, .int .i64 m] w fun e w' => e = .returned (.tuple #[]) ∧ w = w' := by
  go_enter Tryd.func30, Tryd.ntmps30
  go_wp2
  refine bodyPost_ret (results_none rfl _ _ _) rfl ?_
  exact ⟨rfl, rfl⟩
theorem wnumber_no {w : World} {g : Nat} (x m : Int) (hm : wid m = false) :
    Calls Tryd.prog 30 #[.pointer (some ⟨g, 0, none⟩), .int .u64 x, .int .i64 m] w fun e w' => e = .returned (.tuple #[]) ∧ w = w' := by
  have h : m < 1 ∨ 8 < m := by unfold wid at hm; simp at hm; omega
  clear hm
  go_enter Tryd.func30, Tryd.ntmps30
  go_wp2_with (go_at_call 48; refine (isWidth_no _ _ h).mono ?_; rintro e w' ⟨rfl, rfl⟩)
  refine bodyPost_ret (results_none rfl _ _ _) rfl ?_
  exact ⟨rfl, rfl⟩

/-- The new row of one byte. -/
theorem dat_one (w : World) (x : UInt8) (u : TypeId) : Dat true (w.alloc (.cells #[cel x] u)) w.heap.size (w.heap.size + 1) (some ⟨w.heap.size, 0, none⟩) [x] := fun _ =>
  ⟨w.heap.size, 0, rfl, Nat.le_refl _, by omega, fun j hj => by
    have h := (Box.new w u #[cel x]).cell (0 + j)
    have hj0 : j = 0 := by simp at hj; omega
    subst hj0
    exact h, fun _ j => (Box.new w u #[cel x]).free j⟩

set_option maxHeartbeats 400000 in
theorem wnumber_yes {w : World} {base g : Nat} {xs : List UInt8} (x m : Nat) (h : Wtr w base g xs) (h1 : 1 ≤ m) (h8 : m ≤ 8) (hb : xs.length + m ≤ 1099511627776) :
    Calls Tryd.prog 30 #[.pointer (some ⟨g, 0, none⟩), .int .u64 (x : Int), .int .i64 (m : Int)] w fun e w' => e = .returned (.tuple #[]) ∧ Wtr w' base g (xs ++ put x m) ∧ Below base w w' := by
  obtain ⟨i0, hi0, hz0, hz1, hz2⟩ := info_parts u8_info
  have hg0 := h.1
  have hbg : base ≤ w.heap.size := by have := h.lt; omega
  have H0 := Lib.hid h
  clear h
  go_enter Tryd.func30, Tryd.ntmps30
  go_wp2_with (go_at_call 48; refine (isWidth_yes _ _ (by omega) (by omega)).mono ?_; rintro e w' ⟨rfl, rfl⟩)
  go_loopw [15] (fun i wr => ∃ k : Nat, k ≤ m ∧ i = .int .i64 k ∧ Wtr wr base g (xs ++ put x k) ∧ Below base w wr) (fun i _ => m - (intOf i).toNat)
  case atStart => exact ⟨0, Nat.zero_le _, rfl, by simpa [put] using H0.out, Below.refl _ _⟩
  case round =>
    obtain ⟨k, hk, rfl, hw, hB⟩ := hrel
    have HB := Lib.hid hB
    obtain ⟨A, n, c, hc, hf, hlt, HO⟩ := hw.open_
    have HW := Lib.hid hw
    clear hB hw
    by_cases hkm : k < m
    · go_wp2
      have hs : IntKind.i64.wrap (8 * (k : Int)) = 8 * (k : Int) := IntWalk.i64_in _ (by omega)
      have hs0 : (0 : Int) ≤ 8 * (k : Int) := by omega
      have hs1 : (8 * (k : Int)).toNat = 8 * k := by omega
      have HD : Hid (Dat true (wr.alloc (.cells #[.int .u8 (IntKind.u8.wrap ((x : Int) / 2 ^ (8 * k)))] 5)) wr.heap.size (wr.heap.size + 1) (some ⟨wr.heap.size, 0, none⟩) [UInt8.ofNat (x / 256 ^ k % 256)]) := by
        rw [byte_step]
        exact dat_one wr _ _
      go_region_law ((refine step_app _ rfl _ _ 23 rfl i0 Tryd.underlying23 hi0 hz0 hz1 hz2 rfl (OwB.drew (OwB.alloc HO.out.2 _)) rfl (Dat.drew HD.out) rfl (by rw [List.length_append, put_length]; omega) (by simp; omega) ?_; intro v' w1 ho hgr hat; obtain ⟨hc1, hf1, HM⟩ := wtr_mid ((Below.refl _ _).alloc (Nat.le_refl _) _).drew HO.out.1 HO.out.2 hgr hat hg0; obtain ⟨A', n', c', hv'⟩ : ∃ A' n' c', v' = .slice A' n' c' := (by obtain ⟨A', c', hv, _⟩ := ho.form; exact ⟨A', _, c', hv⟩); subst hv'; have HO' := Lib.hid ho; clear ho hgr hat))
      all_goals
        go_wp2
        go_roundw
        case rel =>
          have he := wtr_end HM.out HO'.out hg0
          rw [List.append_assoc, ← put_snoc] at he
          exact ⟨k + 1, by omega, by go_num, he.1, HB.out.trans he.2⟩
        case measure => simp [intOf]; omega
    · go_wp2
      go_end0
      obtain rfl : k = m := by omega
      exact ⟨rfl, HW.out, HB.out⟩

/-- What a number is written as: nothing, where it may not have so many bytes. -/
def putw (x : Nat) (m : Int) : List UInt8 := if wid m then put x m.toNat else []
theorem putw_length (x : Nat) (m : Int) : (putw x m).length ≤ 8 := by
  unfold putw
  by_cases h : wid m = true
  · rw [if_pos h, put_length]; unfold wid at h; simp at h; omega
  · rw [if_neg h]; simp
theorem wnumber_any {w : World} {base g : Nat} {xs : List UInt8} (x : Nat) (m : Int) (h : Wtr w base g xs) (hb : xs.length + 8 ≤ 1099511627776) :
    Calls Tryd.prog 30 #[.pointer (some ⟨g, 0, none⟩), .int .u64 (x : Int), .int .i64 m] w fun e w' => e = .returned (.tuple #[]) ∧ Wtr w' base g (xs ++ putw x m) ∧ Below base w w' := by
  by_cases hw : wid m = true
  · have hm : 1 ≤ m ∧ m ≤ 8 := by unfold wid at hw; simpa using hw
    obtain ⟨k, rfl⟩ := Int.eq_ofNat_of_zero_le (show 0 ≤ m by omega)
    have he : putw x (k : Int) = put x k := by unfold putw; rw [if_pos hw]; rfl
    rw [he]
    exact wnumber_yes x k h (by omega) (by omega) (by omega)
  · have hw' : wid m = false := by simpa using hw
    have he : putw x m = [] := by unfold putw; rw [if_neg hw]
    rw [he]
    refine (wnumber_no x m hw').mono fun e w' ⟨he, hh⟩ => ?_
    subst hh
    exact ⟨he, by simpa using h, Below.refl _ _⟩
end Go.Proofs.YtieepdhajjibpaaDoor
