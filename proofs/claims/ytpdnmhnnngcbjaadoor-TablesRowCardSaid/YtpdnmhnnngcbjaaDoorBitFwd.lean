
/- The contracts of the program's Forward: each method at any one, and of nil. -/
import Derived.Test.YtpdnmhnnngcbjaaDoorBitNum
import Derived.Test.YtpdnmhnnngcbjaaDoorXxhCells
import Derived.Deep.QuietTactic
import Derived.BigQuiet
import Derived.StillTailTactics
namespace Go.Proofs.YtpdnmhnnngcbjaaDoor
open Go.RowKit

/-- What a Forward at bit 'at' of the bytes xs reads: the number, the error, where it stands then. -/
def fread (xs : List UInt8) (at_ : Nat) (n : Int) : Nat × Int × Nat :=
  if n < 0 ∨ 32 < n then (0, 1, at_) else if (8 * xs.length : Int) - at_ < n then (0, 10, at_) else (num (((bitsOf xs).drop at_).take n.toNat), 0, at_ + n.toNat)
/-- Where it stands when n bits were given back. -/
def fback (at_ : Nat) (n : Int) : Nat := if n < 0 then at_ else at_ - n.toNat

/-- Block g is a Forward: a slice at A of n bytes, capacity c; it stands at bit 'at'. -/
def Fwd (w : World) (g : Nat) (A : Option Addr) (n c at_ : Nat) : Prop := Box w g 137 #[.slice A n c, .int .i64 (at_ : Int)]
/-- Block g is a Forward of the bytes xs, which lie from block lo on and below g; it stands at bit 'at'. -/
def FW (w : World) (lo g : Nat) (xs : List UInt8) (at_ : Nat) : Prop := lo ≤ g ∧ at_ ≤ 8 * xs.length ∧ xs.length ≤ 1099511627776 ∧ ∃ A c, Fwd w g A xs.length c at_ ∧ xs.length ≤ c ∧ Dat true w lo g A xs

/-- Only block g has turned, and none has come. -/
def Stp (w w' : World) (g : Nat) : Prop := w.grownBy w' (some g) ∧ w'.heap.size = w.heap.size
theorem Stp.refl (w : World) (g : Nat) : Stp w w g := ⟨World.grownBy.refl w _, rfl⟩
theorem Stp.set (w : World) (g i : Nat) (u : Value) : Stp w (w.setCell ⟨g, i, none⟩ u) g :=
  ⟨⟨rfl, rfl, rfl, by simp [World.setCell], fun k _ hk => Below.heap_setCell w _ u k (fun h => hk (by rw [h]))⟩, by simp [World.setCell]⟩
theorem Stp.drawn {w w' : World} {g : Nat} (n : Nat) (h : Stp (w.drewN n) w' g) : Stp w w' g := ⟨⟨h.1.os, h.1.tape, h.1.output, h.1.size, h.1.block⟩, h.2⟩
theorem Stp.below {w w' : World} {g B : Nat} (h : Stp w w' g) (hB : B ≤ w.heap.size) (hg : B ≤ g) : Below B w w' := (Below.refl _ _).grown h.1 hB (by intro k hk; injection hk with hk; omega)

section
variable {w w' : World} {lo g at_ : Nat} {xs : List UInt8}
theorem FW.lt (h : FW w lo g xs at_) : g < w.heap.size := by
  obtain ⟨_, _, _, A, c, h1, _⟩ := h
  exact Box.lt h1
theorem FW.keep (h : FW w lo g xs at_) (he : ∀ k, lo ≤ k → k ≤ g → w'.heap[k]? = w.heap[k]?) : FW w' lo g xs at_ := by
  obtain ⟨h0, h1, hb, A, c, h2, h3, h4⟩ := h
  exact ⟨h0, h1, hb, A, c, Box.keep h2 (he g h0 (Nat.le_refl _)), h3, h4.keep fun k hl hg => he k hl (by omega)⟩
theorem FW.below {B : Nat} (h : FW w lo g xs at_) (hb : Below B w w') (hg : g < B) : FW w' lo g xs at_ := h.keep fun k _ hk => hb.block k (by omega)
theorem FW.stp {k : Nat} (h : FW w lo g xs at_) (hs : Stp w w' k) (hk : k < lo ∨ g < k) : FW w' lo g xs at_ := by
  have hg := h.lt
  exact h.keep fun j h1 h2 => hs.1.block j (by omega) (by intro e; injection e with e; omega)
theorem FW.put (h : FW w lo g xs at_) (b : Nat) (hb : b ≤ 8 * xs.length) : FW (w.setCell ⟨g, 1, none⟩ (.int .i64 (b : Int))) lo g xs b := by
  obtain ⟨h0, h1, hb', A, c, h2, h3, h4⟩ := h
  exact ⟨h0, hb, hb', A, c, Box.put h2 1 _, h3, h4.far (by simp) _⟩
theorem FW.drawn (h : FW w lo g xs at_) (n : Nat) : FW (w.drewN n) lo g xs at_ := h
end

theorem newForward_any {own : Bool} {w : World} {lo hi : Nat} {A : Option Addr} {n c : Nat} {xs : List UInt8} (hd : Dat own w lo hi A xs) (hn : xs.length = n) (hb : xs.length ≤ 1099511627776) (hhi : hi ≤ w.heap.size) :
    Calls Tryd.prog 72 #[.slice A n c] w fun e w' =>
      ∃ g, e = .returned (.pointer (some ⟨g, 0, none⟩)) ∧ FW w' w.heap.size g xs 0 ∧ Below w.heap.size w w' := by
  have hC := Lib.hid (clone_any (c := c) hd hn hb hhi)
  clear hd hn hhi
  go_enter Tryd.func72, Tryd.ntmps72
  go_wp2_with (go_at_call 80; refine hC.out.mono ?_; rintro e w1 ⟨v, rfl, ho, hB⟩; obtain ⟨A', c', rfl, hc', hD⟩ := ho.form; clear ho; have HB := Lib.hid hB; have HD := Lib.hid hD; clear hB hD)
  go_ret
  refine ⟨w1.heap.size, rfl, ⟨HB.out.size, by omega, hb, A', c', Box.new _ _ _, hc', HD.out.alloc (Nat.le_refl _) _⟩, HB.out.alloc HB.out.size _⟩

theorem used_nil (w : World) : Calls Tryd.prog 75 #[.pointer none] w fun e w' => e = .returned (.int .i64 0) ∧ w = w' := by
  go_enter Tryd.func75, Tryd.ntmps75
  go_wp2
  go_ret
  exact ⟨rfl, rfl⟩
theorem used_any {w : World} {lo g at_ : Nat} {xs : List UInt8} (h : FW w lo g xs at_) :
    Calls Tryd.prog 75 #[.pointer (some ⟨g, 0, none⟩)] w fun e w' => e = .returned (.int .i64 ((at_ + 7) / 8 : Nat)) ∧ w = w' := by
  obtain ⟨_, ha, hb, A, c, h1, _⟩ := h
  have c1 : w.cell? ⟨g, 1, none⟩ = some (.int .i64 (at_ : Int)) := Box.cell h1 1
  clear h1
  go_enter Tryd.func75, Tryd.ntmps75
  go_wp2
  go_ret
  refine ⟨?_, rfl⟩
  show Ending.returned (.int .i64 _) = _
  congr 2
  omega

theorem fread_nil (n : Int) (w : World) : Calls Tryd.prog 82 #[.pointer none, .int .i64 n] w fun e w' => e = .returned (.tuple #[.int .u64 0, .int .i64 1]) ∧ w = w' := by
  go_enter Tryd.func82, Tryd.ntmps82
  go_wp2
  go_ret2
  exact ⟨rfl, rfl⟩
theorem fread_any {w : World} {lo g at_ : Nat} {xs : List UInt8} (n : Int) (h : FW w lo g xs at_) :
    Calls Tryd.prog 82 #[.pointer (some ⟨g, 0, none⟩), .int .i64 n] w fun e w' =>
      e = .returned (.tuple #[.int .u64 ((fread xs at_ n).1 : Int), .int .i64 (fread xs at_ n).2.1]) ∧ FW w' lo g xs (fread xs at_ n).2.2 ∧ Stp w w' g := by
  have H := Lib.hid h
  obtain ⟨hlg, ha, hb, A, c, h1, hc, hd⟩ := h
  have c0 : w.cell? ⟨g, 0, none⟩ = some (.slice A xs.length c) := Box.cell h1 0
  have c1 : w.cell? ⟨g, 1, none⟩ = some (.int .i64 (at_ : Int)) := Box.cell h1 1
  have f1 := Box.free h1 1
  have HX := Lib.hid h1
  have HD := Lib.hid hd
  clear h1 hd
  by_cases hw : n < 0 ∨ 32 < n
  · have hf : fread xs at_ n = (0, 1, at_) := by simp [fread, hw]
    rw [hf]
    clear hf
    rcases hw with hw | hw
    · go_enter Tryd.func82, Tryd.ntmps82
      go_wp2
      go_ret2
      exact ⟨rfl, H.out, Stp.refl _ _⟩
    · have hd0 : decide (n < 0) = false := by simp; omega
      go_enter Tryd.func82, Tryd.ntmps82
      go_wp2
      go_ret2
      exact ⟨rfl, H.out, Stp.refl _ _⟩
  · have hd0 : decide (n < 0) = false := by simp; omega
    have hd1 : decide (32 < n) = false := by simp; omega
    by_cases hs : (8 * xs.length : Int) - at_ < n
    · have hf : fread xs at_ n = (0, 10, at_) := by simp [fread, hw, hs]
      rw [hf]
      clear hf
      have e1 : IntKind.i64.wrap (8 * (xs.length : Int)) = 8 * (xs.length : Int) := IntWalk.i64_in _ (by omega)
      have e2 : IntKind.i64.wrap (8 * (xs.length : Int) - (at_ : Int)) = 8 * (xs.length : Int) - (at_ : Int) := IntWalk.i64_in _ (by omega)
      go_enter Tryd.func82, Tryd.ntmps82
      go_wp2
      go_quiet (fail)
      go_wp2
      go_ret2
      exact ⟨rfl, H.out, (Stp.refl _ _).drawn _⟩
    · obtain ⟨k, rfl⟩ := Int.eq_ofNat_of_zero_le (show 0 ≤ n by omega)
      have hf : fread xs at_ k = (num (((bitsOf xs).drop at_).take k), 0, at_ + k) := by simp [fread, hw, hs]
      rw [hf]
      clear hf
      have e1 : IntKind.i64.wrap (8 * (xs.length : Int)) = 8 * (xs.length : Int) := IntWalk.i64_in _ (by omega)
      have e2 : IntKind.i64.wrap (8 * (xs.length : Int) - (at_ : Int)) = 8 * (xs.length : Int) - (at_ : Int) := IntWalk.i64_in _ (by omega)
      have hk : k ≤ 32 := by omega
      have hak : at_ + k ≤ 8 * xs.length := by omega
      go_enter Tryd.func82, Tryd.ntmps82
      go_wp2
      go_quiet (fail)
      go_wp2
      go_quiet ((go_at_call 88; exact quiet_left (number_any at_ k (show Dat true (w.drewN _) lo g A xs from HD.out) rfl hak (by omega) hb)))
      go_wp2
      go_ret2
      exact ⟨rfl, (H.out.drawn _).put _ (by omega), (Stp.set _ _ _ _).drawn _⟩
end Go.Proofs.YtpdnmhnnngcbjaaDoor
