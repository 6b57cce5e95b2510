/- The contracts of the program's withoutHalf, New, Write, Sum and Of. -/
import Derived.Test.YtliieipgmjnnfaaDoorCrcPlain
import Derived.Test.YtliieipgmjnnfaaDoorXxhCells
import Derived.Test.YtliieipgmjnnfaaDoorRows
import Derived.WalkLawsBesides
import Derived.Lib.Hide
import Derived.Outline
import Derived.BigQuiet
import Derived.Deep.LoopGhost
import Derived.Deep.CutRange
import Derived.Deep.DeepCutAuto
namespace Go.Proofs.YtliieipgmjnnfaaDoor
open Go.RowKit

/-- The package's table holds what it was laid with. -/
def Glob (w : World) : Prop :=
  (∀ i, i < 16 → w.cell? ⟨0, i, none⟩ = some (.int .u32 ((tab.getD i 0).toNat : Int))) ∧ 1 ≤ w.heap.size
theorem Glob.keep {w w' : World} (h : Glob w) (h0 : w'.heap[0]? = w.heap[0]?) (hs : 1 ≤ w'.heap.size) : Glob w' :=
  ⟨fun i hi => (World.cell?_of_block (w := w) (w' := w') (a := ⟨0, i, none⟩) h0).trans (h.1 i hi), hs⟩
theorem Glob.below {B : Nat} {w w' : World} (h : Glob w) (hb : Below B w w') (hB : 1 ≤ B) : Glob w' :=
  h.keep (hb.block 0 (by omega)) (Nat.le_trans h.2 hb.size)

attribute [local go_sem high] w_xor w_not

theorem withoutHalf_any (x : UInt32) (w : World) (hg : Glob w) :
    Calls Tryd.prog 13 #[.int .u32 (x.toNat : Int)] w fun e w' => e = .returned (.int .u32 ((halfOf x).toNat : Int)) ∧ w = w' := by
  obtain ⟨r, hr⟩ : ∃ r, r = x.toNat % 16 := ⟨_, rfl⟩
  have hr16 : r < 16 := by omega
  have hri : (x.toNat : Int) % 16 = (r : Int) := by omega
  have hrt : (x.toNat : Int).tmod 16 = (r : Int) := by rw [Int.tmod_eq_emod_of_nonneg (by omega)]; exact hri
  have q := hg.1 r hr16
  obtain ⟨t, ht⟩ : ∃ t, t = tab.getD r 0 := ⟨_, rfl⟩
  rw [← ht] at q
  have hd : (x.toNat : Int) / 16 = ((down x 4).toNat : Int) := by rw [down_nat]; rfl
  obtain ⟨d, hdd⟩ : ∃ d, d = down x 4 := ⟨_, rfl⟩
  have HY : Hid (halfOf x = wX d t) := by rw [ht, hdd, hr]; rfl
  rw [← hdd] at hd
  clear hr ht hdd
  go_enter Tryd.func13, Tryd.ntmps13
  go_wp2_with fail
  go_ret
  exact ⟨by rw [HY.out]; rfl, rfl⟩

/-- Block g is a sum of the bytes xs. -/
def Hsh (w : World) (g : Nat) (xs : List UInt8) : Prop := Box w g 40 #[.int .u32 ((crcOf xs).toNat : Int)]
theorem Hsh.lt {w : World} {g : Nat} {xs : List UInt8} (h : Hsh w g xs) : g < w.heap.size := Box.lt h
theorem Hsh.keep {w w' : World} {g : Nat} {xs : List UInt8} (h : Hsh w g xs) (he : w'.heap[g]? = w.heap[g]?) : Hsh w' g xs := Box.keep h he

theorem new_any (w : World) :
    Calls Tryd.prog 8 #[] w fun e w' => e = .returned (.pointer (some ⟨w.heap.size, 0, none⟩)) ∧ Hsh w' w.heap.size [] ∧ Below w.heap.size w w' := by
  go_enter Tryd.func8, Tryd.ntmps8
  go_wp2_with fail
  go_ret
  exact ⟨rfl, Box.new w 40 _, (Below.refl _ _).alloc (Nat.le_refl _) _⟩

theorem write_nil (v : Value) (w : World) :
    Calls Tryd.prog 9 #[.pointer none, v] w fun e w' => e = .returned (.tuple #[]) ∧ w = w' := by
  go_enter Tryd.func9, Tryd.ntmps9
  go_wp2
  refine bodyPost_ret (results_none rfl _ _ _) rfl ?_
  exact ⟨rfl, rfl⟩

set_option maxRecDepth 100000 in
set_option maxHeartbeats 1000000 in
theorem write_any {own : Bool} {w : World} {g lo hi : Nat} {A : Option Addr} {m c : Nat} {xs ys : List UInt8} (hgl : Glob w) (hh : Hsh w g xs) (hd : Dat own w lo hi A ys) (hm : ys.length = m) (hb : m ≤ 1000000000000000) :
    Calls Tryd.prog 9 #[.pointer (some ⟨g, 0, none⟩), .slice A m c] w fun e w' => e = .returned (.tuple #[]) ∧ Hsh w' g (xs ++ ys) ∧ w.grownBy w' (some g) := by
  have HH := Lib.hid hh
  have HG := Lib.hid hgl
  have HD := Lib.hid hd
  have HM := Lib.hid hm
  obtain ⟨s, hs⟩ : ∃ s, s = crcOf xs := ⟨_, rfl⟩
  have q : w.cell? ⟨g, 0, none⟩ = some (.int .u32 (s.toNat : Int)) := by rw [hs]; exact Box.cell hh 0
  have f := Box.free hh 0
  obtain ⟨x, hx⟩ : ∃ x, x = wC s := ⟨_, rfl⟩
  have hxr : x = reg 4294967295 xs := by rw [hx, hs, crcOf, wC_wC]
  have HXR := Lib.hid hxr
  clear hgl hh hd hm hs hxr
  have HX := Lib.hid hx
  clear hx
  go_enter Tryd.func9, Tryd.ntmps9
  go_wp2_with fail
  go_loopg [4, 16] m (fun gh y i wx => ∃ k : Nat, w = wx ∧ k + gh = m ∧ i = .int .i64 k ∧ y = .int .u32 ((reg x (ys.take k)).toNat : Int))
  case atStart => exact ⟨0, rfl, by omega, rfl, by rw [HX.out]; rfl⟩
  case round =>
    obtain ⟨k, rfl, hk, rfl, rfl⟩ := hrel
    have HK := Lib.hid hk
    have hkm : k ≤ m := by omega
    clear hk
    obtain ⟨y, hy⟩ : ∃ y, y = reg x (ys.take k) := ⟨_, rfl⟩
    rw [← hy]
    have HY := Lib.hid hy
    clear hy
    by_cases hlt : k < m
    · have hkl : k < ys.length := by rw [HM.out]; exact hlt
      obtain ⟨b, hbb⟩ : ∃ b, b = ys.getD k 0 := ⟨_, rfl⟩
      have HS : Hid (reg x (ys.take (k + 1)) = halfOf (halfOf (wX y (w8 b)))) := by unfold Hid; rw [reg_snoc x ys k hkl, ← HY.out, ← hbb, in8_half]
      obtain ⟨d, o, rfl, _, _, hc, _⟩ := HD.out (by omega)
      have hck := hc k hkl
      unfold cel at hck
      rw [← hbb, w8_nat] at hck
      have hwr : IntKind.u32.wrap ((w8 b).toNat : Int) = ((w8 b).toNat : Int) := by rw [IntKind.wrap_u32']; have := (w8 b).toNat_lt; omega
      clear hc hbb hkl HD
      go_wp2_with (go_at_call 13; refine (withoutHalf_any _ _ HG.out).mono ?_; rintro e' w' ⟨rfl, rfl⟩)
      go_roundg (m - (k + 1))
      case measure => have := HK.out; omega
      case rel => exact ⟨k + 1, rfl, by omega, by go_num, by rw [HS.out]⟩
    · have hkn : k = m := by omega
      go_wp2_with fail
      go_end0
      have hz : wC y = crcOf (xs ++ ys) := by rw [HY.out, hkn, List.take_of_length_le (by rw [HM.out]; omega), HXR.out, crcOf, reg_append]
      refine ⟨rfl, ?_, wide_set _ _⟩
      have hp := Box.put HH.out 0 (.int .u32 ((wC y).toNat : Int))
      unfold Hsh
      rw [← hz]
      exact hp

set_option maxRecDepth 100000 in
theorem sum_any {w : World} {g : Nat} {xs : List UInt8} (hh : Hsh w g xs) :
    Calls Tryd.prog 10 #[.pointer (some ⟨g, 0, none⟩)] w fun e w' => e = .returned (.int .u32 ((crcOf xs).toNat : Int)) ∧ Below w.heap.size w w' := by
  obtain ⟨s, hs⟩ : ∃ s, s = crcOf xs := ⟨_, rfl⟩
  have q : w.cell? ⟨g, 0, none⟩ = some (.int .u32 (s.toNat : Int)) := by rw [hs]; exact Box.cell hh 0
  rw [← hs]
  clear hs hh
  go_enter Tryd.func10, Tryd.ntmps10
  go_wp2_with fail
  go_ret
  exact ⟨rfl, Below.refl _ _⟩

set_option maxRecDepth 100000 in
set_option maxHeartbeats 1000000 in
theorem pof_any {own : Bool} {w : World} {lo hi : Nat} {A : Option Addr} {m c : Nat} {ys : List UInt8} (hgl : Glob w) (hd : Dat own w lo hi A ys) (hm : ys.length = m) (hhi : hi ≤ w.heap.size) (hb : m ≤ 1000000000000000) :
    Calls Tryd.prog 12 #[.slice A m c] w fun e w' => e = .returned (.int .u32 ((crcOf ys).toNat : Int)) ∧ Below w.heap.size w w' := by
  have HG := Lib.hid hgl
  have hw1 := hgl.2
  have HD := Lib.hid hd
  have HM := Lib.hid hm
  obtain ⟨Z, hZ⟩ : ∃ Z, Z = ((crcOf ys).toNat : Int) := ⟨_, rfl⟩
  have HSUM := Lib.hid (fun (W : World) (g : Nat) (h2 : Hsh W g ys) => sum_any h2)
  rw [← hZ] at HSUM ⊢
  clear hgl hd hm hZ
  go_enter Tryd.func12, Tryd.ntmps12
  go_wp2_with (first
    | (go_at_call 8; refine (new_any _).mono ?_; rintro e' w5 ⟨rfl, hh5, hB5⟩; have HH5 := Lib.hid hh5; have HB5 := Lib.hid hB5; have hl5 := hh5.lt; clear hh5 hB5)
    | (go_at_call 9; refine (write_any (HG.out.below HB5.out hw1) HH5.out (HD.out.below HB5.out hhi) HM.out hb).mono ?_; rintro e' w6 ⟨rfl, hh6, hg6⟩; rw [List.nil_append] at hh6; have HH6 := Lib.hid hh6; have HB6 : Hid (Below w.heap.size w w6) := HB5.out.trans (wide_to_below hg6 (by omega) (Nat.le_refl _)); clear hh6 hg6)
    | (go_at_call 10; refine (HSUM.out _ _ HH6.out).mono ?_; rintro e' w7 ⟨rfl, hB7⟩; have HB7 := Lib.hid hB7; clear hB7))
  go_ret
  exact ⟨rfl, HB6.out.trans (HB7.out.mono HB6.out.size)⟩

theorem sum_nil (w : World) (hgl : Glob w) :
    Calls Tryd.prog 10 #[.pointer none] w fun e w' => e = .returned (.int .u32 ((crcOf []).toNat : Int)) ∧ Below w.heap.size w w' := by
  obtain ⟨Z, hZ⟩ : ∃ Z, Z = ((crcOf []).toNat : Int) := ⟨_, rfl⟩
  have HOF := Lib.hid (pof_any (own := false) (c := 0) hgl (Dat.nil false w 0 0 none) rfl (Nat.zero_le _) (Nat.zero_le _))
  rw [← hZ] at HOF ⊢
  clear hZ
  go_enter Tryd.func10, Tryd.ntmps10
  go_wp2_with (go_at_call 12; refine HOF.out.mono ?_; rintro e' w7 ⟨rfl, hB7⟩; have HB7 := Lib.hid hB7; clear hB7)
  go_ret
  exact ⟨rfl, HB7.out⟩
end Go.Proofs.YtliieipgmjnnfaaDoor
