
/- The contract of the program's Write: the bytes of a head of one segment. -/
import Derived.Test.YtmominbmalhdoaaDoorFrmBlock
namespace Go.Proofs.YtmominbmalhdoaaDoor
open Go.RowKit

/-- A head's first byte. -/
def fbN (n : Nat) (sum : Bool) : Nat := 32 + 64 * n + (if sum then 4 else 0)
/-- The bytes of a head of one segment. -/
def wr15 (x : Nat) (sum : Bool) : List UInt8 := put 4247762216 4 ++ put (fbN (formN x) sum) 1 ++ put (x - frN (formN x)) (swN (formN x))
theorem fr_form (x : Nat) : frN (formN x) ≤ x := by
  unfold formN
  split
  · exact Nat.zero_le _
  split
  · show 256 ≤ x
    omega
  split
  · exact Nat.zero_le _
  · exact Nat.zero_le _
theorem or32 : ∀ n : Nat, n < 4 → bits .or .i64 32 ((n : Int) * 64) = ((32 + 64 * n : Nat) : Int) := by decide +kernel
theorem or4 : ∀ n : Nat, n < 4 → bits .or .u64 ((32 + 64 * n : Nat) : Int) 4 = ((36 + 64 * n : Nat) : Int) := by decide +kernel

set_option maxRecDepth 100000 in
set_option maxHeartbeats 1000000 in
theorem write15_any (x : Nat) (sum : Bool) (hx : x < 18446744073709551616) (w : World) (hgl : Glob w) :
    Calls Tryd.prog 11 #[.int .u64 (x : Int), .bool sum] w fun e w' => ∃ v, e = .returned v ∧ OwB w' 5 w.heap.size v (wr15 x sum) ∧ Below w.heap.size w w' := by
  have hS := Lib.hid (shortest_any x hx w hgl)
  have hfl := form_lt x
  have hfr := fr_form x
  have HW := Lib.hid (show wr15 x sum = put 4247762216 4 ++ put (fbN (formN x) sum) 1 ++ put (x - frN (formN x)) (swN (formN x)) from rfl)
  rw [HW.out]
  obtain ⟨n, hn⟩ : ∃ n, n = formN x := ⟨_, rfl⟩
  rw [← hn] at hS hfl hfr ⊢
  clear HW hn
  have e1 := or32 n hfl
  have e2 := or4 n hfl
  have hw2 := hgl.2.2
  have HG := Lib.hid hgl
  clear hgl
  obtain ⟨y, hy⟩ : ∃ y, y = 32 + 64 * n := ⟨_, rfl⟩
  obtain ⟨z, hz⟩ : ∃ z, z = 36 + 64 * n := ⟨_, rfl⟩
  rw [← hy] at e1 e2
  rw [← hz] at e2
  have hyl : y ≤ 224 := by omega
  have hzl : z ≤ 228 := by omega
  have HFb : Hid (fbN n sum = if sum then z else y) := by unfold Hid fbN; cases sum <;> simp <;> omega
  clear hy hz
  obtain ⟨fb, hfb⟩ : ∃ f, f = fbN n sum := ⟨_, rfl⟩
  have HFb' : Hid (fb = if sum then z else y) := by rw [hfb]; exact HFb.out
  rw [← hfb]
  clear HFb hfb
  go_enter Tryd.func11, Tryd.ntmps11
  go_upto_if 14 with (go_at_call 26; refine hS.out.mono ?_; rintro e' w1 ⟨rfl, hB⟩; have HB1 := Lib.hid hB; clear hB)
  go_cut [6] (fun f wx => f = .int .u64 (fb : Int) ∧ w1 = wx)
  case first =>
    cases sum with
    | true =>
      obtain rfl : fb = z := HFb'.out
      go_wp2_with fail
      go_meet
      exact ⟨rfl, rfl⟩
    | false =>
      obtain rfl : fb = y := HFb'.out
      go_wp2_with fail
      go_meet
      exact ⟨rfl, rfl⟩
  case rest =>
    obtain ⟨rfl, rfl⟩ := hcut
    have hs1 := HB1.out.size
    have hq := (HG.out.below HB1.out hw2).2.1 n hfl
    have HQ := Lib.hid hq
    have hNW := Lib.hid (newWriter_any w1)
    have hm1 := sw_pos n hfl
    have hm8 := sw_le n hfl
    clear hq e1 e2 HFb'
    go_upto_region 6 with (go_at_call 27; refine hNW.out.mono ?_; rintro e' w2 ⟨rfl, hw, hB⟩; have HW2 := Lib.hid hw; have HB2 := Lib.hid hB; clear hw hB)
    have hN1 := Lib.hid (wnumber_yes 4247762216 4 HW2.out (by decide) (by decide) (by simp))
    generalize hg : w1.heap.size = g at *
    go_upto_region 7 with (go_at_call 28; refine hN1.out.mono ?_; rintro e' w3 ⟨rfl, hw, hB⟩; have HW3 := Lib.hid hw; have HB3 := Lib.hid (HB2.out.trans hB); clear hw hB)
    have hN2 := Lib.hid (wnumber_yes fb 1 HW3.out (by decide) (by decide) (by simp [put_length]))
    go_upto_region 8 with (go_at_call 28; refine hN2.out.mono ?_; rintro e' w4 ⟨rfl, hw, hB⟩; have HW4 := Lib.hid hw; have HB4 := Lib.hid (HB3.out.trans hB); clear hw hB)
    have hN3 := Lib.hid (swrite_any n x hfl hx hfr HW4.out (by simp [put_length]))
    have k0 : w4.cell? ⟨1, n * 2, none⟩ = some (.int .i64 (swN n : Int)) := (HB4.out.cell (p := ⟨1, n * 2, none⟩) (by show 1 < g; omega)).trans HQ.out.1
    have k1 : w4.cell? ⟨1, n * 2 + 1, none⟩ = some (.int .u64 (frN n : Int)) := (HB4.out.cell (p := ⟨1, n * 2 + 1, none⟩) (by show 1 < g; omega)).trans HQ.out.2
    unfold sfv at hN3
    go_upto_region 9 with (go_at_call 29; refine hN3.out.mono ?_; rintro e' w5 ⟨rfl, hw, hB⟩; have HW5 := Lib.hid hw; have HB5 := Lib.hid (HB4.out.trans hB); clear hw hB)
    have hOu := Lib.hid (out_any HW5.out (by simp [put_length]; omega))
    go_wp2_with (go_at_call 30; refine hOu.out.mono ?_; rintro e' w6 ⟨v, rfl, ho, hB⟩; have HO6 := Lib.hid ho; have HB6 := Lib.hid hB; clear ho hB)
    go_ret
    have h5 := HB5.out.size
    refine ⟨_, rfl, ?_, HB1.out.trans ((HB5.out.mono hs1).trans (HB6.out.mono (by omega)))⟩
    have h := OwB.mono HO6.out (b := w.heap.size) (by omega)
    rwa [List.nil_append] at h
end Go.Proofs.YtmominbmalhdoaaDoor
