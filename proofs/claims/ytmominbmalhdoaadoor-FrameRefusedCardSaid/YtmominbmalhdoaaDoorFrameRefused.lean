
/- FrameRefused holds, tied to the program's text: for every bytes and every number the law returns true. No condition of ours; the row's own: the package's variables read as the text lays them. -/
import Derived.Test.YtmominbmalhdoaaDoorFrmArgs
import Derived.Test.YtmominbmalhdoaaDoorFrmAwake
import Derived.Test.YtmominbmalhdoaaDoorFrmLawP
namespace Go.Proofs.YtmominbmalhdoaaDoor.frameRefused
open Go.ChangeShapes Go.WideShapes Go.ChangeAt Go.RowKit

theorem or8_bits : ∀ d : Nat, d < 256 → bits .or .u8 (d : Int) 8 = ((d ||| 8 : Nat) : Int) := by decide +kernel
theorem or8_facts : ∀ d : Nat, d < 256 → d ||| 8 < 256 ∧ (d ||| 8) / 8 % 2 = 1 := by decide +kernel
theorem an_bits : ∀ d : Nat, d < 256 → bits .andNot .u8 (d : Int) 24 = ((d &&& 231 : Nat) : Int) := by decide +kernel
theorem or16_bits : ∀ d : Nat, d < 256 → bits .or .u8 ((d &&& 231 : Nat) : Int) 16 = (((d &&& 231) ||| 16 : Nat) : Int) := by decide +kernel
theorem an_facts : ∀ d : Nat, d < 256 → d &&& 231 < 256 ∧ (d &&& 231) ||| 16 < 256 ∧ (d &&& 231) % 16 = ((d &&& 231) ||| 16) % 16 ∧ (d &&& 231) / 32 = ((d &&& 231) ||| 16) / 32 := by decide +kernel

set_option maxRecDepth 100000 in
set_option maxHeartbeats 4000000 in
theorem walk (a : Option Addr) (xs : List UInt8) (cp : Nat) (yi : Int) (w : World) (hgl : Glob w) (hd : Dat false w 0 w.heap.size a xs) (_hm : xs.length ≤ maxLen) (hyb : 0 ≤ yi ∧ yi ≤ 255) :
    Calls Tryd.prog 7 #[.slice a xs.length cp, .int .u8 yi] w fun e w' => e = .returned (.bool true) ∧ Below w.heap.size w w' := by
  obtain ⟨y, rfl⟩ := Int.eq_ofNat_of_zero_le hyb.1
  have HG := Lib.hid hgl
  have HD := Lib.hid hd
  have hw2 := hgl.2.2
  have hy8 : y < 256 := by omega
  obtain ⟨m, hmm⟩ : ∃ m, m = xs.length := ⟨_, rfl⟩
  rw [← hmm]
  have HM := Lib.hid hmm
  clear hgl hd hmm hyb
  by_cases hin : 20 ≤ m ∧ m ≤ 100
  · have h20 : decide ((m : Int) < 20) = false := by simp; omega
    have h100 : decide ((100 : Int) < (m : Int)) = false := by simp; omega
    have hm2 : m ≤ 100 := hin.2
    have hm1 : 20 ≤ m := hin.1
    clear hin
    go_enter Tryd.func7, Tryd.ntmps7
    go_upto_region 7 with (go_at_call 8; refine (awake_any _ HG.out).mono ?_; rintro e' w1 ⟨rfl, hB1⟩; have HB1 := Lib.hid hB1; clear hB1)
    have hs1 := HB1.out.size
    have HD1 := Lib.hid (HD.out.below HB1.out (Nat.le_refl _))
    obtain ⟨i0, hi0, hz0, hz1, hz2⟩ := info_parts u8_info
    have HI := Lib.hid (And.intro hi0 (And.intro hz0 (And.intro hz1 hz2)))
    clear hi0 hz0 hz1 hz2
    go_wp2_with (at_builtin; refine list_app _ rfl _ _ 22 rfl i0 Tryd.underlying22 HI.out.1 HI.out.2.1 HI.out.2.2.1 HI.out.2.2.2 rfl (OwB.nil w1 5 w.heap.size) rfl HD1.out HM.out.symm ?_ ?_ ?_)
    · simp; omega
    · exact hs1
    intro v2 w2 ho2 hg2 _
    have ho2' : OwB w2 5 w.heap.size v2 xs := ho2
    obtain ⟨g, c, hv2, hgb, hg2l, hmc⟩ := ho2'.place (by rw [← HM.out]; omega)
    subst hv2
    have HB2 := Lib.hid (HB1.out.grown hg2 hs1 (fun k hk => by cases hk))
    clear ho2 hg2
    obtain ⟨x, x1, r, hxs⟩ : ∃ x x1 r, xs = x :: x1 :: r := by
      match xs, HM.out with
      | [], h => simp at h; omega
      | [_], h => simp at h; omega
      | x :: x1 :: r, _ => exact ⟨x, x1, r, rfl⟩
    have hrl : r.length + 2 = m := by rw [HM.out, hxs]; rfl
    obtain ⟨da, oa, hA, _, hdal, hca, _⟩ := HD.out (by rw [← HM.out]; omega)
    subst hA
    rw [← HM.out] at ho2' hmc ⊢
    rw [hxs] at ho2'
    have ha0 : w.cell? ⟨da, oa, none⟩ = some (cel x) := by have := hca 0 (by rw [← HM.out]; omega); rw [hxs] at this; exact this
    have hxn := x.toNat_lt
    obtain ⟨X, hX⟩ : ∃ X, X = x.toNat := ⟨_, rfl⟩
    have hac : cel x = .int .u8 (X : Int) := by rw [hX]; rfl
    rw [hac] at ha0
    have hX8 : X < 256 := by omega
    have e1 := or8_bits X hX8
    have f1 := or8_facts X hX8
    have e2 := an_bits X hX8
    have e3 := or16_bits X hX8
    have f3 := an_facts X hX8
    generalize X ||| 8 = B1 at *
    generalize X &&& 231 = B2 at *
    generalize B2 ||| 16 = B3 at *
    have a2 : w2.cell? ⟨da, oa, none⟩ = some (.int .u8 (X : Int)) := (HB2.out.cell (p := ⟨da, oa, none⟩) (by exact hdal)).trans ha0
    have c2 := ho2'.cellAt 0 (by simp)
    have HO2 := Lib.hid ho2'
    have hga : g ≠ da := by omega
    obtain ⟨p0, p1⟩ := c2
    have Ha0 := Lib.hid ha0
    clear ho2' hca hac hX ha0
    rw [show (x :: x1 :: r)[0] = x from rfl] at p0
    have ho3 := HO2.out.put8 0 (UInt8.ofNat B1)
    rw [cel_of B1 f1.1] at ho3
    have HO3 : Hid (OwB (w2.setCell ⟨g, 0, none⟩ (.int .u8 (B1 : Int))) 5 w.heap.size (.slice (some ⟨g, 0, none⟩) m c) (UInt8.ofNat B1 :: x1 :: r)) := ho3
    have HB3 : Hid (Below w.heap.size w (w2.setCell ⟨g, 0, none⟩ (.int .u8 (B1 : Int)))) := HB2.out.setCell hgb _
    clear ho3
    go_upto_region 9 with fail
    generalize w2.setCell ⟨g, 0, none⟩ (.int .u8 (B1 : Int)) = w3 at *
    have hgw := HG.out
    have HA1 : Hid (ansH (hdr (UInt8.ofNat B1 :: x1 :: r)) = .tuple #[.agg #[.int .u64 0, .int .u64 0, .bool false, .bool false], .int .i64 0, .int .i64 11]) := by
      unfold Hid
      rw [hdr_bad _ _ (by rw [UInt8.toNat_ofNat', Nat.mod_eq_of_lt f1.1]; exact f1.2)]
      rfl
    obtain ⟨⟨⟨h1, h2, h3, h4⟩, n, e⟩, hr⟩ : ∃ z, z = hdr (UInt8.ofNat B2 :: x1 :: r) := ⟨_, rfl⟩
    have HA2 : Hid (ansH (hdr (UInt8.ofNat B2 :: x1 :: r)) = .tuple #[.agg #[.int .u64 (h1 : Int), .int .u64 (h2 : Int), .bool h3, .bool h4], .int .i64 (n : Int), .int .i64 e]) := by rw [← hr]; rfl
    have HA3 : Hid (ansH (hdr (UInt8.ofNat B3 :: x1 :: r)) = .tuple #[.agg #[.int .u64 (h1 : Int), .int .u64 (h2 : Int), .bool h3, .bool h4], .int .i64 (n : Int), .int .i64 e]) := by
      have hsm := hdr_same (UInt8.ofNat B2) (UInt8.ofNat B3) (x1 :: r) (by rw [UInt8.toNat_ofNat', UInt8.toNat_ofNat', Nat.mod_eq_of_lt f3.1, Nat.mod_eq_of_lt f3.2.1]; exact f3.2.2.1) (by rw [UInt8.toNat_ofNat', UInt8.toNat_ofNat', Nat.mod_eq_of_lt f3.1, Nat.mod_eq_of_lt f3.2.1]; exact f3.2.2.2)
      rw [← hsm, ← hr]; rfl
    have hdd := hdr_dict (UInt8.ofNat y) r (by omega)
    obtain ⟨⟨⟨j1, j2, j3, j4⟩, jn, je⟩, hj⟩ : ∃ z, z = hdr (33 :: UInt8.ofNat y :: r) := ⟨_, rfl⟩
    have HA4 : Hid (ansH (hdr (33 :: UInt8.ofNat y :: r)) = .tuple #[.agg #[.int .u64 (j1 : Int), .int .u64 (j2 : Int), .bool j3, .bool j4], .int .i64 (jn : Int), .int .i64 je]) := by rw [← hj]; rfl
    have hje : ((je == 14) == ((y : Int) != 0)) = true := by
      rw [← hj] at hdd
      by_cases h0 : y = 0
      · subst h0
        have h := hdd.1 rfl
        dsimp only at h
        rw [h]; rfl
      · have h := hdd.2 (fun e => h0 (by
          have := congrArg UInt8.toNat e
          rw [UInt8.toNat_ofNat', Nat.mod_eq_of_lt hy8] at this
          exact this))
        dsimp only at h
        rw [h]
        simpa using h0
    have hlen : ∀ a b : UInt8, (a :: b :: r).length = m := fun a b => by rw [← hrl]; rfl
    have HLen := Lib.hid hlen
    have hyc := cel_of y hy8
    have hb2 := cel_of B2 f3.1
    have hb3 := cel_of B3 f3.2.1
    clear hr hj hdd hgw hlen HD HD1 HI HO2 p0 p1 a2 HB1 HB2 hs1 hxs
    have F3 := Lib.hid f3
    clear f1 f3
    have hR1 := Lib.hid (read15_any (HO3.out.dat) (HLen.out _ _) hmc (by rw [HLen.out]; omega) (Nat.le_refl _) (HG.out.below HB3.out hw2))
    rw [HA1.out] at hR1
    go_upto_region 10 with (go_at_call 9; refine hR1.out.mono ?_; rintro e' v1 ⟨rfl, hB⟩; have HBv1 := Lib.hid hB; have HBr1 := Lib.hid (HB3.out.trans (hB.mono HB3.out.size)); have HOv1 := Lib.hid (HO3.out.kept hB); clear hB)
    have HOa1 := Lib.hid (HOv1.out.alloc (.cells #[.int .u64 0, .int .u64 0, .bool false, .bool false] 26))
    have HBa1 : Hid (Below w.heap.size w (v1.alloc (.cells #[.int .u64 0, .int .u64 0, .bool false, .bool false] 26))) := HBr1.out.alloc HBr1.out.size _
    have hgs1 : g < (v1.alloc (.cells #[.int .u64 0, .int .u64 0, .bool false, .bool false] 26)).heap.size := (HOa1.out.block g rfl).2
    generalize v1.alloc (.cells #[.int .u64 0, .int .u64 0, .bool false, .bool false] 26) = a1 at *
    generalize v1.heap.size = q1 at *
    have ac1 : a1.cell? ⟨da, oa, none⟩ = some (.int .u8 (X : Int)) := (HBa1.out.cell (p := ⟨da, oa, none⟩) (by exact hdal)).trans Ha0.out
    obtain ⟨p0, p1⟩ := HOa1.out.cellAt 0 (by simp)
    have ho4 := HOa1.out.put8 0 (UInt8.ofNat B2)
    rw [hb2] at ho4
    have HO4 : Hid (OwB (a1.setCell ⟨g, 0, none⟩ (.int .u8 (B2 : Int))) 5 w.heap.size (.slice (some ⟨g, 0, none⟩) m c) (UInt8.ofNat B2 :: x1 :: r)) := ho4
    have HB4 : Hid (Below w.heap.size w (a1.setCell ⟨g, 0, none⟩ (.int .u8 (B2 : Int)))) := HBa1.out.setCell hgb _
    clear ho4
    go_upto_region 11 with fail
    generalize a1.setCell ⟨g, 0, none⟩ (.int .u8 (B2 : Int)) = w4 at *
    clear p0 p1 ac1
    have hR2 := Lib.hid (read15_any (HO4.out.dat) (HLen.out _ _) hmc (by rw [HLen.out]; omega) (Nat.le_refl _) (HG.out.below HB4.out hw2))
    rw [HA2.out] at hR2
    go_upto_region 12 with (go_at_call 9; refine hR2.out.mono ?_; rintro e' v2 ⟨rfl, hB⟩; have HBr2 := Lib.hid (HB4.out.trans (hB.mono HB4.out.size)); have HOv2 := Lib.hid (HO4.out.kept hB); clear hB)
    have HOa2 := Lib.hid (HOv2.out.alloc (.cells #[.int .u64 (h1 : Int), .int .u64 (h2 : Int), .bool h3, .bool h4] 26))
    have HBa2 : Hid (Below w.heap.size w (v2.alloc (.cells #[.int .u64 (h1 : Int), .int .u64 (h2 : Int), .bool h3, .bool h4] 26))) := HBr2.out.alloc HBr2.out.size _
    have hgs2 : g < (v2.alloc (.cells #[.int .u64 (h1 : Int), .int .u64 (h2 : Int), .bool h3, .bool h4] 26)).heap.size := (HOa2.out.block g rfl).2
    have HQ2 : Hid (Box (v2.alloc (.cells #[.int .u64 (h1 : Int), .int .u64 (h2 : Int), .bool h3, .bool h4] 26)) v2.heap.size 26 #[.int .u64 (h1 : Int), .int .u64 (h2 : Int), .bool h3, .bool h4]) := Box.new _ _ _
    have hgq2 : g < v2.heap.size := (HOv2.out.block g rfl).2
    generalize v2.alloc (.cells #[.int .u64 (h1 : Int), .int .u64 (h2 : Int), .bool h3, .bool h4] 26) = a2 at *
    generalize v2.heap.size = q2 at *
    have ac2 : a2.cell? ⟨da, oa, none⟩ = some (.int .u8 (X : Int)) := (HBa2.out.cell (p := ⟨da, oa, none⟩) (by exact hdal)).trans Ha0.out
    obtain ⟨p0, p1⟩ := HOa2.out.cellAt 0 (by simp)
    have ho5 := HOa2.out.put8 0 (UInt8.ofNat B3)
    rw [hb3] at ho5
    have HO5 : Hid (OwB (a2.setCell ⟨g, 0, none⟩ (.int .u8 (B3 : Int))) 5 w.heap.size (.slice (some ⟨g, 0, none⟩) m c) (UInt8.ofNat B3 :: x1 :: r)) := ho5
    have HB5 : Hid (Below w.heap.size w (a2.setCell ⟨g, 0, none⟩ (.int .u8 (B3 : Int)))) := HBa2.out.setCell hgb _
    have HQ2s5 := Lib.hid (HQ2.out.far (p := ⟨g, 0, none⟩) (by show q2 ≠ g; omega) (.int .u8 (B3 : Int)))
    clear ho5
    go_upto_region 13 with fail
    generalize a2.setCell ⟨g, 0, none⟩ (.int .u8 (B3 : Int)) = w5 at *
    clear p0 p1 ac2
    have hR3 := Lib.hid (read15_any (HO5.out.dat) (HLen.out _ _) hmc (by rw [HLen.out]; omega) (Nat.le_refl _) (HG.out.below HB5.out hw2))
    rw [HA3.out] at hR3
    go_upto_region 14 with (go_at_call 9; refine hR3.out.mono ?_; rintro e' v3 ⟨rfl, hB⟩; have HBr3 := Lib.hid (HB5.out.trans (hB.mono HB5.out.size)); have HOv3 := Lib.hid (HO5.out.kept hB); have HQ2v3 := Lib.hid (HQ2s5.out.below hB HQ2s5.out.lt); clear hB)
    have HOa3 := Lib.hid (HOv3.out.alloc (.cells #[.int .u64 (h1 : Int), .int .u64 (h2 : Int), .bool h3, .bool h4] 26))
    have HBa3 : Hid (Below w.heap.size w (v3.alloc (.cells #[.int .u64 (h1 : Int), .int .u64 (h2 : Int), .bool h3, .bool h4] 26))) := HBr3.out.alloc HBr3.out.size _
    have hgs3 : g < (v3.alloc (.cells #[.int .u64 (h1 : Int), .int .u64 (h2 : Int), .bool h3, .bool h4] 26)).heap.size := (HOa3.out.block g rfl).2
    have HQ3 : Hid (Box (v3.alloc (.cells #[.int .u64 (h1 : Int), .int .u64 (h2 : Int), .bool h3, .bool h4] 26)) v3.heap.size 26 #[.int .u64 (h1 : Int), .int .u64 (h2 : Int), .bool h3, .bool h4]) := Box.new _ _ _
    have hgq3 : g < v3.heap.size := (HOv3.out.block g rfl).2
    have HQ2a3 := Lib.hid (HQ2v3.out.alloc (.cells #[.int .u64 (h1 : Int), .int .u64 (h2 : Int), .bool h3, .bool h4] 26))
    generalize v3.alloc (.cells #[.int .u64 (h1 : Int), .int .u64 (h2 : Int), .bool h3, .bool h4] 26) = a3 at *
    generalize v3.heap.size = q3 at *
    obtain ⟨p0, p1⟩ := HOa3.out.cellAt 0 (by simp)
    obtain ⟨p2, p3⟩ := HOa3.out.cellAt 1 (by simp)
    have ho6 := (HOa3.out.put8 0 33).put8 1 (UInt8.ofNat y)
    rw [hyc, show cel 33 = .int .u8 33 from rfl] at ho6
    have HO6 : Hid (OwB ((a3.setCell ⟨g, 0, none⟩ (.int .u8 33)).setCell ⟨g, 1, none⟩ (.int .u8 (y : Int))) 5 w.heap.size (.slice (some ⟨g, 0, none⟩) m c) (33 :: UInt8.ofNat y :: r)) := ho6
    have HB6 : Hid (Below w.heap.size w ((a3.setCell ⟨g, 0, none⟩ (.int .u8 33)).setCell ⟨g, 1, none⟩ (.int .u8 (y : Int)))) := (HBa3.out.setCell hgb _).setCell hgb _
    have HQ2s6 := Lib.hid ((HQ2a3.out.far (p := ⟨g, 0, none⟩) (by show q2 ≠ g; omega) (.int .u8 33)).far (p := ⟨g, 1, none⟩) (by show q2 ≠ g; omega) (.int .u8 (y : Int)))
    have HQ3s6 := Lib.hid ((HQ3.out.far (p := ⟨g, 0, none⟩) (by show q3 ≠ g; omega) (.int .u8 33)).far (p := ⟨g, 1, none⟩) (by show q3 ≠ g; omega) (.int .u8 (y : Int)))
    clear ho6
    go_upto_region 16 with fail
    generalize (a3.setCell ⟨g, 0, none⟩ (.int .u8 33)).setCell ⟨g, 1, none⟩ (.int .u8 (y : Int)) = w6 at *
    clear p0 p1 p2 p3
    have hR4 := Lib.hid (read15_any (HO6.out.dat) (HLen.out _ _) hmc (by rw [HLen.out]; omega) (Nat.le_refl _) (HG.out.below HB6.out hw2))
    rw [HA4.out] at hR4
    go_upto_region 17 with (go_at_call 9; refine hR4.out.mono ?_; rintro e' v4 ⟨rfl, hB⟩; have HBr4 := Lib.hid (HB6.out.trans (hB.mono HB6.out.size)); have HQ2v4 := Lib.hid (HQ2s6.out.below hB HQ2s6.out.lt); have HQ3v4 := Lib.hid (HQ3s6.out.below hB HQ3s6.out.lt); clear hB)
    have HQ2a4 := Lib.hid (HQ2v4.out.alloc (.cells #[.int .u64 (j1 : Int), .int .u64 (j2 : Int), .bool j3, .bool j4] 26))
    have HQ3a4 := Lib.hid (HQ3v4.out.alloc (.cells #[.int .u64 (j1 : Int), .int .u64 (j2 : Int), .bool j3, .bool j4] 26))
    have HBa4 : Hid (Below w.heap.size w (v4.alloc (.cells #[.int .u64 (j1 : Int), .int .u64 (j2 : Int), .bool j3, .bool j4] 26))) := HBr4.out.alloc HBr4.out.size _
    generalize v4.alloc (.cells #[.int .u64 (j1 : Int), .int .u64 (j2 : Int), .bool j3, .bool j4] 26) = a4 at *
    generalize v4.heap.size = q4 at *
    have b0 := HQ2a4.out.cell 0
    have b1 := HQ2a4.out.cell 1
    have b2 := HQ2a4.out.cell 2
    have b3 := HQ2a4.out.cell 3
    have d0 := HQ3a4.out.cell 0
    have d1 := HQ3a4.out.cell 1
    have d2 := HQ3a4.out.cell 2
    have d3 := HQ3a4.out.cell 3
    simp at b0 b1 b2 b3 d0 d1 d2 d3
    have k1 : ((n : Int) == (n : Int)) = true := by simp
    have k2 : (e == e) = true := by simp
    clear HA1 HA2 HA3 HA4 hR1 hR2 hR3 hR4 F3 e1 e2 e3
    go_wp2_with fail
    go_ret
    exact ⟨rfl, HBa4.out⟩
  · by_cases h20 : m < 20
    · have h20i : (m : Int) < 20 := by omega
      clear hin
      go_enter Tryd.func7, Tryd.ntmps7
      go_wp2_with (go_at_call 8; refine (awake_any _ HG.out).mono ?_; rintro e' w1 ⟨rfl, hB1⟩; have HB1 := Lib.hid hB1; clear hB1)
      go_ret
      exact ⟨rfl, HB1.out⟩
    · have h20i : decide ((m : Int) < 20) = false := by simp; omega
      have h100 : (100 : Int) < (m : Int) := by omega
      clear hin
      go_enter Tryd.func7, Tryd.ntmps7
      go_wp2_with (go_at_call 8; refine (awake_any _ HG.out).mono ?_; rintro e' w1 ⟨rfl, hB1⟩; have HB1 := Lib.hid hB1; clear hB1)
      go_ret
      exact ⟨rfl, HB1.out⟩

set_option maxRecDepth 100000 in
theorem lifted (os : Os) (started : os.Started) (H : Type) (enc : TypeId × Value → H) :
    ReturnsInHanded {} Tryd.checked os 7 .any (fun w args => (Rows.frameRefusedSpec.pre enc Tryd.prog Tryd.f7 [] false w args ∧ laidMetH Tryd.prog laidL w) ∧ sizedMet enc Tryd.prog Tryd.f7 (OpenSpec.ofChange Rows.frameRefusedSpec) false w args)
      (Rows.frameRefusedSpec.post enc Tryd.prog Tryd.f7 false true false false) := by
  refine returnsInHanded_of_change_and (C := Tryd.checked) (X := fun w _ => laidMetH Tryd.prog laidL w) (fun _ _ _ hh h => h.of_heap hh) own started (by kernel_rfl) Tryd.func7
    (ChangeSpec.witness_shaped (enc := enc) (C := Tryd.checked) (os := os) (X := fun w _ => laidMetH Tryd.prog laidL w) false (World.doorLaid Tryd.prog 400 os) #[.slice none 0 0, .int .u8 0] 8 rfl (World.shaped_of_RefB (by kernel_rfl) (by kernel_rfl)) (by kernel_rfl) (by kernel_rfl) (by kernel_rfl) (door_met os _)) ?_
  intro W base args ds gs before hval0 hW _ _ hL _
  have hval : ∀ (j : Nat) t v, Tryd.f7.params[j]? = some t → args[j]? = some v → Value.okWide Tryd.prog W .any base t v := hval0
  have hW' := hW
  obtain ⟨p, q, hA0, hV, rfl, hfz, hnd⟩ := hW
  have hA : DataW.TrodAll enc Tryd.prog W 0 (fun _ => true) true Tryd.f7.params.toList args.toList ds p := hA0
  rw [Tryd.params7] at hA hval
  obtain ⟨v0, vs0, d0, ds0, p0, q0, hargs, rfl, rfl, h0, r0⟩ := trodAll_cons hA
  obtain ⟨v1, vs1, d1, ds1, p1, q1, rfl, rfl, rfl, h1, r1⟩ := trodAll_cons r0
  obtain ⟨rfl, rfl, rfl⟩ := trodAll_nil r1
  obtain rfl : args = #[v0, v1] := by cases args; simp_all
  obtain ⟨rfl, rfl⟩ := trodVars_none hV
  obtain ⟨a0, len0, cap0, rfl⟩ := okWide_slice Tryd.underlying22 (hval 0 22 v0 rfl rfl)
  have k0 := h0
  have lt0 : ∀ x ∈ p0, x.block < W.heap.size := by obtain ⟨m, hm⟩ := k0; exact DataW.trod_lt m _ _ _ hm
  obtain ⟨z0, w0⟩ := row_of_trod h0
  obtain ⟨xs0, rfl, hl0, hm0, hd0⟩ := row_dat w0
  obtain ⟨n1, rfl, rfl, rfl, w1⟩ := open_int Tryd.underlying5 (hval 1 5 v1 rfl rfl) h1
  clear hA0 hval0
  refine (walk a0 xs0 cap0 n1 W (glob_of_laid hL) hd0 (by omega) (u8_bounds w1)).mono fun e W' ⟨he, bel⟩ => ?_
  subst he
  exact ⟨_, rfl, _, _, _, [], _, [], hW', trodAll_mk1 (shut_bool Tryd.underlying4 _), (trodAll_cons_mk (Below.trod laidOut (by kernel_rfl) (of_decide_eq_true (by kernel_rfl)) k0 bel lt0) (trodAll_cons_mk (shut_int Tryd.underlying5 w1) trodAll_mk0)), rfl, bel.frame _, fun h => by cases h⟩

theorem over : Rows.frameRefusedRow.holds Tryd.pinned (OpenSpec.ofChange Rows.frameRefusedSpec) :=
  OpenClaim.holds_of_wide 7 Tryd.f7 rfl rfl rfl rfl rfl rfl rfl ⟨rfl, rfl, rfl, rfl, rfl⟩ rfl rfl rfl rfl rfl (by kernel_rfl) Tryd.func7 (by kernel_rfl)
    (of_decide_eq_true (by kernel_rfl)) (by unfold Func.isWrapper; first | (rw [if_pos (by decide +kernel)]; kernel_rfl) | (rw [if_neg (by decide +kernel)]; exact ⟨rfl, rfl⟩))
    (fun os started H enc _ => lifted os started H enc)

/-- ████ THE STATEMENT ████ -/
theorem proved : Rows.FrameRefusedCardSaid :=
  Claim7.holds_tied_plain_at .later [] [.data, .wider] true Rows.frameRefusedCard.stood.harness false
    over (fun _ h => by cases h) (by kernel_rfl) (fun _ h => by cases h) frameRefused_row_tie rfl ⟨rfl, rfl⟩ (by kernel_rfl) rfl
    (fun f fn hf hfn => by
      obtain rfl : f = 7 := Option.some.inj ((show Tryd.prog.funcNamed Rows.frameRefusedRow.func = some 7 by kernel_rfl).symm.trans hf) |>.symm
      obtain rfl : fn = Tryd.f7 := (Option.some.inj (Tryd.func7.symm.trans hfn)).symm
      exact ⟨by kernel_rfl, fun j t ht => by
        rw [Tryd.params7] at ht
        have hm : t ∈ [22, 5] := by
          have := Array.mem_of_getElem? ht
          simp at this
          simpa using this
        have hall : ([22, 5].all fun u => !Tryd.prog.wantsStandIn u) = true := by kernel_rfl
        exact (show Tryd.prog.wantsStandIn t = false by simpa using List.all_eq_true.1 hall t hm)⟩)
    (by kernel_rfl)
#print axioms proved
end Go.Proofs.YtmominbmalhdoaaDoor.frameRefused
