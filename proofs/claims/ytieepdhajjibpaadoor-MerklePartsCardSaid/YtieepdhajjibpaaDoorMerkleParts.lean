
/- MerkleParts holds, tied to the program's text: for every bytes and three numbers the law returns true. No condition of ours; the row's own: the package's variables read as the text lays them. -/
import Derived.Test.YtieepdhajjibpaaDoorMrkParts
import Derived.Laws.Closers25b
import Derived.Test.YtieepdhajjibpaaDoorMrkArgs
import Derived.Test.YtieepdhajjibpaaDoorMrkAwake
namespace Go.Proofs.YtieepdhajjibpaaDoor.merkleParts
open Go.ChangeShapes Go.WideShapes Go.ChangeAt Go.RowKit

set_option maxRecDepth 20000 in
set_option maxHeartbeats 20000000 in
theorem walk (a0 : Option Addr) (xs : List UInt8) (cap0 : Nat) (pt po x : Int) (w : World) (hgl : Glob w) (hd0 : Dat false w 0 w.heap.size a0 xs) (hl0 : xs.length ≤ cap0) (h1 : 0 ≤ pt ∧ pt ≤ 255) (h2 : 0 ≤ po ∧ po ≤ 65535) (h3 : 0 ≤ x ∧ x ≤ 255) :
    Calls Tryd.prog 8 #[.slice a0 xs.length cap0, .int .u8 pt, .int .u16 po, .int .u8 x] w fun e w' => e = .returned (.bool true) ∧ Below w.heap.size w w' := by
  have HG := Lib.hid hgl
  have hw2 := hgl.2.2
  have HD0 := Lib.hid hd0
  clear hgl hd0
  go_enter Tryd.func8, Tryd.ntmps8
  go_upto_region 4 with (first | (go_at_call 10; refine (mawake_any _ HG.out).mono ?_; rintro e' W ⟨rfl, hB⟩; have BW := Lib.hid hB; clear hB))
  have hwW := BW.out.size
  go_upto_region 5 with fail
  obtain ⟨k, hk⟩ : ∃ k : Nat, pt % 60 + 1 = (k : Int) := ⟨(pt % 60 + 1).toNat, by omega⟩
  have hk1 : 1 ≤ k := by omega
  have hk2 : k ≤ 60 := by omega
  rw [hk]
  clear hk
  by_cases hz : xs.length = 0
  · have e1 : ((xs.length : Int) == 0) = true := by simp [hz]
    clear hz
    go_wp2_with fail
    go_ret
    exact ⟨rfl, BW.out⟩
  have e1 : ((xs.length : Int) == 0) = false := by rw [beq_eq_false_iff_ne]; omega
  by_cases hbig : 1000 < xs.length
  · have g1 : decide ((1000 : Int) < (xs.length : Int)) = true := by simp; omega
    go_wp2_with fail
    go_ret
    exact ⟨rfl, BW.out⟩
  have g1 : decide ((1000 : Int) < (xs.length : Int)) = false := by simp; omega
  by_cases hx0 : x = 0
  · have e2 : (x == 0) = true := by rw [hx0]; rfl
    clear hx0
    go_wp2_with fail
    go_ret
    exact ⟨rfl, BW.out⟩
  have e2 : (x == 0) = false := by simpa using hx0
  have hL : xs.length ≤ 1000 := by omega
  have hL1 : 1 ≤ xs.length := by omega
  clear hz hbig hx0
  obtain ⟨hc, hn0⟩ := cnt_small (s := xs.length) (p := k) hk1 hk2 hL
  obtain ⟨n, hn⟩ : ∃ n, n = cntN xs.length k := ⟨_, rfl⟩
  rw [← hn] at hc hn0
  have HO1 := Lib.hid (mOf_any (c := cap0) (k : Int) (HG.out.below BW.out hw2) (HD0.out.below BW.out (Nat.le_refl _)) rfl hl0 hwW (by omega))
  have HC := Lib.hid hc
  have HN := Lib.hid hn
  clear hc hn
  go_upto_region 7 with fail
  go_cut [11, 12] (fun v v12 wx => ∃ (g : Nat) (A : Option Addr) (c lo hi : Nat), v = .pointer (some ⟨g, 0, none⟩) ∧ v12 = .int .i64 0 ∧ Box wx g 35 #[.int .u64 (xs.length : Int), .int .u32 (k : Int), .slice A n c] ∧ n ≤ c ∧ DatR 32 dcs wx lo hi A (lvs xs k n) ∧ hi ≤ wx.heap.size ∧ Below W.heap.size W wx)
  case first =>
    go_wp2_with (first
      | (go_at_call 17; refine HO1.out.mono ?_; rintro e w1 hp; obtain ⟨A, c, rfl, hnc, hd, hb⟩ := of_told hp HC.out; have HDD := Lib.hid hd; have HBB := Lib.hid hb; clear hp hd hb))
    go_meet
    exact ⟨_, A, c, _, _, rfl, rfl, Box.new w1 _ _, hnc, HDD.out.alloc (Nat.le_refl _) _, by simp, HBB.out.alloc HBB.out.size _⟩
  case rest =>
    obtain ⟨g, A, c, lo, hi, rfl, rfl, hbx, hnc, hdl, hhi, hB⟩ := hcut
    obtain ⟨w2, rfl⟩ : ∃ w2, w2 = wc := ⟨_, rfl⟩
    have XM := Lib.hid hbx
    have DL := Lib.hid hdl
    have B2 : Hid (Below w.heap.size w w2) := BW.out.trans (hB.mono hwW)
    have lm := hbx.lt
    have hs2 := B2.out.size
    clear hbx hdl hB HO1 e1 g1 e2
    obtain ⟨i0, hi0, hz0, hz1, hz2⟩ := info_parts u8_info
    have HI := Lib.hid (And.intro hi0 (And.intro hz0 (And.intro hz1 hz2)))
    clear hi0 hz0 hz1 hz2
    go_upto_region 11 with fail
    go_upto_region 12 with (first
      | (at_builtin; refine list_app (u := 5) (base := w2.heap.size) (v := .slice none 0 0) (xs := []) (A := a0) (m := xs.length) (c := cap0) _ rfl _ _ 23 rfl i0 Tryd.underlying23 HI.out.1 HI.out.2.1 HI.out.2.2.1 HI.out.2.2.2 rfl (OwB.nil _ _ _) rfl (HD0.out.below B2.out (Nat.le_refl _)) rfl ?_ (Nat.le_refl _) ?_)
      | fail)
    · simp; omega
    intro C1 w3 ho3 hg3 _
    have B3 : Hid (Below w2.heap.size w2 w3) := (Below.refl _ _).grown hg3 (Nat.le_refl _) (fun k hk => by cases hk)
    obtain ⟨d, cc, rfl, hbd, hdw, hcc⟩ := ho3.place (by show 0 < xs.length; omega)
    have HO3 := Lib.hid ho3
    clear ho3 hg3
    have B3w : Hid (Below w.heap.size w w3) := B2.out.trans (B3.out.mono hs2)
    have DL3 := Lib.hid (DL.out.below B3.out hhi)
    have XM3 := Lib.hid (XM.out.below B3.out lm)
    clear DL XM
    go_upto_region 13 with fail
    obtain ⟨q, hq⟩ : ∃ q : Nat, po % (xs.length : Int) = (q : Int) := ⟨(po % (xs.length : Int)).toNat, by have := Int.emod_nonneg po (show (xs.length : Int) ≠ 0 by omega); omega⟩
    have hql : q < xs.length := by have := Int.emod_lt_of_pos po (show 0 < (xs.length : Int) by omega); omega
    rw [hq]
    clear hq
    have hcel := HO3.out.cellAt q hql
    obtain ⟨y, hy⟩ : ∃ y : Int, y = (xs[q].toNat : Int) := ⟨_, rfl⟩
    have hy1 : 0 ≤ y ∧ y ≤ 255 := by have := xs[q].toNat_lt; omega
    have c1 : w3.cell? ⟨d, q, none⟩ = some (.int .u8 y) := by rw [hy]; exact hcel.1
    have f1 : w3.frozen? ⟨d, q, none⟩ = false := hcel.2
    clear hy hcel
    go_upto_region 14 with fail
    obtain ⟨z, hz⟩ : ∃ z, z = bits .xor .u8 y x := ⟨_, rfl⟩
    have hz1 : 0 ≤ z := by rw [hz]; exact bits_lo_u8 _ _ _
    have hz2 : z ≤ 255 := by rw [hz]; exact bits_hi_u8 _ _ _
    rw [← hz]
    obtain ⟨ys, hys⟩ : ∃ ys, ys = xs.set q (UInt8.ofNat z.toNat) := ⟨_, rfl⟩
    have hyl : ys.length = xs.length := by rw [hys, List.length_set]
    obtain ⟨w4, hw4⟩ : ∃ w4, w3.setCell ⟨d, q, none⟩ (.int .u8 z) = w4 := ⟨_, rfl⟩
    have HO4 : Hid (OwB w4 5 w2.heap.size (.slice (some ⟨d, 0, none⟩) xs.length cc) ys) := by
      unfold Hid
      rw [hys, ← hw4, ← cel_int z hz1 hz2]
      exact HO3.out.put8 q _
    have B4 : Hid (Below w2.heap.size w2 w4) := hw4 ▸ B3.out.setCell (by exact hbd) _
    refine wp_as (W := w4) hw4 ?_
    have HDC := Lib.hid HO4.out.dat
    have B4w : Hid (Below w.heap.size w w4) := B2.out.trans (B4.out.mono hs2)
    have DL4 : Hid (DatR 32 dcs w4 lo hi A (lvs xs k n)) := hw4 ▸ DL3.out.far (p := ⟨d, q, none⟩) (.inr (by show hi ≤ d; omega)) _
    have XM4 : Hid (Box w4 g 35 #[.int .u64 (xs.length : Int), .int .u32 (k : Int), .slice A n c]) := hw4 ▸ XM3.out.far (p := ⟨d, q, none⟩) (by show g ≠ d; omega) _
    have PO : Hid (∀ i, i ≠ q / k → partL ys k i = partL xs k i) := fun i hi => by rw [hys]; exact part_other _ hk1 hi
    have hs4 := B4.out.size
    have HYL := Lib.hid hyl
    clear hz hys hyl hw4 c1 f1 B3 B3w DL3 XM3 HO3 HO4 hdw hz1 hz2 hy1
    have HC2 : Hid (cntE ys.length (k : Int) = ((n : Int), 0)) := by unfold Hid; rw [HYL.out]; exact HC.out
    have HO2 := Lib.hid (mOf_any (c := cc) (k : Int) (HG.out.below B4w.out hw2) HDC.out HYL.out hcc (Nat.le_refl _) (by omega))
    go_upto_region 14 with fail
    go_cut [15, 16] (fun v v16 wx => ∃ (g2 : Nat) (A2 : Option Addr) (c2 lo2 hi2 : Nat), v = .pointer (some ⟨g2, 0, none⟩) ∧ v16 = .int .i64 0 ∧ Box wx g2 35 #[.int .u64 (ys.length : Int), .int .u32 (k : Int), .slice A2 n c2] ∧ n ≤ c2 ∧ DatR 32 dcs wx lo2 hi2 A2 (lvs ys k n) ∧ hi2 ≤ wx.heap.size ∧ Below w4.heap.size w4 wx)
    case first =>
      go_wp2_with (first
        | (go_at_call 17; refine HO2.out.mono ?_; rintro e w5 hp; obtain ⟨A2, c2, rfl, hnc2, hd, hb⟩ := of_told hp HC2.out; have HDD := Lib.hid hd; have HBB := Lib.hid hb; clear hp hd hb))
      go_meet
      exact ⟨_, A2, c2, _, _, rfl, rfl, Box.new w5 _ _, hnc2, HDD.out.alloc (Nat.le_refl _) _, by simp, HBB.out.alloc HBB.out.size _⟩
    case rest =>
      obtain ⟨g2, A2, c2, lo2, hi2, rfl, rfl, hbx, hnc2, hdl, hhi2, hB⟩ := hcut
      obtain ⟨w6, rfl⟩ : ∃ w6, w6 = wc := ⟨_, rfl⟩
      have XN := Lib.hid hbx
      have DN := Lib.hid hdl
      have ln := hbx.lt
      have XM6 := Lib.hid (XM4.out.below hB (by omega))
      have DL6 := Lib.hid (DL4.out.below hB (by omega))
      have DC6 := Lib.hid (HDC.out.below hB (Nat.le_refl _))
      have B6 : Hid (Below w.heap.size w w6) := B4w.out.trans (hB.mono B4w.out.size)
      have hs6 := hB.size
      have lm6 : g < w6.heap.size := by omega
      have k2 : w6.cell? ⟨g, 2, none⟩ = some (.slice A n c) := XM6.out.cell 2
      have j2 : w6.cell? ⟨g2, 2, none⟩ = some (.slice A2 n c2) := XN.out.cell 2
      clear hbx hdl hB XM4 DL4 HDC HO2 HC2 B4 HI
      go_upto_region 18 with fail
      obtain ⟨j, hj⟩ : ∃ j, j = q / k := ⟨_, rfl⟩
      have hjn : j < n := by rw [hj, HN.out]; exact cnt_in hk1 hql
      have hdiv : (q : Int) / (k : Int) = (j : Int) := by rw [hj]; exact (Int.natCast_ediv q k).symm
      have hkz : k * j ≤ q := by rw [hj]; exact Nat.mul_div_le q k
      rw [← hj] at PO
      clear hj
      have HK0 : Hid (¬ k = 0) := by unfold Hid; omega
      have HWJ : Hid (IntKind.i64.wrap (j : Int) = (j : Int)) := IntWalk.i64_in _ (by omega)
      obtain ⟨dA, oA, hA, hdA, hRA⟩ := DL6.out.row (by rw [lvs_len]; omega)
      obtain ⟨dB, oB, hA2, hdB, hRB⟩ := DN.out.row (by rw [lvs_len]; omega)
      subst hA hA2
      have HRA : Hid (∀ i, i < n → w6.rangeAt dA (oA + i * 32) (dcs (leafD (partL xs k i)))) := fun i hi => by
        have h := hRA i (by rw [lvs_len]; exact hi)
        rwa [lvs_at] at h
      have HRB : Hid (∀ i, i < n → w6.rangeAt dB (oB + i * 32) (dcs (leafD (partL ys k i)))) := fun i hi => by
        have h := hRB i (by rw [lvs_len]; exact hi)
        rwa [lvs_at] at h
      have hdA6 : dA < w6.heap.size := by omega
      have hdB6 : dB < w6.heap.size := by omega
      clear hRA hRB DL6 DN hdA hdB
      go_loopg [17] n (fun gh v wx => ∃ i : Nat, i + gh = n ∧ v = .int .i64 (i : Int) ∧ Below w6.heap.size w6 wx)
      case atStart => exact ⟨0, by omega, rfl, Below.refl _ _⟩
      case round =>
        obtain ⟨i, hi, rfl, hB⟩ := hrel
        have HB := Lib.hid hB
        have hsr := hB.size
        have LK : Hid (∀ V, Below wr.heap.size wr V → V.cell? ⟨g, 2, none⟩ = some (.slice (some ⟨dA, oA, none⟩) n c)) := fun V hV => (XM6.out.below (HB.out.trans (hV.mono hsr)) lm6).cell 2
        have LJ : Hid (∀ V, Below wr.heap.size wr V → V.cell? ⟨g2, 2, none⟩ = some (.slice (some ⟨dB, oB, none⟩) n c2)) := fun V hV => (XN.out.below (HB.out.trans (hV.mono hsr)) ln).cell 2
        have k2r := LK.out wr (Below.refl _ _)
        have BR : Hid (Below w.heap.size w wr) := B6.out.trans (hB.mono B6.out.size)
        clear hB k2 j2
        by_cases hin : i < n
        · have g1 : decide ((i : Int) < (n : Int)) = true := by simp; omega
          go_upto_region 20 with fail
          clear k2r
          by_cases hij : i = j
          · subst hij
            have e3 : ((i : Int) != (i : Int)) = false := by simp
            refine wp_region_noPanic ?_
            refine wp_region_held_drew (S := fun V => Below wr.heap.size wr V) (by kernel_rfl) ((Below.refl _ _).drew) (fun hH => ?_)
            generalize wr.drew = wd at hH ⊢
            have BC : Hid (Below wr.heap.size wr wd) := hH
            refine takeH (i := 0) (v := .int .i64 (i : Int)) 86 rfl (by kernel_rfl) (by kernel_rfl) (by kernel_rfl) rfl (fun _ _ _ h => h) (Or.inl ⟨by rfl, fun w' _ => ?_⟩) hH ?_
            · go_simp
            go_frame
            refine takeH (i := 1) (v := .int .i64 (q : Int)) 87 rfl (by kernel_rfl) (by kernel_rfl) (by kernel_rfl) rfl (fun _ _ _ h => h) (Or.inl ⟨by rfl, fun w' _ => ?_⟩) hH ?_
            · go_simp
            go_frame
            refine takeH (i := 2) (v := .int .i64 (k : Int)) 88 rfl (by kernel_rfl) (by kernel_rfl) (by kernel_rfl) rfl (fun _ _ _ h => h) (Or.inl ⟨by rfl, fun w' _ => ?_⟩) hH ?_
            · go_simp
            go_frame
            refine takeH (i := 3) (v := .int .i64 (i : Int)) 89 rfl (by kernel_rfl) (by kernel_rfl) (by kernel_rfl) rfl (fun _ _ _ h => h) (Or.inl ⟨by rfl, fun w' hS => ?_⟩) hH ?_
            · have hk0 := HK0.out
              have hwj := HWJ.out
              go_simp
            go_frame
            refine takeH (i := 4) (v := .bool false) 90 rfl (by kernel_rfl) (by kernel_rfl) (by kernel_rfl) rfl (fun _ _ _ h => h) (Or.inl ⟨by rfl, fun w' _ => ?_⟩) hH ?_
            · go_simp
            go_frame
            refine takeH (i := 5) (v := .bool false) 91 rfl (by kernel_rfl) (by kernel_rfl) (by kernel_rfl) rfl (fun _ _ _ h => h) (Or.inl ⟨by rfl, fun w' _ => ?_⟩) hH ?_
            · go_simp
            go_frame
            refine takeH (i := 6) (v := undef) 92 rfl (by kernel_rfl) (by kernel_rfl) (by kernel_rfl) rfl (fun _ _ _ h => h) (Or.inr ⟨by rfl, rfl⟩) hH ?_
            go_frame
            refine takeH (i := 7) (v := undef) 93 rfl (by kernel_rfl) (by kernel_rfl) (by kernel_rfl) rfl (fun _ _ _ h => h) (Or.inr ⟨by rfl, rfl⟩) hH ?_
            go_frame
            refine takeH (i := 8) (v := undef) 94 rfl (by kernel_rfl) (by kernel_rfl) (by kernel_rfl) rfl (fun _ _ _ h => h) (Or.inr ⟨by rfl, rfl⟩) hH ?_
            go_frame
            refine takeH (i := 9) (v := undef) 95 rfl (by kernel_rfl) (by kernel_rfl) (by kernel_rfl) rfl (fun _ _ _ h => h) (Or.inr ⟨by rfl, rfl⟩) hH ?_
            go_frame
            refine takeH (i := 10) (v := undef) 96 rfl (by kernel_rfl) (by kernel_rfl) (by kernel_rfl) rfl (fun _ _ _ h => h) (Or.inr ⟨by rfl, rfl⟩) hH ?_
            go_frame
            refine takeH (i := 11) (v := undef) 97 rfl (by kernel_rfl) (by kernel_rfl) (by kernel_rfl) rfl (fun _ _ _ h => h) (Or.inr ⟨by rfl, rfl⟩) hH ?_
            go_frame
            refine takeH (i := 12) (v := undef) 98 rfl (by kernel_rfl) (by kernel_rfl) (by kernel_rfl) rfl (fun _ _ _ h => h) (Or.inr ⟨by rfl, rfl⟩) hH ?_
            go_frame
            refine takeH (i := 13) (v := undef) 99 rfl (by kernel_rfl) (by kernel_rfl) (by kernel_rfl) rfl (fun _ _ _ h => h) (Or.inr ⟨by rfl, rfl⟩) hH ?_
            go_frame
            refine takeH (i := 14) (v := undef) 100 rfl (by kernel_rfl) (by kernel_rfl) (by kernel_rfl) rfl (fun _ _ _ h => h) (Or.inr ⟨by rfl, rfl⟩) hH ?_
            go_frame
            refine takeH (i := 15) (v := undef) 101 rfl (by kernel_rfl) (by kernel_rfl) (by kernel_rfl) rfl (fun _ _ _ h => h) (Or.inr ⟨by rfl, rfl⟩) hH ?_
            go_frame
            refine takeH (i := 16) (v := undef) 102 rfl (by kernel_rfl) (by kernel_rfl) (by kernel_rfl) rfl (fun _ _ _ h => h) (Or.inr ⟨by rfl, rfl⟩) hH ?_
            go_frame
            refine takeH (i := 17) (v := .bool false) 103 rfl (by kernel_rfl) (by kernel_rfl) (by kernel_rfl) rfl (fun _ _ _ h => h) (Or.inl ⟨by rfl, fun w' _ => ?_⟩) hH ?_
            · go_simp
            go_frame
            refine wpAnyH_done (by kernel_rfl) ?_ _
            refine NoPanic.normal ?_
            go_wp2_with fail
            go_roundg (n - (i + 1))
            case measure => omega
            case rel => exact ⟨i + 1, by omega, by go_num, HB.out.trans (BC.out.mono hsr)⟩
          · have e3 : ((i : Int) != (j : Int)) = true := by rw [bne_iff_ne]; omega
            obtain ⟨R, hR⟩ : ∃ R, R = (dcs (leafD (partL xs k i))).toArray := ⟨_, rfl⟩
            have q1 : ∀ V, (Op.equalIn 10000 25 (.agg R) (.agg R)).run Tryd.prog V = .ok true V := fun V => by rw [hR]; exact (eqD _ _ V).trans (by rw [beq_self_eq_true])
            have LD1 : Hid (∀ V, Below wr.heap.size wr V → (loadVar 25 ⟨dA, oA + i * 32, none⟩).run Tryd.prog V = .ok (.agg R) V) := fun V hV => by
              rw [hR]
              exact run_loadVar_sub (P := Tryd.prog) V dA (oA + i * 32) 25 (dcs (leafD (partL xs k i))) _ (fun j v hv => ((HB.out.trans (hV.mono hsr)).cell (p := ⟨dA, oA + i * 32 + j, none⟩) hdA6).trans (HRA.out i hin j v hv)) Tryd.underlying25 rfl (by rw [dcs_len]; kernel_rfl)
            have LD2 : Hid (∀ V, Below wr.heap.size wr V → (loadVar 25 ⟨dB, oB + i * 32, none⟩).run Tryd.prog V = .ok (.agg R) V) := fun V hV => by
              rw [hR, ← PO.out i hij]
              exact run_loadVar_sub (P := Tryd.prog) V dB (oB + i * 32) 25 (dcs (leafD (partL ys k i))) _ (fun j v hv => ((HB.out.trans (hV.mono hsr)).cell (p := ⟨dB, oB + i * 32 + j, none⟩) hdB6).trans (HRB.out i hin j v hv)) Tryd.underlying25 rfl (by rw [dcs_len]; kernel_rfl)
            clear hR
            refine wp_region_noPanic ?_
            refine wp_region_held_drew (S := fun V => Below wr.heap.size wr V) (by kernel_rfl) ((Below.refl _ _).drew) (fun hH => ?_)
            generalize wr.drew = wd at hH ⊢
            have BC : Hid (Below wr.heap.size wr wd) := hH
            refine takeH (i := 0) (v := .int .i64 (i : Int)) 86 rfl (by kernel_rfl) (by kernel_rfl) (by kernel_rfl) rfl (fun _ _ _ h => h) (Or.inl ⟨by rfl, fun w' _ => ?_⟩) hH ?_
            · go_simp
            go_frame
            refine takeH (i := 1) (v := .int .i64 (q : Int)) 87 rfl (by kernel_rfl) (by kernel_rfl) (by kernel_rfl) rfl (fun _ _ _ h => h) (Or.inl ⟨by rfl, fun w' _ => ?_⟩) hH ?_
            · go_simp
            go_frame
            refine takeH (i := 2) (v := .int .i64 (k : Int)) 88 rfl (by kernel_rfl) (by kernel_rfl) (by kernel_rfl) rfl (fun _ _ _ h => h) (Or.inl ⟨by rfl, fun w' _ => ?_⟩) hH ?_
            · go_simp
            go_frame
            refine takeH (i := 3) (v := .int .i64 (j : Int)) 89 rfl (by kernel_rfl) (by kernel_rfl) (by kernel_rfl) rfl (fun _ _ _ h => h) (Or.inl ⟨by rfl, fun w' hS => ?_⟩) hH ?_
            · have hk0 := HK0.out
              have hwj := HWJ.out
              go_simp
            go_frame
            refine takeH (i := 4) (v := .bool true) 90 rfl (by kernel_rfl) (by kernel_rfl) (by kernel_rfl) rfl (fun _ _ _ h => h) (Or.inl ⟨by rfl, fun w' _ => ?_⟩) hH ?_
            · go_simp
            go_frame
            refine takeH (i := 5) (v := .bool true) 91 rfl (by kernel_rfl) (by kernel_rfl) (by kernel_rfl) rfl (fun _ _ _ h => h) (Or.inl ⟨by rfl, fun w' _ => ?_⟩) hH ?_
            · go_simp
            go_frame
            refine takeH (i := 6) (v := .pointer (some ⟨g, 2, none⟩)) 92 rfl (by kernel_rfl) (by kernel_rfl) (by kernel_rfl) rfl (fun _ _ _ h => h) (Or.inl ⟨by rfl, fun w' _ => ?_⟩) hH ?_
            · go_simp
            go_frame
            refine takeH (i := 7) (v := .slice (some ⟨dA, oA, none⟩) n c) 93 rfl (by kernel_rfl) (by kernel_rfl) (by kernel_rfl) rfl (fun _ _ _ h => h) (Or.inl ⟨by rfl, fun w' hS => ?_⟩) hH ?_
            · have c2 := LK.out w' hS
              go_simp
            go_frame
            refine takeH (i := 8) (v := .int .i64 (i : Int)) 94 rfl (by kernel_rfl) (by kernel_rfl) (by kernel_rfl) rfl (fun _ _ _ h => h) (Or.inl ⟨by rfl, fun w' _ => ?_⟩) hH ?_
            · go_simp
            go_frame
            refine takeH (i := 9) (v := .pointer (some ⟨dA, oA + i * 32, none⟩)) 95 rfl (by kernel_rfl) (by kernel_rfl) (by kernel_rfl) rfl (fun _ _ _ h => h) (Or.inl ⟨by rfl, fun w' _ => ?_⟩) hH ?_
            · go_simp
            go_frame
            refine takeH (i := 10) (v := .agg R) 96 rfl (by kernel_rfl) (by kernel_rfl) (by kernel_rfl) rfl (fun _ _ _ h => h) (yieldsIf_load_run (by rfl) rfl rfl LD1.out) hH ?_
            go_frame
            refine takeH (i := 11) (v := .pointer (some ⟨g2, 2, none⟩)) 97 rfl (by kernel_rfl) (by kernel_rfl) (by kernel_rfl) rfl (fun _ _ _ h => h) (Or.inl ⟨by rfl, fun w' _ => ?_⟩) hH ?_
            · go_simp
            go_frame
            refine takeH (i := 12) (v := .slice (some ⟨dB, oB, none⟩) n c2) 98 rfl (by kernel_rfl) (by kernel_rfl) (by kernel_rfl) rfl (fun _ _ _ h => h) (Or.inl ⟨by rfl, fun w' hS => ?_⟩) hH ?_
            · have c2 := LJ.out w' hS
              go_simp
            go_frame
            refine takeH (i := 13) (v := .int .i64 (i : Int)) 99 rfl (by kernel_rfl) (by kernel_rfl) (by kernel_rfl) rfl (fun _ _ _ h => h) (Or.inl ⟨by rfl, fun w' _ => ?_⟩) hH ?_
            · go_simp
            go_frame
            refine takeH (i := 14) (v := .pointer (some ⟨dB, oB + i * 32, none⟩)) 100 rfl (by kernel_rfl) (by kernel_rfl) (by kernel_rfl) rfl (fun _ _ _ h => h) (Or.inl ⟨by rfl, fun w' _ => ?_⟩) hH ?_
            · go_simp
            go_frame
            refine takeH (i := 15) (v := .agg R) 101 rfl (by kernel_rfl) (by kernel_rfl) (by kernel_rfl) rfl (fun _ _ _ h => h) (yieldsIf_load_run (by rfl) rfl rfl LD2.out) hH ?_
            go_frame
            refine takeH (i := 16) (v := .bool false) 102 rfl (by kernel_rfl) (by kernel_rfl) (by kernel_rfl) rfl (fun _ _ _ h => h) (Or.inl ⟨by rfl, fun w' _ => ?_⟩) hH ?_
            · go_simp
            go_frame
            refine takeH (i := 17) (v := .bool false) 103 rfl (by kernel_rfl) (by kernel_rfl) (by kernel_rfl) rfl (fun _ _ _ h => h) (Or.inl ⟨by rfl, fun w' _ => ?_⟩) hH ?_
            · go_simp
            go_frame
            refine wpAnyH_done (by kernel_rfl) ?_ _
            refine NoPanic.normal ?_
            go_wp2_with fail
            go_roundg (n - (i + 1))
            case measure => omega
            case rel => exact ⟨i + 1, by omega, by go_num, HB.out.trans (BC.out.mono hsr)⟩
        · have g1 : decide ((i : Int) < (n : Int)) = false := by simp; omega
          obtain rfl : i = n := by omega
          clear hin hi
          go_upto_region 23 with fail
          obtain ⟨zz, hzz⟩ : ∃ zz, zz = k * j := ⟨_, rfl⟩
          obtain ⟨lg, hlg⟩ : ∃ lg, lg = longN xs.length k j := ⟨_, rfl⟩
          have hmul : (k : Int) * ((j : Int) + 1) = (zz : Int) + (k : Int) := by rw [hzz, Int.mul_add, Int.mul_one, Int.natCast_mul]
          have hml2 : (k : Int) * (j : Int) = (zz : Int) := by rw [hzz, Int.natCast_mul]
          have hlg2 : lg = min (xs.length - zz) k := by rw [hlg, hzz]; rfl
          have hzl : zz < xs.length := by omega
          have HPX : Hid (partL xs k j = (xs.drop zz).take lg) := by unfold Hid; rw [hlg, hzz]; rfl
          have HPY : Hid (partL ys k j = (ys.drop zz).take lg) := by unfold Hid; rw [hlg, hzz, ← HYL.out]; rfl
          have hll : lg ≤ xs.length - zz := by omega
          clear hzz hlg hkz
          have HML := Lib.hid hml2
          clear hml2
          go_upto_if 114 with fail
          go_cut [19] (fun v wx => v = .int .i64 ((zz : Int) + (lg : Int)) ∧ Below wr.heap.size wr wx)
          case first =>
            by_cases hbg : xs.length < zz + k
            · have g4 : decide ((xs.length : Int) < (zz : Int) + (k : Int)) = true := decide_eq_true (by omega)
              have e5 : (xs.length : Int) = (zz : Int) + (lg : Int) := by omega
              have E5 := Lib.hid e5
              clear e5 hlg2 hll hmul
              rw [g4]
              go_wp2_with fail
              go_meet
              exact ⟨by rw [E5.out], Below.refl _ _⟩
            · have g4 : decide ((xs.length : Int) < (zz : Int) + (k : Int)) = false := decide_eq_false (by omega)
              have e5 : (k : Int) = (lg : Int) := by omega
              have E5 := Lib.hid e5
              clear e5 hlg2 hll hmul
              rw [g4]
              go_wp2_with fail
              go_meet
              exact ⟨by rw [E5.out], Below.refl _ _⟩
          case rest =>
            obtain ⟨rfl, hB⟩ := hcut
            obtain ⟨W8, rfl⟩ : ∃ W8, W8 = wc := ⟨_, rfl⟩
            have H8 : Hid (Below w6.heap.size w6 W8) := HB.out.trans (hB.mono hsr)
            have B8 : Hid (Below w.heap.size w W8) := BR.out.trans (hB.mono BR.out.size)
            have hs8 := H8.out.size
            have CK : Hid (∀ V, Below W8.heap.size W8 V → V.cell? ⟨g, 2, none⟩ = some (.slice (some ⟨dA, oA, none⟩) i c)) := fun V hV => LK.out V (hB.trans (hV.mono hB.size))
            have CJ : Hid (∀ V, Below W8.heap.size W8 V → V.cell? ⟨g2, 2, none⟩ = some (.slice (some ⟨dB, oB, none⟩) i c2)) := fun V hV => LJ.out V (hB.trans (hV.mono hB.size))
            clear hB LK LJ k2r hmul hlg2 hdiv g1
            obtain ⟨lx, hlx⟩ : ∃ l, l = leafD (partL xs k j) := ⟨_, rfl⟩
            obtain ⟨ly, hly⟩ : ∃ l, l = leafD (partL ys k j) := ⟨_, rfl⟩
            obtain ⟨Z1, hZ1⟩ : ∃ R, R = (dcs lx).toArray := ⟨_, rfl⟩
            obtain ⟨Z2, hZ2⟩ : ∃ R, R = (dcs ly).toArray := ⟨_, rfl⟩
            have LD1 : Hid (∀ V, Below W8.heap.size W8 V → (loadVar 25 ⟨dA, oA + j * 32, none⟩).run Tryd.prog V = .ok (.agg Z1) V) := fun V hV => by
              rw [hZ1, hlx]
              exact run_loadVar_sub (P := Tryd.prog) V dA (oA + j * 32) 25 (dcs (leafD (partL xs k j))) _ (fun t v hv => ((H8.out.trans (hV.mono hs8)).cell (p := ⟨dA, oA + j * 32 + t, none⟩) hdA6).trans (HRA.out j hjn t v hv)) Tryd.underlying25 rfl (by rw [dcs_len]; kernel_rfl)
            have LD2 : Hid (∀ V, Below W8.heap.size W8 V → (loadVar 25 ⟨dB, oB + j * 32, none⟩).run Tryd.prog V = .ok (.agg Z2) V) := fun V hV => by
              rw [hZ2, hly]
              exact run_loadVar_sub (P := Tryd.prog) V dB (oB + j * 32) 25 (dcs (leafD (partL ys k j))) _ (fun t v hv => ((H8.out.trans (hV.mono hs8)).cell (p := ⟨dB, oB + j * 32 + t, none⟩) hdB6).trans (HRB.out j hjn t v hv)) Tryd.underlying25 rfl (by rw [dcs_len]; kernel_rfl)
            clear PO HRA HRB hdA6 hdB6 HC HN
            by_cases hxy : lx = ly
            case neg =>
              have q1 : ∀ V, (Op.equalIn 10000 25 (.agg Z1) (.agg Z2)).run Tryd.prog V = .ok false V := fun V => by rw [hZ1, hZ2]; exact (eqD _ _ V).trans (by rw [beq_eq_false_iff_ne.2 (fun h => hxy (Subtype.ext h))])
              clear hZ1 hZ2 hlx hly hxy
              go_upto_region 26 with fail
              refine wp_region_noPanic ?_
              refine wp_region_held_drew (S := fun V => Below W8.heap.size W8 V) (by kernel_rfl) ((Below.refl _ _).drew) (fun hH => ?_)
              generalize W8.drew = wd at hH ⊢
              have BC : Hid (Below W8.heap.size W8 wd) := hH
              refine takeH (i := 0) (v := .pointer (some ⟨g, 2, none⟩)) 117 rfl (by kernel_rfl) (by kernel_rfl) (by kernel_rfl) rfl (fun _ _ _ h => h) (Or.inl ⟨by rfl, fun w' _ => ?_⟩) hH ?_
              · go_simp
              go_frame
              refine takeH (i := 1) (v := .slice (some ⟨dA, oA, none⟩) i c) 118 rfl (by kernel_rfl) (by kernel_rfl) (by kernel_rfl) rfl (fun _ _ _ h => h) (Or.inl ⟨by rfl, fun w' hS => ?_⟩) hH ?_
              · have c2 := CK.out w' hS
                go_simp
              go_frame
              refine takeH (i := 2) (v := .int .i64 (j : Int)) 119 rfl (by kernel_rfl) (by kernel_rfl) (by kernel_rfl) rfl (fun _ _ _ h => h) (Or.inl ⟨by rfl, fun w' _ => ?_⟩) hH ?_
              · go_simp
              go_frame
              refine takeH (i := 3) (v := .pointer (some ⟨dA, oA + j * 32, none⟩)) 120 rfl (by kernel_rfl) (by kernel_rfl) (by kernel_rfl) rfl (fun _ _ _ h => h) (Or.inl ⟨by rfl, fun w' _ => ?_⟩) hH ?_
              · go_simp
              go_frame
              refine takeH (i := 4) (v := .agg Z1) 121 rfl (by kernel_rfl) (by kernel_rfl) (by kernel_rfl) rfl (fun _ _ _ h => h) (yieldsIf_load_run (by rfl) rfl rfl LD1.out) hH ?_
              go_frame
              refine takeH (i := 5) (v := .pointer (some ⟨g2, 2, none⟩)) 122 rfl (by kernel_rfl) (by kernel_rfl) (by kernel_rfl) rfl (fun _ _ _ h => h) (Or.inl ⟨by rfl, fun w' _ => ?_⟩) hH ?_
              · go_simp
              go_frame
              refine takeH (i := 6) (v := .slice (some ⟨dB, oB, none⟩) i c2) 123 rfl (by kernel_rfl) (by kernel_rfl) (by kernel_rfl) rfl (fun _ _ _ h => h) (Or.inl ⟨by rfl, fun w' hS => ?_⟩) hH ?_
              · have c2 := CJ.out w' hS
                go_simp
              go_frame
              refine takeH (i := 7) (v := .int .i64 (j : Int)) 124 rfl (by kernel_rfl) (by kernel_rfl) (by kernel_rfl) rfl (fun _ _ _ h => h) (Or.inl ⟨by rfl, fun w' _ => ?_⟩) hH ?_
              · go_simp
              go_frame
              refine takeH (i := 8) (v := .pointer (some ⟨dB, oB + j * 32, none⟩)) 125 rfl (by kernel_rfl) (by kernel_rfl) (by kernel_rfl) rfl (fun _ _ _ h => h) (Or.inl ⟨by rfl, fun w' _ => ?_⟩) hH ?_
              · go_simp
              go_frame
              refine takeH (i := 9) (v := .agg Z2) 126 rfl (by kernel_rfl) (by kernel_rfl) (by kernel_rfl) rfl (fun _ _ _ h => h) (yieldsIf_load_run (by rfl) rfl rfl LD2.out) hH ?_
              go_frame
              refine takeH (i := 10) (v := .bool true) 127 rfl (by kernel_rfl) (by kernel_rfl) (by kernel_rfl) rfl (fun _ _ _ h => h) (Or.inl ⟨by rfl, fun w' _ => ?_⟩) hH ?_
              · go_simp
              go_frame
              refine takeH (i := 11) (v := .bool true) 128 rfl (by kernel_rfl) (by kernel_rfl) (by kernel_rfl) rfl (fun _ _ _ h => h) (Or.inl ⟨by rfl, fun w' _ => ?_⟩) hH ?_
              · go_simp
              go_frame
              refine takeH (i := 12) (v := undef) 129 rfl (by kernel_rfl) (by kernel_rfl) (by kernel_rfl) rfl (fun _ _ _ h => h) (Or.inr ⟨by rfl, rfl⟩) hH ?_
              go_frame
              refine takeH (i := 13) (v := undef) 130 rfl (by kernel_rfl) (by kernel_rfl) (by kernel_rfl) rfl (fun _ _ _ h => h) (Or.inr ⟨by rfl, rfl⟩) hH ?_
              go_frame
              refine takeH (i := 14) (v := undef) 131 rfl (by kernel_rfl) (by kernel_rfl) (by kernel_rfl) rfl (fun _ _ _ h => h) (Or.inr ⟨by rfl, rfl⟩) hH ?_
              go_frame
              refine takeH (i := 15) (v := undef) 132 rfl (by kernel_rfl) (by kernel_rfl) (by kernel_rfl) rfl (fun _ _ _ h => h) (Or.inr ⟨by rfl, rfl⟩) hH ?_
              go_frame
              refine takeH (i := 16) (v := undef) 133 rfl (by kernel_rfl) (by kernel_rfl) (by kernel_rfl) rfl (fun _ _ _ h => h) (Or.inr ⟨by rfl, rfl⟩) hH ?_
              go_frame
              refine takeH (i := 17) (v := undef) 134 rfl (by kernel_rfl) (by kernel_rfl) (by kernel_rfl) rfl (fun _ _ _ h => h) (Or.inr ⟨by rfl, rfl⟩) hH ?_
              go_frame
              refine takeH (i := 18) (v := undef) 135 rfl (by kernel_rfl) (by kernel_rfl) (by kernel_rfl) rfl (fun _ _ _ h => h) (Or.inr ⟨by rfl, rfl⟩) hH ?_
              go_frame
              refine takeH (i := 19) (v := undef) 136 rfl (by kernel_rfl) (by kernel_rfl) (by kernel_rfl) rfl (fun _ _ _ h => h) (Or.inr ⟨by rfl, rfl⟩) hH ?_
              go_frame
              refine takeH (i := 20) (v := undef) 137 rfl (by kernel_rfl) (by kernel_rfl) (by kernel_rfl) rfl (fun _ _ _ h => h) (Or.inr ⟨by rfl, rfl⟩) hH ?_
              go_frame
              refine takeH (i := 21) (v := undef) 138 rfl (by kernel_rfl) (by kernel_rfl) (by kernel_rfl) rfl (fun _ _ _ h => h) (Or.inr ⟨by rfl, rfl⟩) hH ?_
              go_frame
              refine takeH (i := 22) (v := undef) 139 rfl (by kernel_rfl) (by kernel_rfl) (by kernel_rfl) rfl (fun _ _ _ h => h) (Or.inr ⟨by rfl, rfl⟩) hH ?_
              go_frame
              refine takeH (i := 23) (v := undef) 140 rfl (by kernel_rfl) (by kernel_rfl) (by kernel_rfl) rfl (fun _ _ _ h => h) (Or.inr ⟨by rfl, rfl⟩) hH ?_
              go_frame
              refine takeH (i := 24) (v := undef) 141 rfl (by kernel_rfl) (by kernel_rfl) (by kernel_rfl) rfl (fun _ _ _ h => h) (Or.inr ⟨by rfl, rfl⟩) hH ?_
              go_frame
              refine takeH (i := 25) (v := undef) 142 rfl (by kernel_rfl) (by kernel_rfl) (by kernel_rfl) rfl (fun _ _ _ h => h) (Or.inr ⟨by rfl, rfl⟩) hH ?_
              go_frame
              refine takeH (i := 26) (v := undef) 143 rfl (by kernel_rfl) (by kernel_rfl) (by kernel_rfl) rfl (fun _ _ _ h => h) (Or.inr ⟨by rfl, rfl⟩) hH ?_
              go_frame
              refine takeH (i := 27) (v := undef) 144 rfl (by kernel_rfl) (by kernel_rfl) (by kernel_rfl) rfl (fun _ _ _ h => h) (Or.inr ⟨by rfl, rfl⟩) hH ?_
              go_frame
              refine takeH (i := 28) (v := undef) 145 rfl (by kernel_rfl) (by kernel_rfl) (by kernel_rfl) rfl (fun _ _ _ h => h) (Or.inr ⟨by rfl, rfl⟩) hH ?_
              go_frame
              refine takeH (i := 29) (v := undef) 146 rfl (by kernel_rfl) (by kernel_rfl) (by kernel_rfl) rfl (fun _ _ _ h => h) (Or.inr ⟨by rfl, rfl⟩) hH ?_
              go_frame
              refine takeH (i := 30) (v := undef) 147 rfl (by kernel_rfl) (by kernel_rfl) (by kernel_rfl) rfl (fun _ _ _ h => h) (Or.inr ⟨by rfl, rfl⟩) hH ?_
              go_frame
              refine takeH (i := 31) (v := .bool true) 148 rfl (by kernel_rfl) (by kernel_rfl) (by kernel_rfl) rfl (fun _ _ _ h => h) (Or.inl ⟨by rfl, fun w' _ => ?_⟩) hH ?_
              · go_simp
              go_frame
              refine takeH (i := 32) (v := .bool true) 8 rfl (by kernel_rfl) (by kernel_rfl) (by kernel_rfl) rfl (fun _ _ _ h => h) (Or.inl ⟨by rfl, fun w' _ => ?_⟩) hH ?_
              · go_simp
              go_frame
              refine wpAnyH_done (by kernel_rfl) ?_ _
              refine NoPanic.normal ?_
              go_wp2_with fail
              go_ret
              exact ⟨by kernel_rfl, B8.out.trans (BC.out.mono B8.out.size)⟩
            case pos =>
              have q1 : ∀ V, (Op.equalIn 10000 25 (.agg Z1) (.agg Z2)).run Tryd.prog V = .ok true V := fun V => by rw [hZ1, hZ2, hxy]; exact (eqD _ _ V).trans (by rw [beq_self_eq_true])
              obtain ⟨PX, hPX⟩ : ∃ p, p = partL xs k j := ⟨_, rfl⟩
              obtain ⟨PY, hPY⟩ : ∃ p, p = partL ys k j := ⟨_, rfl⟩
              rw [← hPX] at HPX hlx
              rw [← hPY] at HPY hly
              obtain ⟨SX, hSX⟩ : ∃ S, S = str PX := ⟨_, rfl⟩
              obtain ⟨SY, hSY⟩ : ∃ S, S = str PY := ⟨_, rfl⟩
              obtain ⟨S1, hS1⟩ : ∃ S, S = str (0 :: PX) := ⟨_, rfl⟩
              obtain ⟨S2, hS2⟩ : ∃ S, S = str (0 :: PY) := ⟨_, rfl⟩
              have hpx : PX.length = lg := by rw [HPX.out, List.length_take, List.length_drop]; omega
              have hpy : PY.length = lg := by rw [HPY.out, List.length_take, List.length_drop, HYL.out]; omega
              have hcx : (ByteArray.mk #[0]) ++ SX = S1 := by rw [hSX, hS1]; apply ByteArray.ext; simp [str]
              have hcy : (ByteArray.mk #[0]) ++ SY = S2 := by rw [hSY, hS2]; apply ByteArray.ext; simp [str]
              obtain ⟨R3, hR3⟩ : ∃ R, R = bcells (shaD (0 :: PX)).1 := ⟨_, rfl⟩
              have q2 : ∀ V, (Op.equalIn 10000 25 (.agg R3) (.agg R3)).run Tryd.prog V = .ok true V := fun V => by rw [hR3]; exact (eqD _ _ V).trans (by rw [beq_self_eq_true])
              have O1 : Hid (∀ V, Calls Tryd.prog 26 #[.string S1] V fun e w' => e = .returned (.agg R3) ∧ Below V.heap.size V w') := fun V => by rw [hR3]; exact rof_any S1 (0 :: PX) hS1 V (by rw [List.length_cons, hpx]; omega)
              have O2 : Hid (∀ V, Calls Tryd.prog 26 #[.string S2] V fun e w' => e = .returned (.agg R3) ∧ Below V.heap.size V w') := fun V => by rw [hR3, show shaD (0 :: PX) = shaD (0 :: PY) from (hlx.symm.trans hxy).trans hly]; exact rof_any S2 (0 :: PY) hS2 V (by rw [List.length_cons, hpy]; omega)
              obtain ⟨d0, o0, ha0, _⟩ := HD0.out (by omega)
              subst ha0
              have CX : Hid (∀ V, Below W8.heap.size W8 V → (convert 23 9 (.slice (some ⟨d0, o0 + zz, none⟩) lg (cap0 - zz))).run Tryd.prog V = .ok (.string SX) V) := fun V hV => by
                have hd := ((HD0.out.below (B8.out.trans (hV.mono B8.out.size)) (Nat.le_refl _)).drop zz).take lg
                rw [Option.map_some, add_plain0, ← HPX.out] at hd
                rw [hSX]
                exact run_str V _ Tryd.underlying23 Tryd.underlying5 hd hpx _ Tryd.underlying9
              have CY : Hid (∀ V, Below W8.heap.size W8 V → (convert 23 9 (.slice (some ⟨d, zz, none⟩) lg (cc - zz))).run Tryd.prog V = .ok (.string SY) V) := fun V hV => by
                have hd := ((DC6.out.below (H8.out.trans (hV.mono hs8)) hs6).drop zz).take lg
                rw [Option.map_some, add_plain0, Nat.zero_add, ← HPY.out] at hd
                rw [hSY]
                exact run_str V _ Tryd.underlying23 Tryd.underlying5 hd hpy _ Tryd.underlying9
              have HCAT := Lib.hid (And.intro hcx hcy)
              have hsx : SX.size = lg := by rw [hSX, str_size, hpx]
              have hsy : SY.size = lg := by rw [hSY, str_size, hpy]
              have HSZ := Lib.hid (And.intro hsx hsy)
              clear hZ1 hZ2 hlx hly hxy hPX hPY hSX hSY hS1 hS2 hcx hcy hpx hpy hR3 hsx hsy HPX HPY
              go_upto_region 26 with fail
              refine wp_region_noPanic ?_
              refine wp_region_held_drew (S := fun V => Below W8.heap.size W8 V) (by kernel_rfl) ((Below.refl _ _).drew) (fun hH => ?_)
              generalize W8.drew = wd at hH ⊢
              have BC : Hid (Below W8.heap.size W8 wd) := hH
              refine takeH (i := 0) (v := .pointer (some ⟨g, 2, none⟩)) 117 rfl (by kernel_rfl) (by kernel_rfl) (by kernel_rfl) rfl (fun _ _ _ h => h) (Or.inl ⟨by rfl, fun w' _ => ?_⟩) hH ?_
              · go_simp
              go_frame
              refine takeH (i := 1) (v := .slice (some ⟨dA, oA, none⟩) i c) 118 rfl (by kernel_rfl) (by kernel_rfl) (by kernel_rfl) rfl (fun _ _ _ h => h) (Or.inl ⟨by rfl, fun w' hS => ?_⟩) hH ?_
              · have c2 := CK.out w' hS
                go_simp
              go_frame
              refine takeH (i := 2) (v := .int .i64 (j : Int)) 119 rfl (by kernel_rfl) (by kernel_rfl) (by kernel_rfl) rfl (fun _ _ _ h => h) (Or.inl ⟨by rfl, fun w' _ => ?_⟩) hH ?_
              · go_simp
              go_frame
              refine takeH (i := 3) (v := .pointer (some ⟨dA, oA + j * 32, none⟩)) 120 rfl (by kernel_rfl) (by kernel_rfl) (by kernel_rfl) rfl (fun _ _ _ h => h) (Or.inl ⟨by rfl, fun w' _ => ?_⟩) hH ?_
              · go_simp
              go_frame
              refine takeH (i := 4) (v := .agg Z1) 121 rfl (by kernel_rfl) (by kernel_rfl) (by kernel_rfl) rfl (fun _ _ _ h => h) (yieldsIf_load_run (by rfl) rfl rfl LD1.out) hH ?_
              go_frame
              refine takeH (i := 5) (v := .pointer (some ⟨g2, 2, none⟩)) 122 rfl (by kernel_rfl) (by kernel_rfl) (by kernel_rfl) rfl (fun _ _ _ h => h) (Or.inl ⟨by rfl, fun w' _ => ?_⟩) hH ?_
              · go_simp
              go_frame
              refine takeH (i := 6) (v := .slice (some ⟨dB, oB, none⟩) i c2) 123 rfl (by kernel_rfl) (by kernel_rfl) (by kernel_rfl) rfl (fun _ _ _ h => h) (Or.inl ⟨by rfl, fun w' hS => ?_⟩) hH ?_
              · have c2 := CJ.out w' hS
                go_simp
              go_frame
              refine takeH (i := 7) (v := .int .i64 (j : Int)) 124 rfl (by kernel_rfl) (by kernel_rfl) (by kernel_rfl) rfl (fun _ _ _ h => h) (Or.inl ⟨by rfl, fun w' _ => ?_⟩) hH ?_
              · go_simp
              go_frame
              refine takeH (i := 8) (v := .pointer (some ⟨dB, oB + j * 32, none⟩)) 125 rfl (by kernel_rfl) (by kernel_rfl) (by kernel_rfl) rfl (fun _ _ _ h => h) (Or.inl ⟨by rfl, fun w' _ => ?_⟩) hH ?_
              · go_simp
              go_frame
              refine takeH (i := 9) (v := .agg Z2) 126 rfl (by kernel_rfl) (by kernel_rfl) (by kernel_rfl) rfl (fun _ _ _ h => h) (yieldsIf_load_run (by rfl) rfl rfl LD2.out) hH ?_
              go_frame
              refine takeH (i := 10) (v := .bool false) 127 rfl (by kernel_rfl) (by kernel_rfl) (by kernel_rfl) rfl (fun _ _ _ h => h) (Or.inl ⟨by rfl, fun w' _ => ?_⟩) hH ?_
              · go_simp
              go_frame
              refine takeH (i := 11) (v := .bool false) 128 rfl (by kernel_rfl) (by kernel_rfl) (by kernel_rfl) rfl (fun _ _ _ h => h) (Or.inl ⟨by rfl, fun w' _ => ?_⟩) hH ?_
              · go_simp
              go_frame
              refine takeH (i := 12) (v := .slice (some ⟨d0, o0, none⟩) xs.length cap0) 129 rfl (by kernel_rfl) (by kernel_rfl) (by kernel_rfl) rfl (fun _ _ _ h => h) (Or.inl ⟨by rfl, fun w' _ => ?_⟩) hH ?_
              · go_simp
              go_frame
              refine takeH (i := 13) (v := .int .i64 (k : Int)) 130 rfl (by kernel_rfl) (by kernel_rfl) (by kernel_rfl) rfl (fun _ _ _ h => h) (Or.inl ⟨by rfl, fun w' _ => ?_⟩) hH ?_
              · go_simp
              go_frame
              refine takeH (i := 14) (v := .int .i64 (j : Int)) 131 rfl (by kernel_rfl) (by kernel_rfl) (by kernel_rfl) rfl (fun _ _ _ h => h) (Or.inl ⟨by rfl, fun w' _ => ?_⟩) hH ?_
              · go_simp
              go_frame
              refine takeH (i := 15) (v := .int .i64 (zz : Int)) 132 rfl (by kernel_rfl) (by kernel_rfl) (by kernel_rfl) rfl (fun _ _ _ h => h) (Or.inl ⟨by rfl, fun w' hS => ?_⟩) hH ?_
              · have hml := HML.out
                have hwz : IntKind.i64.wrap (zz : Int) = (zz : Int) := IntWalk.i64_in _ (by omega)
                go_simp
              go_frame
              refine takeH (i := 16) (v := .int .i64 ((zz : Int) + (lg : Int))) 133 rfl (by kernel_rfl) (by kernel_rfl) (by kernel_rfl) rfl (fun _ _ _ h => h) (Or.inl ⟨by rfl, fun w' _ => ?_⟩) hH ?_
              · go_simp
              go_frame
              refine takeH (i := 17) (v := .slice (some ⟨d0, o0 + zz, none⟩) lg (cap0 - zz)) 134 rfl (by kernel_rfl) (by kernel_rfl) (by kernel_rfl) rfl (fun _ _ _ h => h) (Or.inl ⟨by rfl, fun w' hS => ?_⟩) hH ?_
              · have g1 : (zz : Int) ≤ (zz : Int) + (lg : Int) := by omega
                have g2 : (zz : Int) + (lg : Int) ≤ (cap0 : Int) := by omega
                have g3 : zz + lg ≤ cap0 := by omega
                have g4 : (zz : Int) + (lg : Int) - (zz : Int) = (lg : Int) := by omega
                have g5 : ((zz : Int) + (lg : Int)).toNat - zz = lg := by omega
                have g6 : ¬ cap0 = zz := by omega
                have g7 : ¬ zz = cap0 := by omega
                go_simp
              go_frame
              refine takeH (i := 18) (v := .string SX) 135 rfl (by kernel_rfl) (by kernel_rfl) (by kernel_rfl) rfl (fun _ _ _ h => h) (Or.inl ⟨by rfl, fun w' hS => ?_⟩) hH ?_
              · have c2 := CX.out w' hS
                go_simp
              go_frame
              refine takeH (i := 19) (v := .string S1) 136 rfl (by kernel_rfl) (by kernel_rfl) (by kernel_rfl) rfl (fun _ _ _ h => h) (Or.inl ⟨by rfl, fun w' hS => ?_⟩) hH ?_
              · have c2 := HCAT.out.1
                have c3 := HSZ.out.1
                have c4 : 1 + lg ≤ 9223372036854775807 := by omega
                go_simp
              go_frame
              refine takeH (i := 21) (v := .slice (some ⟨d, 0, none⟩) xs.length cc) 138 rfl (by kernel_rfl) (by kernel_rfl) (by kernel_rfl) rfl (fun _ _ _ h => h) (Or.inl ⟨by rfl, fun w' _ => ?_⟩) hH ?_
              · go_simp
              go_frame
              refine takeH (i := 22) (v := .int .i64 (k : Int)) 139 rfl (by kernel_rfl) (by kernel_rfl) (by kernel_rfl) rfl (fun _ _ _ h => h) (Or.inl ⟨by rfl, fun w' _ => ?_⟩) hH ?_
              · go_simp
              go_frame
              refine takeH (i := 23) (v := .int .i64 (j : Int)) 140 rfl (by kernel_rfl) (by kernel_rfl) (by kernel_rfl) rfl (fun _ _ _ h => h) (Or.inl ⟨by rfl, fun w' _ => ?_⟩) hH ?_
              · go_simp
              go_frame
              refine takeH (i := 24) (v := .int .i64 (zz : Int)) 141 rfl (by kernel_rfl) (by kernel_rfl) (by kernel_rfl) rfl (fun _ _ _ h => h) (Or.inl ⟨by rfl, fun w' hS => ?_⟩) hH ?_
              · have hml := HML.out
                have hwz : IntKind.i64.wrap (zz : Int) = (zz : Int) := IntWalk.i64_in _ (by omega)
                go_simp
              go_frame
              refine takeH (i := 25) (v := .int .i64 ((zz : Int) + (lg : Int))) 142 rfl (by kernel_rfl) (by kernel_rfl) (by kernel_rfl) rfl (fun _ _ _ h => h) (Or.inl ⟨by rfl, fun w' _ => ?_⟩) hH ?_
              · go_simp
              go_frame
              refine takeH (i := 26) (v := .slice (some ⟨d, zz, none⟩) lg (cc - zz)) 143 rfl (by kernel_rfl) (by kernel_rfl) (by kernel_rfl) rfl (fun _ _ _ h => h) (Or.inl ⟨by rfl, fun w' hS => ?_⟩) hH ?_
              · have g1 : (zz : Int) ≤ (zz : Int) + (lg : Int) := by omega
                have g2 : (zz : Int) + (lg : Int) ≤ (cc : Int) := by omega
                have g3 : zz + lg ≤ cc := by omega
                have g4 : (zz : Int) + (lg : Int) - (zz : Int) = (lg : Int) := by omega
                have g5 : ((zz : Int) + (lg : Int)).toNat - zz = lg := by omega
                have g6 : ¬ cc = zz := by omega
                have g7 : ¬ zz = cc := by omega
                go_simp
              go_frame
              refine takeH (i := 27) (v := .string SY) 144 rfl (by kernel_rfl) (by kernel_rfl) (by kernel_rfl) rfl (fun _ _ _ h => h) (Or.inl ⟨by rfl, fun w' hS => ?_⟩) hH ?_
              · have c2 := CY.out w' hS
                go_simp
              go_frame
              refine takeH (i := 28) (v := .string S2) 145 rfl (by kernel_rfl) (by kernel_rfl) (by kernel_rfl) rfl (fun _ _ _ h => h) (Or.inl ⟨by rfl, fun w' hS => ?_⟩) hH ?_
              · have c2 := HCAT.out.2
                have c3 := HSZ.out.2
                have c4 : 1 + lg ≤ 9223372036854775807 := by omega
                go_simp
              go_frame
              refine wpAnyH_ready (rs := [20]) (by kernel_rfl) (by simp) ?_
              refine AllReadyH.cons rfl (fun K hK => ?_) AllReadyH.nil
              go_simp
              refine (O1.out _).mono ?_
              rintro e' wr0 ⟨rfl, hB⟩
              have Bwr0 : Hid (Below W8.heap.size W8 wr0) := BC.out.trans (hB.mono (by exact BC.out.size))
              clear hB BC
              have BC := Bwr0
              dsimp only
              refine hK.out _ _ Bwr0.out (fun hH => ?_)
              clear hK K
              refine wpAnyH_ready (rs := [29]) (by kernel_rfl) (by simp) ?_
              refine AllReadyH.cons rfl (fun K hK => ?_) AllReadyH.nil
              go_simp
              refine (O2.out _).mono ?_
              rintro e' wr1 ⟨rfl, hB⟩
              have Bwr1 : Hid (Below W8.heap.size W8 wr1) := BC.out.trans (hB.mono (by exact BC.out.size))
              clear hB BC
              have BC := Bwr1
              dsimp only
              refine hK.out _ _ Bwr1.out (fun hH => ?_)
              clear hK K
              refine takeH (i := 30) (v := .bool true) 147 rfl (by kernel_rfl) (by kernel_rfl) (by kernel_rfl) rfl (fun _ _ _ h => h) (Or.inl ⟨by rfl, fun w' _ => ?_⟩) hH ?_
              · go_simp
              go_frame
              refine takeH (i := 31) (v := .bool true) 148 rfl (by kernel_rfl) (by kernel_rfl) (by kernel_rfl) rfl (fun _ _ _ h => h) (Or.inl ⟨by rfl, fun w' _ => ?_⟩) hH ?_
              · go_simp
              go_frame
              refine takeH (i := 32) (v := .bool true) 8 rfl (by kernel_rfl) (by kernel_rfl) (by kernel_rfl) rfl (fun _ _ _ h => h) (Or.inl ⟨by rfl, fun w' _ => ?_⟩) hH ?_
              · go_simp
              go_frame
              refine wpAnyH_done (by kernel_rfl) ?_ _
              refine NoPanic.normal ?_
              go_wp2_with fail
              go_ret
              exact ⟨by kernel_rfl, B8.out.trans (BC.out.mono B8.out.size)⟩

set_option maxRecDepth 100000 in
theorem lifted (os : Os) (started : os.Started) (H : Type) (enc : TypeId × Value → H) :
    ReturnsInHanded {} Tryd.checked os 8 .any (fun w args => (Rows.merklePartsSpec.pre enc Tryd.prog Tryd.f8 [] false w args ∧ laidMetH Tryd.prog laidL w) ∧ sizedMet enc Tryd.prog Tryd.f8 (OpenSpec.ofChange Rows.merklePartsSpec) false w args)
      (Rows.merklePartsSpec.post enc Tryd.prog Tryd.f8 false true false false) := by
  refine returnsInHanded_of_change_and (C := Tryd.checked) (X := fun w _ => laidMetH Tryd.prog laidL w) (fun _ _ _ hh h => h.of_heap hh) own started (by kernel_rfl) Tryd.func8
    (ChangeSpec.witness_shaped (enc := enc) (C := Tryd.checked) (os := os) (X := fun w _ => laidMetH Tryd.prog laidL w) false (World.doorLaid Tryd.prog 400 os) #[.slice none 0 0, .int .u8 0, .int .u16 0, .int .u8 0] 8 rfl (World.shaped_of_RefB (by kernel_rfl) (by kernel_rfl)) (by kernel_rfl) (by kernel_rfl) (by kernel_rfl) (door_met os _)) ?_
  intro W base args ds gs before hval0 hW _ _ hL _
  have hval : ∀ (j : Nat) t v, Tryd.f8.params[j]? = some t → args[j]? = some v → Value.okWide Tryd.prog W .any base t v := hval0
  have hW' := hW
  obtain ⟨p, q, hA0, hV, rfl, hfz, hnd⟩ := hW
  have hA : DataW.TrodAll enc Tryd.prog W 0 (fun _ => true) true Tryd.f8.params.toList args.toList ds p := hA0
  rw [Tryd.params8] at hA hval
  obtain ⟨v0, vs0, d0, ds0, p0, q0, hargs, rfl, rfl, h0, r0⟩ := trodAll_cons hA
  obtain ⟨v1, vs1, d1, ds1, p1, q1, rfl, rfl, rfl, h1, r1⟩ := trodAll_cons r0
  obtain ⟨v2, vs2, d2, ds2, p2, q2, rfl, rfl, rfl, h2, r2⟩ := trodAll_cons r1
  obtain ⟨v3, vs3, d3, ds3, p3, q3, rfl, rfl, rfl, h3, r3⟩ := trodAll_cons r2
  obtain ⟨rfl, rfl, rfl⟩ := trodAll_nil r3
  obtain rfl : args = #[v0, v1, v2, v3] := by cases args; simp_all
  obtain ⟨rfl, rfl⟩ := trodVars_none hV
  obtain ⟨a0, len0, cap0, rfl⟩ := okWide_slice Tryd.underlying23 (hval 0 23 v0 rfl rfl)
  have k0 := h0
  have lt0 : ∀ x ∈ p0, x.block < W.heap.size := by obtain ⟨m, hm⟩ := k0; exact DataW.trod_lt m _ _ _ hm
  obtain ⟨z0, w0⟩ := row_of_trod h0
  obtain ⟨xs0, rfl, hl0, hm0, hd0⟩ := row_dat w0
  obtain ⟨n1, rfl, rfl, rfl, w1⟩ := open_int Tryd.underlying5 (hval 1 5 v1 rfl rfl) h1
  obtain ⟨n2, rfl, rfl, rfl, w2⟩ := open_int Tryd.underlying54 (hval 2 54 v2 rfl rfl) h2
  obtain ⟨n3, rfl, rfl, rfl, w3⟩ := open_int Tryd.underlying5 (hval 3 5 v3 rfl rfl) h3
  clear hA0 hval0
  refine (walk a0 xs0 cap0 n1 n2 n3 W (glob_of_laid hL) hd0 (by omega) (u8_bounds w1) (u16_bounds w2) (u8_bounds w3)).mono fun e W' ⟨he, bel⟩ => ?_
  subst he
  exact ⟨_, rfl, _, _, _, [], _, [], hW', trodAll_mk1 (shut_bool Tryd.underlying4 _), (trodAll_cons_mk (Below.trod laidOut (by kernel_rfl) (of_decide_eq_true (by kernel_rfl)) k0 bel lt0) (trodAll_cons_mk (shut_int Tryd.underlying5 w1) (trodAll_cons_mk (shut_int Tryd.underlying54 w2) (trodAll_cons_mk (shut_int Tryd.underlying5 w3) trodAll_mk0)))), rfl, bel.frame _, fun h => by cases h⟩

theorem over : Rows.merklePartsRow.holds Tryd.pinned (OpenSpec.ofChange Rows.merklePartsSpec) :=
  OpenClaim.holds_of_wide 8 Tryd.f8 rfl rfl rfl rfl rfl rfl rfl ⟨rfl, rfl, rfl, rfl, rfl⟩ rfl rfl rfl rfl rfl (by kernel_rfl) Tryd.func8 (by kernel_rfl)
    (of_decide_eq_true (by kernel_rfl)) (by unfold Func.isWrapper; first | (rw [if_pos (by decide +kernel)]; kernel_rfl) | (rw [if_neg (by decide +kernel)]; exact ⟨rfl, rfl⟩))
    (fun os started H enc _ => lifted os started H enc)

/-- ████ THE STATEMENT ████ -/
theorem proved : Rows.MerklePartsCardSaid :=
  Claim7.holds_tied_plain_at .later [] [.data, .data] true Rows.merklePartsCard.stood.harness false
    over (fun _ h => by cases h) (by kernel_rfl) (fun _ h => by cases h) merkleParts_row_tie rfl ⟨rfl, rfl⟩ (by kernel_rfl) rfl
    (fun f fn hf hfn => by
      obtain rfl : f = 8 := Option.some.inj ((show Tryd.prog.funcNamed Rows.merklePartsRow.func = some 8 by kernel_rfl).symm.trans hf) |>.symm
      obtain rfl : fn = Tryd.f8 := (Option.some.inj (Tryd.func8.symm.trans hfn)).symm
      exact ⟨by kernel_rfl, fun j t ht => by
        rw [Tryd.params8] at ht
        have hm : t ∈ [23, 5, 54, 5] := by
          have := Array.mem_of_getElem? ht
          simp at this
          simpa using this
        have hall : ([23, 5, 54, 5].all fun u => !Tryd.prog.wantsStandIn u) = true := by kernel_rfl
        exact (show Tryd.prog.wantsStandIn t = false by simpa using List.all_eq_true.1 hall t hm)⟩)
    (by kernel_rfl)
#print axioms proved
end Go.Proofs.YtieepdhajjibpaaDoor.merkleParts
