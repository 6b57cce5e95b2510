
/- The contract of the program's Decode4. -/
import Derived.Test.YtjpjbbbpmhcgnaaHufPart
import Derived.Test.YtjpjbbbpmhcgnaaPileA
import Derived.Test.YtjpjbbbpmhcgnaaPileD
namespace Go.Proofs.Ytjpjbbbpmhcgnaa
open Go.RowKit

theorem info_int4 : (Try.prog.info? 3).map (·.size) = some 1 := by kernel_rfl
/-- The count of stream i, by its place in the array. -/
theorem idx4_any (n i : Nat) (hi : i < 4) (W : World) : (Instr.index 45 (.agg #[.int .i64 (kF n : Nat), .int .i64 (kF n : Nat), .int .i64 (kF n : Nat), .int .i64 (n - 3 * kF n : Nat)]) (.int .i64 (i : Int))).run Try.prog W = .ok (.int .i64 (cntF n i : Nat)) W := by
  obtain ⟨i0, hi0, hi1⟩ := Option.map_eq_some_iff.1 info_int4
  generalize hk : kF n = k
  rcases (show i = 0 ∨ i = 1 ∨ i = 2 ∨ i = 3 by omega) with rfl | rfl | rfl | rfl
  all_goals
    unfold cntF
    simp [Instr.index, run_underlying Try.underlying45, asIntOf, sizeOf, typeInfo, hi0, hi1, part, go_sem, hk]
theorem kF_le (n : Nat) : kF n ≤ n + 1 := by unfold kF; omega
theorem cntF_le (n i : Nat) : cntF n i ≤ n + 1 := by
  have := kF_le n
  unfold cntF
  split <;> omega

section
variable {w : World}
set_option maxRecDepth 100000 in
set_option maxHeartbeats 4000000 in
theorem hufDecode4_any {own own2 : Bool} {lo hi lo2 hi2 m c k c2 : Nat} {A A2 : Option Addr} {ws xs : List UInt8} (n : Int) (hd : Dat own w lo hi A ws) (hm : ws.length = m) (hmb : m ≤ 100000) (hhi : hi ≤ w.heap.size)
    (hx : Dat own2 w lo2 hi2 A2 xs) (hk : xs.length = k) (hkb : k ≤ 1099511627776) (hhi2 : hi2 ≤ w.heap.size) :
    Calls Try.prog 12 #[.slice A m c, .slice A2 k c2, .int .i64 n] w fun e w' => ∃ r, D4Res ws xs n r ∧ BPost w r e w' := by
  have HC := Lib.hid (codesFor_any (c := c) n hd hm hmb hhi)
  have HX := Lib.hid (And.intro hx hk)
  clear hd hm hx hk
  go_enter Try.func12, Try.ntmps12
  go_wp2_with fail
  refine HC.out.mono ?_
  rintro e w1 ⟨hB1, ⟨d, v, hM, hk, rfl, hO⟩ | ⟨hno, rfl⟩⟩
  · obtain ⟨A', c', rfl, hc', hR⟩ := hO.form ccell_len
    have hcl : (codesOf d (nat ws)).length = (nat ws).length := by simp [codesOf]
    obtain ⟨q, hq⟩ : ∃ q, q = (codesOf d (nat ws)).length := ⟨_, rfl⟩
    rw [← hq]
    have HQ := Lib.hid (And.intro hM (And.intro hk (And.intro hB1 (And.intro (hcl.symm.trans hq.symm) hR))))
    have hs1 := hB1.size
    obtain ⟨nn, rfl⟩ := Int.eq_ofNat_of_zero_le hk.1
    have hn2 := hk.2
    clear hM hO hB1 hR hcl hc' hq hk HC
    have HCn := fun W => Lib.hid (countsOf_any (w := W) nn (by omega))
    have hfour : Hid (D4Res ws xs (nn : Int) (four d (nat ws) xs nn)) := .inl ⟨d, HQ.out.1, HQ.out.2.1, rfl⟩
    go_wp2_with fail
    refine (HCn _).out.mono ?_
    rintro e w2 ⟨hB2, ⟨h3, rfl⟩ | ⟨h3, rfl⟩⟩
    · have hs2 := hB2.size
      have HB2 := Lib.hid (HQ.out.2.2.1.trans (hB2.mono hs1))
      have HR2 := Lib.hid (HQ.out.2.2.2.2.below hB2 (Nat.le_refl _))
      have hf1 : four d (nat ws) xs nn = (if SplitOk xs then manyD d (nat ws) xs nn 4 else ([], 10)) := by unfold four; rw [if_neg (by omega)]
      have HF1 := Lib.hid hf1
      have hkl := kF_le nn
      have hidx := fun i hi W => idx4_any nn i hi W
      have HIx := Lib.hid hidx
      clear hB2 HCn hf1 hidx h3
      generalize kF nn = kk at *
      generalize nn - 3 * kk = ll at *
      have hcb := Box.new w2 45 #[.int .i64 (kk : Int), .int .i64 (kk : Int), .int .i64 (kk : Int), .int .i64 (ll : Int)]
      have hB3 := HB2.out.alloc (show w.heap.size ≤ w2.heap.size by omega) (.cells #[.int .i64 (kk : Int), .int .i64 (kk : Int), .int .i64 (kk : Int), .int .i64 (ll : Int)] 45)
      have hR3 := HR2.out.alloc hs2 (.cells #[.int .i64 (kk : Int), .int .i64 (kk : Int), .int .i64 (kk : Int), .int .i64 (ll : Int)] 45)
      have hz3 : (w2.alloc (.cells #[.int .i64 (kk : Int), .int .i64 (kk : Int), .int .i64 (kk : Int), .int .i64 (ll : Int)] 45)).heap.size = w2.heap.size + 1 := by simp
      obtain ⟨w3, hw3⟩ : ∃ w3, w3 = w2.alloc (.cells #[.int .i64 (kk : Int), .int .i64 (kk : Int), .int .i64 (kk : Int), .int .i64 (ll : Int)] 45) := ⟨_, rfl⟩
      rw [← hw3] at hcb hB3 hR3 hz3
      have HPt := Lib.hid (part_any (w := w3) (c := c2) (HX.out.1.below hB3 hhi2) HX.out.2 hkb (by omega))
      have H3 := Lib.hid (And.intro hcb (And.intro hB3 (And.intro hR3 hz3)))
      have HW3 := Lib.hid hw3
      clear hcb hB3 hR3 hw3 hz3 HB2 HR2
      go_wp2_with fail
      rw [← HW3.out]
      refine HPt.out.mono ?_
      rintro e w4 ⟨hB4, v0, v1, v2, v3, er, rfl, hsp⟩
      have hs4 := hB4.size
      rw [H3.out.2.2.2] at hs4
      have hcb4 := H3.out.1.below hB4 (by rw [H3.out.2.2.2]; omega)
      have hR4 := H3.out.2.2.1.below hB4 (by rw [H3.out.2.2.2]; omega)
      have hBw4 := H3.out.2.1.trans (hB4.mono H3.out.2.1.size)
      have H4 := Lib.hid (And.intro hcb4 (And.intro hBw4 hR4))
      have hs3 := H3.out.2.1.size
      have hz3 : w3.heap.size ≤ w2.heap.size + 1 := Nat.le_of_eq H3.out.2.2.2
      have hz3' : w2.heap.size < w3.heap.size := by have := H3.out.2.2.2; omega
      clear hcb4 hR4 hBw4 hB4 HPt H3 HW3
      rcases hsp with ⟨hok, rfl, ⟨P0, p0, rfl, hp0, hD0⟩, ⟨P1, p1, rfl, hp1, hD1⟩, ⟨P2, p2, rfl, hp2, hD2⟩, ⟨P3, p3, rfl, hp3, hD3⟩⟩ | ⟨hbad, rfl, ⟨P0, l0, p0, rfl⟩, ⟨P1, l1, p1, rfl⟩, ⟨P2, l2, p2, rfl⟩, ⟨P3, l3, p3, rfl⟩⟩
      · have hf1 := HF1.out
        rw [if_pos hok] at hf1
        have hf := hfour.out
        rw [hf1] at hf
        have HFR := Lib.hid hf
        clear hf hf1 hfour HF1
        have HDs := Lib.hid (And.intro (And.intro hp0 hD0) (And.intro (And.intro hp1 hD1) (And.intro (And.intro hp2 hD2) (And.intro hp3 hD3))))
        clear hp0 hp1 hp2 hp3 hD0 hD1 hD2 hD3
        generalize hl0 : (ptF xs 0).length = l0 at *
        generalize hl1 : (ptF xs 1).length = l1 at *
        generalize hl2 : (ptF xs 2).length = l2 at *
        generalize hl3 : (ptF xs 3).length = l3 at *
        have HLs := Lib.hid (And.intro hl0 (And.intro hl1 (And.intro hl2 hl3)))
        clear hl0 hl1 hl2 hl3
        have hpb := Box.new w4 48 #[.slice P0 l0 p0, .slice P1 l1 p1, .slice P2 l2 p2, .slice P3 l3 p3]
        obtain ⟨w5, hw5⟩ : ∃ w5, w5 = w4.alloc (.cells #[.slice P0 l0 p0, .slice P1 l1 p1, .slice P2 l2 p2, .slice P3 l3 p3] 48) := ⟨_, rfl⟩
        have hG : Below w4.heap.size w4 w5 := by rw [hw5]; exact (Below.refl _ _).alloc (Nat.le_refl _) _
        have hz5 : w5.heap.size = w4.heap.size + 1 := by rw [hw5]; simp
        rw [← hw5] at hpb
        have hR5 := H4.out.2.2.below hG (by omega)
        have hcb5 := H4.out.1.below hG (by omega)
        have HTr := Lib.hid (treeOf_any (w := w5) (c := c') HQ.out.1 hR5 HQ.out.2.2.2.1 (by omega))
        have H5 := Lib.hid (And.intro hpb (And.intro hcb5 (H4.out.2.1.trans (hG.mono H4.out.2.1.size))))
        have HG := Lib.hid hG
        have HW5 := Lib.hid hw5
        have hz5' : w4.heap.size < w5.heap.size := by omega
        clear hpb hR5 hcb5 hG hw5 hz5
        go_wp2_with fail
        rw [← HW5.out]
        refine HTr.out.mono ?_
        rintro e w6 ⟨rfl, hT, hB6⟩
        rw [← HQ.out.2.2.2.1] at hT
        have hs6 := hB6.size
        have hpb := H5.out.1.below hB6 (by omega)
        have hcb := H5.out.2.1.below hB6 (by omega)
        have hBw6 := H5.out.2.2.trans (hB6.mono H5.out.2.2.size)
        have h46 := HG.out.trans (hB6.mono (by omega))
        have HP : Hid (∀ i, i < 4 → ∃ P p, w6.cell? ⟨w4.heap.size, i, none⟩ = some (.slice P (ptF xs i).length p) ∧ Dat true w6 w3.heap.size w4.heap.size P (ptF xs i)) := by
          obtain ⟨⟨hp0, hD0⟩, ⟨hp1, hD1⟩, ⟨hp2, hD2⟩, ⟨hp3, hD3⟩⟩ := HDs.out
          obtain ⟨q0, q1, q2, q3⟩ := HLs.out
          intro i hi
          rcases (show i = 0 ∨ i = 1 ∨ i = 2 ∨ i = 3 by omega) with rfl | rfl | rfl | rfl
          · exact ⟨P0, p0, by rw [q0]; exact hpb.cell 0, hD0.below h46 (Nat.le_refl _)⟩
          · exact ⟨P1, p1, by rw [q1]; exact hpb.cell 1, hD1.below h46 (Nat.le_refl _)⟩
          · exact ⟨P2, p2, by rw [q2]; exact hpb.cell 2, hD2.below h46 (Nat.le_refl _)⟩
          · exact ⟨P3, p3, by rw [q3]; exact hpb.cell 3, hD3.below h46 (Nat.le_refl _)⟩
        have k0 : w6.cell? ⟨w2.heap.size, 0, none⟩ = some (.int .i64 (kk : Int)) := hcb.cell 0
        have k1 : w6.cell? ⟨w2.heap.size, 1, none⟩ = some (.int .i64 (kk : Int)) := hcb.cell 1
        have k2 : w6.cell? ⟨w2.heap.size, 2, none⟩ = some (.int .i64 (kk : Int)) := hcb.cell 2
        have k3 : w6.cell? ⟨w2.heap.size, 3, none⟩ = some (.int .i64 (ll : Int)) := hcb.cell 3
        have H6 := Lib.hid (And.intro hT hBw6)
        have htl : w5.heap.size < w6.heap.size := hT.lt
        clear hpb hcb hBw6 h46 hT HTr H5 HG HW5 H4 HDs HLs hB6
        obtain ⟨i0, hi0, hz0, hz1, hz2⟩ := info_parts cu.u8_info
        have HI := Lib.hid (And.intro hi0 (And.intro hz0 (And.intro hz1 hz2)))
        clear hi0 hz0 hz1 hz2
        go_wp2_with fail
        clear k0 k1 k2 k3
        go_loopg [14, 46] 4 (fun gh vo vi wx => ∃ i : Nat, vi = .int .i64 (i : Int) ∧ i + gh = 4 ∧ (manyD d (nat ws) xs nn i).2 = 0 ∧ OwB wx 5 w6.heap.size vo (manyD d (nat ws) xs nn i).1 ∧ Below w6.heap.size w6 wx)
        case atStart => exact ⟨0, rfl, rfl, rfl, OwB.nil _ _ _, Below.refl _ _⟩
        case round =>
          obtain ⟨i, rfl, hi, hz, hO, hB⟩ := hrel
          by_cases hlt : i < 4
          · obtain ⟨g', rfl⟩ : ∃ g', gk = g' + 1 := ⟨gk - 1, by omega⟩
            have hiz : (i : Int) < 4 := by omega
            obtain ⟨P, p, hpc, hpd⟩ := HP.out i hlt
            have pc := (hB.cell (p := ⟨w4.heap.size, i, none⟩) (by show w4.heap.size < w6.heap.size; omega)).trans hpc
            have hidx := HIx.out i hlt
            have hcl := cntF_le nn i
            have hi0 : (0 : Int) ≤ (i : Int) := by omega
            have hptl : (ptF xs i).length ≤ k := by
              have e : xs.length = k := HX.out.2
              unfold ptF
              split
              · rw [List.length_take, List.length_drop, List.length_drop]; omega
              · rw [List.length_drop, List.length_drop]; omega
            have HRd := Lib.hid (hufRead_any (w := wr) (n := cntF nn i) (c := p) HQ.out.1 (H6.out.1.keep (hB.block _ htl)) (hpd.below hB (by omega)) rfl (by omega) (by have := hB.size; omega) (by omega))
            have hml := manyD_len (d := d) (L := nat ws) (xs := xs) (n := nn) i
            have hsl := strm_len (d := d) (l := nat ws) (xs := ptF xs i) (cntF nn i)
            have HZ := Lib.hid (And.intro hz (And.intro hO (And.intro hB hml)))
            have hml2 : (manyD d (nat ws) xs nn i).1.length ≤ 600000 := Nat.le_trans hml (by
              have : i * (nn + 1) ≤ 4 * 131073 := Nat.mul_le_mul (by omega) (by omega)
              omega)
            have hbs := hB.size
            clear hz hO hB hpc hpd hml
            generalize (ptF xs i).length = pl at *
            go_wp2_with fail
            refine HRd.out.mono ?_
            rintro e w7 ⟨hB7, P7, c7, rfl, hc7, hD7⟩
            have hs7 := hB7.size
            have HB7 := Lib.hid (And.intro hB7 hD7)
            clear hB7 hD7 HRd pc hidx
            have hbad := fun h => manyD_bad (d := d) (L := nat ws) (xs := xs) (n := nn) hlt HZ.out.1 h
            have hgood := fun h => manyD_good (d := d) (L := nat ws) (xs := xs) (n := nn) (i := i) HZ.out.1 h
            have HBG := Lib.hid (And.intro hbad hgood)
            clear hbad hgood
            obtain ⟨R, hR⟩ : ∃ R, R = strm d (nat ws) (ptF xs i) (cntF nn i) := ⟨_, rfl⟩
            rw [← hR] at HBG HB7 hsl hc7
            rw [← hR]
            clear hR
            obtain ⟨ys, er⟩ := R
            dsimp only at HBG HB7 hsl hc7 ⊢
            have hys : Hid (ys.length = ys.length) := rfl
            obtain ⟨yl, hyl⟩ : ∃ yl, yl = ys.length := ⟨_, rfl⟩
            rw [← hyl] at hsl hc7 ⊢
            have HYl := Lib.hid hyl
            clear hyl hys
            have hbw7 := Lib.hid (H6.out.2.trans ((HZ.out.2.2.1.trans (HB7.out.1.mono hbs)).mono H6.out.2.size))
            by_cases her : er = 0
            · subst her
              obtain ⟨Ao, no, co, rfl⟩ := HZ.out.2.1.slice
              have HO7 := Lib.hid (HZ.out.2.1.below HB7.out.1 (Nat.le_refl _))
              go_wp2_with (at_builtin; refine list_app _ rfl _ _ 22 rfl i0 Try.underlying22 HI.out.1 HI.out.2.1 HI.out.2.2.1 HI.out.2.2.2 rfl HO7.out rfl HB7.out.2 HYl.out.symm ?_ ?_ ?_)
              · omega
              · omega
              intro v9 w9 ho9 hg9 _
              have HO9 := Lib.hid (And.intro ho9 hg9)
              clear ho9 hg9
              go_wp2_with fail
              go_roundg g'
              case measure => omega
              case rel =>
                have hgd := HBG.out.2 trivial
                refine ⟨i + 1, by go_num, by omega, by rw [hgd], by rw [hgd]; exact HO9.out.1, below_grown (HZ.out.2.2.1.trans (HB7.out.1.mono hbs)) HO9.out.2 (fun k hk => (HO7.out.block k hk).1) (by omega)⟩
            · have herb : (er != 0) = true := by simpa using her
              have hbd := HBG.out.1 her
              have hfr := HFR.out
              rw [hbd] at hfr
              have HFr := Lib.hid hfr
              clear hbd hfr
              go_wp2_with fail
              go_ret2
              exact ⟨_, HFr.out, BPost.none hbw7.out rfl⟩
          · obtain rfl : i = 4 := by omega
            have hiz : ¬ ((4 : Nat) : Int) < 4 := by decide
            obtain ⟨Ao, co, rfl, hco, hDo⟩ := hO.form
            have hbw := H6.out.2.trans (hB.mono H6.out.2.size)
            have HF := Lib.hid (And.intro hbw (And.intro hco (hDo.weak.mono (show w.heap.size ≤ w6.heap.size by omega) (Nat.le_refl _))))
            have hres : manyD d (nat ws) xs nn 4 = ((manyD d (nat ws) xs nn 4).1, 0) := by rw [← hz]
            have HRs := Lib.hid hres
            clear hz hO hB hbw hco hDo hres
            go_wp2_with fail
            go_ret2
            have hfr := HFR.out
            rw [HRs.out] at hfr
            exact ⟨_, _, hfr, HF.out.1, _, _, rfl, HF.out.2.1, HF.out.2.2⟩
      · have hf1 := HF1.out
        rw [if_neg hbad] at hf1
        have hf := hfour.out
        rw [hf1] at hf
        have HFR := Lib.hid hf
        clear hf hf1 hfour HF1
        go_wp2_with fail
        go_ret2
        exact ⟨_, HFR.out, BPost.none (H4.out.2.1.alloc H4.out.2.1.size _) rfl⟩
    · have hf1 : four d (nat ws) xs nn = ([], 11) := by unfold four; rw [if_pos h3]
      have HB2 := Lib.hid (HQ.out.2.2.1.trans (hB2.mono hs1))
      have hs2 := hB2.size
      rw [hf1] at hfour
      clear hB2 HCn hf1 h3
      go_wp2_with fail
      go_ret2
      exact ⟨_, hfour, BPost.none (HB2.out.alloc (by omega) _) rfl⟩
  · go_wp2_with fail
    go_ret2
    exact ⟨_, .inr ⟨fun d h => hno d h, rfl⟩, BPost.none hB1 rfl⟩
end
end Go.Proofs.Ytjpjbbbpmhcgnaa
