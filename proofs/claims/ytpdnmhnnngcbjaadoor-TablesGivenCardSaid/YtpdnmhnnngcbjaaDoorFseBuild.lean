
/- The contract of the program's Build. -/
import Derived.Test.YtpdnmhnnngcbjaaDoorFseEntries
namespace Go.Proofs.YtpdnmhnnngcbjaaDoor
open Go.RowKit

/-- What Build answers. -/
def BuildPost (L : Int) (ps : List Int) (w : World) (e : Ending) (w' : World) : Prop :=
  Below w.heap.size w w' ∧ ((mayB L ps = true ∧ ∃ v, e = .returned (.tuple #[.agg #[.int .i64 L, v], .int .i64 0]) ∧ OwR 3 ecell w' 41 w.heap.size v (tab L.toNat ps)) ∨
    (mayB L ps = false ∧ e = .returned (.tuple #[.agg #[.int .i64 0, .slice none 0 0], .int .i64 1])))
theorem chk_no {L most : Int} {ps : List Int} (h : mayB L ps = false) : chk L ps most = 1 := by
  unfold chk
  rw [if_pos h]
theorem u8_info7 : (Tryd.prog.info? 5).map (fun i => (i.zero, i.size, i.bytes)) = some (some (.int .u8 0), 1, 1) := by kernel_rfl

section
variable {w : World} {lo hi m cp : Nat} {A : Option Addr} {ps : List Int}
set_option maxRecDepth 100000 in
set_option maxHeartbeats 1000000 in
theorem build_no (L : Int) (hno : mayB L ps = false) (hd : DatE icel w lo hi A ps) (hm : ps.length = m) (hc : m ≤ cp) (hmx : m ≤ maxLen) (hhi : hi ≤ w.heap.size) (hb : ∀ p ∈ ps, -9223372036854775808 ≤ p ∧ p ≤ 9223372036854775807) :
    Calls Tryd.prog 26 #[.agg #[.int .i64 L, .slice A m cp]] w fun e w' => e = .returned (.tuple #[.agg #[.int .i64 0, .slice none 0 0], .int .i64 1]) ∧ Below w.heap.size w w' := by
  have hb2 : Below w.heap.size w ((w.alloc (.cells #[.int .i64 L, .slice A m cp] 70)).alloc (.cells #[.int .i64 0, .slice none 0 0] 26)) := ((Below.refl _ _).alloc (Nat.le_refl _) _).alloc (by simp) _
  have HC := Lib.hid (check_any (c := cp) L 15 (hd.below hb2 hhi) hm hc hmx (by simp; omega) hb)
  rw [chk_no hno] at HC
  have HX := Lib.hid (Box.new (w.alloc (.cells #[.int .i64 L, .slice A m cp] 70)) 26 #[.int .i64 0, .slice none 0 0])
  rw [World.size_alloc] at HX
  have HB2 := Lib.hid hb2
  clear hd hm hb hno hb2
  go_enter Tryd.func26, Tryd.ntmps26
  go_wp2_with fail
  refine HC.out.mono ?_
  rintro e w1 ⟨rfl, hB⟩
  have HB := Lib.hid (HB2.out.trans (hB.mono (by simp; omega)))
  obtain ⟨c0, c1, f0, f1⟩ := box2 (HX.out.below hB (by simp))
  clear hB
  go_wp2_with fail
  have HZ := Lib.hid HB.out.size
  refine bodyPost_ret (v := .tuple #[.agg #[.int .i64 0, .slice none 0 0], .int .i64 1]) (by simp [results, Tryd.results26, go_sem, c0, c1]) rfl ⟨rfl, ?_⟩
  exact (HB.out.setCell (by show w.heap.size ≤ w.heap.size + 1; omega) _).setCell (by show w.heap.size ≤ w.heap.size + 1; omega) _

set_option maxRecDepth 100000 in
set_option maxHeartbeats 2000000 in
theorem build_yes (l : Nat) (hyes : mayB (l : Int) ps = true) (hd : DatE icel w lo hi A ps) (hm : ps.length = m) (hc : m ≤ cp) (hmx : m ≤ maxLen) (hhi : hi ≤ w.heap.size) (hb : ∀ p ∈ ps, -9223372036854775808 ≤ p ∧ p ≤ 9223372036854775807) :
    Calls Tryd.prog 26 #[.agg #[.int .i64 (l : Int), .slice A m cp]] w fun e w' => ∃ v, e = .returned (.tuple #[.agg #[.int .i64 (l : Int), v], .int .i64 0]) ∧ OwR 3 ecell w' 41 w.heap.size v (tab l ps) ∧ Below w.heap.size w w' := by
  have hb2 : Below w.heap.size w ((w.alloc (.cells #[.int .i64 (l : Int), .slice A m cp] 70)).alloc (.cells #[.int .i64 0, .slice none 0 0] 26)) := ((Below.refl _ _).alloc (Nat.le_refl _) _).alloc (by simp) _
  have HC := Lib.hid (check_any (c := cp) (l : Int) 15 (hd.below hb2 hhi) hm hc hmx (by simp; omega) hb)
  have hF := mayF hyes
  rw [chk_ok hyes (by have := hF.l15; omega)] at HC
  have hx0 := (Box.new w 70 #[.int .i64 (l : Int), .slice A m cp]).alloc (.cells #[.int .i64 0, .slice none 0 0] 26)
  have HX0 := Lib.hid hx0
  have HX := Lib.hid (Box.new (w.alloc (.cells #[.int .i64 (l : Int), .slice A m cp] 70)) 26 #[.int .i64 0, .slice none 0 0])
  rw [World.size_alloc] at HX
  have HB2 := Lib.hid hb2
  have HF := Lib.hid hF
  have HD := Lib.hid hd
  have HM := Lib.hid hm
  have hl5 := hF.l5
  have hl15 := hF.l15
  obtain ⟨i0, hi0, hz0, hz1, hz2⟩ := info_parts u8_info7
  obtain ⟨n, hn⟩ : ∃ n : Nat, n = 2 ^ l := ⟨_, rfl⟩
  have hpow : (2 : Int) ^ l = (n : Int) := by rw [hn]; simp
  have hn5 : 2 ^ 5 ≤ 2 ^ l := Nat.pow_le_pow_right (by omega) hl5
  have hn15 : 2 ^ l ≤ 2 ^ 15 := Nat.pow_le_pow_right (by omega) hl15
  rw [← hn] at hn5 hn15
  have HN := Lib.hid hn
  clear hd hm hb hyes hb2 hF hx0 hn
  go_enter Tryd.func26, Tryd.ntmps26
  go_wp2_with fail
  refine HC.out.mono ?_
  rintro e w1 ⟨rfl, hB⟩
  have HB := Lib.hid (HB2.out.trans (hB.mono (by simp; omega)))
  have HY0 := Lib.hid (HX0.out.below hB (by simp; omega))
  have HY := Lib.hid (HX.out.below hB (by simp))
  have hs1 := hB.size
  simp only [World.size_alloc] at hs1
  obtain ⟨c0, c1, f0, f1⟩ := box2 HY0.out
  clear hB HC HX HX0 HB2
  go_wp2_with (refine wpList_make_full _ rfl _ _ 27 rfl w1.heap.size 5 i0 (.int .u8 0) 1 Tryd.underlying27 hi0 hz0 hz1 .i64 .i64 _ _ n rfl rfl rfl rfl ?_ ?_ ?_ ?_)
  · first | omega | (rw [hz2]; omega)
  · unfold maxLen; omega
  · exact Nat.le_refl _
  intro w2 ho hg
  have ho2 : OwE bocel w2 5 w1.heap.size (.slice (some ⟨w1.heap.size, 0, none⟩) n n) (List.replicate n 0) := by
    unfold OwE
    rw [List.length_replicate, List.map_replicate]
    have h := ho
    rw [toList_madeCells_one] at h
    exact h
  have HO2 := Lib.hid ho2
  have hg2 := hg.size
  have HB2 := Lib.hid (HB.out.grown hg (by omega) (by simp))
  have HY02 := Lib.hid (HY0.out.grown hg (by simp))
  have HY2 := Lib.hid (HY.out.grown hg (by simp))
  have hlt2 := ho2.lt
  clear ho ho2 hg HB HY0 HY c0 c1 f0 f1
  obtain ⟨c0, c1, f0, f1⟩ := box2 HY02.out
  have hR : (rr ps ps.length).length ≤ n := by have := HF.out.sum; have := HN.out; omega
  have hm256 : m ≤ 256 := by have := HF.out.len; have := HM.out; omega
  have HRr := Lib.hid (layRare_any (cp := cp) HO2.out (HD.out.below HB2.out hhi) (Or.inr (by omega)) HM.out hm256 hR (by omega))
  obtain ⟨F, hFe⟩ : ∃ F : Nat, F = n - (rr ps ps.length).length := ⟨_, rfl⟩
  rw [← hFe] at HRr
  have HFe : Hid (F = fe l ps) := by unfold Hid fe; rw [hFe, HN.out]
  clear hR hFe
  go_wp2_with fail
  refine HRr.out.mono ?_
  rintro e w3 ⟨rfl, ho, hs⟩
  have HO3 := Lib.hid ho
  have hs3 := hs.2
  have HB3 := Lib.hid (HB2.out.trans (hs.below (B := w.heap.size) (by omega) (by omega)))
  have HY03 := Lib.hid (HY02.out.keep (hs.1.block w.heap.size (by omega) (by intro e; injection e with e; omega)))
  have HY3 := Lib.hid (HY2.out.keep (hs.1.block (w.heap.size + 1) (by omega) (by intro e; injection e with e; omega)))
  have hlt3 := ho.lt
  clear ho hs HRr HO2 HB2 HY02 HY2 c0 c1 f0 f1
  obtain ⟨c0, c1, f0, f1⟩ := box2 HY03.out
  have hLl : (List.replicate F 0 ++ rr ps ps.length).length = 2 ^ l := by rw [HFe.out]; simpa using HF.out.base_len 0 id
  have HOt := Lib.hid (layOthers_any (cp := cp) HF.out HN.out HFe.out hLl HO3.out (HD.out.below HB3.out hhi) (Or.inr (by omega)) HM.out)
  rw [show (lay (2 ^ l) (fe l ps) (List.replicate F 0 ++ rr ps ps.length) (ot ps ps.length)).1 = syms l ps by rw [HFe.out]; rfl] at HOt
  clear hLl
  go_wp2_with fail
  refine HOt.out.mono ?_
  rintro e w4 ⟨rfl, ho, hs⟩
  have HO4 := Lib.hid ho
  have hs4 := hs.2
  have HB4 := Lib.hid (HB3.out.trans (hs.below (B := w.heap.size) (by omega) (by omega)))
  have HY04 := Lib.hid (HY03.out.keep (hs.1.block w.heap.size (by omega) (by intro e; injection e with e; omega)))
  have HY4 := Lib.hid (HY3.out.keep (hs.1.block (w.heap.size + 1) (by omega) (by intro e; injection e with e; omega)))
  clear ho hs HOt HO3 HB3 HY03 HY3 c0 c1 f0 f1
  obtain ⟨c0, c1, f0, f1⟩ := box2 HY04.out
  obtain ⟨Ay, cy, hv, _, hdy⟩ := HO4.out.form
  have HEn := Lib.hid (entries_any (w := w4.drew) (c := n) (cp := cp) HF.out HN.out (show DatE bocel w4.drew w1.heap.size w4.heap.size (some ⟨w1.heap.size, 0, none⟩) (syms l ps) by injection hv with hv; subst hv; exact hdy) (Nat.le_refl _) (show DatE icel w4.drew lo hi A ps from HD.out.below HB4.out.drew hhi) (by show hi ≤ w4.heap.size; omega) HM.out)
  clear hv hdy
  go_wp2_with fail
  go_region_with (go_at_call 51; refine (HEn.out).mono ?_; rintro e' wn ⟨v, rfl, hes, hB⟩; obtain ⟨Av, nv, cv, rfl⟩ := hes.slice; have hB4 : Below w4.heap.size w4 wn := ⟨hB.os, hB.tape, hB.output, hB.size, hB.block⟩; have HBn := Lib.hid (HB4.out.trans (hB4.mono (by omega))); have HEs := Lib.hid hes; obtain ⟨t0, t1, k0, k1⟩ := box2 (HY4.out.below hB4 (by omega)); obtain ⟨d0, d1, g0, g1⟩ := box2 (HY04.out.below hB4 (by omega)); clear hB hB4 hes)
  all_goals
    go_wp2_with fail
    refine bodyPost_ret (v := .tuple #[.agg #[.int .i64 (l : Int), .slice Av nv cv], .int .i64 0]) (by simp [results, Tryd.results26, go_sem, t0, t1]) rfl ⟨.slice Av nv cv, rfl, ?_, ?_⟩
    · refine (HEs.out.keep fun k hk => ?_).mono (show w.heap.size ≤ w4.heap.size by omega)
      have hk4 : w4.heap.size ≤ k := (HEs.out.block k hk).1
      rw [Below.heap_setCell _ _ _ k (by show k ≠ w.heap.size + 1; omega), Below.heap_setCell _ _ _ k (by show k ≠ w.heap.size + 1; omega)]
    · exact (HBn.out.setCell (by show w.heap.size ≤ w.heap.size + 1; omega) _).setCell (by show w.heap.size ≤ w.heap.size + 1; omega) _
/-- The table of counts, or none. -/
theorem build_any (L : Int) (hd : DatE icel w lo hi A ps) (hm : ps.length = m) (hc : m ≤ cp) (hmx : m ≤ maxLen) (hhi : hi ≤ w.heap.size) (hb : ∀ p ∈ ps, -9223372036854775808 ≤ p ∧ p ≤ 9223372036854775807) :
    Calls Tryd.prog 26 #[.agg #[.int .i64 L, .slice A m cp]] w (BuildPost L ps w) := by
  cases hq : mayB L ps with
  | false => exact (build_no L hq hd hm hc hmx hhi hb).mono fun e w' ⟨h1, h2⟩ => ⟨h2, .inr ⟨hq, h1⟩⟩
  | true =>
    obtain ⟨l, rfl⟩ := Int.eq_ofNat_of_zero_le (show 0 ≤ L by have := (mayB_iff.1 hq).1; omega)
    exact (build_yes l hq hd hm hc hmx hhi hb).mono fun e w' ⟨v, h1, h2, h3⟩ => ⟨h3, .inl ⟨hq, v, h1, by simpa using h2⟩⟩
end
end Go.Proofs.YtpdnmhnnngcbjaaDoor
