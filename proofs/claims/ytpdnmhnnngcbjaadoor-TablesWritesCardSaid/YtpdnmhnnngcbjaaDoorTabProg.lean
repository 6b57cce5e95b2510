
/- The contracts of the program's isKind, Most, Default and slices.Clone of ints and entries. -/
import Derived.Test.YtpdnmhnnngcbjaaDoorTabPlain
import Derived.Test.YtpdnmhnnngcbjaaDoorPileD
import Derived.Test.YtpdnmhnnngcbjaaDoorPileC
namespace Go.Proofs.YtpdnmhnnngcbjaaDoor
open Go.RowKit

theorem codeKind_any (k : Int) (w : World) :
    Calls Tryd.prog 54 #[.int .i64 k] w fun e w' => e = .returned (.bool (decide (0 ≤ k ∧ k ≤ 2))) ∧ w = w' := by
  by_cases h0 : 0 ≤ k
  · by_cases h2 : k ≤ 2
    · rw [show decide (0 ≤ k ∧ k ≤ 2) = true by simp [h0, h2]]
      go_enter Tryd.func54, Tryd.ntmps54
      go_wp2
      go_ret
      exact ⟨rfl, rfl⟩
    · rw [show decide (0 ≤ k ∧ k ≤ 2) = false by simp [h2]]
      have hd : decide (k ≤ 2) = false := by simp; omega
      go_enter Tryd.func54, Tryd.ntmps54
      go_wp2
      go_ret
      exact ⟨rfl, rfl⟩
  · rw [show decide (0 ≤ k ∧ k ≤ 2) = false by simp [h0]]
    go_enter Tryd.func54, Tryd.ntmps54
    go_wp2
    go_ret
    exact ⟨rfl, rfl⟩

theorem last_any {B : Nat} (k : Int) (w : World) (hgl : Glob B w) :
    Calls Tryd.prog 31 #[.int .i64 k] w fun e w' => e = .returned (.int .i64 (lastZ k)) ∧ w = w' := by
  by_cases hb : 0 ≤ k ∧ k ≤ 2
  · obtain ⟨n, rfl⟩ := Int.eq_ofNat_of_zero_le hb.1
    have hn : n < 3 := by omega
    have q := hgl.1 n hn
    have hz := lastZ_nat hn
    rw [hz]
    have HI : Hid (∀ W, Calls Tryd.prog 54 #[.int .i64 (n : Int)] W fun e w' => e = .returned (.bool true) ∧ W = w') := fun W => by
      have := codeKind_any (n : Int) W
      rwa [decide_eq_true hb] at this
    obtain ⟨l, hl⟩ : ∃ l, l = lastN n := ⟨_, rfl⟩
    rw [← hl] at q ⊢
    clear hl hz hb hgl
    go_enter Tryd.func31, Tryd.ntmps31
    go_wp2_with (go_at_call 54; refine (HI.out _).mono ?_; rintro e' w' ⟨rfl, rfl⟩)
    go_ret
    exact ⟨rfl, rfl⟩
  · have hz : lastZ k = -1 := by unfold lastZ; rw [if_pos (by omega)]
    rw [hz]
    have HI : Hid (∀ W, Calls Tryd.prog 54 #[.int .i64 k] W fun e w' => e = .returned (.bool false) ∧ W = w') := fun W => by
      have := codeKind_any k W
      rwa [decide_eq_false hb] at this
    clear hz hb hgl
    go_enter Tryd.func31, Tryd.ntmps31
    go_wp2_with (go_at_call 54; refine (HI.out _).mono ?_; rintro e' w' ⟨rfl, rfl⟩)
    go_ret
    exact ⟨rfl, rfl⟩

theorem kind_any {B : Nat} (k : Int) (w : World) (hgl : Glob B w) :
    Calls Tryd.prog 15 #[.int .i64 k] w fun e w' => e = .returned (.bool (decide (0 ≤ k ∧ k ≤ 2))) ∧ w = w' := by
  have HL := Lib.hid (last_any k w hgl)
  by_cases hb : 0 ≤ k ∧ k ≤ 2
  · have h0 : 0 ≤ lastZ k := by unfold lastZ; rw [if_neg (by omega)]; omega
    rw [decide_eq_true hb]
    generalize lastZ k = l at *
    clear hgl hb
    go_enter Tryd.func15, Tryd.ntmps15
    go_wp2_with (go_at_call 31; refine HL.out.mono ?_; rintro e' w' ⟨rfl, rfl⟩)
    go_ret
    exact ⟨rfl, rfl⟩
  · have h0 : lastZ k = -1 := by unfold lastZ; rw [if_pos (by omega)]
    rw [decide_eq_false hb]
    rw [h0] at HL
    clear hgl hb h0
    go_enter Tryd.func15, Tryd.ntmps15
    go_wp2_with (go_at_call 31; refine HL.out.mono ?_; rintro e' w' ⟨rfl, rfl⟩)
    go_ret
    exact ⟨rfl, rfl⟩

theorem most_any {B : Nat} (k : Int) (w : World) (hgl : Glob B w) :
    Calls Tryd.prog 14 #[.int .i64 k] w fun e w' => e = .returned (.int .i64 (mostZ k)) ∧ w = w' := by
  have HK := Lib.hid (kind_any k w hgl)
  by_cases hb : 0 ≤ k ∧ k ≤ 2
  · rw [decide_eq_true hb] at HK
    obtain ⟨n, rfl⟩ := Int.eq_ofNat_of_zero_le hb.1
    have hn : n < 3 := by omega
    have q := hgl.2.2.1 n hn
    rw [mostZ_nat hn]
    obtain ⟨l, hl⟩ : ∃ l, l = mostN n := ⟨_, rfl⟩
    rw [← hl] at q ⊢
    clear hl hb hgl
    go_enter Tryd.func14, Tryd.ntmps14
    go_wp2_with (go_at_call 15; refine HK.out.mono ?_; rintro e' w' ⟨rfl, rfl⟩)
    go_ret
    exact ⟨rfl, rfl⟩
  · rw [decide_eq_false hb] at HK
    rw [show mostZ k = 0 by unfold mostZ; rw [if_pos (by omega)]]
    clear hb hgl
    go_enter Tryd.func14, Tryd.ntmps14
    go_wp2_with (go_at_call 15; refine HK.out.mono ?_; rintro e' w' ⟨rfl, rfl⟩)
    go_ret
    exact ⟨rfl, rfl⟩

/-! Clones. -/
theorem ownE_empty {α : Type} (f : α → Value) (w : World) (u base : Nat) (h : base ≤ w.heap.size) : OwE f (w.alloc (.cells #[] u)) u base (.slice (some ⟨w.heap.size, 0, none⟩) 0 0) [] :=
  World.ownsRow_made (base := base) (e := u) (size := 1) w #[] 0 h (by simp [maxLen]) (by simp)
theorem ownR_empty {α : Type} (z : Nat) (f : α → List Value) (w : World) (u base : Nat) (h : base ≤ w.heap.size) : OwR z f (w.alloc (.cells #[] u)) u base (.slice (some ⟨w.heap.size, 0, none⟩) 0 0) [] :=
  World.ownsRow_made (base := base) (e := u) (size := z) w #[] 0 h (by simp [maxLen]) (by simp)

theorem cloneR_some {w : World} {lo hi n c : Nat} {a : Addr} {es : List En} (hd : DatR 3 ecell w lo hi (some a) es) (hn : es.length = n) (hb : es.length ≤ 1099511627776) (hhi : hi ≤ w.heap.size) :
    Calls Tryd.prog 53 #[.slice (some a) n c] w fun e w' => ∃ v, e = .returned v ∧ OwR 3 ecell w' 41 w.heap.size v es ∧ Below w.heap.size w w' := by
  obtain ⟨i0, hi0, hz0, hz1, hz2⟩ := info_parts entry_info
  have hq := Lib.run_eql_slice_nil (P := Tryd.prog) w 24 41 (some a) n c 0 0 Tryd.underlying24
  have hO := Lib.hid (ownR_empty 3 ecell w 41 w.heap.size (Nat.le_refl _))
  have hD := Lib.hid (hd.alloc hhi (.cells #[] 41))
  clear hd
  have HN := Lib.hid hn
  clear hn
  go_enter Tryd.func53, Tryd.ntmps53
  go_wp2_with (at_builtin; refine list_appR ecell_len (by decide) ecell_one _ rfl _ _ 24 rfl i0 (.agg #[.int .u8 0, .int .i64 0, .int .i64 0]) 24 Tryd.underlying24 hi0 hz0 hz1 hz2 rfl (by decide) rfl hO.out rfl hD.out HN.out ?_ ?_ ?_)
  · simp only [List.length_nil]; have := HN.out; omega
  · simp
  intro v' w1 ho hg _
  have HO := Lib.hid ho
  have HG := Lib.hid hg
  clear ho hg hO hD
  go_wp2
  go_ret
  exact ⟨_, rfl, HO.out, ((Below.refl _ _).alloc (Nat.le_refl _) _).grown HG.out (by simp) (by intro k hk; simp [Value.ownBlock] at hk; omega)⟩

/-! Default. -/
theorem default_no {B : Nat} (k : Int) (w : World) (hgl : Glob B w) (hk : ¬ (0 ≤ k ∧ k ≤ 2)) :
    Calls Tryd.prog 12 #[.int .i64 k] w fun e w' => e = .returned (.tuple #[.agg #[.int .i64 0, .slice none 0 0], .int .i64 1]) ∧ Below w.heap.size w w' := by
  have HK := Lib.hid (kind_any k _ (hgl.alloc (.cells #[.int .i64 0, .slice none 0 0] 26)))
  rw [decide_eq_false hk] at HK
  clear hgl hk
  go_enter Tryd.func12, Tryd.ntmps12
  go_wp2_with (go_at_call 15; refine HK.out.mono ?_; rintro e' w' ⟨rfl, rfl⟩)
  refine bodyPost_ret (v := .tuple #[.agg #[.int .i64 0, .slice none 0 0], .int .i64 1]) (by simp [results, Tryd.results12, go_sem]) rfl ⟨rfl, ?_⟩
  exact (Below.refl _ _).alloc (Nat.le_refl _) _

theorem pushI_facts {wx w2 : World} {b : Nat} {t : TypeId} {x v v1 : Value} {xs ys : List Int} {o : Obj} (hb : Box wx b t #[x, v]) (ho : OwE icel wx 3 (b + 1) v xs) (ho1 : OwE icel w2 3 (b + 1) v1 ys) (hg : (wx.alloc o).grownBy w2 v.ownBlock) :
    w2.cell? ⟨b, 0, none⟩ = some x ∧ w2.cell? ⟨b, 1, none⟩ = some v ∧ w2.frozen? ⟨b, 1, none⟩ = false ∧
    Hid (Box (w2.setCell ⟨b, 1, none⟩ v1) b t #[x, v1] ∧ OwE icel (w2.setCell ⟨b, 1, none⟩ v1) 3 (b + 1) v1 ys ∧ Below b wx (w2.setCell ⟨b, 1, none⟩ v1)) := by
  have hne : some b ≠ v.ownBlock := fun e => by have := (ho.block b e.symm).1; omega
  have hb2 : Box w2 b t #[x, v] := (hb.alloc o).grown hg hne
  have hlt := hb.lt
  refine ⟨hb2.cell 0, hb2.cell 1, hb2.free 1, hb2.put 1 v1, ?_, ?_⟩
  · exact ho1.keep fun k hk => Below.heap_setCell _ _ _ k (by have := (ho1.block k hk).1; simp; omega)
  · have hB : Below b wx (wx.alloc o) := (Below.refl _ _).alloc (by omega) _
    exact (hB.grown hg (by simp; omega) (fun k hk => by have := (ho.block k hk).1; omega)).setCell (Nat.le_refl _) _
set_option maxRecDepth 100000 in
set_option maxHeartbeats 2000000 in
theorem given_any {B : Nat} (n : Nat) (w : World) (hgl : Glob B w) (hn : n < 3) :
    Calls Tryd.prog 27 #[.int .i64 (n : Int)] w fun e w' => ∃ v, e = .returned (.agg #[.int .i64 (logN n : Int), v]) ∧ OwE icel w' 3 w.heap.size v (partsN n) ∧ Below w.heap.size w w' := by
  obtain ⟨i0, hi0, hz0, hz1, hz2⟩ := info_parts int_info
  have HI := Lib.hid (And.intro hi0 (And.intro hz0 (And.intro hz1 hz2)))
  have hgl1 := hgl.alloc (.cells #[.int .i64 0, .slice none 0 0] 70)
  have q0 := hgl1.2.1 n hn
  obtain ⟨A, q1, hd⟩ := ((hgl1.alloc (.cells #[.int .i64 (logN n : Int), .slice none 0 0] 70)).2.2.2.1 n hn)
  have hB0 := hgl.size
  have hlen := parts_len n hn
  have hhas := has_le n hn
  have hla := last_le n hn
  have hnn : (n : Int) < 3 := by omega
  generalize logN n = lg at *
  generalize partsN n = ps at *
  obtain ⟨m, hm⟩ : ∃ m, m = ps.length := ⟨_, rfl⟩
  rw [← hm] at q1 hlen
  have hm1 : 1 ≤ m := by omega
  have hm53 : m ≤ 53 := by omega
  obtain ⟨W, hW⟩ : ∃ W, W = (w.alloc (.cells #[.int .i64 0, .slice none 0 0] 70)).alloc (.cells #[.int .i64 (lg : Int), .slice none 0 0] 70) := ⟨_, rfl⟩
  have hB1 : Below w.heap.size w W := by rw [hW]; exact ((Below.refl _ _).alloc (Nat.le_refl _) _).alloc (by simp) _
  have hbr : Box W w.heap.size 70 #[.int .i64 0, .slice none 0 0] := by rw [hW]; exact (Box.new w _ _).alloc _
  have hbx : Box W (w.heap.size + 1) 70 #[.int .i64 (lg : Int), .slice none 0 0] := by
    rw [hW]
    have := Box.new (w.alloc (.cells #[.int .i64 0, .slice none 0 0] 70)) 70 #[.int .i64 (lg : Int), .slice none 0 0]
    rw [World.size_alloc] at this
    exact this
  rw [← hW] at q1 hd
  have HM := Lib.hid hm
  obtain ⟨d, o, hA, _, hdB, hc⟩ := hd (by omega)
  obtain rfl := Option.some.inj hA
  have HC := Lib.hid hc
  have HS := Lib.hid (And.intro hbr (And.intro hbx hB1))
  have hWz : W.heap.size = w.heap.size + 2 := by rw [hW]; simp
  have HWz := Lib.hid hWz
  clear hgl hgl1 hd hm hlen hhas hla hi0 hz0 hz1 hz2 hbr hbx hB1 hc hWz hA
  go_enter Tryd.func27, Tryd.ntmps27
  go_upto_region 2 with (fail)
  rw [← hW]
  clear hW q0
  go_wp2_with fail
  go_loopg [14] m (fun gh i wx => ∃ (j : Nat) (v : Value), j + gh = m ∧ i = .int .i64 (j : Int) ∧ Box wx (w.heap.size + 1) 70 #[.int .i64 (lg : Int), v] ∧ OwE icel wx 3 (w.heap.size + 1 + 1) v (ps.take j) ∧ Box wx w.heap.size 70 #[.int .i64 0, .slice none 0 0] ∧ Below w.heap.size w wx ∧ Hid (Below W.heap.size W wx ∨ True) ∧ (∀ i, i < ps.length → wx.cell? ⟨d, o + i, none⟩ = W.cell? ⟨d, o + i, none⟩))
  case atStart => exact ⟨0, _, by omega, rfl, HS.out.2.1, OwE.nil _ _ _ _, HS.out.1, HS.out.2.2, .inr trivial, fun _ _ => rfl⟩
  case round =>
    obtain ⟨j, v, hj, rfl, hb, ho, hr, hB, _, hsame⟩ := hrel
    obtain ⟨Av, nv, cv, rfl⟩ := ho.slice
    obtain ⟨c0, c1, f0, f1⟩ := box2 hb
    have HX := Lib.hid hb
    have HO := Lib.hid ho
    have HR := Lib.hid hr
    have HBx := Lib.hid hB
    have HJ := Lib.hid hj
    have HSm := Lib.hid hsame
    have hlt := hb.lt
    have hjm : j ≤ m := by omega
    clear hb ho hr hB hj hsame q1
    by_cases hjl : j < m
    · obtain ⟨g', rfl⟩ : ∃ g', gk = g' + 1 := ⟨gk - 1, by have := HJ.out; omega⟩
      have hji : (j : Int) < (m : Int) := by omega
      have hjp : j < ps.length := by have := HM.out; omega
      have q2 := (HSm.out j hjp).trans (HC.out j hjp)
      have HTk := Lib.hid (List.take_succ_eq_append_getElem hjp)
      have HLn : Hid ((ps.take j).length ≤ 53) := by show (ps.take j).length ≤ 53; rw [List.length_take]; omega
      unfold icel at q2
      generalize ps[j] = x at *
      have HA := Lib.hid (HO.out.alloc (.cells #[.int .i64 x] 3))
      have HD1 := Lib.hid (datE_one icel wr x 3 _ rfl)
      go_wp2_with (at_builtin; refine list_appE icel_one _ rfl _ _ 22 rfl i0 (.int .i64 0) 8 Tryd.underlying22 HI.out.1 HI.out.2.1 HI.out.2.2.1 HI.out.2.2.2 rfl (by decide) rfl HA.out rfl HD1.out rfl ?_ ?_ ?_)
      · have := HLn.out; first | omega | (simp; omega)
      · first | omega | (simp; omega)
      intro v1 w4 ho1 hg1 hat1
      obtain ⟨Av1, nv1, cv1, rfl⟩ := ho1.slice
      obtain ⟨k0, k1, kf, HK⟩ := pushI_facts HX.out HO.out ho1 hg1
      have HKr := Lib.hid (HR.out.below HK.out.2.2 (by omega))
      have HKb := Lib.hid (HBx.out.trans (HK.out.2.2.mono (by omega)))
      have HKs : Hid (∀ i, i < ps.length → (w4.setCell ⟨w.heap.size + 1, 1, none⟩ (.slice Av1 nv1 cv1)).cell? ⟨d, o + i, none⟩ = W.cell? ⟨d, o + i, none⟩) := fun i hi => (HK.out.2.2.cell (p := ⟨d, o + i, none⟩) (show d < w.heap.size + 1 by omega)).trans (HSm.out i hi)
      clear ho1 hg1 hat1 HA HD1 c0 c1 f0 f1
      go_wp2_with fail
      go_roundg g'
      case rel =>
        refine ⟨j + 1, _, by have := HJ.out; omega, by go_num, HK.out.1, ?_, HKr.out, HKb.out, .inr trivial, HKs.out⟩
        rw [HTk.out]
        exact HK.out.2.1
      case measure => omega
    · obtain rfl : j = m := by omega
      have hji : ¬ (j : Int) < (j : Int) := by omega
      have hT : ps.take j = ps := List.take_of_length_le (by have := HM.out; omega)
      rw [hT] at HO
      obtain ⟨r0, r1, k0, k1⟩ := box2 HR.out
      clear hT
      go_wp2_with fail
      refine bodyPost_ret (v := .agg #[.int .i64 (lg : Int), .slice Av nv cv]) (by simp [results, Tryd.results27, go_sem, r0, r1]) rfl ⟨_, rfl, ?_, ?_⟩
      · refine (HO.out.keep fun k hk => ?_).mono (by omega)
        have hk4 := (HO.out.block k hk).1
        rw [Below.heap_setCell _ _ _ k (by show k ≠ w.heap.size; omega), Below.heap_setCell _ _ _ k (by show k ≠ w.heap.size; omega)]
      · exact (HBx.out.setCell (Nat.le_refl _) _).setCell (Nat.le_refl _) _

set_option maxRecDepth 100000 in
set_option maxHeartbeats 2000000 in
theorem default_any {B : Nat} (n : Nat) (w : World) (hgl : Glob B w) (hn : n < 3) :
    Calls Tryd.prog 12 #[.int .i64 (n : Int)] w fun e w' => ∃ v, e = .returned (.tuple #[.agg #[.int .i64 (logN n : Int), v], .int .i64 0]) ∧ OwR 3 ecell w' 41 w.heap.size v (tabG n) ∧ Below w.heap.size w w' := by
  have hgl1 := hgl.alloc (.cells #[.int .i64 0, .slice none 0 0] 26)
  have HK := Lib.hid (kind_any (n : Int) _ hgl1)
  rw [decide_eq_true (show (0 : Int) ≤ (n : Int) ∧ (n : Int) ≤ 2 by omega)] at HK
  have HG := Lib.hid (given_any n _ hgl1 hn)
  have hlen := parts_len n hn
  have hhas := has_le n hn
  have hla := last_le n hn
  have HMay := Lib.hid (given_may n hn)
  have HBd := Lib.hid (parts_bd n hn)
  have HX := Lib.hid (Box.new w 26 #[.int .i64 0, .slice none 0 0])
  have HB0 : Hid (Below w.heap.size w (w.alloc (.cells #[.int .i64 0, .slice none 0 0] 26))) := (Below.refl _ _).alloc (Nat.le_refl _) _
  have hsz1 : (w.alloc (.cells #[.int .i64 0, .slice none 0 0] 26)).heap.size = w.heap.size + 1 := by simp
  have HSz := Lib.hid hsz1
  have hm53 : (partsN n).length ≤ 53 := by omega
  have HM := Lib.hid hm53
  unfold tabG
  generalize logN n = lg at *
  generalize partsN n = ps at *
  clear hgl hgl1 hlen hhas hla hsz1 hm53
  go_enter Tryd.func12, Tryd.ntmps12
  go_wp2_with (go_at_call 15; refine HK.out.mono ?_; rintro e' w' ⟨rfl, rfl⟩)
  generalize w.alloc (.cells #[.int .i64 0, .slice none 0 0] 26) = W at *
  have hWs : w.heap.size < W.heap.size := by have := HSz.out; omega
  refine HG.out.mono ?_
  rintro e w1 ⟨v1, rfl, ho1, hB1⟩
  obtain ⟨A1, c1, rfl, hc1, hd1⟩ := ho1.form
  have HBu := Lib.hid (build_yes (cp := c1) lg HMay.out hd1 rfl hc1 (by have := HM.out; unfold maxLen; omega) (Nat.le_refl _) HBd.out)
  have HB1 := Lib.hid hB1
  obtain ⟨m, hm⟩ : ∃ m, m = ps.length := ⟨_, rfl⟩
  rw [← hm] at HBu ⊢
  clear ho1 hc1 hd1 hB1 hm
  go_wp2_with fail
  refine HBu.out.mono ?_
  rintro e w2 ⟨v2, rfl, ho2, hB2⟩
  obtain ⟨A2, n2, c2, rfl⟩ := ho2.slice
  have HO2 := Lib.hid ho2
  have HB2 := Lib.hid (HB1.out.trans (hB2.mono HB1.out.size))
  have hs2 := hB2.size
  have hs1 := HB1.out.size
  obtain ⟨t0, t1, k0, k1⟩ := box2 (HX.out.below HB2.out hWs)
  clear ho2 hB2
  go_wp2_with fail
  refine bodyPost_ret (v := .tuple #[.agg #[.int .i64 (lg : Int), .slice A2 n2 c2], .int .i64 0]) (by simp [results, Tryd.results12, go_sem, t0, t1]) rfl ⟨.slice A2 n2 c2, rfl, ?_, ?_⟩
  · refine (HO2.out.keep fun k hk => ?_).mono (show w.heap.size ≤ w1.heap.size by omega)
    have hk4 : w1.heap.size ≤ k := (HO2.out.block k hk).1
    rw [Below.heap_setCell _ _ _ k (by show k ≠ w.heap.size; omega), Below.heap_setCell _ _ _ k (by show k ≠ w.heap.size; omega)]
  · exact ((HB0.out.trans (HB2.out.mono (by omega))).setCell (Nat.le_refl _) _).setCell (Nat.le_refl _) _
end Go.Proofs.YtpdnmhnnngcbjaaDoor
