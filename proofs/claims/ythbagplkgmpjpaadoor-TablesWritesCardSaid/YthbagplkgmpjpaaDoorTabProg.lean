
/- The contracts of the program's isKind, Most, Default and slices.Clone of ints and entries. -/
import Derived.Test.YthbagplkgmpjpaaDoorTabPlain
import Derived.Test.YthbagplkgmpjpaaDoorPileD
import Derived.Test.YthbagplkgmpjpaaDoorPileC
namespace Go.Proofs.YthbagplkgmpjpaaDoor
open Go.RowKit

theorem codeKind_any (k : Int) (w : World) :
    Calls Tryd.prog 54 #[.int .i64 k] w fun e w' => e = .returned (.bool (decide (0 ≤ k ∧ k ≤ 2))) ∧ w = w' := by
  by_cases h0 : 0 ≤ k
  · by_cases h2 : k ≤ 2
    · rw [show decide (0 ≤ k ∧ k ≤ 2) = true by simp [h0, h2]]
      go_enter Tryd.func54, Tryd.ntmps54
      go_wp2
      go_ret
      exact ⟨rfl, rfl⟩
    · rw [show decide (0 ≤ k ∧ k ≤ 2) = false by simp [h2]]
      have hd : decide (k ≤ 2) = false := by simp; omega
      go_enter Tryd.func54, Tryd.ntmps54
      go_wp2
      go_ret
      exact ⟨rfl, rfl⟩
  · rw [show decide (0 ≤ k ∧ k ≤ 2) = false by simp [h0]]
    go_enter Tryd.func54, Tryd.ntmps54
    go_wp2
    go_ret
    exact ⟨rfl, rfl⟩

theorem last_any {B : Nat} (k : Int) (w : World) (hgl : Glob B w) :
    Calls Tryd.prog 31 #[.int .i64 k] w fun e w' => e = .returned (.int .i64 (lastZ k)) ∧ w = w' := by
  by_cases hb : 0 ≤ k ∧ k ≤ 2
  · obtain ⟨n, rfl⟩ := Int.eq_ofNat_of_zero_le hb.1
    have hn : n < 3 := by omega
    have q := hgl.1 n hn
    have hz := lastZ_nat hn
    rw [hz]
    have HI : Hid (∀ W, Calls Tryd.prog 54 #[.int .i64 (n : Int)] W fun e w' => e = .returned (.bool true) ∧ W = w') := fun W => by
      have := codeKind_any (n : Int) W
      rwa [decide_eq_true hb] at this
    obtain ⟨l, hl⟩ : ∃ l, l = lastN n := ⟨_, rfl⟩
    rw [← hl] at q ⊢
    clear hl hz hb hgl
    go_enter Tryd.func31, Tryd.ntmps31
    go_wp2_with (go_at_call 54; refine (HI.out _).mono ?_; rintro e' w' ⟨rfl, rfl⟩)
    go_ret
    exact ⟨rfl, rfl⟩
  · have hz : lastZ k = -1 := by unfold lastZ; rw [if_pos (by omega)]
    rw [hz]
    have HI : Hid (∀ W, Calls Tryd.prog 54 #[.int .i64 k] W fun e w' => e = .returned (.bool false) ∧ W = w') := fun W => by
      have := codeKind_any k W
      rwa [decide_eq_false hb] at this
    clear hz hb hgl
    go_enter Tryd.func31, Tryd.ntmps31
    go_wp2_with (go_at_call 54; refine (HI.out _).mono ?_; rintro e' w' ⟨rfl, rfl⟩)
    go_ret
    exact ⟨rfl, rfl⟩

theorem kind_any {B : Nat} (k : Int) (w : World) (hgl : Glob B w) :
    Calls Tryd.prog 15 #[.int .i64 k] w fun e w' => e = .returned (.bool (decide (0 ≤ k ∧ k ≤ 2))) ∧ w = w' := by
  have HL := Lib.hid (last_any k w hgl)
  by_cases hb : 0 ≤ k ∧ k ≤ 2
  · have h0 : 0 ≤ lastZ k := by unfold lastZ; rw [if_neg (by omega)]; omega
    rw [decide_eq_true hb]
    generalize lastZ k = l at *
    clear hgl hb
    go_enter Tryd.func15, Tryd.ntmps15
    go_wp2_with (go_at_call 31; refine HL.out.mono ?_; rintro e' w' ⟨rfl, rfl⟩)
    go_ret
    exact ⟨rfl, rfl⟩
  · have h0 : lastZ k = -1 := by unfold lastZ; rw [if_pos (by omega)]
    rw [decide_eq_false hb]
    rw [h0] at HL
    clear hgl hb h0
    go_enter Tryd.func15, Tryd.ntmps15
    go_wp2_with (go_at_call 31; refine HL.out.mono ?_; rintro e' w' ⟨rfl, rfl⟩)
    go_ret
    exact ⟨rfl, rfl⟩

theorem most_any {B : Nat} (k : Int) (w : World) (hgl : Glob B w) :
    Calls Tryd.prog 14 #[.int .i64 k] w fun e w' => e = .returned (.int .i64 (mostZ k)) ∧ w = w' := by
  have HK := Lib.hid (kind_any k w hgl)
  by_cases hb : 0 ≤ k ∧ k ≤ 2
  · rw [decide_eq_true hb] at HK
    obtain ⟨n, rfl⟩ := Int.eq_ofNat_of_zero_le hb.1
    have hn : n < 3 := by omega
    have q := hgl.2.2.1 n hn
    rw [mostZ_nat hn]
    obtain ⟨l, hl⟩ : ∃ l, l = mostN n := ⟨_, rfl⟩
    rw [← hl] at q ⊢
    clear hl hb hgl
    go_enter Tryd.func14, Tryd.ntmps14
    go_wp2_with (go_at_call 15; refine HK.out.mono ?_; rintro e' w' ⟨rfl, rfl⟩)
    go_ret
    exact ⟨rfl, rfl⟩
  · rw [decide_eq_false hb] at HK
    rw [show mostZ k = 0 by unfold mostZ; rw [if_pos (by omega)]]
    clear hb hgl
    go_enter Tryd.func14, Tryd.ntmps14
    go_wp2_with (go_at_call 15; refine HK.out.mono ?_; rintro e' w' ⟨rfl, rfl⟩)
    go_ret
    exact ⟨rfl, rfl⟩

/-! Clones. -/
theorem ownE_empty {α : Type} (f : α → Value) (w : World) (u base : Nat) (h : base ≤ w.heap.size) : OwE f (w.alloc (.cells #[] u)) u base (.slice (some ⟨w.heap.size, 0, none⟩) 0 0) [] :=
  World.ownsRow_made (base := base) (e := u) (size := 1) w #[] 0 h (by simp [maxLen]) (by simp)
theorem ownR_empty {α : Type} (z : Nat) (f : α → List Value) (w : World) (u base : Nat) (h : base ≤ w.heap.size) : OwR z f (w.alloc (.cells #[] u)) u base (.slice (some ⟨w.heap.size, 0, none⟩) 0 0) [] :=
  World.ownsRow_made (base := base) (e := u) (size := z) w #[] 0 h (by simp [maxLen]) (by simp)

theorem cloneI_some {w : World} {lo hi n c : Nat} {a : Addr} {xs : List Int} (hd : DatE icel w lo hi (some a) xs) (hn : xs.length = n) (hb : xs.length ≤ 1099511627776) (hhi : hi ≤ w.heap.size) :
    Calls Tryd.prog 27 #[.slice (some a) n c] w fun e w' => ∃ v, e = .returned v ∧ OwE icel w' 3 w.heap.size v xs ∧ Below w.heap.size w w' := by
  obtain ⟨i0, hi0, hz0, hz1, hz2⟩ := info_parts int_info
  have hq := Lib.run_eql_slice_nil (P := Tryd.prog) w 22 3 (some a) n c 0 0 Tryd.underlying22
  have hO := Lib.hid (ownE_empty icel w 3 w.heap.size (Nat.le_refl _))
  have hD := Lib.hid (hd.alloc hhi (.cells #[] 3))
  clear hd
  have HN := Lib.hid hn
  clear hn
  go_enter Tryd.func27, Tryd.ntmps27
  go_wp2_with (at_builtin; refine list_appE icel_one _ rfl _ _ 22 rfl i0 (.int .i64 0) 8 Tryd.underlying22 hi0 hz0 hz1 hz2 rfl (by decide) rfl hO.out rfl hD.out HN.out ?_ ?_ ?_)
  · simp only [List.length_nil]; have := HN.out; omega
  · simp
  intro v' w1 ho hg _
  have HO := Lib.hid ho
  have HG := Lib.hid hg
  clear ho hg hO hD
  go_wp2
  go_ret
  exact ⟨_, rfl, HO.out, ((Below.refl _ _).alloc (Nat.le_refl _) _).grown HG.out (by simp) (by intro k hk; simp [Value.ownBlock] at hk; omega)⟩

theorem cloneR_some {w : World} {lo hi n c : Nat} {a : Addr} {es : List En} (hd : DatR 3 ecell w lo hi (some a) es) (hn : es.length = n) (hb : es.length ≤ 1099511627776) (hhi : hi ≤ w.heap.size) :
    Calls Tryd.prog 53 #[.slice (some a) n c] w fun e w' => ∃ v, e = .returned v ∧ OwR 3 ecell w' 41 w.heap.size v es ∧ Below w.heap.size w w' := by
  obtain ⟨i0, hi0, hz0, hz1, hz2⟩ := info_parts entry_info
  have hq := Lib.run_eql_slice_nil (P := Tryd.prog) w 24 41 (some a) n c 0 0 Tryd.underlying24
  have hO := Lib.hid (ownR_empty 3 ecell w 41 w.heap.size (Nat.le_refl _))
  have hD := Lib.hid (hd.alloc hhi (.cells #[] 41))
  clear hd
  have HN := Lib.hid hn
  clear hn
  go_enter Tryd.func53, Tryd.ntmps53
  go_wp2_with (at_builtin; refine list_appR ecell_len (by decide) ecell_one _ rfl _ _ 24 rfl i0 (.agg #[.int .u8 0, .int .i64 0, .int .i64 0]) 24 Tryd.underlying24 hi0 hz0 hz1 hz2 rfl (by decide) rfl hO.out rfl hD.out HN.out ?_ ?_ ?_)
  · simp only [List.length_nil]; have := HN.out; omega
  · simp
  intro v' w1 ho hg _
  have HO := Lib.hid ho
  have HG := Lib.hid hg
  clear ho hg hO hD
  go_wp2
  go_ret
  exact ⟨_, rfl, HO.out, ((Below.refl _ _).alloc (Nat.le_refl _) _).grown HG.out (by simp) (by intro k hk; simp [Value.ownBlock] at hk; omega)⟩

/-! Default. -/
theorem default_no {B : Nat} (k : Int) (w : World) (hgl : Glob B w) (hk : ¬ (0 ≤ k ∧ k ≤ 2)) :
    Calls Tryd.prog 12 #[.int .i64 k] w fun e w' => e = .returned (.tuple #[.agg #[.int .i64 0, .slice none 0 0], .int .i64 1]) ∧ Below w.heap.size w w' := by
  have HK := Lib.hid (kind_any k _ (hgl.alloc (.cells #[.int .i64 0, .slice none 0 0] 26)))
  rw [decide_eq_false hk] at HK
  clear hgl hk
  go_enter Tryd.func12, Tryd.ntmps12
  go_wp2_with (go_at_call 15; refine HK.out.mono ?_; rintro e' w' ⟨rfl, rfl⟩)
  refine bodyPost_ret (v := .tuple #[.agg #[.int .i64 0, .slice none 0 0], .int .i64 1]) (by simp [results, Tryd.results12, go_sem]) rfl ⟨rfl, ?_⟩
  exact (Below.refl _ _).alloc (Nat.le_refl _) _

set_option maxRecDepth 100000 in
set_option maxHeartbeats 2000000 in
theorem default_any {B : Nat} (n : Nat) (w : World) (hgl : Glob B w) (hn : n < 3) :
    Calls Tryd.prog 12 #[.int .i64 (n : Int)] w fun e w' => ∃ v, e = .returned (.tuple #[.agg #[.int .i64 (logN n : Int), v], .int .i64 0]) ∧ OwR 3 ecell w' 41 w.heap.size v (tabG n) ∧ Below w.heap.size w w' := by
  have hgl1 := hgl.alloc (.cells #[.int .i64 0, .slice none 0 0] 26)
  have HK := Lib.hid (kind_any (n : Int) _ hgl1)
  rw [decide_eq_true (show (0 : Int) ≤ (n : Int) ∧ (n : Int) ≤ 2 by omega)] at HK
  have q0 := hgl1.2.1 n hn
  obtain ⟨A, q1, hd⟩ := hgl1.2.2.2.1 n hn
  have hlen := parts_len n hn
  have hhas := has_le n hn
  have hla := last_le n hn
  have HMay := Lib.hid (given_may n hn)
  have HBd := Lib.hid (parts_bd n hn)
  have HX := Lib.hid (Box.new w 26 #[.int .i64 0, .slice none 0 0])
  have HB0 : Hid (Below w.heap.size w (w.alloc (.cells #[.int .i64 0, .slice none 0 0] 26))) := (Below.refl _ _).alloc (Nat.le_refl _) _
  have hsz1 : (w.alloc (.cells #[.int .i64 0, .slice none 0 0] 26)).heap.size = w.heap.size + 1 := by simp
  have HSz := Lib.hid hsz1
  have hn2 : (n : Int) < 3 := by omega
  unfold tabG
  generalize logN n = lg at *
  generalize partsN n = ps at *
  obtain ⟨m, hm⟩ : ∃ m, m = ps.length := ⟨_, rfl⟩
  rw [← hm] at q1 hlen
  have HM := Lib.hid hm
  have HD := Lib.hid hd
  have HG := Lib.hid hgl1
  have HBS := Lib.hid hgl.size
  have hm53 : m ≤ 53 := by omega
  clear hgl hgl1 hd hm hlen hhas hla hsz1
  go_enter Tryd.func12, Tryd.ntmps12
  go_wp2_with (go_at_call 15; refine HK.out.mono ?_; rintro e' w' ⟨rfl, rfl⟩)
  generalize w.alloc (.cells #[.int .i64 0, .slice none 0 0] 26) = W at *
  have hWs : w.heap.size < W.heap.size := by have := HSz.out; omega
  have hg0 : (0 : Nat) < W.heap.size := by have := HG.out.2.2.2.2.1; have := HG.out.size; omega
  have HC := Lib.hid (cloneI_some (w := W.drew) (c := m) (show DatE icel W.drew 0 B (some A) ps from HD.out) HM.out.symm (by have := HM.out; omega) (by have := HBS.out; show B ≤ W.heap.size; omega))
  have n0 : (0 : Nat) ≠ w.heap.size := by have := HG.out.2.2.2.2.1; have := HBS.out; omega
  have n1 : (1 : Nat) ≠ w.heap.size := by have := HG.out.2.2.2.2.1; have := HBS.out; omega
  have hg1 : (1 : Nat) < W.heap.size := by have := HG.out.2.2.2.2.1; have := HG.out.size; omega
  go_region_held3 (fun w' => w'.cell? ⟨0, n, none⟩ = some (.int .i64 (lg : Int)) ∧ w'.cell? ⟨1, n, none⟩ = some (.slice (some A) m m))
    (first | exact ⟨q0, q1⟩ | exact ⟨q0n, q1n⟩ | exact ⟨q0m, q1m⟩ | (rw [cell?_far _ _ n0, cell?_far _ _ n0, cell?_far _ _ n1, cell?_far _ _ n1]; exact ⟨q0m, q1m⟩) | go_keep)
    (first
    | (go_at_call 27; refine HC.out.mono ?_; rintro e' w1 ⟨v1, rfl, ho1, hB1⟩; obtain ⟨A1, c1, rfl, hc1, hd1⟩ := ho1.form; have HD1 := Lib.hid (And.intro hc1 hd1); have hB1' : Below W.heap.size W w1 := ⟨hB1.os, hB1.tape, hB1.output, hB1.size, hB1.block⟩; have HB1 := Lib.hid hB1'; have q0n := (hB1'.cell (p := ⟨0, n, none⟩) hg0).trans q0; have q1n := (hB1'.cell (p := ⟨1, n, none⟩) hg1).trans q1; clear ho1 hc1 hd1 hB1 hB1')
    | (go_at_call 26; refine (build_yes (cp := c1) lg HMay.out HD1.out.2 rfl HD1.out.1 (by have := HM.out; unfold maxLen; omega) (Nat.le_refl _) HBd.out).mono ?_; rintro e' w2 ⟨v2, rfl, ho2, hB2⟩; obtain ⟨A2, n2, c2, rfl⟩ := ho2.slice; have HO2 := Lib.hid ho2; have HB2 := Lib.hid (HB1.out.trans (hB2.mono HB1.out.size)); have hs2 := hB2.size; have hs1 := HB1.out.size; have q0m := (HB2.out.cell (p := ⟨0, n, none⟩) hg0).trans q0; have q1m := (HB2.out.cell (p := ⟨1, n, none⟩) hg1).trans q1; obtain ⟨t0, t1, k0, k1⟩ := box2 (HX.out.below HB2.out hWs); clear ho2 hB2))
  all_goals
    go_wp2_with fail
    refine bodyPost_ret (v := .tuple #[.agg #[.int .i64 (lg : Int), .slice A2 n2 c2], .int .i64 0]) (by simp [results, Tryd.results12, go_sem, t0, t1]) rfl ⟨.slice A2 n2 c2, rfl, ?_, ?_⟩
    · refine (HO2.out.keep fun k hk => ?_).mono (show w.heap.size ≤ w1.heap.size by omega)
      have hk4 : w1.heap.size ≤ k := (HO2.out.block k hk).1
      rw [Below.heap_setCell _ _ _ k (by show k ≠ w.heap.size; omega), Below.heap_setCell _ _ _ k (by show k ≠ w.heap.size; omega)]
    · exact ((HB0.out.trans (HB2.out.mono (by omega))).setCell (Nat.le_refl _) _).setCell (Nat.le_refl _) _
end Go.Proofs.YthbagplkgmpjpaaDoor
