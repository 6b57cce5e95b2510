
/- The contracts of slices.Equal and of the document's Same, over digests. -/
import Derived.Test.YtieepdhajjibpaaDoorMrkRoot
import Derived.Stop.BytesEq
namespace Go.Proofs.YtieepdhajjibpaaDoor
open Go.RowKit

/-- Two digests compared. -/
theorem eqD (x y : Dg) (W : World) : (Op.equalIn 10000 25 (.agg (dcs x).toArray) (.agg (dcs y).toArray)).run Tryd.prog W = .ok (x.1 == y.1) W := by
  have hsz : ∀ w, (sizeOf 5).run Tryd.prog w = .ok 1 w := by
    intro w
    obtain ⟨i0, hi0, _, hz1, _⟩ := info_parts u8_info
    simp [sizeOf, typeInfo, hi0, hz1]
  exact run_equalIn_bytes (P := Tryd.prog) W 9998 25 5 32 Tryd.underlying25 Tryd.underlying5 hsz x.1 y.1 x.2 y.2

set_option maxRecDepth 20000 in
set_option maxHeartbeats 1000000 in
theorem equal_any {w : World} {lo hi lo' hi' : Nat} {A B : Option Addr} {m n c c' : Nat} {L M : List Dg} (hd : DatR 32 dcs w lo hi A L) (hd' : DatR 32 dcs w lo' hi' B M) (hm : L.length = m) (hn : M.length = n) (hb : m ≤ 1000000) (hb' : n ≤ 1000000) :
    Calls Tryd.prog 39 #[.slice A m c, .slice B n c'] w fun e w' => e = .returned (.bool (decide (L = M))) ∧ Below w.heap.size w w' := by
  by_cases hmn : m = n
  · subst hmn
    have hmm : ((m : Int) != (m : Int)) = false := by simp
    obtain ⟨T, hT⟩ : ∃ T, T = decide (L = M) := ⟨_, rfl⟩
    rw [← hT]
    have HT := Lib.hid hT
    have HD := Lib.hid hd
    have HE := Lib.hid hd'
    have HM := Lib.hid (And.intro hm hn)
    clear hT hd hd' hm hn
    go_enter Tryd.func39, Tryd.ntmps39
    go_wp2_with fail
    go_loopg [13] m (fun gh v wx => ∃ k : Nat, k + gh = m ∧ v = .int .i64 (k : Int) ∧ L.take k = M.take k ∧ Below w.heap.size w wx)
    case atStart => exact ⟨0, by omega, rfl, rfl, Below.refl _ _⟩
    case round =>
      obtain ⟨k, hk, rfl, hpre, hB⟩ := hrel
      have HB := Lib.hid hB
      have HP := Lib.hid hpre
      clear hB hpre
      by_cases hkm : k < m
      · have hkl : k < L.length := by rw [HM.out.1]; exact hkm
        have hkr : k < M.length := by rw [HM.out.2]; exact hkm
        obtain ⟨d, o, hA, _, hdh, hc⟩ := HD.out (by omega)
        obtain ⟨d', o', hA', _, hdh', hc'⟩ := HE.out (by omega)
        subst hA hA'
        have hr1 : w.rangeAt d (o + k * 32) (dcs L[k]) := fun j v hv => hc k hkl j v hv
        have hr2 : w.rangeAt d' (o' + k * 32) (dcs M[k]) := fun j v hv => hc' k hkr j v hv
        have hr1' : wr.rangeAt d (o + k * 32) (dcs L[k]) := fun j v hv => (HB.out.cell (p := ⟨d, o + k * 32 + j, none⟩) (World.block_lt_of_cell? w _ (hr1 j v hv))).trans (hr1 j v hv)
        have hr2' : wr.rangeAt d' (o' + k * 32) (dcs M[k]) := fun j v hv => (HB.out.cell (p := ⟨d', o' + k * 32 + j, none⟩) (World.block_lt_of_cell? w _ (hr2 j v hv))).trans (hr2 j v hv)
        have H1 := Lib.hid hr1'
        have H2 := Lib.hid hr2'
        obtain ⟨x, hx⟩ : ∃ x, x = L[k] := ⟨_, rfl⟩
        obtain ⟨y, hy⟩ : ∃ y, y = M[k] := ⟨_, rfl⟩
        rw [← hx] at H1
        rw [← hy] at H2
        have HX := Lib.hid hx
        have HY := Lib.hid hy
        have heq := eqD x y
        have hkmi : (k : Int) < (m : Int) := by omega
        have la := run_loadVar_sub (P := Tryd.prog) wr.drew d (o + k * 32) 25 (dcs x) _ H1.out Tryd.underlying25 rfl (by rw [dcs_len]; kernel_rfl)
        have lb := run_loadVar_sub (P := Tryd.prog) wr.drew d' (o' + k * 32) 25 (dcs y) _ H2.out Tryd.underlying25 rfl (by rw [dcs_len]; kernel_rfl)
        have HLA := Lib.hid la
        have HLB := Lib.hid lb
        obtain ⟨t, ht⟩ : ∃ t, t = (x.1 == y.1) := ⟨_, rfl⟩
        rw [← ht] at heq
        have HTT := Lib.hid ht
        have hnext : t = true → L.take (k + 1) = M.take (k + 1) := fun h => by
          have hxy : x = y := Subtype.ext (eq_of_beq (by rw [← ht]; exact h))
          rw [List.take_add_one, List.take_add_one, HP.out, List.getElem?_eq_getElem hkl, List.getElem?_eq_getElem hkr, ← hx, ← hy, hxy]
        have hno : t = false → T = false := fun h => by
          rw [HT.out, decide_eq_false_iff_not]
          intro he
          have hxy : x = y := by rw [hx, hy]; simp [he]
          rw [ht, hxy] at h
          simp at h
        have HN := Lib.hid hnext
        have HNO := Lib.hid hno
        clear hr1 hr2 hr1' hr2' hx hy hc hc' la lb ht hnext hno
        go_upto_region 6 with fail
        refine wp_region_any (by kernel_rfl) ?_
        refine wpAny_take (i := 0) (v := .slice (some ⟨d, o, none⟩) m c) rfl (by kernel_rfl) (by kernel_rfl) (by kernel_rfl) (fun _ _ _ h => h) (Or.inl ⟨by rfl, fun w' => ?_⟩) ?_
        · go_simp
        refine wpAny_take (i := 1) (v := .int .i64 (k : Int)) rfl (by kernel_rfl) (by kernel_rfl) (by kernel_rfl) (fun _ _ _ h => h) (Or.inl ⟨by rfl, fun w' => ?_⟩) ?_
        · go_simp
        refine wpAny_take (i := 2) (v := .pointer (some ⟨d, o + k * 32, none⟩)) rfl (by kernel_rfl) (by kernel_rfl) (by kernel_rfl) (fun _ _ _ h => h) (Or.inl ⟨by rfl, fun w' => ?_⟩) ?_
        · go_simp
        refine wpAny_take (i := 4) (v := .slice (some ⟨d', o', none⟩) m c') rfl (by kernel_rfl) (by kernel_rfl) (by kernel_rfl) (fun _ _ _ h => h) (Or.inl ⟨by rfl, fun w' => ?_⟩) ?_
        · go_simp
        refine wpAny_take (i := 5) (v := .int .i64 (k : Int)) rfl (by kernel_rfl) (by kernel_rfl) (by kernel_rfl) (fun _ _ _ h => h) (Or.inl ⟨by rfl, fun w' => ?_⟩) ?_
        · go_simp
        refine wpAny_take (i := 6) (v := .pointer (some ⟨d', o' + k * 32, none⟩)) rfl (by kernel_rfl) (by kernel_rfl) (by kernel_rfl) (fun _ _ _ h => h) (Or.inl ⟨by rfl, fun w' => ?_⟩) ?_
        · go_simp
        simp only [Act.put, List.setIfInBounds_toArray]
        refine wpAny_loads2 (i := 3) (j := 7) (ki := 19) (kj := 23) (xi := 18) (xj := 22) (pi := ⟨d, o + k * 32, none⟩) (pj := ⟨d', o' + k * 32, none⟩) (vi := .agg (dcs x).toArray) (vj := .agg (dcs y).toArray) (ti := 25) (tj := 25) rfl rfl (by decide) rfl rfl (by kernel_rfl) (by kernel_rfl) (by kernel_rfl) rfl rfl (by decide) rfl rfl (by decide) (by decide) (by kernel_rfl) (by kernel_rfl) HLA.out HLB.out ?_
        simp only [Act.put]
        refine wpAny_ready (rs := [8]) (by kernel_rfl) (by simp) ?_
        refine AllReady.cons rfl (fun K hK => ?_) AllReady.nil
        go_simp
        refine hK _ _ ?_
        clear hK K
        refine wpAny_done (by kernel_rfl) ?_ _
        cases t with
        | true =>
          go_wp2_with fail
          go_roundg (m - (k + 1))
          case measure => omega
          case rel => exact ⟨k + 1, by omega, by go_num, HN.out (by simp), HB.out.drew⟩
        | false =>
          have HNF := Lib.hid (HNO.out (by simp))
          go_wp2_with fail
          go_ret
          exact ⟨by rw [HNF.out]; rfl, HB.out.drew⟩
      · have hkmi : ¬ (k : Int) < (m : Int) := by omega
        have HTE : Hid (T = true) := by
          unfold Hid
          rw [HT.out, decide_eq_true_iff]
          have h := HP.out
          rw [List.take_of_length_le (by rw [HM.out.1]; omega), List.take_of_length_le (by rw [HM.out.2]; omega)] at h
          exact h
        go_wp2_with fail
        go_ret
        exact ⟨by rw [HTE.out]; rfl, HB.out⟩
  · have hmm : ((m : Int) != (n : Int)) = true := by
      rw [bne_iff_ne]
      omega
    have hne : decide (L = M) = false := by
      rw [decide_eq_false_iff_not]
      intro he
      exact hmn (by rw [← hm, ← hn, he])
    rw [hne]
    clear hd hd' hm hn hne
    go_enter Tryd.func39, Tryd.ntmps39
    go_wp2_with fail
    go_ret
    exact ⟨rfl, Below.refl _ _⟩

set_option maxRecDepth 20000 in
set_option maxHeartbeats 1000000 in
theorem same_any {w : World} {lo hi lo' hi' : Nat} {A B : Option Addr} {m n c c' : Nat} {L M : List Dg} (hd : DatR 32 dcs w lo hi A L) (hd' : DatR 32 dcs w lo' hi' B M) (hm : L.length = m) (hn : M.length = n) (hb : m ≤ 1000000) (hb' : n ≤ 1000000) :
    Calls Tryd.prog 19 #[.slice A m c, .slice B n c'] w fun e w' => e = .returned (.bool (decide (L = M))) ∧ Below w.heap.size w w' := by
  by_cases hmn : m = n
  · subst hmn
    have hmm : ((m : Int) != (m : Int)) = false := by simp
    obtain ⟨T, hT⟩ : ∃ T, T = decide (L = M) := ⟨_, rfl⟩
    rw [← hT]
    have HT := Lib.hid hT
    have HD := Lib.hid hd
    have HE := Lib.hid hd'
    have HM := Lib.hid (And.intro hm hn)
    clear hT hd hd' hm hn
    go_enter Tryd.func19, Tryd.ntmps19
    go_wp2_with fail
    go_loopg [5] m (fun gh v wx => ∃ k : Nat, k + gh = m ∧ v = .int .i64 (k : Int) ∧ L.take k = M.take k ∧ Below w.heap.size w wx)
    case atStart => exact ⟨0, by omega, rfl, rfl, Below.refl _ _⟩
    case round =>
      obtain ⟨k, hk, rfl, hpre, hB⟩ := hrel
      have HB := Lib.hid hB
      have HP := Lib.hid hpre
      clear hB hpre
      by_cases hkm : k < m
      · have hkl : k < L.length := by rw [HM.out.1]; exact hkm
        have hkr : k < M.length := by rw [HM.out.2]; exact hkm
        obtain ⟨d, o, hA, _, hdh, hc⟩ := HD.out (by omega)
        obtain ⟨d', o', hA', _, hdh', hc'⟩ := HE.out (by omega)
        subst hA hA'
        have hr1 : w.rangeAt d (o + k * 32) (dcs L[k]) := fun j v hv => hc k hkl j v hv
        have hr2 : w.rangeAt d' (o' + k * 32) (dcs M[k]) := fun j v hv => hc' k hkr j v hv
        have hr1' : wr.rangeAt d (o + k * 32) (dcs L[k]) := fun j v hv => (HB.out.cell (p := ⟨d, o + k * 32 + j, none⟩) (World.block_lt_of_cell? w _ (hr1 j v hv))).trans (hr1 j v hv)
        have hr2' : wr.rangeAt d' (o' + k * 32) (dcs M[k]) := fun j v hv => (HB.out.cell (p := ⟨d', o' + k * 32 + j, none⟩) (World.block_lt_of_cell? w _ (hr2 j v hv))).trans (hr2 j v hv)
        have H1 := Lib.hid hr1'
        have H2 := Lib.hid hr2'
        obtain ⟨x, hx⟩ : ∃ x, x = L[k] := ⟨_, rfl⟩
        obtain ⟨y, hy⟩ : ∃ y, y = M[k] := ⟨_, rfl⟩
        rw [← hx] at H1
        rw [← hy] at H2
        have HX := Lib.hid hx
        have HY := Lib.hid hy
        have heq := eqD x y
        have hkmi : (k : Int) < (m : Int) := by omega
        have la := run_loadVar_sub (P := Tryd.prog) wr.drew d (o + k * 32) 25 (dcs x) _ H1.out Tryd.underlying25 rfl (by rw [dcs_len]; kernel_rfl)
        have lb := run_loadVar_sub (P := Tryd.prog) wr.drew d' (o' + k * 32) 25 (dcs y) _ H2.out Tryd.underlying25 rfl (by rw [dcs_len]; kernel_rfl)
        have HLA := Lib.hid la
        have HLB := Lib.hid lb
        obtain ⟨t, ht⟩ : ∃ t, t = (x.1 == y.1) := ⟨_, rfl⟩
        rw [← ht] at heq
        have HTT := Lib.hid ht
        have hnext : t = true → L.take (k + 1) = M.take (k + 1) := fun h => by
          have hxy : x = y := Subtype.ext (eq_of_beq (by rw [← ht]; exact h))
          rw [List.take_add_one, List.take_add_one, HP.out, List.getElem?_eq_getElem hkl, List.getElem?_eq_getElem hkr, ← hx, ← hy, hxy]
        have hno : t = false → T = false := fun h => by
          rw [HT.out, decide_eq_false_iff_not]
          intro he
          have hxy : x = y := by rw [hx, hy]; simp [he]
          rw [ht, hxy] at h
          simp at h
        have HN := Lib.hid hnext
        have HNO := Lib.hid hno
        clear hr1 hr2 hr1' hr2' hx hy hc hc' la lb ht hnext hno
        go_upto_region 6 with fail
        refine wp_region_any (by kernel_rfl) ?_
        refine wpAny_take (i := 0) (v := .slice (some ⟨d, o, none⟩) m c) rfl (by kernel_rfl) (by kernel_rfl) (by kernel_rfl) (fun _ _ _ h => h) (Or.inl ⟨by rfl, fun w' => ?_⟩) ?_
        · go_simp
        refine wpAny_take (i := 1) (v := .int .i64 (k : Int)) rfl (by kernel_rfl) (by kernel_rfl) (by kernel_rfl) (fun _ _ _ h => h) (Or.inl ⟨by rfl, fun w' => ?_⟩) ?_
        · go_simp
        refine wpAny_take (i := 2) (v := .pointer (some ⟨d, o + k * 32, none⟩)) rfl (by kernel_rfl) (by kernel_rfl) (by kernel_rfl) (fun _ _ _ h => h) (Or.inl ⟨by rfl, fun w' => ?_⟩) ?_
        · go_simp
        refine wpAny_take (i := 4) (v := .slice (some ⟨d', o', none⟩) m c') rfl (by kernel_rfl) (by kernel_rfl) (by kernel_rfl) (fun _ _ _ h => h) (Or.inl ⟨by rfl, fun w' => ?_⟩) ?_
        · go_simp
        refine wpAny_take (i := 5) (v := .int .i64 (k : Int)) rfl (by kernel_rfl) (by kernel_rfl) (by kernel_rfl) (fun _ _ _ h => h) (Or.inl ⟨by rfl, fun w' => ?_⟩) ?_
        · go_simp
        refine wpAny_take (i := 6) (v := .pointer (some ⟨d', o' + k * 32, none⟩)) rfl (by kernel_rfl) (by kernel_rfl) (by kernel_rfl) (fun _ _ _ h => h) (Or.inl ⟨by rfl, fun w' => ?_⟩) ?_
        · go_simp
        simp only [Act.put, List.setIfInBounds_toArray]
        refine wpAny_loads2 (i := 3) (j := 7) (ki := 20) (kj := 24) (xi := 19) (xj := 23) (pi := ⟨d, o + k * 32, none⟩) (pj := ⟨d', o' + k * 32, none⟩) (vi := .agg (dcs x).toArray) (vj := .agg (dcs y).toArray) (ti := 25) (tj := 25) rfl rfl (by decide) rfl rfl (by kernel_rfl) (by kernel_rfl) (by kernel_rfl) rfl rfl (by decide) rfl rfl (by decide) (by decide) (by kernel_rfl) (by kernel_rfl) HLA.out HLB.out ?_
        simp only [Act.put]
        refine wpAny_ready (rs := [8]) (by kernel_rfl) (by simp) ?_
        refine AllReady.cons rfl (fun K hK => ?_) AllReady.nil
        go_simp
        refine hK _ _ ?_
        clear hK K
        refine wpAny_done (by kernel_rfl) ?_ _
        cases t with
        | true =>
          go_wp2_with fail
          go_roundg (m - (k + 1))
          case measure => omega
          case rel => exact ⟨k + 1, by omega, by go_num, HN.out (by simp), HB.out.drew⟩
        | false =>
          have HNF := Lib.hid (HNO.out (by simp))
          go_wp2_with fail
          go_ret
          exact ⟨by rw [HNF.out]; rfl, HB.out.drew⟩
      · have hkmi : ¬ (k : Int) < (m : Int) := by omega
        have HTE : Hid (T = true) := by
          unfold Hid
          rw [HT.out, decide_eq_true_iff]
          have h := HP.out
          rw [List.take_of_length_le (by rw [HM.out.1]; omega), List.take_of_length_le (by rw [HM.out.2]; omega)] at h
          exact h
        go_wp2_with fail
        go_ret
        exact ⟨by rw [HTE.out]; rfl, HB.out⟩
  · have hmm : ((m : Int) != (n : Int)) = true := by
      rw [bne_iff_ne]
      omega
    have hne : decide (L = M) = false := by
      rw [decide_eq_false_iff_not]
      intro he
      exact hmn (by rw [← hm, ← hn, he])
    rw [hne]
    clear hd hd' hm hn hne
    go_enter Tryd.func19, Tryd.ntmps19
    go_wp2_with fail
    go_ret
    exact ⟨rfl, Below.refl _ _⟩
end Go.Proofs.YtieepdhajjibpaaDoor
