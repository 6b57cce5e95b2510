
/- The contract of the program's entries. -/
import Derived.Test.YtpdnmhnnngcbjaaDoorFseOthers
import Derived.Test.YtpdnmhnnngcbjaaDoorVars
import Derived.Deep.RegionWith
namespace Go.Proofs.YtpdnmhnnngcbjaaDoor
open Go.RowKit

theorem getD_of {α : Type} (l : List α) (i : Nat) (d : α) (h : i < l.length) : l.getD i d = l[i] := by rw [List.getD_eq_getElem?_getD, List.getElem?_eq_getElem h]; rfl
theorem array_zero : (Tryd.prog.info? 97).map (·.zero) = some (some (.agg (arr fun _ => 0))) := by kernel_rfl
/-- The numbers that the symbols begin with, the first k of them; those behind the first i states. -/
def nxt0 (ps : List Int) (k s : Nat) : Nat := if s < k then (wi (ps.getD s 0)).toNat else 0
def nxtI (ps : List Int) (sy : List Nat) (i s : Nat) : Nat := (wi (ps.getD s 0)).toNat + (sy.take i).count s
theorem nxt0_all (ps : List Int) (s : Nat) : nxt0 ps ps.length s = nxtI ps [] 0 s := by
  unfold nxt0 nxtI
  split
  · simp
  · rw [getD_out ps s (by omega)]; rfl
theorem nxt0_succ (ps : List Int) (k : Nat) : (fun i => if i = k then (wi (ps.getD k 0)).toNat else nxt0 ps k i) = nxt0 ps (k + 1) := by
  funext i
  unfold nxt0
  by_cases h : i = k
  · subst h
    rw [if_pos rfl, if_pos (by omega)]
  · rw [if_neg h]
    have e : (i < k + 1) = (i < k) := by apply propext; omega
    simp only [e]
theorem nxtI_succ (ps : List Int) (sy : List Nat) (i : Nat) (h : i < sy.length) : (fun s => if s = sy.getD i 0 then nxtI ps sy i (sy.getD i 0) + 1 else nxtI ps sy i s) = nxtI ps sy (i + 1) := by
  funext s
  unfold nxtI
  rw [count_take_succ sy i s h]
  by_cases e : s = sy.getD i 0
  · rw [if_pos e, e, if_pos rfl]; omega
  · rw [if_neg e, if_neg (fun q => e q.symm)]; rfl
/-- The table's entries up to state i, noughts behind. -/
def upTo (T : List En) (n i : Nat) : List En := T.take i ++ List.replicate (n - i) ⟨0, 0, 0⟩
theorem upTo_length (T : List En) (n i : Nat) (h : T.length = n) (hi : i ≤ n) : (upTo T n i).length = n := by
  unfold upTo
  simp
  omega
theorem upTo_set (T : List En) (n i : Nat) (h : T.length = n) (hi : i < n) : (upTo T n i).set i (T[i]'(by omega)) = upTo T n (i + 1) := by
  unfold upTo
  have e : n - i = (n - (i + 1)) + 1 := by omega
  rw [List.set_append_right _ _ (by simp; omega), List.take_succ_eq_append_getElem (by omega), e, List.replicate_succ, List.append_assoc]
  have e2 : i - (T.take i).length = 0 := by simp; omega
  rw [e2]
  rfl

theorem keep3 {W wn : World} {b o B : Nat} {x y z : Value} (hB : Below B W wn) (hb : b < B) (h : W.cell? ⟨b, o, none⟩ = some x ∧ W.cell? ⟨b, o + 1, none⟩ = some y ∧ W.cell? ⟨b, o + 2, none⟩ = some z) (hf : W.frozen? ⟨b, o, none⟩ = false ∧ W.frozen? ⟨b, o + 1, none⟩ = false ∧ W.frozen? ⟨b, o + 2, none⟩ = false) :
    (wn.cell? ⟨b, o, none⟩ = some x ∧ wn.cell? ⟨b, o + 1, none⟩ = some y ∧ wn.cell? ⟨b, o + 2, none⟩ = some z) ∧ wn.frozen? ⟨b, o, none⟩ = false ∧ wn.frozen? ⟨b, o + 1, none⟩ = false ∧ wn.frozen? ⟨b, o + 2, none⟩ = false :=
  ⟨⟨(hB.cell (p := ⟨b, o, none⟩) hb).trans h.1, (hB.cell (p := ⟨b, o + 1, none⟩) hb).trans h.2.1, (hB.cell (p := ⟨b, o + 2, none⟩) hb).trans h.2.2⟩, (hB.frozen (p := ⟨b, o, none⟩) hb).trans hf.1, (hB.frozen (p := ⟨b, o + 1, none⟩) hb).trans hf.2.1, (hB.frozen (p := ⟨b, o + 2, none⟩) hb).trans hf.2.2⟩

/-- What entries has made so far: the counts, what goes by symbol, the entries. -/
def Mk (w wx : World) (l : Int) (A : Option Addr) (m cp n : Nat) (g : Nat → Nat) (es : List En) : Prop :=
  Box wx w.heap.size 70 #[.int .i64 l, .slice A m cp] ∧ Box wx (w.heap.size + 1) 97 (arr g) ∧ OwR 3 ecell wx 41 (w.heap.size + 2) (.slice (some ⟨w.heap.size + 2, 0, none⟩) n n) es ∧ Below w.heap.size w wx

set_option maxRecDepth 100000 in
set_option maxHeartbeats 2000000 in
theorem entries_any {w : World} {lo hi lo2 hi2 n c m cp l : Nat} {A A2 : Option Addr} {ps : List Int} (h : MayF l ps) (hn : n = 2 ^ l) (hsy : DatE bocel w lo2 hi2 A2 (syms l ps)) (hhi2 : hi2 ≤ w.heap.size) (hd : DatE icel w lo hi A ps) (hhi : hi ≤ w.heap.size) (hm : ps.length = m) :
    Calls Tryd.prog 51 #[.slice A2 n c, .agg #[.int .i64 (l : Int), .slice A m cp]] w fun e w' => ∃ v, e = .returned v ∧ OwR 3 ecell w' 41 w.heap.size v (tab l ps) ∧ Below w.heap.size w w' := by
  obtain ⟨i0, hi0, hz0, hz1, hz2⟩ := info_parts entry_info
  have hn5 : 2 ^ 5 ≤ 2 ^ l := Nat.pow_le_pow_right (by omega) h.l5
  have hn15 : 2 ^ l ≤ 2 ^ 15 := Nat.pow_le_pow_right (by omega) h.l15
  have hl15 := h.l15
  have hm2 := h.len
  have hsl := h.syms_len
  have htl := tab_length h
  rw [← hn] at hn5 hn15 hsl htl
  rw [hm] at hm2
  have HMay := Lib.hid h
  have HN := Lib.hid hn
  have HSy := Lib.hid hsy
  have HD := Lib.hid hd
  have HM := Lib.hid hm
  have HSL := Lib.hid hsl
  have HTL := Lib.hid htl
  clear h hn hsy hd hm hsl htl
  go_enter Tryd.func51, Tryd.ntmps51
  go_wp2_with (refine wpList_alloc_z rfl 97 rfl (arr fun _ => 0) array_zero ?_)
  have hb0 := (Box.new w 70 #[.int .i64 (l : Int), .slice A m cp]).alloc (.cells (arr fun _ => 0) 97)
  have hb1 := Box.new (w.alloc (.cells #[.int .i64 (l : Int), .slice A m cp] 70)) 97 (arr fun _ => 0)
  rw [World.size_alloc] at hb1
  have H0 := Lib.hid hb0
  have H1 : Hid (Box ((w.alloc (.cells #[.int .i64 (l : Int), .slice A m cp] 70)).alloc (.cells (arr fun _ => 0) 97)) (w.heap.size + 1) 97 (arr (nxt0 ps 0))) := by
    rw [show nxt0 ps 0 = fun _ => 0 from rfl]
    exact hb1
  have H2 : Hid (((w.alloc (.cells #[.int .i64 (l : Int), .slice A m cp] 70)).alloc (.cells (arr fun _ => 0) 97)).heap.size = w.heap.size + 2) := by simp [Hid]
  have HB : Hid (Below w.heap.size w ((w.alloc (.cells #[.int .i64 (l : Int), .slice A m cp] 70)).alloc (.cells (arr fun _ => 0) 97))) := ((Below.refl _ _).alloc (Nat.le_refl _) _).alloc (by simp) _
  clear hb0 hb1
  generalize (w.alloc (.cells #[.int .i64 (l : Int), .slice A m cp] 70)).alloc (.cells (arr fun _ => 0) 97) = W at *
  go_loopg [14] m (fun gh i wx => ∃ k : Nat, k + gh = m ∧ i = .int .i64 (k : Int) ∧ Box wx w.heap.size 70 #[.int .i64 (l : Int), .slice A m cp] ∧ Box wx (w.heap.size + 1) 97 (arr (nxt0 ps k)) ∧ wx.heap.size = w.heap.size + 2 ∧ Below w.heap.size w wx)
  case atStart => exact ⟨0, by omega, rfl, H0.out, H1.out, H2.out, HB.out⟩
  case round =>
    clear H0 H1 H2 HB
    obtain ⟨k, hk, rfl, hb0, hb1, hsz, hB⟩ := hrel
    have H0 := Lib.hid hb0
    have H1 := Lib.hid hb1
    have H2 := Lib.hid hsz
    have HB := Lib.hid hB
    have HK := Lib.hid hk
    have hkm : k ≤ m := by omega
    clear hb0 hb1 hsz hB hk
    by_cases hlt : k < m
    · obtain ⟨g', rfl⟩ : ∃ g', gk = g' + 1 := ⟨gk - 1, by have := HK.out; omega⟩
      have hkl : k < ps.length := by have := HM.out; omega
      obtain ⟨d1, o1, rfl, q1, q2, hc⟩ := (HD.out.below HB.out hhi) (by omega)
      have hcell := hc k hkl
      unfold icel at hcell
      have HG := Lib.hid (getD_eq ps k 0 hkl)
      have hki : (k : Int) < (m : Int) := by omega
      have hpg := HMay.out.ge ps[k] (List.getElem_mem hkl)
      have hpw := HMay.out.wi_le k
      rw [HG.out] at hpw
      have hc1 := (H1.out.cell k).trans (arr_get _ k (by omega))
      have hf1 := H1.out.free k
      have hput := H1.out.put k (.int .i64 (((wi (ps.getD k 0)).toNat : Nat) : Int))
      rw [arr_set, nxt0_succ] at hput
      have HPut := Lib.hid hput
      have hpn : ((wi ps[k]).toNat : Int) = wi ps[k] := by have := (wi_pos hpg).1; omega
      rw [HG.out] at HPut
      rw [hpn] at HPut
      have hNn := HN.out
      rw [← hNn] at hpw
      have hp15 : ps[k] ≤ 32768 := by unfold wi at hpw; split at hpw <;> omega
      clear hc hput hpn hpw hNn
      generalize ps[k] = p at *
      by_cases hp : p = -1
      · subst hp
        have hmax : wi (-1) = 1 := rfl
        rw [hmax] at HPut
        clear hmax
        go_wp2_with fail
        go_roundg g'
        case rel => exact ⟨k + 1, by have := HK.out; omega, by go_num, H0.out.far (by show w.heap.size ≠ w.heap.size + 1; omega) _, HPut.out, by simpa using H2.out, HB.out.setCell (by show w.heap.size ≤ w.heap.size + 1; omega) _⟩
        case measure => omega
      · have hp0 : 0 ≤ p := by omega
        have hw : wi p = p := by unfold wi; rw [if_neg hp]
        rw [hw] at HPut
        clear hw
        go_wp2_with fail
        go_roundg g'
        case rel => exact ⟨k + 1, by have := HK.out; omega, by go_num, H0.out.far (by show w.heap.size ≠ w.heap.size + 1; omega) _, HPut.out, by simpa using H2.out, HB.out.setCell (by show w.heap.size ≤ w.heap.size + 1; omega) _⟩
        case measure => omega
    · obtain rfl : k = m := by omega
      have hki : ¬ (k : Int) < (k : Int) := by omega
      have hgfull : nxt0 ps k = nxtI ps (syms l ps) 0 := by
        funext s
        have := HM.out
        rw [← this, nxt0_all]
        unfold nxtI
        simp
      rw [hgfull] at H1
      have hsz := H2.out
      clear hgfull hsz
      go_wp2_with (refine wpList_make_full _ rfl _ _ 24 rfl (w.heap.size + 2) 41 i0 (.agg #[.int .u8 0, .int .i64 0, .int .i64 0]) 3 Tryd.underlying24 hi0 hz0 hz1 .i64 .i64 _ _ n rfl rfl rfl rfl ?_ ?_ ?_ ?_)
      · first | omega | (rw [hz2]; omega)
      · unfold maxLen; omega
      · rw [H2.out]; exact Nat.le_refl _
      intro w1 ho hg
      have hes := OwR.made (f := ecell) (x := (⟨0, 0, 0⟩ : En)) ecell_len (by decide) rfl ho
      rw [H2.out] at hes
      have HMk : Hid (Mk w w1 (l : Int) A k cp n (nxtI ps (syms l ps) 0) (upTo (tab l ps) n 0)) := by
        refine ⟨H0.out.grown hg (by simp), H1.out.grown hg (by simp), ?_, HB.out.grown hg (by rw [H2.out]; omega) (by simp)⟩
        unfold upTo
        simpa using hes
      rw [H2.out]
      clear ho hg hes H0 H1 H2 HB
      go_wp2_with fail
      go_loopg [31] n (fun gh i wx => ∃ j : Nat, j + gh = n ∧ i = .int .i64 (j : Int) ∧ Mk w wx (l : Int) A k cp n (nxtI ps (syms l ps) j) (upTo (tab l ps) n j))
      case atStart => exact ⟨0, by omega, rfl, HMk.out⟩
      case round =>
        clear HMk
        obtain ⟨j, hj, rfl, hmk⟩ := hrel
        have HMk := Lib.hid hmk
        have HJ := Lib.hid hj
        have hjn : j ≤ n := by omega
        clear hmk hj
        by_cases hjl : j < n
        · obtain ⟨g', rfl⟩ : ∃ g', gk = g' + 1 := ⟨gk - 1, by have := HJ.out; omega⟩
          have hjs : j < (syms l ps).length := by have := HSL.out; omega
          have hjt : j < (tab l ps).length := by have := HTL.out; omega
          obtain ⟨d2, o2, rfl, q1, q2, hc⟩ := (HSy.out.below HMk.out.2.2.2 hhi2) (by omega)
          have hcell := hc j hjs
          unfold bocel at hcell
          have hg := getD_of (syms l ps) j 0 hjs
          have hs256 : (syms l ps)[j] < 256 := by
            have h1 := HMay.out.syms_lt _ (List.getElem_mem hjs)
            have h2 := HMay.out.len
            omega
          have hkb := HMay.out.k_bd j (by have := HN.out; omega)
          have hte := tabS_get l ps (syms l ps) j hjt
          have hnx : kOf ps (syms l ps) j = nxtI ps (syms l ps) j ((syms l ps).getD j 0) := rfl
          have hns := nxtI_succ ps (syms l ps) j hjs
          rw [← hnx] at hns
          have hup := upTo_set (tab l ps) n j HTL.out hjl
          rw [show (tab l ps)[j] = (tabS l ps (syms l ps))[j]'hjt from rfl, hte] at hup
          rw [hg] at hup hns hnx
          have hli : j < (upTo (tab l ps) n j).length := by rw [upTo_length _ _ _ HTL.out hjn]; exact hjl
          have HNx := Lib.hid hnx.symm
          have HUp := Lib.hid hup
          have HNs := Lib.hid hns
          have hki : (j : Int) < (n : Int) := by omega
          have hc1 := (HMk.out.2.1.cell (syms l ps)[j]).trans (arr_get _ _ hs256)
          rw [← hnx] at hc1
          have hf1 := HMk.out.2.1.free (syms l ps)[j]
          have hc0 := HMk.out.1.cell 0
          obtain ⟨z0, z1, z2, ⟨x0, x1, x2⟩, y0, y1, y2⟩ : ∃ z0 z1 z2 : Int, (wr.cell? ⟨w.heap.size + 2, j * 3, none⟩ = some (.int .u8 z0) ∧ wr.cell? ⟨w.heap.size + 2, j * 3 + 1, none⟩ = some (.int .i64 z1) ∧ wr.cell? ⟨w.heap.size + 2, j * 3 + 2, none⟩ = some (.int .i64 z2)) ∧
              wr.frozen? ⟨w.heap.size + 2, j * 3, none⟩ = false ∧ wr.frozen? ⟨w.heap.size + 2, j * 3 + 1, none⟩ = false ∧ wr.frozen? ⟨w.heap.size + 2, j * 3 + 2, none⟩ = false := ⟨_, _, _, HMk.out.2.2.1.cells3 j hli⟩
          have hlb : w.heap.size + 2 < wr.heap.size := World.block_lt_of_cell? wr _ x0
          have hw8 : (((syms l ps)[j] : Nat) : Int) < 256 := by omega
          have HE := fun W => Lib.hid (entry_any (syms l ps)[j] (kOf ps (syms l ps) j) l W hl15 hkb.1 hkb.2)
          have HLi := Lib.hid hli
          have HKb := Lib.hid hkb
          have hk1 : kOf ps (syms l ps) j ≤ 65536 := by have := HN.out; omega
          clear hc hg hte hnx hns hup hli hkb
          generalize (syms l ps)[j] = s at *
          generalize kOf ps (syms l ps) j = k9 at *
          go_wp2_with fail
          go_region_with (go_at_call 71; refine ((HE _).out).mono ?_; rintro e' wn ⟨rfl, hB⟩; have HBn : Hid (Below wr.heap.size wr wn) := (⟨hB.os, hB.tape, hB.output, hB.size, hB.block⟩ : Below wr.heap.size wr wn); obtain ⟨⟨x0n, x1n, x2n⟩, y0n, y1n, y2n⟩ := keep3 HBn.out hlb ⟨x0, x1, x2⟩ ⟨y0, y1, y2⟩; clear hB)
          all_goals
            have HM5 : Hid (Mk w (((wn.setCell ⟨w.heap.size + 2, j * 3, none⟩ (.int .u8 (entN l s k9).s)).setCell ⟨w.heap.size + 2, j * 3 + 1, none⟩ (.int .i64 (entN l s k9).b)).setCell ⟨w.heap.size + 2, j * 3 + 2, none⟩ (.int .i64 (entN l s k9).e)) (l : Int) A k cp n (nxtI ps (syms l ps) j) (upTo (tab l ps) n (j + 1))) := by
              have h1 := HMk.out.1.below HBn.out (by omega)
              have h2 := HMk.out.2.1.below HBn.out (by omega)
              have h3 := HMk.out.2.2.1.below HBn.out (Nat.le_refl _)
              have h4 := h3.put3 j HLi.out (entN l s k9)
              rw [HUp.out] at h4
              refine ⟨((h1.far ?_ _).far ?_ _).far ?_ _, ((h2.far ?_ _).far ?_ _).far ?_ _, h4, (((HMk.out.2.2.2.trans (HBn.out.mono (by omega))).setCell ?_ _).setCell ?_ _).setCell ?_ _⟩
              all_goals (show _ ; simp only; omega)
            generalize ((wn.setCell ⟨w.heap.size + 2, j * 3, none⟩ (.int .u8 (entN l s k9).s)).setCell ⟨w.heap.size + 2, j * 3 + 1, none⟩ (.int .i64 (entN l s k9).b)).setCell ⟨w.heap.size + 2, j * 3 + 2, none⟩ (.int .i64 (entN l s k9).e) = w5 at *
            have c5 := (HM5.out.2.1.cell s).trans (arr_get _ _ hs256)
            have f5 := HM5.out.2.1.free s
            have hput := HM5.out.2.1.put s (.int .i64 ((k9 + 1 : Nat) : Int))
            rw [arr_set, HNs.out] at hput
            rw [show nxtI ps (syms l ps) j s = k9 from HNx.out] at c5
            have HPut := Lib.hid hput
            clear x0n x1n x2n y0n y1n y2n x0 x1 x2 y0 y1 y2 hc1 hf1 hc0 hcell hput
            go_wp2_with fail
            go_roundg g'
            case rel =>
              exact ⟨j + 1, by have := HJ.out; omega, by go_num, HM5.out.1.far (by show w.heap.size ≠ w.heap.size + 1; omega) _, HPut.out, HM5.out.2.2.1.aside (by omega) _ _, HM5.out.2.2.2.setCell (by show w.heap.size ≤ w.heap.size + 1; omega) _⟩
            case measure => omega
        · obtain rfl : j = n := by omega
          have hji : ¬ (j : Int) < (j : Int) := by omega
          go_wp2_with fail
          go_ret
          refine ⟨_, rfl, ?_, HMk.out.2.2.2⟩
          have h3 := HMk.out.2.2.1
          unfold upTo at h3
          rw [Nat.sub_self, List.replicate_zero, List.append_nil, List.take_of_length_le (by rw [HTL.out]; exact Nat.le_refl _)] at h3
          exact h3.mono (by omega)
end Go.Proofs.YtpdnmhnnngcbjaaDoor
