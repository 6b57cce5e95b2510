
/- The contract of the program's Of. -/
import Derived.Test.YtafdfjacfodbnaaWtOfP
import Derived.Test.YtafdfjacfodbnaaWtMax
namespace Go.Proofs.Ytafdfjacfodbnaa
open Go.RowKit

/-- What Of answers. -/
def OfPostW (os : List Nat) (w : World) (e : Ending) (w' : World) : Prop :=
  ((256 < os.length ∨ cnt os < 2 ∨ 2147483647 < os.sum) ∧ e = .returned (.tuple #[.slice none 0 0, .int .i64 1]) ∧ Below w.heap.size w w') ∨
  (¬ (256 < os.length ∨ cnt os < 2 ∨ 2147483647 < os.sum) ∧ ∃ v D L, e = .returned (.tuple #[v, .int .i64 0]) ∧ OwE u8cel w' 5 w.heap.size v L ∧ MayW D L ∧ L.length = ends os ∧ (∀ i, i < L.length → (0 < L.getD i 0 ↔ 0 < os.getD i 0)) ∧ Below w.heap.size w w')

theorem made_nats (L : Nat) : (madeCells #[Value.int .u8 0] L).toList = (List.replicate L 0).map u8cel := by
  apply List.ext_getElem
  · simp [madeCells]
  · intro i h1 h2
    simp [madeCells, u8cel, Nat.mod_one]
theorem DatE.takeS {α : Type} {f : α → Value} {w : World} {lo hi : Nat} {A : Option Addr} {xs : List α} (h : DatE f w lo hi A xs) (k : Nat) : DatE f w lo hi A (xs.take k) := h.take k
theorem cnt_ends (os : List Nat) : cnt (os.take (ends os)) = cnt os := by
  have e : os = os.take (ends os) ++ os.drop (ends os) := (List.take_append_drop _ _).symm
  have h0 : cnt (os.drop (ends os)) = 0 := by
    rcases Nat.eq_zero_or_pos (cnt (os.drop (ends os))) with h | h
    · exact h
    · obtain ⟨j, hj, hp⟩ := cntW_pos h
      have := (ends_spec os).1 (ends os + j) (by omega)
      rw [List.getD_eq_getElem?_getD, List.getElem?_drop, ← List.getD_eq_getElem?_getD] at hp
      omega
  conv => rhs; rw [e, cnt_append, h0]
  rfl

/-- How often each symbol is in bundles, as numbers. -/
def lensN (n : Nat) (T : List Pk) : List Nat := (List.range n).map fun j => cn (UInt8.ofNat j) T
theorem lens_nat (n : Nat) (T : List Pk) : lens n T = (lensN n T).map fun x : Nat => (x : Int) := by
  unfold lens lensP lensN
  rw [List.map_map]
  refine List.map_congr_left fun j _ => ?_
  simp
theorem lensN_len (n : Nat) (T : List Pk) : (lensN n T).length = n := by simp [lensN]
theorem told_small {os : List Nat} {T : List Pk} (h : Told os T) {n : Nat} (hn : n ≤ 256) : ∀ x ∈ lensN n T, x ≤ 11 := by
  intro x hx
  obtain ⟨j, hj, rfl⟩ := List.mem_map.1 hx
  have hj := List.mem_range.1 hj
  by_cases h0 : 0 < os.getD j 0
  · exact (h.1 j (by omega) h0).2
  · rw [h.2.1 j (by omega) h0]; omega

section
variable {w : World}
set_option maxRecDepth 100000 in
set_option maxHeartbeats 1000000 in
theorem ofW_any {lo hi n c : Nat} {A : Option Addr} {os : List Nat} (hd : DatE ucel w lo hi A os) (hn : os.length = n) (hm : n ≤ 100000) (hb : ∀ o ∈ os, o ≤ 4294967295) (hhi : hi ≤ w.heap.size) (hc : n ≤ c) :
    Calls Try.prog 19 #[.slice A n c] w (OfPostW os w) := by
  have HT := Lib.hid (tallyW_any (c := c) hd hn (by omega) hb)
  have hs := sum_le os 4294967295 hb
  have hel := ends_le os
  have hcl := cnt_le os
  have HD := Lib.hid (And.intro hd (And.intro hn hb))
  have hs2 : os.sum ≤ 429496729500000 := by omega
  have hel2 : ends os ≤ n := by omega
  have hcl2 : cnt os ≤ n := by omega
  by_cases hbad : 256 < n ∨ cnt os < 2 ∨ 2147483647 < os.sum
  · have hx : (256 : Int) < (n : Int) ∨ (¬ (256 : Int) < (n : Int) ∧ ((cnt os : Nat) : Int) < 2) ∨ (¬ (256 : Int) < (n : Int) ∧ ¬ ((cnt os : Nat) : Int) < 2 ∧ (2147483647 : Int) < ((os.sum : Nat) : Int)) := by omega
    have HBad := Lib.hid hbad
    clear hd hn hb hs hel hcl hbad
    unfold OfPostW
    generalize os.sum = sm at *
    generalize cnt os = ct at *
    rcases hx with h1 | ⟨h1, h2⟩ | ⟨h1, h2, h3⟩
    all_goals
      go_enter Try.func19, Try.ntmps19
      go_wp2_with fail
      refine HT.out.mono ?_
      rintro _ _ ⟨rfl, rfl⟩
      clear HT
      go_wp2_with fail
      go_ret2
      exact .inl ⟨by rw [HD.out.2.1]; exact HBad.out, rfl, Below.refl _ _⟩
  · have hbad1 : n ≤ 256 := by omega
    have hbad2 : 2 ≤ cnt os := by omega
    have hbad3 : os.sum ≤ 2147483647 := by omega
    have hel3 : (os.take (ends os)).length = ends os := by rw [List.length_take]; omega
    have hL := lengths_any (w := w) (c := c) (hd.take (ends os)) hel3 (by omega) (fun o ho => hb o (List.mem_of_mem_take ho)) hhi (by rw [cnt_ends]; exact hbad2)
    have hc3 : ends os ≤ c := by omega
    have hlast : 0 < (os.take (ends os)).getD (ends os - 1) 0 := by
      have h1 := cnt_le (os.take (ends os))
      rw [cnt_ends] at h1
      have := (ends_spec os).2 (by omega)
      rw [List.getD_eq_getElem?_getD, List.getElem?_take, if_pos (by omega), ← List.getD_eq_getElem?_getD]
      exact this
    have he2 : 2 ≤ ends os := by
      have h1 := cnt_le (os.take (ends os))
      rw [cnt_ends] at h1
      omega
    obtain ⟨d, o, rfl, -, -, -⟩ := hd (by omega)
    have HL := Lib.hid hL
    have HE := Lib.hid (And.intro hlast (And.intro hel3 (And.intro hbad1 (And.intro hbad2 hbad3))))
    have hz1 : ¬ (256 : Int) < (n : Int) := by omega
    have hz2 : ¬ ((cnt os : Nat) : Int) < 2 := by omega
    have hz3 : ¬ (2147483647 : Int) < ((os.sum : Nat) : Int) := by omega
    clear hd hn hb hs hel hcl hbad hlast hel3 hbad2 hbad3 hL
    obtain ⟨sm, hsm⟩ : ∃ sm, sm = os.sum := ⟨_, rfl⟩
    obtain ⟨ct, hct⟩ : ∃ ct, ct = cnt os := ⟨_, rfl⟩
    obtain ⟨en, hen⟩ : ∃ en, en = ends os := ⟨_, rfl⟩
    rw [← hsm, ← hct, ← hen] at HT
    rw [← hsm] at hz3 hs2
    rw [← hct] at hz2 hcl2
    rw [← hen] at hel2 hc3 he2 HL
    have HEq := Lib.hid (And.intro hsm (And.intro hct hen))
    clear hsm hct hen
    go_enter Try.func19, Try.ntmps19
    go_wp2_with fail
    refine HT.out.mono ?_
    rintro _ _ ⟨rfl, rfl⟩
    clear HT
    go_wp2_with fail
    refine HL.out.mono ?_
    rintro _ w1 ⟨v, T, rfl, hO, hB, hTd⟩
    obtain ⟨A1, c1, rfl, hc1, hD1⟩ := hO.form
    have HTd := Lib.hid hTd
    have HB1 := Lib.hid hB
    have hll : (lens en T).length = en := lensP_len _ _ _
    rw [hll] at hc1
    rw [hll]
    rw [lens_nat] at hD1
    have hMx := maxI_any (w := w1) (c := c1) hD1 (lensN_len en T) (by omega) (by omega) (fun x hx => Nat.le_trans (told_small hTd (by omega) x hx) (by decide))
    have HMx := Lib.hid hMx
    have HD1 := Lib.hid hD1
    obtain ⟨dl, ol, rfl, qd1, qd2, hcl⟩ := hD1 (by simp [lensN]; omega)
    have HCl := Lib.hid hcl
    have hszb := hB.size
    clear hO hB hTd hll hMx hD1 hcl
    go_wp2_with fail
    refine HMx.out.mono ?_
    rintro _ w9 ⟨D, rfl, hDm, hDx, rfl⟩
    have hD11 := told_small HTd.out (by omega) D hDm
    have HDm := Lib.hid (And.intro hDm hDx)
    clear HMx hDm hDx
    obtain ⟨i0, hi0, hi1⟩ := Option.map_eq_some_iff.1 info_byte
    simp only [Prod.mk.injEq] at hi1
    obtain ⟨hz0, hz1', hz2'⟩ := hi1
    have HI := Lib.hid (And.intro hi0 (And.intro hz0 (And.intro hz1' hz2')))
    clear hi0 hz0 hz1' hz2'
    go_wp2_with (at_make; refine wpList_make_full _ rfl _ _ 22 rfl w.heap.size 5 i0 (.int .u8 0) 1 Try.underlying22 HI.out.1 HI.out.2.1 HI.out.2.2.1 .i64 .i64 _ _ en rfl rfl rfl rfl ?_ ?_ ?_ ?_)
    · rw [HI.out.2.2.2]; omega
    · unfold maxLen; omega
    · exact hszb
    intro w2 ho hg
    have ho1 : OwE u8cel w2 5 w.heap.size (.slice (some ⟨w9.heap.size, 0, none⟩) en en) (List.replicate en 0) := by
      unfold OwE
      rw [made_nats] at ho
      simpa using ho
    have HO := Lib.hid (And.intro ho1 ((Below.refl w9.heap.size w9).grown hg (Nat.le_refl _) (by simp)))
    clear ho ho1 hg
    go_wp2_with fail
    go_loopg [40] en (fun g1 vi wx => ∃ k : Nat, vi = .int .i64 (k : Int) ∧ k + g1 = en ∧ OwE u8cel wx 5 w.heap.size (.slice (some ⟨w9.heap.size, 0, none⟩) en en) ((wts D en T).take k ++ List.replicate (en - k) 0) ∧ Below w9.heap.size w9 wx)
    case atStart => exact ⟨0, rfl, by omega, by simpa using HO.out.1, HO.out.2⟩
    case round =>
      clear HO
      obtain ⟨k, rfl, hk, hO, hB⟩ := hrel
      have hwl : (wts D en T).length = en := by simp [wts]
      by_cases hlt : k < en
      · have hltz : (k : Int) < (en : Int) := by omega
        have hck := (World.cell?_of_block (hB.block dl (by omega))).trans (HCl.out k (by simp [lensN]; exact hlt))
        have hlk : (lensN en T)[k]'(by simp [lensN]; exact hlt) = cn (UInt8.ofNat k) T := by simp [lensN]
        simp only [List.getElem_map] at hck
        rw [hlk] at hck
        unfold icel at hck
        have hsm := told_small HTd.out (n := en) (by omega) (cn (UInt8.ofNat k) T) (by rw [← hlk]; exact List.getElem_mem _)
        have hwk : (wts D en T)[k]'(by rw [hwl]; exact hlt) = wOf D (cn (UInt8.ofNat k) T) := by simp [wts]
        have hDx := HDm.out.2 (cn (UInt8.ofNat k) T) (by rw [← hlk]; exact List.getElem_mem _)
        have htk : (wts D en T).take (k + 1) = (wts D en T).take k ++ [wOf D (cn (UInt8.ofNat k) T)] := by rw [List.take_succ_eq_append_getElem (by rw [hwl]; exact hlt), hwk]
        have hkl : ((wts D en T).take k ++ List.replicate (en - k) 0).length = en := by simp; omega
        have hq := hO.cellAt k (by omega)
        obtain ⟨z0, hz0⟩ : ∃ z, z = ((wts D en T).take k ++ List.replicate (en - k) 0)[k]'(by omega) := ⟨_, rfl⟩
        rw [← hz0] at hq
        clear hz0
        have hset : ((wts D en T).take k ++ List.replicate (en - k) 0).set k (wOf D (cn (UInt8.ofNat k) T)) = (wts D en T).take (k + 1) ++ List.replicate (en - (k + 1)) 0 := by
          rw [htk, List.set_append_right _ _ (by rw [List.length_take]; exact Nat.min_le_left _ _), List.length_take, hwl, Nat.min_eq_left (by omega), Nat.sub_self, show en - k = en - (k + 1) + 1 by omega, List.replicate_succ, List.set_cons_zero]
          simp
        have HQ := Lib.hid (And.intro hO (And.intro hB (And.intro hset hkl)))
        obtain ⟨cq, fq⟩ := hq
        unfold u8cel at cq
        clear hset hO hB hlk hwk htk hwl hkl
        generalize hx : cn (UInt8.ofNat k) T = x at *
        have HX := Lib.hid hx
        clear hx
        by_cases h0 : 0 < x
        · have h0z : (0 : Int) < (x : Int) := by omega
          have hw8 : IntKind.u8.wrap ((D : Int) + 1 - (x : Int)) = ((D + 1 - x : Nat) : Int) := by rw [IntKind.wrap_u8']; omega
          have HW8 : Hid (wOf D x = D + 1 - x) := if_pos h0
          go_wp2_with fail
          go_roundg (en - (k + 1))
          case measure => omega
          case rel =>
            obtain ⟨hO, hB, hset, hkl⟩ := HQ.out
            refine ⟨k + 1, by go_num, by omega, ?_, hB.setCell (Nat.le_refl _) _⟩
            rw [← hset, HW8.out]
            exact hO.put k (D + 1 - x)
        · have h0z : ¬ (0 : Int) < (x : Int) := by omega
          have HW8 : Hid (wOf D x = 0) := if_neg h0
          go_wp2_with fail
          go_roundg (en - (k + 1))
          case measure => omega
          case rel =>
            obtain ⟨hO, hB, hset, hkl⟩ := HQ.out
            refine ⟨k + 1, by go_num, by omega, ?_, hB⟩
            rw [← hset, HW8.out]
            have : ((wts D en T).take k ++ List.replicate (en - k) 0).set k 0 = (wts D en T).take k ++ List.replicate (en - k) 0 := by
              have hwl : (wts D en T).length = en := by simp [wts]
              rw [List.set_append_right _ _ (by rw [List.length_take]; exact Nat.min_le_left _ _), List.length_take, hwl, Nat.min_eq_left (by omega), Nat.sub_self, show en - k = en - (k + 1) + 1 by omega, List.replicate_succ, List.set_cons_zero]
            rw [this]
            exact hO
      · obtain rfl : k = en := by omega
        have hltz : ¬ (k : Int) < (k : Int) := by omega
        have HF := Lib.hid (And.intro hO (And.intro hB hwl))
        clear hO hB hwl
        go_wp2_with fail
        go_ret2
        obtain ⟨hO, hB, hwl⟩ := HF.out
        rw [Nat.sub_self, List.replicate_zero, List.append_nil, List.take_of_length_le (by omega)] at hO
        obtain ⟨hsm, hct, hen⟩ := HEq.out
        obtain ⟨hlast, hel3, hb1, hb2, hb3⟩ := HE.out
        rw [← hen] at hlast hel3
        refine .inr ⟨by rw [HD.out.2.1]; omega, _, D, wts D k T, rfl, hO, ?_, by rw [hwl, hen], fun i hi => ?_, HB1.out.trans (hB.mono hszb)⟩
        · refine wts_may HTd.out hel3 (by omega) (by rw [hen, cnt_ends]; exact hb2) hlast ?_ fun j hj => HDm.out.2 _ (List.mem_map.2 ⟨j, List.mem_range.2 hj, rfl⟩)
          obtain ⟨j, hj, e⟩ := List.mem_map.1 HDm.out.1
          exact ⟨j, List.mem_range.1 hj, e.symm⟩
        · rw [hwl] at hi
          have hgi : (os.take k).getD i 0 = os.getD i 0 := by
            rw [List.getD_eq_getElem?_getD, List.getElem?_take, if_pos hi, ← List.getD_eq_getElem?_getD]
          have hwi : (wts D k T).getD i 0 = wOf D (cn (UInt8.ofNat i) T) := by
            rw [List.getD_eq_getElem?_getD, List.getElem?_eq_getElem (by rw [hwl]; exact hi)]
            simp [wts]
          rw [hwi, ← hgi]
          have hDx := HDm.out.2 (cn (UInt8.ofNat i) T) (List.mem_map.2 ⟨i, List.mem_range.2 hi, rfl⟩)
          unfold wOf
          by_cases h0 : 0 < (os.take k).getD i 0
          · have a := (HTd.out.1 i (by omega) h0).1
            rw [if_pos (by omega)]
            omega
          · have a := HTd.out.2.1 i (by omega) h0
            rw [a, if_neg (by omega)]
            omega
end
end Go.Proofs.Ytafdfjacfodbnaa
