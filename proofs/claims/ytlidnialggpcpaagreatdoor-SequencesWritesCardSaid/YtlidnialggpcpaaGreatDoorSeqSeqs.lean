
/- The contract of the law's seqsOf: sequences within their bounds. -/
import Derived.Test.YtlidnialggpcpaaGreatDoorSeqLawP
import Derived.Test.YtlidnialggpcpaaGreatDoorSeqSmall
import Derived.Test.YtlidnialggpcpaaGreatDoorPileA
namespace Go.Proofs.YtlidnialggpcpaaGreatDoor
open Go.RowKit

section
variable {w : World} {lo hi n c : Nat} {A : Option Addr} {qs : List Sq}
set_option maxRecDepth 100000 in
set_option maxHeartbeats 4000000 in
theorem seqsOf_any (hd : DatR 3 scell w lo hi A qs) (hhi : hi ≤ w.heap.size) (hn : qs.length = n) (hn2 : n ≤ 1000000) (hsm : ∀ q ∈ qs, q.Small) :
    Calls Tryz.prog 11 #[.slice A n c] w fun e w' => ∃ v, e = .returned v ∧ OwR 3 scell w' 47 w.heap.size v (qs.map sqm) ∧ Below w.heap.size w w' := by
  obtain ⟨i0, hi0, hz0, hz1, hz2⟩ := info_parts seq_info
  have HI := Lib.hid (And.intro hi0 (And.intro hz0 (And.intro hz1 hz2)))
  have HD := Lib.hid (And.intro hd (And.intro hn hsm))
  clear hd hn hsm hi0 hz0 hz1 hz2
  go_enter Tryz.func11, Tryz.ntmps11
  go_wp2_with fail
  go_loopg [3, 4] n (fun gh i3 i wx => ∃ (j : Nat) (A3 : Option Addr) (n3 c3 : Nat), j + gh = n ∧ i = .int .i64 (j : Int) ∧ i3 = .slice A3 n3 c3 ∧ Hid (OwR 3 scell wx 47 w.heap.size (.slice A3 n3 c3) ((qs.take j).map sqm) ∧ Below w.heap.size w wx))
  case atStart => exact ⟨0, none, 0, 0, by omega, rfl, rfl, OwR.nil _ _ _ _ _, Below.refl _ _⟩
  case round =>
    obtain ⟨j, A3, n3, c3, hj, rfl, rfl, HB⟩ := hrel
    have HJ := Lib.hid hj
    have hjn : j ≤ n := by omega
    clear hj
    by_cases hlt : j < n
    · obtain ⟨g', rfl⟩ : ∃ g', gk = g' + 1 := ⟨gk - 1, by have := HJ.out; omega⟩
      have hki : (j : Int) < (n : Int) := by omega
      have hjl : j < qs.length := by have := HD.out.2.1; omega
      obtain ⟨d1, o1, rfl, _, _, hc1⟩ := (HD.out.1.below HB.out.2 hhi).seq (by omega)
      obtain ⟨x0, x1, x2⟩ := hc1 j hjl
      have HTk := Lib.hid (List.take_succ_eq_append_getElem hjl)
      obtain ⟨s0, s1, s2⟩ := HD.out.2.2 qs[j] (List.getElem_mem _)
      have HLn : Hid (((qs.take j).map sqm).length ≤ 1000000) := by show _ ≤ _; rw [List.length_map, List.length_take]; omega
      generalize qs[j] = q at *
      obtain ⟨ql, qm, qo⟩ := q
      dsimp only at x0 x1 x2 s0 s1 s2
      have hz := HB.out.2.size
      obtain ⟨rl, hrl⟩ : ∃ r, r = ql % 131072 := ⟨_, rfl⟩
      obtain ⟨r0, hr0⟩ : ∃ r, r = qm % 131072 := ⟨_, rfl⟩
      obtain ⟨r1, hr1⟩ : ∃ r, r = qo % 2147483648 := ⟨_, rfl⟩
      have hsq : Hid (sqm ⟨ql, qm, qo⟩ = ⟨rl, 3 + r0, 1 + r1⟩) := by rw [Hid, hrl, hr0, hr1]; rfl
      obtain ⟨rm, hrm⟩ : ∃ r, r = 3 + r0 := ⟨_, rfl⟩
      obtain ⟨ro, hro⟩ : ∃ r, r = 1 + r1 := ⟨_, rfl⟩
      rw [← hrm, ← hro] at hsq
      have e0 : (ql : Int).tmod 131072 = (rl : Int) := by rw [Int.tmod_eq_emod_of_nonneg (by omega)]; omega
      have e1 : (qm : Int).tmod 131072 = (r0 : Int) := by rw [Int.tmod_eq_emod_of_nonneg (by omega)]; omega
      have e2 : (qo : Int).tmod 2147483648 = (r1 : Int) := by rw [Int.tmod_eq_emod_of_nonneg (by omega)]; omega
      have f0 : (ql : Int) % 131072 = (rl : Int) := by omega
      have f1 : (qm : Int) % 131072 = (r0 : Int) := by omega
      have f2 : (qo : Int) % 2147483648 = (r1 : Int) := by omega
      have w0 : IntKind.u32.wrap (rl : Int) = (rl : Int) := by rw [IntKind.wrap_u32]; omega
      have w1 : IntKind.u32.wrap (r0 : Int) = (r0 : Int) := by rw [IntKind.wrap_u32]; omega
      have w2 : IntKind.u32.wrap (r1 : Int) = (r1 : Int) := by rw [IntKind.wrap_u32]; omega
      have w3 : IntKind.u32.wrap (3 + (r0 : Int)) = (rm : Int) := by rw [IntKind.wrap_u32]; omega
      have w4 : IntKind.u32.wrap (1 + (r1 : Int)) = (ro : Int) := by rw [IntKind.wrap_u32]; omega
      have HD1 := Lib.hid (datR_one (f := scell) (z := 3) wr (⟨rl, rm, ro⟩ : Sq) 47 #[.int .u32 (rl : Int), .int .u32 (rm : Int), .int .u32 (ro : Int)] rfl)
      have HA := Lib.hid (HB.out.1.alloc (.cells #[.int .u32 (rl : Int), .int .u32 (rm : Int), .int .u32 (ro : Int)] 47))
      clear hc1 hrl hr0 hr1 hrm hro
      go_wp2_with fail
      go_region_law ((refine step_appR scell_len (by decide) scell_one _ rfl _ _ 24 rfl i0 (.agg #[.int .u32 0, .int .u32 0, .int .u32 0]) 12 Tryz.underlying24 HI.out.1 HI.out.2.1 HI.out.2.2.1 HI.out.2.2.2 rfl (by decide) rfl (HA.out.drawn 1) rfl (show DatR 3 scell (World.drew _) _ _ _ _ from HD1.out) rfl (by have := HLn.out; simp; omega) (by simp; omega) ?_; intro v5 w5 ho5 hg5 hat5; obtain ⟨A5, n5, c5, rfl⟩ := ho5.slice; have hb5 : Below w.heap.size w w5 := Below.grown (HB.out.2.alloc hz (.cells #[.int .u32 (rl : Int), .int .u32 (rm : Int), .int .u32 (ro : Int)] 47)).drew hg5 (by show w.heap.size ≤ (wr.alloc _).heap.size; rw [World.size_alloc]; omega) (fun k hk => (HB.out.1.block k hk).1); have HO5 := Lib.hid (And.intro ho5 hb5); clear ho5 hg5 hat5 hb5))
      all_goals
        have HF : Hid (OwR 3 scell w5 47 w.heap.size (.slice A5 n5 c5) ((qs.take (j + 1)).map sqm) ∧ Below w.heap.size w w5) := by
          rw [HTk.out, List.map_append, List.map_singleton, hsq.out]
          exact HO5.out
        clear HO5 HA HD1 hsq
        go_wp2_with fail
        go_roundg g'
        case rel => exact ⟨j + 1, A5, n5, c5, by have := HJ.out; omega, by go_num, rfl, HF⟩
        case measure => omega
    · obtain rfl : j = n := by omega
      have hki : decide ((j : Int) < (j : Int)) = false := by simp
      have hT : qs.take j = qs := List.take_of_length_le (by have := HD.out.2.1; omega)
      rw [hT] at HB
      clear hT
      go_wp2_with fail
      go_ret
      exact ⟨_, rfl, HB.out⟩
end
end Go.Proofs.YtlidnialggpcpaaGreatDoor
