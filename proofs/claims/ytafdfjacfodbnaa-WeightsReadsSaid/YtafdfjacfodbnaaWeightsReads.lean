
/- WeightsReads holds: for every slice of bytes the law returns true, and the slice reads behind the call as it read before. No condition. -/
import Derived.Test.YtafdfjacfodbnaaWtAwake
import Derived.Test.YtafdfjacfodbnaaWtRefR
import Derived.Test.YtafdfjacfodbnaaPileC
namespace Go.Proofs.Ytafdfjacfodbnaa.weightsReads
open Go.ChangeShapes Go.WideShapes Go.ChangeAt Go.RowKit

theorem str_same (x : ByteArray) : (x == x) = true := by
  show x.beq x = true
  cases x
  first
  | (simp [ByteArray.beq]; done)
  | (unfold ByteArray.beq; simp; done)

set_option maxRecDepth 100000 in
set_option maxHeartbeats 4000000 in
theorem walk (a0 : Option Addr) (xs : List UInt8) (cap0 : Nat) (w : World) (hd : Dat false w 0 w.heap.size a0 xs) (hm : xs.length ≤ maxLen) (hcap : xs.length ≤ cap0) :
    Calls Try.prog 4 #[.slice a0 xs.length cap0] w fun e w' => e = .returned (.bool true) ∧ Below w.heap.size w w' := by
  unfold maxLen at hm
  obtain ⟨n, hn⟩ : ∃ n, n = xs.length := ⟨_, rfl⟩
  rw [← hn] at hm hcap ⊢
  have HN := Lib.hid hn.symm
  have HD := Lib.hid hd
  clear hd hn
  by_cases h1 : 300 < n
  · have h1' : (300 : Int) < (n : Int) := by omega
    go_enter Try.func4, Try.ntmps4
    go_wp2_with fail
    refine (wts_awake _).mono ?_
    rintro e w1 ⟨rfl, hB⟩
    have HB1 := Lib.hid hB
    clear hB
    go_wp2_with fail
    go_ret
    exact ⟨rfl, HB1.out⟩
  · have h1' : ¬ (300 : Int) < (n : Int) := by omega
    obtain ⟨S8, hS8⟩ : ∃ S8, S8 = str xs := ⟨_, rfl⟩
    have hcv : ∀ W, Below w.heap.size w W → (convert 22 9 (.slice a0 n cap0)).run Try.prog W = .ok (.string S8) W := fun W h => by
      have := run_str (P := Try.prog) W 22 Try.underlying22 Try.underlying5 (c := cap0) (m := n) (HD.out.below h (Nat.le_refl _)) HN.out 9 Try.underlying9
      rw [← hS8] at this
      exact this
    have HCv := Lib.hid hcv
    have HRW := fun W => Lib.hid (refRead2 (w := W) (n := n) S8 hS8 HN.out (by omega))
    clear hS8 hcv
    go_enter Try.func4, Try.ntmps4
    go_wp2_with fail
    refine (wts_awake _).mono ?_
    rintro e w1 ⟨rfl, hB1⟩
    have HB1 := Lib.hid hB1
    have hs1 := hB1.size
    have HD1 := Lib.hid (HD.out.below hB1 (Nat.le_refl _))
    clear hB1
    go_wp2_with fail
    refine (read2 (c := cap0) HD1.out HN.out (by omega) hcap hs1).mono ?_
    rintro e w2 ⟨hB2, A, m, cA, ys, k, er, rfl, hym, hDy, hRR⟩
    have hm256 := rr_len hRR
    rw [hym] at hm256
    have HB2 := Lib.hid (HB1.out.trans (hB2.mono hs1))
    have hs2 := hB2.size
    have HY := Lib.hid (And.intro hym hDy)
    have HRR := Lib.hid hRR
    have hcv2 := HCv.out w2 HB2.out
    clear hB2 hym hDy hRR HD1
    go_wp2_with fail
    refine (HRW _).out.mono ?_
    rintro e w3 ⟨hB3, zs, k', er', rfl, hRR'⟩
    obtain ⟨rfl, rfl, rfl⟩ := rr_uni HRR.out hRR'
    have HB3 := Lib.hid (HB2.out.trans (hB3.mono (by omega)))
    have hDy := HY.out.2.below hB3 (Nat.le_refl _)
    have hcv3 := run_str (P := Try.prog) w3 22 Try.underlying22 Try.underlying5 (c := cA) (m := m) hDy HY.out.1 9 Try.underlying9
    have hss := str_same (str ys)
    have hkk : ((k : Int) == (k : Int)) = true := by rw [beq_iff_eq]
    have hee : (er == er) = true := by rw [beq_iff_eq]
    clear hRR' hcv2 hB3 HRW hDy
    go_wp2_with fail
    go_ret
    exact ⟨rfl, HB3.out⟩


set_option maxRecDepth 100000 in
theorem lifted (os : Os) (started : os.Started) (H : Type) (enc : TypeId × Value → H) :
    ReturnsInHanded {} Try.checked os 4 .any (Rows.weightsReadsSpec.pre6 enc Try.prog Try.f4 Rows.weightsReadsRow.domain false) (Rows.weightsReadsSpec.post enc Try.prog Try.f4 false true false false) := by
  refine returnsInHanded_of_change (C := Try.checked) own started (by kernel_rfl) Try.func4
    (ChangeSpec.witness6 (enc := enc) (C := Try.checked) false ⟨#[], #[.slice none 0 0], []⟩ 8 (by kernel_rfl) (by kernel_rfl) (by kernel_rfl) (by kernel_rfl)) ?_
  intro W base args ds gs before hval0 hW hcnd _
  have hval : ∀ (j : Nat) t v, Try.f4.params[j]? = some t → args[j]? = some v → Value.okWide Try.prog W .any base t v := hval0
  have hW' := hW
  obtain ⟨p, q, hA0, hV, rfl, hfz, hnd⟩ := hW
  have hA : DataW.TrodAll enc Try.prog W 0 (fun _ => true) true Try.f4.params.toList args.toList ds p := hA0
  rw [Try.params4] at hA hval
  obtain ⟨v0, vs0, d0, ds0, p0, q0, hargs, rfl, rfl, h0, r0⟩ := trodAll_cons hA
  obtain ⟨rfl, rfl, rfl⟩ := trodAll_nil r0
  obtain rfl : args = #[v0] := by cases args; simp_all
  obtain ⟨rfl, rfl⟩ := trodVars_none hV
  obtain ⟨a0, len0, cap0, rfl⟩ := okWide_slice Try.underlying22 (hval 0 22 v0 rfl rfl)
  have k0 := h0
  have lt0 : ∀ x ∈ p0, x.block < W.heap.size := by obtain ⟨m, hm⟩ := k0; exact DataW.trod_lt m _ _ _ hm
  obtain ⟨z0, w0⟩ := row_of_trod h0
  obtain ⟨xs0, rfl, hl0, hm0, hd0⟩ := row_dat w0
  clear hA0 hval0
  refine (walk a0 xs0 cap0 W hd0 (by omega) hl0).mono fun e W' ⟨he, bel⟩ => ?_
  subst he
  exact ⟨_, rfl, _, _, _, [], _, [], hW', trodAll_mk1 (shut_bool Try.underlying4 _), (trodAll_cons_mk (Below.trod laidOut (by kernel_rfl) (of_decide_eq_true (by kernel_rfl)) k0 bel lt0) trodAll_mk0), rfl, bel.frame _, fun h => by cases h⟩

theorem over : Rows.weightsReadsRow.holds Try.pinned (OpenSpec.ofChange Rows.weightsReadsSpec) :=
  OpenClaim.holds_of_wide 4 Try.f4 rfl rfl rfl rfl rfl rfl rfl ⟨rfl, rfl, rfl, rfl, rfl⟩ rfl rfl rfl rfl rfl (by kernel_rfl) Try.func4 (by kernel_rfl)
    (of_decide_eq_true (by kernel_rfl)) (by unfold Func.isWrapper; first | (rw [if_pos (by decide +kernel)]; kernel_rfl) | (rw [if_neg (by decide +kernel)]; exact ⟨rfl, rfl⟩))
    (fun os started H enc _ => lifted os started H enc)

theorem proved : Rows.WeightsReadsSaid := over
end Go.Proofs.Ytafdfjacfodbnaa.weightsReads
