
/- WeightsOf holds: for every slice of numbers the law returns true, and the slice reads behind the call as it read before. No condition. -/
import Derived.Test.YtafdfjacfodbnaaWtAwake
import Derived.Test.YtafdfjacfodbnaaWtRef
import Derived.Test.YtafdfjacfodbnaaWtHalves
import Derived.Test.YtafdfjacfodbnaaPileC
namespace Go.Proofs.Ytafdfjacfodbnaa.weightsOf
open Go.ChangeShapes Go.WideShapes Go.ChangeAt Go.RowKit

set_option maxRecDepth 100000 in
set_option maxHeartbeats 4000000 in
theorem walk (a0 : Option Addr) (os : List Nat) (cap0 : Nat) (w : World) (hd : DatE ucel w 0 w.heap.size a0 os) (hl : os.length ≤ cap0) (hm : os.length ≤ maxLen) (hb : ∀ o ∈ os, o ≤ 4294967295) :
    Calls Try.prog 6 #[.slice a0 os.length cap0] w fun e w' => e = .returned (.bool true) ∧ Below w.heap.size w w' := by
  unfold maxLen at hm
  have HD := Lib.hid hd
  have HB := Lib.hid hb
  obtain ⟨n, hn⟩ : ∃ n, n = os.length := ⟨_, rfl⟩
  rw [← hn] at hl hm ⊢
  have HN := Lib.hid hn.symm
  clear hd hb hn
  by_cases h1 : 300 < n
  · have h1' : (300 : Int) < (n : Int) := by omega
    go_enter Try.func6, Try.ntmps6
    go_wp2_with fail
    refine (wts_awake _).mono ?_
    rintro e w1 ⟨rfl, hB⟩
    have HB1 := Lib.hid hB
    clear hB
    go_wp2_with fail
    go_ret
    exact ⟨rfl, HB1.out⟩
  · have h1' : ¬ (300 : Int) < (n : Int) := by omega
    go_enter Try.func6, Try.ntmps6
    go_wp2_with fail
    refine (wts_awake _).mono ?_
    rintro e w1 ⟨rfl, hB⟩
    have HB1 := Lib.hid hB
    have hs1 := hB.size
    have HD1 := Lib.hid (HD.out.below hB (Nat.le_refl _))
    clear hB
    go_wp2_with fail
    go_loop [4, 5, 6, 7] (fun s t f i => ∃ k : Nat, k ≤ n ∧ i = .int .i64 k ∧ s = .int .u64 ((os.take k).sum : Nat) ∧ t = .int .i64 (cnt (os.take k) : Nat) ∧ f = .int .i64 (ends (os.take k) - 1 : Nat)) (fun _ _ _ i => n - (intOf i).toNat)
    case atStart => exact ⟨0, Nat.zero_le _, rfl, rfl, rfl, rfl⟩
    case round =>
      obtain ⟨k, hk, rfl, rfl, rfl, rfl⟩ := hrel
      have h1 := sum_le (os.take k) 4294967295 fun o ho => HB.out o (List.mem_of_mem_take ho)
      have h2 := cnt_le (os.take k)
      have h3 := ends_le (os.take k)
      have hlen : (os.take k).length = k := by rw [List.length_take]; have := HN.out; omega
      rw [hlen] at h1 h2 h3
      have hsum : (os.take k).sum ≤ 4294967295000000 := by omega
      by_cases hlt : k < n
      · have hkl : k < os.length := by have := HN.out; omega
        obtain ⟨d, o, rfl, _, _, hc⟩ := HD1.out (by omega)
        have hc0 := hc k hkl
        unfold ucel at hc0
        have HS := Lib.hid (sum_snoc (os.take k) os[k])
        have HC := Lib.hid (cnt_snoc (os.take k) os[k])
        have HE := Lib.hid (ends_snoc (os.take k) os[k])
        rw [← take_snoc' os k hkl] at HS HC HE
        rw [hlen] at HE
        have hob := HB.out os[k] (List.getElem_mem hkl)
        have hki : (k : Int) < (n : Int) := by omega
        clear hc hlen h1
        generalize os[k] = x at *
        generalize (os.take k).sum = S at *
        generalize cnt (os.take k) = C at *
        generalize ends (os.take k) = E at *
        by_cases hx : 0 < x
        · have hxi : (0 : Int) < (x : Int) := by omega
          have hC2 := HC.out
          have hE2 := HE.out
          rw [if_pos hx] at hC2 hE2
          have HC2 := Lib.hid hC2
          have HE2 := Lib.hid hE2
          clear hC2 hE2
          go_wp2_with fail
          go_round
          case rel => exact ⟨k + 1, by omega, by go_num, by rw [HS.out]; go_num, by rw [HC2.out]; go_num, by rw [HE2.out]; rfl⟩
          case measure => simp [intOf]; omega
        · obtain rfl : x = 0 := by omega
          have hC2 := HC.out
          have hE2 := HE.out
          rw [if_neg hx] at hC2 hE2
          have HC2 := Lib.hid hC2
          have HE2 := Lib.hid hE2
          clear hC2 hE2
          go_wp2_with fail
          go_round
          case rel => exact ⟨k + 1, by omega, by go_num, by rw [HS.out]; rfl, by rw [HC2.out]; rfl, by rw [HE2.out]⟩
          case measure => simp [intOf]; omega
      · obtain rfl : k = n := by omega
        have hki : ¬ (k : Int) < (k : Int) := by omega
        have hT : os.take k = os := List.take_of_length_le (by have := HN.out; omega)
        rw [hT] at hsum h2 h3 ⊢
        clear hlen hT h1
        go_wp2_with fail
        refine (ofW_any (c := cap0) HD1.out HN.out (by omega) HB.out hs1 hl).mono ?_
        rintro e w2 (⟨hbad, rfl, hB⟩ | ⟨hgood, v, D, L, rfl, hO, hM, hLl, hLp, hB⟩)
        · have HB2 := Lib.hid (HB1.out.trans (hB.mono hs1))
          rw [HN.out] at hbad
          have HBad := Lib.hid hbad
          clear hB hbad
          generalize cnt os = C at *
          generalize ends os = E at *
          generalize os.sum = S at *
          by_cases q1 : 256 < k
          · have b1 : (256 : Int) < (k : Int) := by omega
            go_wp2_with fail
            go_ret
            exact ⟨rfl, HB2.out⟩
          · have b1 : ¬ (256 : Int) < (k : Int) := by omega
            by_cases q2 : C < 2
            · have b2 : (C : Int) < 2 := by omega
              go_wp2_with fail
              go_ret
              exact ⟨rfl, HB2.out⟩
            · have b2 : ¬ (C : Int) < 2 := by omega
              have b3 : (2147483647 : Int) < (S : Int) := by have := HBad.out; omega
              go_wp2_with fail
              go_ret
              exact ⟨rfl, HB2.out⟩
        · obtain ⟨A, c, rfl, hc, hD⟩ := hO.form
          have hL256 : ∀ x ∈ L, x < 256 := fun x hx => by have := hM.2.2.2.2.2.2 x hx; have := hM.2.2.2.2.2.1; omega
          have hDb := hD.bytes hL256
          have hlb : (byt L).length = L.length := by simp [byt]
          obtain ⟨S8, hS8⟩ : ∃ S8, S8 = str (byt L) := ⟨_, rfl⟩
          have hn8 : nat S8.data.toList = L := by rw [hS8]; exact nat_byt hL256
          have hz8 : S8.size = L.length := by rw [hS8, ← hlb]; rfl
          have hcv := run_str (P := Try.prog) w2 22 Try.underlying22 Try.underlying5 (c := c) (m := L.length) hDb hlb 9 Try.underlying9
          rw [← hS8] at hcv
          rw [HN.out] at hgood
          have HRD := Lib.hid (refDepth_any (w := w2) S8 (by rw [hz8, hLl]; omega))
          rw [hn8] at HRD
          have HM := Lib.hid hM
          have hep := ends_pos (show 0 < cnt os by omega)
          obtain ⟨E, hE⟩ : ∃ E, E = ends os := ⟨_, rfl⟩
          rw [← hE] at hLl hep h3
          rw [hLl] at hcv
          have HL := Lib.hid hLl
          have HP := Lib.hid hLp
          have HD2 := Lib.hid hD
          have HB2 := Lib.hid (HB1.out.trans (hB.mono hs1))
          have HO2 := Lib.hid (HD1.out.below hB hs1)
          have hs2 := HB2.out.size
          have c1 : ¬ (256 : Int) < (k : Int) := by omega
          have c2 : ¬ (cnt os : Int) < 2 := by omega
          have c3 : ¬ (2147483647 : Int) < ((os.sum : Nat) : Int) := by omega
          rw [hLl, ← hE]
          clear hB hO hM hLp hD hDb hlb hS8 hn8 hz8 hL256 hLl hgood hE
          generalize cnt os = C at *
          generalize os.sum = S at *
          have a6 : ((E - 1 : Nat) : Int) + 1 = (E : Int) := by omega
          go_wp2_with fail
          refine HRD.out.mono ?_
          rintro e wb ⟨rfl, ⟨d, hd, rfl⟩ | ⟨hno, -⟩⟩
          case inr => exact absurd HM.out (hno D)
          have hd0 : (d : Int) ≠ 0 := by have := hd.2.2.2.2.1; omega
          have hd1 : ((d : Int) == 0) = false := by rw [beq_eq_false_iff_ne]; exact hd0
          clear hd HRD hcv
          have hmE : E ≤ k := by omega
          go_wp2_with fail
          go_loopg [10] E (fun gh i wx => ∃ j q : Nat, j + gh = E ∧ i = .int .i64 j ∧ wx = w2.drewN q)
          case atStart => exact ⟨0, 0, by omega, rfl, rfl⟩
          case round =>
            obtain ⟨j, q, hj, rfl, rfl⟩ := hrel
            have HJ := Lib.hid hj
            have hjE : j ≤ E := by omega
            clear hj
            by_cases hjl : j < E
            · obtain ⟨g', rfl⟩ : ∃ g', gk = g' + 1 := ⟨gk - 1, by have := HJ.out; omega⟩
              have hjo : j < os.length := by have := HN.out; omega
              have hjp : j < L.length := by have := HL.out; omega
              obtain ⟨d1, o, rfl, _, _, hc1⟩ := HD2.out (by omega)
              obtain ⟨d2, o2, rfl, _, _, hc2⟩ := HO2.out (by omega)
              have e1 := hc1 j hjp
              have e2 := hc2 j hjo
              unfold u8cel at e1
              unfold ucel at e2
              have g1 := HP.out j hjp
              rw [getD_eq L j 0 hjp, getD_eq os j 0 hjo] at g1
              clear hc1 hc2
              generalize L[j] = p at *
              generalize os[j] = x at *
              have hji : (j : Int) < (E : Int) := by omega
              have hjn : (j : Int) < (k : Int) := by omega
              have hj0 : (0 : Int) ≤ (j : Int) := by omega
              by_cases hx : 0 < x
              · have hp0 : 0 < p := g1.2 hx
                have b2 : (0 : Int) < (p : Int) := by omega
                have b3 : (0 : Int) < (x : Int) := by omega
                clear g1
                go_wp2_with fail
                go_quiet (fail)
                go_wp2_with fail
                go_roundg g'
                case rel => exact ⟨j + 1, _, by have := HJ.out; omega, by go_num, rfl⟩
                case measure => omega
              · have hp0 : p = 0 := Classical.byContradiction fun h => hx (g1.1 (by omega))
                obtain rfl : x = 0 := by omega
                subst hp0
                clear g1
                go_wp2_with fail
                go_quiet (fail)
                go_wp2_with fail
                go_roundg g'
                case rel => exact ⟨j + 1, _, by have := HJ.out; omega, by go_num, rfl⟩
                case measure => omega
            · obtain rfl : j = E := by omega
              have hji : ¬ (j : Int) < (j : Int) := by omega
              go_wp2_with fail
              go_ret
              exact ⟨rfl, below_drawn HB2.out _⟩


set_option maxRecDepth 100000 in
theorem lifted (os : Os) (started : os.Started) (H : Type) (enc : TypeId × Value → H) :
    ReturnsInHanded {} Try.checked os 6 .any (Rows.weightsOfSpec.pre6 enc Try.prog Try.f6 Rows.weightsOfRow.domain false) (Rows.weightsOfSpec.post enc Try.prog Try.f6 false true false false) := by
  refine returnsInHanded_of_change (C := Try.checked) own started (by kernel_rfl) Try.func6
    (ChangeSpec.witness6 (enc := enc) (C := Try.checked) false ⟨#[], #[.slice none 0 0], []⟩ 8 (by kernel_rfl) (by kernel_rfl) (by kernel_rfl) (by kernel_rfl)) ?_
  intro W base args ds gs before hval0 hW hcnd _
  have hval : ∀ (j : Nat) t v, Try.f6.params[j]? = some t → args[j]? = some v → Value.okWide Try.prog W .any base t v := hval0
  have hW' := hW
  obtain ⟨p, q, hA0, hV, rfl, hfz, hnd⟩ := hW
  have hA : DataW.TrodAll enc Try.prog W 0 (fun _ => true) true Try.f6.params.toList args.toList ds p := hA0
  rw [Try.params6] at hA hval
  obtain ⟨v0, vs0, d0, ds0, p0, q0, hargs, rfl, rfl, h0, r0⟩ := trodAll_cons hA
  obtain ⟨rfl, rfl, rfl⟩ := trodAll_nil r0
  obtain rfl : args = #[v0] := by cases args; simp_all
  obtain ⟨rfl, rfl⟩ := trodVars_none hV
  obtain ⟨a0, len0, cap0, rfl⟩ := okWide_slice Try.underlying43 (hval 0 43 v0 rfl rfl)
  have k0 := h0
  have lt0 : ∀ x ∈ p0, x.block < W.heap.size := by obtain ⟨m, hm⟩ := k0; exact DataW.trod_lt m _ _ _ hm
  obtain ⟨ns0, rfl, hl0, hm0, hd0, hb0⟩ := u32s_of_trod h0
  clear hA0 hval0
  refine (walk a0 ns0 cap0 W hd0 hl0 (by omega) hb0).mono fun e W' ⟨he, bel⟩ => ?_
  subst he
  exact ⟨_, rfl, _, _, _, [], _, [], hW', trodAll_mk1 (shut_bool Try.underlying4 _), (trodAll_cons_mk (Below.trod laidOut (by kernel_rfl) (of_decide_eq_true (by kernel_rfl)) k0 bel lt0) trodAll_mk0), rfl, bel.frame _, fun h => by cases h⟩

theorem over : Rows.weightsOfRow.holds Try.pinned (OpenSpec.ofChange Rows.weightsOfSpec) :=
  OpenClaim.holds_of_wide 6 Try.f6 rfl rfl rfl rfl rfl rfl rfl ⟨rfl, rfl, rfl, rfl, rfl⟩ rfl rfl rfl rfl rfl (by kernel_rfl) Try.func6 (by kernel_rfl)
    (of_decide_eq_true (by kernel_rfl)) (by unfold Func.isWrapper; first | (rw [if_pos (by decide +kernel)]; kernel_rfl) | (rw [if_neg (by decide +kernel)]; exact ⟨rfl, rfl⟩))
    (fun os started H enc _ => lifted os started H enc)

theorem proved : Rows.WeightsOfSaid := over
end Go.Proofs.Ytafdfjacfodbnaa.weightsOf
