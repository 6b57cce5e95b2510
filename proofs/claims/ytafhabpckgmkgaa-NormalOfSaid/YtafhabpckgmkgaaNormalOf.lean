
/- NormalOf holds: for every slice of numbers and every int the law returns true, and the slice reads behind the call as it read before. No condition. -/
import Derived.Test.YtafhabpckgmkgaaNormArgs
import Derived.Test.YtafhabpckgmkgaaNormRefM
namespace Go.Proofs.Ytafhabpckgmkgaa.normalOf
open Go.ChangeShapes Go.WideShapes Go.ChangeAt Go.RowKit

set_option maxRecDepth 100000 in
set_option maxHeartbeats 4000000 in
theorem walk (a0 : Option Addr) (os : List Nat) (cap0 : Nat) (log : Int) (w : World) (hd : DatE ucel w 0 w.heap.size a0 os) (hl : os.length ≤ cap0) (hm : os.length ≤ maxLen) (hb : ∀ o ∈ os, o ≤ 4294967295)
    (hlog : -9223372036854775808 ≤ log ∧ log ≤ 9223372036854775807) :
    Calls Try.prog 5 #[.slice a0 os.length cap0, .int .i64 log] w fun e w' => e = .returned (.bool true) ∧ Below w.heap.size w w' := by
  unfold maxLen at hm
  obtain ⟨hlo1, hlo2⟩ := hlog
  have HD := Lib.hid hd
  have HB := Lib.hid hb
  obtain ⟨n, hn⟩ : ∃ n, n = os.length := ⟨_, rfl⟩
  rw [← hn] at hl hm ⊢
  have HN := Lib.hid hn.symm
  clear hd hb hn
  by_cases h1 : 300 < n
  · have h1' : (300 : Int) < (n : Int) := by omega
    go_enter Try.func5, Try.ntmps5
    go_wp2_with fail
    refine (awake_any _).mono ?_
    rintro e w1 ⟨rfl, hB⟩
    have HB1 := Lib.hid hB
    clear hB
    go_wp2_with fail
    go_ret
    exact ⟨rfl, HB1.out⟩
  · have h1' : ¬ (300 : Int) < (n : Int) := by omega
    go_enter Try.func5, Try.ntmps5
    go_wp2_with fail
    refine (awake_any _).mono ?_
    rintro e w1 ⟨rfl, hB⟩
    have HB1 := Lib.hid hB
    have hs1 := hB.size
    have HD1 := Lib.hid (HD.out.below hB (Nat.le_refl _))
    clear hB
    go_wp2_with fail
    go_loop [6, 7, 8, 9] (fun s t f i => ∃ k : Nat, k ≤ n ∧ i = .int .i64 k ∧ s = .int .u64 ((os.take k).sum : Nat) ∧ t = .int .i64 (cnt (os.take k) : Nat) ∧ f = .int .i64 (ends (os.take k) - 1 : Nat)) (fun _ _ _ i => n - (intOf i).toNat)
    case atStart => exact ⟨0, Nat.zero_le _, rfl, rfl, rfl, rfl⟩
    case round =>
      obtain ⟨k, hk, rfl, rfl, rfl, rfl⟩ := hrel
      have h1 := sum_le (os.take k) 4294967295 fun o ho => HB.out o (List.mem_of_mem_take ho)
      have h2 := cnt_le (os.take k)
      have h3 := ends_le (os.take k)
      have hlen : (os.take k).length = k := by rw [List.length_take]; have := HN.out; omega
      rw [hlen] at h1 h2 h3
      have hsum : (os.take k).sum ≤ 4294967295000000 := by omega
      by_cases hlt : k < n
      · have hkl : k < os.length := by have := HN.out; omega
        obtain ⟨d, o, rfl, _, _, hc⟩ := HD1.out (by omega)
        have hc0 := hc k hkl
        unfold ucel at hc0
        have HS := Lib.hid (sum_snoc (os.take k) os[k])
        have HC := Lib.hid (cnt_snoc (os.take k) os[k])
        have HE := Lib.hid (ends_snoc (os.take k) os[k])
        rw [← take_snoc' os k hkl] at HS HC HE
        rw [hlen] at HE
        have hob := HB.out os[k] (List.getElem_mem hkl)
        have hki : (k : Int) < (n : Int) := by omega
        clear hc hlen h1
        generalize os[k] = x at *
        generalize (os.take k).sum = S at *
        generalize cnt (os.take k) = C at *
        generalize ends (os.take k) = E at *
        by_cases hx : 0 < x
        · have hxi : (0 : Int) < (x : Int) := by omega
          have hC2 := HC.out
          have hE2 := HE.out
          rw [if_pos hx] at hC2 hE2
          have HC2 := Lib.hid hC2
          have HE2 := Lib.hid hE2
          clear hC2 hE2
          go_wp2_with fail
          go_round
          case rel => exact ⟨k + 1, by omega, by go_num, by rw [HS.out]; go_num, by rw [HC2.out]; go_num, by rw [HE2.out]; rfl⟩
          case measure => simp [intOf]; omega
        · obtain rfl : x = 0 := by omega
          have hC2 := HC.out
          have hE2 := HE.out
          rw [if_neg hx] at hC2 hE2
          have HC2 := Lib.hid hC2
          have HE2 := Lib.hid hE2
          clear hC2 hE2
          go_wp2_with fail
          go_round
          case rel => exact ⟨k + 1, by omega, by go_num, by rw [HS.out]; rfl, by rw [HC2.out]; rfl, by rw [HE2.out]⟩
          case measure => simp [intOf]; omega
      · obtain rfl : k = n := by omega
        have hki : ¬ (k : Int) < (k : Int) := by omega
        have hT : os.take k = os := List.take_of_length_le (by have := HN.out; omega)
        rw [hT] at hsum h2 h3 ⊢
        clear hlen hT h1
        cases hmo : mayOf os log with
        | false =>
          have HMo := Lib.hid hmo
          have HNo : Hid (¬ (5 ≤ log ∧ log ≤ 15 ∧ k ≤ 256 ∧ 2 ≤ cnt os ∧ cnt os ≤ 2 ^ log.toNat ∧ os.sum ≤ 2147483647)) := by
            intro q
            rw [← HN.out] at q
            rw [mayOf_iff.2 q] at hmo
            cases hmo
          clear hmo
          generalize cnt os = C at *
          generalize ends os = E at *
          generalize os.sum = S at *
          by_cases h5 : log < 5
          · have a1 : decide (5 ≤ log) = false := by simp; omega
            go_wp2_with fail
            refine (of_any (c := cap0) log HD1.out hs1 HN.out (by omega) HB.out hl).mono ?_
            rintro e w2 ⟨hB, hor⟩
            obtain rfl : e = .returned (.tuple #[.agg #[.int .i64 0, .slice none 0 0], .int .i64 1]) := by
              rcases hor with ⟨g, _⟩ | ⟨_, g⟩
              · rw [HMo.out] at g; cases g
              · exact g
            have HB2 := Lib.hid (HB1.out.trans (hB.mono hs1))
            have hs2 := HB2.out.size
            clear hB hor
            go_wp2_with fail
            go_ret
            exact ⟨rfl, HB2.out.alloc hs2 _⟩
          · have a1 : decide (5 ≤ log) = true := by simp; omega
            by_cases h15 : 15 < log
            · have a15 : decide (log ≤ 15) = false := by simp; omega
              go_wp2_with fail
              refine (of_any (c := cap0) log HD1.out hs1 HN.out (by omega) HB.out hl).mono ?_
              rintro e w2 ⟨hB, hor⟩
              obtain rfl : e = .returned (.tuple #[.agg #[.int .i64 0, .slice none 0 0], .int .i64 1]) := by
                rcases hor with ⟨g, _⟩ | ⟨_, g⟩
                · rw [HMo.out] at g; cases g
                · exact g
              have HB2 := Lib.hid (HB1.out.trans (hB.mono hs1))
              have hs2 := HB2.out.size
              clear hB hor
              go_wp2_with fail
              go_ret
              exact ⟨rfl, HB2.out.alloc hs2 _⟩
            · have a15 : decide (log ≤ 15) = true := by simp; omega
              obtain ⟨l, rfl⟩ := Int.eq_ofNat_of_zero_le (show 0 ≤ log by omega)
              by_cases h256 : 256 < k
              · have a2 : decide ((k : Int) ≤ 256) = false := by simp; omega
                go_wp2_with fail
                refine (of_any (c := cap0) (l : Int) HD1.out hs1 HN.out (by omega) HB.out hl).mono ?_
                rintro e w2 ⟨hB, hor⟩
                obtain rfl : e = .returned (.tuple #[.agg #[.int .i64 0, .slice none 0 0], .int .i64 1]) := by
                  rcases hor with ⟨g, _⟩ | ⟨_, g⟩
                  · rw [HMo.out] at g; cases g
                  · exact g
                have HB2 := Lib.hid (HB1.out.trans (hB.mono hs1))
                have hs2 := HB2.out.size
                clear hB hor
                go_wp2_with fail
                go_ret
                exact ⟨rfl, HB2.out.alloc hs2 _⟩
              · have a2 : decide ((k : Int) ≤ 256) = true := by simp; omega
                by_cases hc2 : C < 2
                · have a3 : decide ((2 : Int) ≤ (C : Int)) = false := by simp; omega
                  go_wp2_with fail
                  refine (of_any (c := cap0) (l : Int) HD1.out hs1 HN.out (by omega) HB.out hl).mono ?_
                  rintro e w2 ⟨hB, hor⟩
                  obtain rfl : e = .returned (.tuple #[.agg #[.int .i64 0, .slice none 0 0], .int .i64 1]) := by
                    rcases hor with ⟨g, _⟩ | ⟨_, g⟩
                    · rw [HMo.out] at g; cases g
                    · exact g
                  have HB2 := Lib.hid (HB1.out.trans (hB.mono hs1))
                  have hs2 := HB2.out.size
                  clear hB hor
                  go_wp2_with fail
                  go_ret
                  exact ⟨rfl, HB2.out.alloc hs2 _⟩
                · have a3 : decide ((2 : Int) ≤ (C : Int)) = true := by simp; omega
                  obtain ⟨P, hP⟩ : ∃ P : Nat, P = 2 ^ l := ⟨_, rfl⟩
                  have HPw : Hid (∀ wz, Calls Try.prog 17 #[.int .i64 (l : Int)] wz fun e w' => e = .returned (.int .i64 (P : Int)) ∧ wz = w') := fun wz => by rw [hP]; exact refPower_any l wz (by omega)
                  have HNo2 : Hid (¬ (C ≤ P ∧ S ≤ 2147483647)) := by
                    rintro ⟨g1, g2⟩
                    exact HNo.out ⟨by omega, by omega, by omega, by omega, by rw [show ((l : Nat) : Int).toNat = l by omega, ← hP]; exact g1, g2⟩
                  clear hP
                  by_cases hcp : P < C
                  · have a4 : decide ((C : Int) ≤ (P : Int)) = false := by simp; omega
                    go_wp2_with (go_at_call 17; refine (HPw.out _).mono ?_; rintro e w' ⟨rfl, rfl⟩)
                    refine (of_any (c := cap0) (l : Int) HD1.out hs1 HN.out (by omega) HB.out hl).mono ?_
                    rintro e w2 ⟨hB, hor⟩
                    obtain rfl : e = .returned (.tuple #[.agg #[.int .i64 0, .slice none 0 0], .int .i64 1]) := by
                      rcases hor with ⟨g, _⟩ | ⟨_, g⟩
                      · rw [HMo.out] at g; cases g
                      · exact g
                    have HB2 := Lib.hid (HB1.out.trans (hB.mono hs1))
                    have hs2 := HB2.out.size
                    clear hB hor
                    go_wp2_with fail
                    go_ret
                    exact ⟨rfl, HB2.out.alloc hs2 _⟩
                  · have a4 : decide ((C : Int) ≤ (P : Int)) = true := by simp; omega
                    have a5 : decide ((S : Int) ≤ 2147483647) = false := by have := HNo2.out; simp; omega
                    go_wp2_with (go_at_call 17; refine (HPw.out _).mono ?_; rintro e w' ⟨rfl, rfl⟩)
                    refine (of_any (c := cap0) (l : Int) HD1.out hs1 HN.out (by omega) HB.out hl).mono ?_
                    rintro e w2 ⟨hB, hor⟩
                    obtain rfl : e = .returned (.tuple #[.agg #[.int .i64 0, .slice none 0 0], .int .i64 1]) := by
                      rcases hor with ⟨g, _⟩ | ⟨_, g⟩
                      · rw [HMo.out] at g; cases g
                      · exact g
                    have HB2 := Lib.hid (HB1.out.trans (hB.mono hs1))
                    have hs2 := HB2.out.size
                    clear hB hor
                    go_wp2_with fail
                    go_ret
                    exact ⟨rfl, HB2.out.alloc hs2 _⟩
        | true =>
          obtain ⟨l1, l2, q1, q2, q3, q4⟩ := mayOf_iff.1 hmo
          have HMo := Lib.hid hmo
          rw [HN.out] at q1
          obtain ⟨l, rfl⟩ := Int.eq_ofNat_of_zero_le (show 0 ≤ log by omega)
          rw [show ((l : Nat) : Int).toNat = l by omega] at q3
          have hep := ends_pos (show 0 < cnt os by omega)
          have HSpec := Lib.hid (ends_spec os)
          clear hmo
          obtain ⟨P, hP⟩ : ∃ P : Nat, P = 2 ^ l := ⟨_, rfl⟩
          have hp : 2 ^ l ≤ 2 ^ 15 := Nat.pow_le_pow_right (by omega) (by omega)
          have HPw : Hid (∀ wz, Calls Try.prog 17 #[.int .i64 (l : Int)] wz fun e w' => e = .returned (.int .i64 (P : Int)) ∧ wz = w') := fun wz => by rw [hP]; exact refPower_any l wz (by omega)
          rw [← hP] at q3 hp
          clear hP
          obtain ⟨E, hE⟩ : ∃ E, E = ends os := ⟨_, rfl⟩
          rw [← hE] at hep h3 HSpec ⊢
          have HE := Lib.hid hE
          clear hE
          generalize cnt os = C at *
          generalize os.sum = S at *
          have a2 : (k : Int) ≤ 256 := by omega
          have a3 : (2 : Int) ≤ (C : Int) := by omega
          have a4 : (C : Int) ≤ (P : Int) := by omega
          have a5 : (S : Int) ≤ 2147483647 := by omega
          have a6 : ((E - 1 : Nat) : Int) + 1 = (E : Int) := by omega
          go_wp2_with (go_at_call 17; refine (HPw.out _).mono ?_; rintro e w' ⟨rfl, rfl⟩)
          refine (of_any (c := cap0) (l : Int) HD1.out hs1 HN.out (by omega) HB.out hl).mono ?_
          rintro e w2 ⟨hB, hor⟩
          obtain ⟨ps, v, rfl, ho, hmay, hlen, hgood⟩ : ∃ ps v, e = .returned (.tuple #[.agg #[.int .i64 (l : Int), v], .int .i64 0]) ∧ OwE icel w2 3 w1.heap.size v ps ∧ mayB (l : Int) ps = true ∧ ps.length = E ∧ Good (os.take E) ps := by
            rcases hor with ⟨_, ps, v, g1, g2, g3, g4, g5⟩ | ⟨g, _⟩
            · exact ⟨ps, v, g1, g2, g3, by rw [HE.out]; exact g4, by rw [HE.out]; exact g5⟩
            · rw [HMo.out] at g; cases g
          obtain ⟨Ap, cp, rfl, hcp, _⟩ := ho.form
          rw [hlen] at ho hcp ⊢
          have HM := Lib.hid hmay
          have HG := Lib.hid hgood
          have HO := Lib.hid ho
          have HL := Lib.hid hlen
          have HB2 := Lib.hid (HB1.out.trans (hB.mono hs1))
          have HD2 := Lib.hid (HD1.out.below hB (by omega))
          have hs2 := HB2.out.size
          have hE256 : E ≤ 256 := by omega
          have hmE : E ≤ maxLen := by unfold maxLen; omega
          have HX := Lib.hid (Box.new w2 26 #[.int .i64 (l : Int), .slice Ap E cp])
          have HO2 := Lib.hid (HO.out.alloc (.cells #[.int .i64 (l : Int), .slice Ap E cp] 26))
          have HD3 := Lib.hid (HD2.out.alloc hs2 (.cells #[.int .i64 (l : Int), .slice Ap E cp] 26))
          have HB3 := Lib.hid (HB2.out.alloc hs2 (.cells #[.int .i64 (l : Int), .slice Ap E cp] 26))
          clear hB hor ho hmay hlen hgood HO HD2
          go_wp2_with (go_at_call 12; refine (modelOf_any _ _ _ _ _).mono ?_; rintro e' wa ⟨rfl, hB⟩; have HBa := Lib.hid hB; clear hB)
          have hsa := HBa.out.size
          refine (refMay_any (c := cp) (l : Int) (HO2.out.dat.below HBa.out (Nat.le_refl _)) HL.out hcp hmE hsa (may_bounds HM.out)).mono ?_
          rw [HM.out]
          rintro e wb ⟨rfl, hB⟩
          have HBb := Lib.hid (HBa.out.trans (hB.mono hsa))
          have hsb := HBb.out.size
          have HXb := Lib.hid (HX.out.below HBb.out (by simp))
          have HOb := Lib.hid (HO2.out.below HBb.out (Nat.le_refl _))
          have HDb := Lib.hid (HD3.out.below HBb.out (by simp; omega))
          have HBw := Lib.hid (HB3.out.trans (HBb.out.mono (by simp; omega)))
          clear hB
          obtain ⟨c0, c1, f0, f1⟩ := box2 HXb.out
          go_wp2_with fail
          go_loopg [13] E (fun gh i wx => ∃ j q : Nat, j + gh = E ∧ i = .int .i64 j ∧ wx = wb.drewN q)
          case atStart => exact ⟨0, 0, by omega, rfl, rfl⟩
          case round =>
            obtain ⟨j, q, hj, rfl, rfl⟩ := hrel
            have HJ := Lib.hid hj
            have hjE : j ≤ E := by omega
            clear hj
            by_cases hjl : j < E
            · obtain ⟨g', rfl⟩ : ∃ g', gk = g' + 1 := ⟨gk - 1, by have := HJ.out; omega⟩
              have hjo : j < os.length := by have := HN.out; omega
              have hjp : j < ps.length := by have := HL.out; omega
              obtain ⟨d, o, rfl, _, _, hc⟩ := HOb.out.dat (by omega)
              obtain ⟨d2, o2, rfl, _, _, hc2⟩ := HDb.out (by omega)
              have e1 := hc j hjp
              have e2 := hc2 j hjo
              unfold icel at e1
              unfold ucel at e2
              have g1 := (HG.out.get j).2
              have gt : (os.take E).getD j 0 = os[j] := by
                rw [List.getD_eq_getElem?_getD, List.getElem?_take, if_pos hjl, List.getElem?_eq_getElem hjo]
                rfl
              rw [getD_eq ps j 0 hjp, gt] at g1
              clear hc hc2 gt
              generalize ps[j] = p at *
              generalize os[j] = x at *
              have hji : (j : Int) < (E : Int) := by omega
              have hjn : (j : Int) < (k : Int) := by omega
              have hj0 : (0 : Int) ≤ (j : Int) := by omega
              by_cases hx : 0 < x
              · have hp0 : p ≠ 0 := g1.2 hx
                have b1 : (p == 0) = false := by rw [beq_eq_false_iff_ne]; exact hp0
                have b2 : (p != 0) = true := by simp [hp0]
                have b3 : (0 : Int) < (x : Int) := by omega
                clear g1
                go_wp2_with fail
                go_quiet (fail)
                go_wp2_with fail
                go_roundg g'
                case rel => exact ⟨j + 1, _, by have := HJ.out; omega, by go_num, rfl⟩
                case measure => omega
              · have hp0 : p = 0 := Classical.byContradiction fun h => hx (g1.1 h)
                obtain rfl : x = 0 := by omega
                subst hp0
                clear g1
                go_wp2_with fail
                go_quiet (fail)
                go_wp2_with fail
                go_roundg g'
                case rel => exact ⟨j + 1, _, by have := HJ.out; omega, by go_num, rfl⟩
                case measure => omega
            · obtain rfl : j = E := by omega
              have hji : ¬ (j : Int) < (j : Int) := by omega
              go_wp2_with fail
              go_ret
              exact ⟨rfl, below_drawn HBw.out _⟩


set_option maxRecDepth 100000 in
theorem lifted (os : Os) (started : os.Started) (H : Type) (enc : TypeId × Value → H) :
    ReturnsInHanded {} Try.checked os 5 .any (Rows.normalOfSpec.pre6 enc Try.prog Try.f5 Rows.normalOfRow.domain false) (Rows.normalOfSpec.post enc Try.prog Try.f5 false true false false) := by
  refine returnsInHanded_of_change (C := Try.checked) own started (by kernel_rfl) Try.func5
    (ChangeSpec.witness6 (enc := enc) (C := Try.checked) false ⟨#[], #[.slice none 0 0, .int .i64 0], []⟩ 8 (by kernel_rfl) (by kernel_rfl) (by kernel_rfl) (by kernel_rfl)) ?_
  intro W base args ds gs before hval0 hW hcnd _
  have hval : ∀ (j : Nat) t v, Try.f5.params[j]? = some t → args[j]? = some v → Value.okWide Try.prog W .any base t v := hval0
  have hW' := hW
  obtain ⟨p, q, hA0, hV, rfl, hfz, hnd⟩ := hW
  have hA : DataW.TrodAll enc Try.prog W 0 (fun _ => true) true Try.f5.params.toList args.toList ds p := hA0
  rw [Try.params5] at hA hval
  obtain ⟨v0, vs0, d0, ds0, p0, q0, hargs, rfl, rfl, h0, r0⟩ := trodAll_cons hA
  obtain ⟨v1, vs1, d1, ds1, p1, q1, rfl, rfl, rfl, h1, r1⟩ := trodAll_cons r0
  obtain ⟨rfl, rfl, rfl⟩ := trodAll_nil r1
  obtain rfl : args = #[v0, v1] := by cases args; simp_all
  obtain ⟨rfl, rfl⟩ := trodVars_none hV
  obtain ⟨a0, len0, cap0, rfl⟩ := okWide_slice Try.underlying42 (hval 0 42 v0 rfl rfl)
  have k0 := h0
  have lt0 : ∀ x ∈ p0, x.block < W.heap.size := by obtain ⟨m, hm⟩ := k0; exact DataW.trod_lt m _ _ _ hm
  obtain ⟨ns0, rfl, hl0, hm0, hd0, hb0⟩ := u32s_of_trod h0
  obtain ⟨n1, rfl, rfl, rfl, w1⟩ := open_int Try.underlying3 (hval 1 3 v1 rfl rfl) h1
  clear hA0 hval0
  refine (walk a0 ns0 cap0 n1 W hd0 hl0 (by omega) hb0 (int_bounds w1)).mono fun e W' ⟨he, bel⟩ => ?_
  subst he
  exact ⟨_, rfl, _, _, _, [], _, [], hW', trodAll_mk1 (shut_bool Try.underlying4 _), (trodAll_cons_mk (Below.trod laidOut (by kernel_rfl) (of_decide_eq_true (by kernel_rfl)) k0 bel lt0) (trodAll_cons_mk (shut_int Try.underlying3 w1) trodAll_mk0)), rfl, bel.frame _, fun h => by cases h⟩

theorem over : Rows.normalOfRow.holds Try.pinned (OpenSpec.ofChange Rows.normalOfSpec) :=
  OpenClaim.holds_of_wide 5 Try.f5 rfl rfl rfl rfl rfl rfl rfl ⟨rfl, rfl, rfl, rfl, rfl⟩ rfl rfl rfl rfl rfl (by kernel_rfl) Try.func5 (by kernel_rfl)
    (of_decide_eq_true (by kernel_rfl)) (by unfold Func.isWrapper; first | (rw [if_pos (by decide +kernel)]; kernel_rfl) | (rw [if_neg (by decide +kernel)]; exact ⟨rfl, rfl⟩))
    (fun os started H enc _ => lifted os started H enc)

theorem proved : Rows.NormalOfSaid := over
end Go.Proofs.Ytafhabpckgmkgaa.normalOf
