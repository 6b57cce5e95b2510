
/- WeightsFree holds: for every slice of bytes and every two bytes the law returns true, and the slice reads behind the call as it read before. No condition. -/
import Derived.Test.YtafdfjacfodbnaaWtAwake
import Derived.Test.YtafdfjacfodbnaaWtRef
import Derived.Test.YtafdfjacfodbnaaWtHalves
import Derived.Test.YtafdfjacfodbnaaPileC
namespace Go.Proofs.Ytafdfjacfodbnaa.weightsFree
open Go.ChangeShapes Go.WideShapes Go.ChangeAt Go.RowKit

theorem nat_le {xs : List UInt8} : ∀ x ∈ nat xs, x ≤ 255 := by
  intro x hx
  obtain ⟨y, _, rfl⟩ := List.mem_map.1 hx
  have := y.toNat_lt
  omega
theorem cell2 {w : World} {u base d c n D : Nat} {l : List Nat} (h : OwR 2 ccell w u base (.slice (some ⟨d, 0, none⟩) n c) (codesOf D l)) (S : Nat) (hS : S < l.length) :
    w.cell? ⟨d, S * 2, none⟩ = some (.int .i64 (bitsW D l S : Int)) ∧ w.cell? ⟨d, S * 2 + 1, none⟩ = some (.int .i64 (codeW l S : Int)) := by
  have hl : (codesOf D l).length = l.length := by simp [codesOf]
  have e : (codesOf D l)[S]'(by omega) = (bitsW D l S, codeW l S) := by simp [codesOf]
  exact ⟨(h.cellAt ccell_len S 0 (by omega) (by decide) _ (by rw [e]; rfl)).1, (h.cellAt ccell_len S 1 (by omega) (by decide) _ (by rw [e]; rfl)).1⟩

set_option maxRecDepth 100000 in
set_option maxHeartbeats 4000000 in
theorem walk (a0 : Option Addr) (xs : List UInt8) (cap0 : Nat) (ax bx : Int) (w : World) (hd : Dat false w 0 w.heap.size a0 xs) (hm : xs.length ≤ maxLen) (hax : 0 ≤ ax ∧ ax ≤ 255) (hbx : 0 ≤ bx ∧ bx ≤ 255) :
    Calls Try.prog 7 #[.slice a0 xs.length cap0, .int .u8 ax, .int .u8 bx] w fun e w' => e = .returned (.bool true) ∧ Below w.heap.size w w' := by
  unfold maxLen at hm
  obtain ⟨A, rfl⟩ := Int.eq_ofNat_of_zero_le hax.1
  obtain ⟨B, rfl⟩ := Int.eq_ofNat_of_zero_le hbx.1
  have hA : A ≤ 255 := by omega
  have hB : B ≤ 255 := by omega
  obtain ⟨n, hn⟩ : ∃ n, n = xs.length := ⟨_, rfl⟩
  rw [← hn] at hm ⊢
  have HN := Lib.hid hn.symm
  have HD := Lib.hid hd
  clear hd hn hax hbx
  by_cases h1 : 300 < n
  · have h1' : (300 : Int) < (n : Int) := by omega
    go_enter Try.func7, Try.ntmps7
    go_wp2_with fail
    refine (wts_awake _).mono ?_
    rintro e w1 ⟨rfl, hB⟩
    have HB1 := Lib.hid hB
    clear hB
    go_wp2_with fail
    go_ret
    exact ⟨rfl, HB1.out⟩
  · have h1' : ¬ (300 : Int) < (n : Int) := by omega
    go_enter Try.func7, Try.ntmps7
    go_wp2_with fail
    refine (wts_awake _).mono ?_
    rintro e w1 ⟨rfl, hB1⟩
    have HB1 := Lib.hid hB1
    have hs1 := hB1.size
    have HD1 := Lib.hid (HD.out.below hB1 (Nat.le_refl _))
    have HL1 : Hid (DatE u8cel w1 0 w.heap.size a0 (nat xs)) := HD1.out.nats
    clear hB1
    have hln : (nat xs).length = n := by rw [nat_len]; exact HN.out
    go_wp2_with fail
    refine (codes_any (c := cap0) HL1.out hln (by omega) nat_le hs1).mono ?_
    rintro e w2 ⟨hB2, hor⟩
    have HB2 := Lib.hid (HB1.out.trans (hB2.mono hs1))
    have HD2 := Lib.hid (HD1.out.below hB2 hs1)
    have HL2 := Lib.hid (HL1.out.below hB2 hs1)
    have hs2 := HB2.out.size
    obtain ⟨S8, hS8⟩ : ∃ S8, S8 = str xs := ⟨_, rfl⟩
    have hn8 : S8.data.toList = xs := by rw [hS8]; rfl
    have hz8 : S8.size = n := by rw [hS8, ← HN.out]; rfl
    have hcv := run_str (P := Try.prog) w2 22 Try.underlying22 Try.underlying5 (c := cap0) (m := n) HD2.out HN.out 9 Try.underlying9
    rw [← hS8] at hcv
    have HRD := Lib.hid (refDepth_any (w := w2) S8 (by rw [hz8]; omega))
    rw [hn8] at HRD
    clear hB2 hS8 hn8 hz8 HL1 HD1
    rcases hor with ⟨d, v, hM, rfl, hO⟩ | ⟨hno, rfl⟩
    case inr =>
      have HNo := Lib.hid hno
      clear hno hln
      go_wp2_with fail
      refine HRD.out.mono ?_
      rintro e wb ⟨rfl, ⟨d, hd, rfl⟩ | ⟨-, rfl⟩⟩
      · exact absurd hd (HNo.out d)
      · clear hcv
        go_wp2_with fail
        go_ret
        exact ⟨rfl, HB2.out⟩
    have h2l := hM.1
    rw [hln] at h2l
    have hcl : (codesOf d (nat xs)).length = n := by simp [codesOf, hln]
    obtain ⟨g, c, rfl, hg1, hg2, hgc⟩ := hO.place (by omega)
    rw [hcl] at hgc hO ⊢
    have HM := Lib.hid hM
    have HO := Lib.hid hO
    have HLn := Lib.hid hln
    obtain ⟨SA, hSA⟩ : ∃ S, S = A % n := ⟨_, rfl⟩
    obtain ⟨SB, hSB⟩ : ∃ S, S = B % n := ⟨_, rfl⟩
    have hSAn : SA < n := by rw [hSA]; exact Nat.mod_lt _ (by omega)
    have hSBn : SB < n := by rw [hSB]; exact Nat.mod_lt _ (by omega)
    have hSAi : (A : Int) % (n : Int) = (SA : Int) := by rw [hSA]; simp
    have hSBi : (B : Int) % (n : Int) = (SB : Int) := by rw [hSB]; simp
    have wA : IntKind.i64.wrap (A : Int) = (A : Int) := IntWalk.i64_in _ (by omega)
    have wB : IntKind.i64.wrap (B : Int) = (B : Int) := IntWalk.i64_in _ (by omega)
    have hn1 : (1 : Int) ≤ (n : Int) := by omega
    clear hM hO hcl hln hSA hSB
    obtain ⟨ka0, ka1⟩ := cell2 HO.out SA (by rw [HLn.out]; exact hSAn)
    obtain ⟨kb0, kb1⟩ := cell2 HO.out SB (by rw [HLn.out]; exact hSBn)
    obtain ⟨q, o, rfl, _, hq, hx⟩ := HL2.out (by rw [HLn.out]; omega)
    have kl := hx SA (by rw [HLn.out]; exact hSAn)
    unfold u8cel at kl
    have HLT := Lib.hid (codeW_lt (s := SA) HM.out (by rw [HLn.out]; exact hSAn))
    have hgA : (nat xs).getD SA 0 = (nat xs)[SA]'(by rw [HLn.out]; exact hSAn) := getD_eq _ _ _ _
    have hLA : (nat xs).getD SA 0 ≤ d := by rw [hgA]; exact HM.out.2.2.2.2.2.2 _ (List.getElem_mem _)
    have hd11 : d ≤ 11 := HM.out.2.2.2.2.2.1
    have hd1 : 1 ≤ d := HM.out.2.2.2.2.1
    have hXB : bitsW d (nat xs) SA = if (nat xs).getD SA 0 = 0 then 0 else d + 1 - (nat xs).getD SA 0 := rfl
    have hYB : bitsW d (nat xs) SB = if (nat xs).getD SB 0 = 0 then 0 else d + 1 - (nat xs).getD SB 0 := rfl
    have HFr := Lib.hid (codeW_free (s := SA) (t := SB) HM.out (by rw [HLn.out]; exact hSAn) (by rw [HLn.out]; exact hSBn))
    have hcA : (nat xs).getD SA 0 = 0 → codeW (nat xs) SA = 0 := fun h => if_pos h
    have hcB : codeW (nat xs) SB < 2 ^ bitsW d (nat xs) SB := codeW_lt HM.out (by rw [HLn.out]; exact hSBn)
    rw [← hgA] at kl
    have HHa := Lib.hid hgA
    clear hgA hx
    have HXB := Lib.hid hXB
    have HYB := Lib.hid hYB
    clear hXB hYB
    generalize codeW (nat xs) SA = CX at *
    generalize codeW (nat xs) SB = CY at *
    generalize bitsW d (nat xs) SA = X at *
    generalize bitsW d (nat xs) SB = Y at *
    generalize (nat xs).getD SA 0 = LA at *
    generalize (nat xs).getD SB 0 = LB at *
    have hkl := (World.cell?_of_block (a := ⟨q, o + SA, none⟩) (Below.heap_alloc w2 (.cells #[.int .i64 (X : Int), .int .i64 (CX : Int)] 36) q (by omega))).trans kl
    go_wp2_with fail
    refine HRD.out.mono ?_
    rintro e wb ⟨rfl, ⟨d', hd', rfl⟩ | ⟨hno, -⟩⟩
    case inr => exact absurd HM.out (hno d)
    obtain rfl : d' = d := may_depth hd' HM.out.2.2.2.1
    have hdi : ((d' : Int) == 0) = false := by rw [beq_eq_false_iff_ne]; omega
    clear hd' hcv HRD
    by_cases hla : LA = 0
    · have hXB := HXB.out
      rw [if_pos hla] at hXB
      subst hXB hla
      obtain rfl := hcA rfl
      go_wp2_with fail
      have b1 := Box.new w2 36 #[.int .i64 0, .int .i64 0]
      have b2 := Box.new (w2.alloc (.cells #[.int .i64 0, .int .i64 0] 36)) 36 #[.int .i64 (Y : Int), .int .i64 (CY : Int)]
      obtain ⟨t0, t1, _, _⟩ := box2 (b1.alloc (.cells #[.int .i64 (Y : Int), .int .i64 (CY : Int)] 36))
      obtain ⟨t2, t3, _, _⟩ := box2 b2
      have t4 := (World.cell?_of_block (a := ⟨q, o + SA, none⟩) (Below.heap_alloc (w2.alloc (.cells #[.int .i64 0, .int .i64 0] 36)) (.cells #[.int .i64 (Y : Int), .int .i64 (CY : Int)] 36) q (by simp; omega))).trans hkl
      have HB4 := Lib.hid ((HB2.out.alloc hs2 (.cells #[.int .i64 0, .int .i64 0] 36)).alloc (by simp; omega) (.cells #[.int .i64 (Y : Int), .int .i64 (CY : Int)] 36))
      clear b1 b2 hkl ka0 ka1 kb0 kb1 kl
      rw [World.size_alloc] at t2 t3
      rw [show ((0 : Nat) : Int) = 0 from rfl] at t4
      generalize (w2.alloc (.cells #[.int .i64 0, .int .i64 0] 36)).alloc (.cells #[.int .i64 (Y : Int), .int .i64 (CY : Int)] 36) = W4 at *
      by_cases hab : SA = SB
      · subst hab
        go_quiet (fail)
        go_wp2_with fail
        go_quiet (fail)
        go_wp2_with fail
        go_ret
        exact ⟨rfl, below_drawn HB4.out _⟩
      · have hab1 : ((SA : Int) == (SB : Int)) = false := by rw [beq_eq_false_iff_ne]; omega
        go_quiet (fail)
        go_wp2_with fail
        go_quiet (fail)
        go_wp2_with fail
        go_ret
        exact ⟨rfl, below_drawn HB4.out _⟩
    · have hXB := HXB.out
      rw [if_neg hla] at hXB
      have hX1 : 1 ≤ X := by omega
      have hX11 : X ≤ 11 := by omega
      have bX : ((X : Int) == 0) = false := by rw [beq_eq_false_iff_ne]; omega
      have bX2 : ((X : Int) != 0) = true := by rw [bne_iff_ne]; omega
      have bC : ¬ (CX : Int) < 0 := by omega
      have bD : ¬ (d' : Int) < (X : Int) := by omega
      obtain ⟨P, hP⟩ : ∃ P, P = 2 ^ X := ⟨_, rfl⟩
      have hPl : P ≤ 2 ^ 11 := by rw [hP]; exact Nat.pow_le_pow_right (by decide) hX11
      have hPC : CX < P := by rw [hP]; exact HLT.out
      have bP : ¬ (P : Int) ≤ (CX : Int) := by omega
      have wX : IntKind.u64.wrap (X : Int) = (X : Int) := by rw [IntKind.wrap_u64]; omega
      have hPi : ((2 ^ X : Nat) : Int) = (P : Int) := by rw [← hP]
      have sP : IntKind.i64.wrap ((2 : Int) ^ X) = (P : Int) := by
        have e : (2 : Int) ^ X = (P : Int) := by rw [← hPi]; simp
        rw [e]
        exact IntWalk.i64_in _ (by omega)
      have sM : min X 64 = X := by omega
      have sM2 : ¬ 64 ≤ X := by omega
      have HX := Lib.hid hXB
      clear hPi hPl
      have HP := Lib.hid hP
      clear hXB hP
      clear hcA hcB hLA
      go_wp2_with fail
      have hLi : ((LA : Int) == 0) = false := by rw [beq_eq_false_iff_ne]; omega
      have b1 := Box.new w2 36 #[.int .i64 (X : Int), .int .i64 (CX : Int)]
      have b2 := Box.new (w2.alloc (.cells #[.int .i64 (X : Int), .int .i64 (CX : Int)] 36)) 36 #[.int .i64 (Y : Int), .int .i64 (CY : Int)]
      obtain ⟨t0, t1, _, _⟩ := box2 (b1.alloc (.cells #[.int .i64 (Y : Int), .int .i64 (CY : Int)] 36))
      obtain ⟨t2, t3, _, _⟩ := box2 b2
      have t4 := (World.cell?_of_block (a := ⟨q, o + SA, none⟩) (Below.heap_alloc (w2.alloc (.cells #[.int .i64 (X : Int), .int .i64 (CX : Int)] 36)) (.cells #[.int .i64 (Y : Int), .int .i64 (CY : Int)] 36) q (by simp; omega))).trans hkl
      have HB4 := Lib.hid ((HB2.out.alloc hs2 (.cells #[.int .i64 (X : Int), .int .i64 (CX : Int)] 36)).alloc (by simp; omega) (.cells #[.int .i64 (Y : Int), .int .i64 (CY : Int)] 36))
      clear b1 b2 hkl ka0 ka1 kb0 kb1 kl
      rw [World.size_alloc] at t2 t3
      generalize (w2.alloc (.cells #[.int .i64 (X : Int), .int .i64 (CX : Int)] 36)).alloc (.cells #[.int .i64 (Y : Int), .int .i64 (CY : Int)] 36) = W4 at *
      go_quiet (fail)
      go_wp2_with fail
      by_cases hab : SA = SB
      · subst hab
        go_quiet (fail)
        go_wp2_with fail
        go_ret
        exact ⟨rfl, below_drawn HB4.out _⟩
      · have hab1 : ((SA : Int) == (SB : Int)) = false := by rw [beq_eq_false_iff_ne]; omega
        by_cases hyx : Y < X
        · have hyi : (Y : Int) < (X : Int) := by omega
          go_quiet (fail)
          go_wp2_with fail
          go_ret
          exact ⟨rfl, below_drawn HB4.out _⟩
        · have hyi : ¬ (Y : Int) < (X : Int) := by omega
          have hYe := HYB.out
          have hXe := HX.out
          have hlb : LB ≠ 0 := by intro h; rw [if_pos h] at hYe; omega
          rw [if_neg hlb] at hYe
          have hfr := HFr.out hab (by omega) (by omega) (by omega)
          obtain ⟨K, hK⟩ : ∃ K, K = Y - X := ⟨_, rfl⟩
          rw [show LA - LB = K by omega] at hfr
          have hKi : (Y : Int) - (X : Int) = (K : Int) := by omega
          have hK11 : K ≤ 11 := by omega
          have wK : IntKind.i64.wrap (K : Int) = (K : Int) := IntWalk.i64_in _ (by omega)
          have wK2 : IntKind.u64.wrap (K : Int) = (K : Int) := by rw [IntKind.wrap_u64]; omega
          have sK : min K 64 = K := by omega
          have hR : ((CY : Int) / 2 ^ K != (CX : Int)) = true := by
            have e : (CY : Int) / 2 ^ K = ((CY / 2 ^ K : Nat) : Int) := by simp
            rw [e, bne_iff_ne]
            intro h
            exact hfr (by omega)
          clear hYe hXe hK hfr
          go_quiet (fail)
          go_wp2_with fail
          go_ret
          exact ⟨rfl, below_drawn HB4.out _⟩


set_option maxRecDepth 100000 in
theorem lifted (os : Os) (started : os.Started) (H : Type) (enc : TypeId × Value → H) :
    ReturnsInHanded {} Try.checked os 7 .any (Rows.weightsFreeSpec.pre6 enc Try.prog Try.f7 Rows.weightsFreeRow.domain false) (Rows.weightsFreeSpec.post enc Try.prog Try.f7 false true false false) := by
  refine returnsInHanded_of_change (C := Try.checked) own started (by kernel_rfl) Try.func7
    (ChangeSpec.witness6 (enc := enc) (C := Try.checked) false ⟨#[], #[.slice none 0 0, .int .u8 0, .int .u8 0], []⟩ 8 (by kernel_rfl) (by kernel_rfl) (by kernel_rfl) (by kernel_rfl)) ?_
  intro W base args ds gs before hval0 hW hcnd _
  have hval : ∀ (j : Nat) t v, Try.f7.params[j]? = some t → args[j]? = some v → Value.okWide Try.prog W .any base t v := hval0
  have hW' := hW
  obtain ⟨p, q, hA0, hV, rfl, hfz, hnd⟩ := hW
  have hA : DataW.TrodAll enc Try.prog W 0 (fun _ => true) true Try.f7.params.toList args.toList ds p := hA0
  rw [Try.params7] at hA hval
  obtain ⟨v0, vs0, d0, ds0, p0, q0, hargs, rfl, rfl, h0, r0⟩ := trodAll_cons hA
  obtain ⟨v1, vs1, d1, ds1, p1, q1, rfl, rfl, rfl, h1, r1⟩ := trodAll_cons r0
  obtain ⟨v2, vs2, d2, ds2, p2, q2, rfl, rfl, rfl, h2, r2⟩ := trodAll_cons r1
  obtain ⟨rfl, rfl, rfl⟩ := trodAll_nil r2
  obtain rfl : args = #[v0, v1, v2] := by cases args; simp_all
  obtain ⟨rfl, rfl⟩ := trodVars_none hV
  obtain ⟨a0, len0, cap0, rfl⟩ := okWide_slice Try.underlying22 (hval 0 22 v0 rfl rfl)
  have k0 := h0
  have lt0 : ∀ x ∈ p0, x.block < W.heap.size := by obtain ⟨m, hm⟩ := k0; exact DataW.trod_lt m _ _ _ hm
  obtain ⟨z0, w0⟩ := row_of_trod h0
  obtain ⟨xs0, rfl, hl0, hm0, hd0⟩ := row_dat w0
  obtain ⟨n1, rfl, rfl, rfl, w1⟩ := open_int Try.underlying5 (hval 1 5 v1 rfl rfl) h1
  obtain ⟨n2, rfl, rfl, rfl, w2⟩ := open_int Try.underlying5 (hval 2 5 v2 rfl rfl) h2
  clear hA0 hval0
  refine (walk a0 xs0 cap0 n1 n2 W hd0 (by omega) (u8_bounds w1) (u8_bounds w2)).mono fun e W' ⟨he, bel⟩ => ?_
  subst he
  exact ⟨_, rfl, _, _, _, [], _, [], hW', trodAll_mk1 (shut_bool Try.underlying4 _), (trodAll_cons_mk (Below.trod laidOut (by kernel_rfl) (of_decide_eq_true (by kernel_rfl)) k0 bel lt0) (trodAll_cons_mk (shut_int Try.underlying5 w1) (trodAll_cons_mk (shut_int Try.underlying5 w2) trodAll_mk0))), rfl, bel.frame _, fun h => by cases h⟩

theorem over : Rows.weightsFreeRow.holds Try.pinned (OpenSpec.ofChange Rows.weightsFreeSpec) :=
  OpenClaim.holds_of_wide 7 Try.f7 rfl rfl rfl rfl rfl rfl rfl ⟨rfl, rfl, rfl, rfl, rfl⟩ rfl rfl rfl rfl rfl (by kernel_rfl) Try.func7 (by kernel_rfl)
    (of_decide_eq_true (by kernel_rfl)) (by unfold Func.isWrapper; first | (rw [if_pos (by decide +kernel)]; kernel_rfl) | (rw [if_neg (by decide +kernel)]; exact ⟨rfl, rfl⟩))
    (fun os started H enc _ => lifted os started H enc)

theorem proved : Rows.WeightsFreeSaid := over
end Go.Proofs.Ytafdfjacfodbnaa.weightsFree
