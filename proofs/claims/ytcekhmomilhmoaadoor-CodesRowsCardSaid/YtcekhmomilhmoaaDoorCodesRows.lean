
/- CodesRows holds, tied to the program's text: for every two numbers the law returns true. No condition of ours; the row's own: the package's tables read as the text lays them. -/
import Derived.Test.YtcekhmomilhmoaaDoorCodArgs
import Derived.Test.YtcekhmomilhmoaaDoorCodAwake
namespace Go.Proofs.YtcekhmomilhmoaaDoor.codesRows
open Go.ChangeShapes Go.WideShapes Go.ChangeAt Go.RowKit

set_option maxRecDepth 100000 in
set_option maxHeartbeats 1000000 in
theorem walk (ki ci : Int) (w : World) (hgl : Glob w) (hk : 0 ≤ ki ∧ ki ≤ 255) (hc : 0 ≤ ci ∧ ci ≤ 65535) :
    Calls Tryd.prog 6 #[.int .u8 ki, .int .u16 ci] w fun e w' => e = .returned (.bool true) ∧ Below w.heap.size w w' := by
  obtain ⟨kk, rfl⟩ := Int.eq_ofNat_of_zero_le hk.1
  obtain ⟨cc, rfl⟩ := Int.eq_ofNat_of_zero_le hc.1
  have HG := Lib.hid hgl
  have hw3 := hgl.2.2.2
  have hcc : cc ≤ 65535 := by omega
  obtain ⟨n, hnn⟩ : ∃ n, n = kk % 3 := ⟨_, rfl⟩
  have hn : n < 3 := by omega
  have hni : (kk : Int) % 3 = (n : Int) := by omega
  have hnt : (kk : Int).tmod 3 = (n : Int) := by rw [Int.tmod_eq_emod_of_nonneg (by omega)]; exact hni
  have hl := last_le n hn
  have hl2 := last_ge n hn
  obtain ⟨l, hll⟩ : ∃ l, l = lastN n := ⟨_, rfl⟩
  obtain ⟨m, hmm⟩ : ∃ m, m = cc % l := ⟨_, rfl⟩
  rw [← hll] at hl hl2
  have hml : m < l := by rw [hmm]; exact Nat.mod_lt _ (by omega)
  have hmi : (cc : Int) % (l : Int) = (m : Int) := by rw [hmm, Int.natCast_emod]
  have hmt : (cc : Int).tmod (l : Int) = (m : Int) := by rw [Int.tmod_eq_emod_of_nonneg (by omega)]; exact hmi
  have he := end_le n hn (m + 1) (by omega)
  have ha := add_le n hn m (by omega)
  obtain ⟨a, haa⟩ : ∃ a, a = addN n m := ⟨_, rfl⟩
  obtain ⟨b, hbb⟩ : ∃ b, b = beginN n m := ⟨_, rfl⟩
  obtain ⟨b2, hbb2⟩ : ∃ b2, b2 = beginN n (m + 1) := ⟨_, rfl⟩
  obtain ⟨a2, haa2⟩ : ∃ a2, a2 = addN n (m + 1) := ⟨_, rfl⟩
  have hbe : b2 = b + 2 ^ a := by rw [hbb2, hbb, haa]; rfl
  have hz : ∀ c : Nat, codeN (n : Int) (c : Int) = if lastN n < c then (0, 0, 17) else (beginN n c, addN n c, 0) := fun c => by
    unfold codeN
    rw [if_neg (by omega)]
    by_cases h : lastN n < c
    · rw [if_pos h, if_pos (.inr (by show (lastN n : Int) < c; omega))]
    · rw [if_neg h, if_neg (by show ¬ ((c : Int) < 0 ∨ (lastN n : Int) < c); omega)]
      rfl
  obtain ⟨m1, hm1⟩ : ∃ m1, m1 = m + 1 := ⟨_, rfl⟩
  obtain ⟨l1, hl1⟩ : ∃ l1, l1 = l + 1 := ⟨_, rfl⟩
  have hmi1 : (m : Int) + 1 = (m1 : Int) := by omega
  have hli1 : (l : Int) + 1 = (l1 : Int) := by omega
  have hmb : m1 ≤ 52 := by omega
  have hlb : l1 ≤ 53 := by omega
  have HC1 : Hid (∀ W, Glob W → Calls Tryd.prog 8 #[.int .i64 (n : Int), .int .i64 (m : Int)] W fun e w' => e = .returned (.tuple #[.int .u32 (b : Int), .int .i64 (a : Int), .int .i64 0]) ∧ Below W.heap.size W w') := fun W hW => by
    have h := code_any (n : Int) (m : Int) W hW
    rwa [hz, if_neg (by omega), ← hbb, ← haa] at h
  have HC2 : Hid (∀ W, Glob W → Calls Tryd.prog 8 #[.int .i64 (n : Int), .int .i64 (m1 : Int)] W fun e w' => e = .returned (.tuple #[.int .u32 (b2 : Int), .int .i64 (a2 : Int), .int .i64 0]) ∧ Below W.heap.size W w') := fun W hW => by
    have h := code_any (n : Int) (m1 : Int) W hW
    rwa [hz, if_neg (by omega), show beginN n m1 = b2 by rw [hm1, hbb2], show addN n m1 = a2 by rw [hm1, haa2]] at h
  have HC3 : Hid (∀ W, Glob W → Calls Tryd.prog 8 #[.int .i64 (n : Int), .int .i64 (l1 : Int)] W fun e w' => e = .returned (.tuple #[.int .u32 0, .int .i64 0, .int .i64 17]) ∧ Below W.heap.size W w') := fun W hW => by
    have h := code_any (n : Int) (l1 : Int) W hW
    rwa [hz, if_pos (by omega)] at h
  have HL : Hid (∀ W, Glob W → Calls Tryd.prog 10 #[.int .i64 (n : Int)] W fun e w' => e = .returned (.int .i64 (l : Int)) ∧ W = w') := fun W hW => by
    have h := last_any (n : Int) W hW
    rwa [show lastZ (n : Int) = (l : Int) by unfold lastZ; rw [if_neg (by omega), hll]; rfl] at h
  have hp := pow_u32 a (by omega)
  have hsum : IntKind.u32.wrap ((b : Int) + ((2 ^ a : Nat) : Int)) = (b2 : Int) := by
    rw [IntKind.wrap_u32', hbe]
    rw [← hbb2, hbe] at he
    generalize 2 ^ a = s at he ⊢
    have h0 : 0 < 2 ^ addN n (m + 1) := Nat.two_pow_pos _
    omega
  obtain ⟨s, hs⟩ : ∃ s, s = 2 ^ a := ⟨_, rfl⟩
  rw [← hs] at hp hsum
  have ha31 : a ≤ 31 := by omega
  clear hm1 hl1 hz he hgl hk hc hnn hll hmm haa hbb hbb2 haa2 hbe hs ha
  go_enter Tryd.func6, Tryd.ntmps6
  go_wp2_with (first
    | (go_at_call 7; refine (awake_any _ HG.out).mono ?_; rintro e' w1 ⟨rfl, hB1⟩; have HB1 := Lib.hid hB1; have HG1 := Lib.hid (HG.out.below hB1 hw3); clear hB1)
    | (go_at_call 10; (first | with_reducible refine (HL.out _ HG3.out).mono ?_ | with_reducible refine (HL.out _ HG1.out).mono ?_); rintro e' w4 ⟨rfl, rfl⟩)
    | (go_at_call 8; with_reducible refine (HC1.out _ HG1.out).mono ?_; rintro e' w2 ⟨rfl, hB2⟩; have HB2 := Lib.hid (HB1.out.trans (hB2.mono HB1.out.size)); have HG2 := Lib.hid (HG.out.below HB2.out hw3); clear hB2)
    | (go_at_call 8; with_reducible refine (HC2.out _ HG2.out).mono ?_; rintro e' w3 ⟨rfl, hB3⟩; have HB3 := Lib.hid (HB2.out.trans (hB3.mono HB2.out.size)); have HG3 := Lib.hid (HG.out.below HB3.out hw3); clear hB3)
    | (go_at_call 8; with_reducible refine (HC3.out _ HG3.out).mono ?_; rintro e' w5 ⟨rfl, hB5⟩; have HB5 := Lib.hid (HB3.out.trans (hB5.mono HB3.out.size)); clear hB5))
  go_ret
  exact ⟨rfl, HB5.out⟩

set_option maxRecDepth 100000 in
theorem lifted (os : Os) (started : os.Started) (H : Type) (enc : TypeId × Value → H) :
    ReturnsInHanded {} Tryd.checked os 6 .any (fun w args => (Rows.codesRowsSpec.pre enc Tryd.prog Tryd.f6 [] false w args ∧ laidMetH Tryd.prog laidL w) ∧ sizedMet enc Tryd.prog Tryd.f6 (OpenSpec.ofChange Rows.codesRowsSpec) false w args)
      (Rows.codesRowsSpec.post enc Tryd.prog Tryd.f6 false true false false) := by
  refine returnsInHanded_of_change_and (C := Tryd.checked) (X := fun w _ => laidMetH Tryd.prog laidL w) (fun _ _ _ hh h => h.of_heap hh) own started (by kernel_rfl) Tryd.func6
    (ChangeSpec.witness_shaped (enc := enc) (C := Tryd.checked) (os := os) (X := fun w _ => laidMetH Tryd.prog laidL w) false (World.doorLaid Tryd.prog 400 os) #[.int .u8 0, .int .u16 0] 8 rfl (World.shaped_of_RefB (by kernel_rfl) (by kernel_rfl)) (by kernel_rfl) (by kernel_rfl) (by kernel_rfl) (door_met os _)) ?_
  intro W base args ds gs before hval0 hW _ _ hL _
  have hval : ∀ (j : Nat) t v, Tryd.f6.params[j]? = some t → args[j]? = some v → Value.okWide Tryd.prog W .any base t v := hval0
  have hW' := hW
  obtain ⟨p, q, hA0, hV, rfl, hfz, hnd⟩ := hW
  have hA : DataW.TrodAll enc Tryd.prog W 0 (fun _ => true) true Tryd.f6.params.toList args.toList ds p := hA0
  rw [Tryd.params6] at hA hval
  obtain ⟨v0, vs0, d0, ds0, p0, q0, hargs, rfl, rfl, h0, r0⟩ := trodAll_cons hA
  obtain ⟨v1, vs1, d1, ds1, p1, q1, rfl, rfl, rfl, h1, r1⟩ := trodAll_cons r0
  obtain ⟨rfl, rfl, rfl⟩ := trodAll_nil r1
  obtain rfl : args = #[v0, v1] := by cases args; simp_all
  obtain ⟨rfl, rfl⟩ := trodVars_none hV
  obtain ⟨n0, rfl, rfl, rfl, w0⟩ := open_int Tryd.underlying5 (hval 0 5 v0 rfl rfl) h0
  obtain ⟨n1, rfl, rfl, rfl, w1⟩ := open_int Tryd.underlying34 (hval 1 34 v1 rfl rfl) h1
  clear hA0 hval0
  refine (walk n0 n1 W (glob_of_laid hL) (u8_bounds w0) (u16_bounds w1)).mono fun e W' ⟨he, bel⟩ => ?_
  subst he
  exact ⟨_, rfl, _, _, _, [], _, [], hW', trodAll_mk1 (shut_bool Tryd.underlying4 _), (trodAll_cons_mk (shut_int Tryd.underlying5 w0) (trodAll_cons_mk (shut_int Tryd.underlying34 w1) trodAll_mk0)), rfl, bel.frame _, fun h => by cases h⟩

theorem over : Rows.codesRowsRow.holds Tryd.pinned (OpenSpec.ofChange Rows.codesRowsSpec) :=
  OpenClaim.holds_of_wide 6 Tryd.f6 rfl rfl rfl rfl rfl rfl rfl ⟨rfl, rfl, rfl, rfl, rfl⟩ rfl rfl rfl rfl rfl (by kernel_rfl) Tryd.func6 (by kernel_rfl)
    (of_decide_eq_true (by kernel_rfl)) (by unfold Func.isWrapper; first | (rw [if_pos (by decide +kernel)]; kernel_rfl) | (rw [if_neg (by decide +kernel)]; exact ⟨rfl, rfl⟩))
    (fun os started H enc _ => lifted os started H enc)

/-- ████ THE STATEMENT ████ -/
theorem proved : Rows.CodesRowsCardSaid :=
  Claim7.holds_tied_plain_at .later [] [.data, .data, .data] true Rows.codesRowsCard.stood.harness false
    over (fun _ h => by cases h) (by kernel_rfl) (fun _ h => by cases h) codesRows_row_tie rfl ⟨rfl, rfl⟩ (by kernel_rfl) rfl
    (fun f fn hf hfn => by
      obtain rfl : f = 6 := Option.some.inj ((show Tryd.prog.funcNamed Rows.codesRowsRow.func = some 6 by kernel_rfl).symm.trans hf) |>.symm
      obtain rfl : fn = Tryd.f6 := (Option.some.inj (Tryd.func6.symm.trans hfn)).symm
      exact ⟨by kernel_rfl, fun j t ht => by
        rw [Tryd.params6] at ht
        have hm : t ∈ [5, 34] := by
          have := Array.mem_of_getElem? ht
          simp at this
          simpa using this
        have hall : ([5, 34].all fun u => !Tryd.prog.wantsStandIn u) = true := by kernel_rfl
        exact (show Tryd.prog.wantsStandIn t = false by simpa using List.all_eq_true.1 hall t hm)⟩)
    (by kernel_rfl)
#print axioms proved
end Go.Proofs.YtcekhmomilhmoaaDoor.codesRows
