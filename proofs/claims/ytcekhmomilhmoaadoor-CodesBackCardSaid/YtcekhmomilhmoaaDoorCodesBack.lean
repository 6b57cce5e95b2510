
/- CodesBack holds, tied to the program's text: for every three numbers the law returns true. No condition of ours; the row's own: the package's tables read as the text lays them. -/
import Derived.Test.YtcekhmomilhmoaaDoorCodArgs
import Derived.Test.YtcekhmomilhmoaaDoorCodAwake
namespace Go.Proofs.YtcekhmomilhmoaaDoor.codesBack
open Go.ChangeShapes Go.WideShapes Go.ChangeAt Go.RowKit

set_option maxRecDepth 100000 in
set_option maxHeartbeats 1000000 in
theorem walk (ki ci xi : Int) (w : World) (hgl : Glob w) (hk : 0 ≤ ki ∧ ki ≤ 255) (hc : 0 ≤ ci ∧ ci ≤ 65535) (hx : 0 ≤ xi ∧ xi ≤ 4294967295) :
    Calls Tryd.prog 5 #[.int .u8 ki, .int .u16 ci, .int .u32 xi] w fun e w' => e = .returned (.bool true) ∧ Below w.heap.size w w' := by
  obtain ⟨kk, rfl⟩ := Int.eq_ofNat_of_zero_le hk.1
  obtain ⟨cc, rfl⟩ := Int.eq_ofNat_of_zero_le hc.1
  obtain ⟨xx, rfl⟩ := Int.eq_ofNat_of_zero_le hx.1
  have HG := Lib.hid hgl
  have hw3 := hgl.2.2.2
  have hcc : cc ≤ 65535 := by omega
  obtain ⟨n, hnn⟩ : ∃ n, n = kk % 3 := ⟨_, rfl⟩
  have hn : n < 3 := by omega
  have hni : (kk : Int) % 3 = (n : Int) := by omega
  have hnt : (kk : Int).tmod 3 = (n : Int) := by rw [Int.tmod_eq_emod_of_nonneg (by omega)]; exact hni
  have hl := last_le n hn
  obtain ⟨l, hll⟩ : ∃ l, l = lastN n := ⟨_, rfl⟩
  obtain ⟨m, hmm⟩ : ∃ m, m = cc % (l + 1) := ⟨_, rfl⟩
  rw [← hll] at hl
  have hml : m < l + 1 := by rw [hmm]; exact Nat.mod_lt _ (by omega)
  have hmi : (cc : Int) % ((l : Int) + 1) = (m : Int) := by rw [hmm, Int.natCast_emod]; rfl
  have hmt : (cc : Int).tmod ((l : Int) + 1) = (m : Int) := by rw [Int.tmod_eq_emod_of_nonneg (by omega)]; exact hmi
  have he := end_le n hn m (by omega)
  have ha := add_le n hn m (by omega)
  obtain ⟨a, haa⟩ : ∃ a, a = addN n m := ⟨_, rfl⟩
  obtain ⟨b, hbb⟩ : ∃ b, b = beginN n m := ⟨_, rfl⟩
  obtain ⟨x, hxx⟩ : ∃ x, x = xx % 2 ^ a := ⟨_, rfl⟩
  have hxa : x < 2 ^ a := by rw [hxx]; exact Nat.mod_lt _ (Nat.two_pow_pos _)
  have hz : codeN (n : Int) (m : Int) = (b, a, 0) := by
    unfold codeN
    rw [if_neg (by omega), if_neg (by show ¬ ((m : Int) < 0 ∨ (lastN n : Int) < m); omega), hbb, haa]
    rfl
  have hsc : ofN (n : Int) (b + x) = (m, x, 0) := by
    unfold ofN
    rw [if_neg (by omega), hbb]
    exact scan_at (k := n) (by rw [← haa]; exact hxa) 0 m _ (by omega) (by show m < 0 + (lastN n + 1); omega)
  rw [← haa, ← hbb] at he
  rw [← haa] at ha
  have hp := pow_u32 a ha
  have hbx : b + x < 4294967296 := by omega
  have hp1 : IntKind.u32.wrap (((2 ^ a : Nat) : Int) - 1) = ((2 ^ a - 1 : Nat) : Int) := by
    have h0 : 0 < 2 ^ a := Nat.two_pow_pos _
    have h1 : 2 ^ a ≤ 2 ^ 31 := Nat.pow_le_pow_right (by omega) ha
    rw [IntKind.wrap_u32']
    generalize 2 ^ a = s at h0 h1 ⊢
    omega
  have hand : bits .and .u32 (xx : Int) ((2 ^ a - 1 : Nat) : Int) = (x : Int) := by
    have h1 : 2 ^ a ≤ 2 ^ 31 := Nat.pow_le_pow_right (by omega) ha
    rw [u32_and_nat _ _ (by omega) (by generalize 2 ^ a = s at h1 ⊢; omega), Nat.and_two_pow_sub_one_eq_mod, hxx]
  have hadd : IntKind.u32.wrap ((b : Int) + (x : Int)) = ((b + x : Nat) : Int) := by rw [IntKind.wrap_u32']; omega
  have HC : Hid (∀ W, Glob W → Calls Tryd.prog 8 #[.int .i64 (n : Int), .int .i64 (m : Int)] W fun e w' => e = .returned (.tuple #[.int .u32 (b : Int), .int .i64 (a : Int), .int .i64 0]) ∧ Below W.heap.size W w') := fun W hW => by
    have h := code_any (n : Int) (m : Int) W hW
    rwa [hz] at h
  have HO : Hid (∀ W, Glob W → Calls Tryd.prog 12 #[.int .i64 (n : Int), .int .u32 ((b + x : Nat) : Int)] W fun e w' => e = .returned (.tuple #[.int .i64 (m : Int), .int .u32 (x : Int), .int .i64 0]) ∧ W = w') := fun W hW => by
    have h := of_any (n : Int) (b + x) W hW hbx
    rwa [hsc] at h
  have HL : Hid (∀ W, Glob W → Calls Tryd.prog 10 #[.int .i64 (n : Int)] W fun e w' => e = .returned (.int .i64 (l : Int)) ∧ W = w') := fun W hW => by
    have h := last_any (n : Int) W hW
    rwa [show lastZ (n : Int) = (l : Int) by unfold lastZ; rw [if_neg (by omega), hll]; rfl] at h
  obtain ⟨s, hs⟩ : ∃ s, s = 2 ^ a := ⟨_, rfl⟩
  obtain ⟨v, hv⟩ : ∃ v, v = b + x := ⟨_, rfl⟩
  obtain ⟨t, ht⟩ : ∃ t, t = s - 1 := ⟨_, rfl⟩
  rw [← hs] at hp hp1 hand
  rw [← ht] at hp1 hand
  rw [← hv] at hadd HO
  clear hz hsc he hgl hk hc hx hnn hll hmm haa hbb hxx hxa hs hv ht hbx
  go_enter Tryd.func5, Tryd.ntmps5
  go_wp2_with (first
    | (go_at_call 7; refine (awake_any _ HG.out).mono ?_; rintro e' w1 ⟨rfl, hB1⟩; have HB1 := Lib.hid hB1; have HG1 := Lib.hid (HG.out.below hB1 hw3); clear hB1)
    | (go_at_call 10; refine (HL.out _ HG1.out).mono ?_; rintro e' w4 ⟨rfl, rfl⟩)
    | (go_at_call 8; refine (HC.out _ HG1.out).mono ?_; rintro e' w2 ⟨rfl, hB2⟩; have HB2 := Lib.hid (HB1.out.trans (hB2.mono HB1.out.size)); have HG2 := Lib.hid (HG.out.below HB2.out hw3); clear hB2)
    | (go_at_call 12; refine (HO.out _ HG2.out).mono ?_; rintro e' w3 ⟨rfl, rfl⟩))
  go_ret
  exact ⟨rfl, HB2.out⟩

set_option maxRecDepth 100000 in
theorem lifted (os : Os) (started : os.Started) (H : Type) (enc : TypeId × Value → H) :
    ReturnsInHanded {} Tryd.checked os 5 .any (fun w args => (Rows.codesBackSpec.pre enc Tryd.prog Tryd.f5 [] false w args ∧ laidMetH Tryd.prog laidL w) ∧ sizedMet enc Tryd.prog Tryd.f5 (OpenSpec.ofChange Rows.codesBackSpec) false w args)
      (Rows.codesBackSpec.post enc Tryd.prog Tryd.f5 false true false false) := by
  refine returnsInHanded_of_change_and (C := Tryd.checked) (X := fun w _ => laidMetH Tryd.prog laidL w) (fun _ _ _ hh h => h.of_heap hh) own started (by kernel_rfl) Tryd.func5
    (ChangeSpec.witness_shaped (enc := enc) (C := Tryd.checked) (os := os) (X := fun w _ => laidMetH Tryd.prog laidL w) false (World.doorLaid Tryd.prog 400 os) #[.int .u8 0, .int .u16 0, .int .u32 0] 8 rfl (World.shaped_of_RefB (by kernel_rfl) (by kernel_rfl)) (by kernel_rfl) (by kernel_rfl) (by kernel_rfl) (door_met os _)) ?_
  intro W base args ds gs before hval0 hW _ _ hL _
  have hval : ∀ (j : Nat) t v, Tryd.f5.params[j]? = some t → args[j]? = some v → Value.okWide Tryd.prog W .any base t v := hval0
  have hW' := hW
  obtain ⟨p, q, hA0, hV, rfl, hfz, hnd⟩ := hW
  have hA : DataW.TrodAll enc Tryd.prog W 0 (fun _ => true) true Tryd.f5.params.toList args.toList ds p := hA0
  rw [Tryd.params5] at hA hval
  obtain ⟨v0, vs0, d0, ds0, p0, q0, hargs, rfl, rfl, h0, r0⟩ := trodAll_cons hA
  obtain ⟨v1, vs1, d1, ds1, p1, q1, rfl, rfl, rfl, h1, r1⟩ := trodAll_cons r0
  obtain ⟨v2, vs2, d2, ds2, p2, q2, rfl, rfl, rfl, h2, r2⟩ := trodAll_cons r1
  obtain ⟨rfl, rfl, rfl⟩ := trodAll_nil r2
  obtain rfl : args = #[v0, v1, v2] := by cases args; simp_all
  obtain ⟨rfl, rfl⟩ := trodVars_none hV
  obtain ⟨n0, rfl, rfl, rfl, w0⟩ := open_int Tryd.underlying5 (hval 0 5 v0 rfl rfl) h0
  obtain ⟨n1, rfl, rfl, rfl, w1⟩ := open_int Tryd.underlying34 (hval 1 34 v1 rfl rfl) h1
  obtain ⟨n2, rfl, rfl, rfl, w2⟩ := open_int Tryd.underlying23 (hval 2 23 v2 rfl rfl) h2
  clear hA0 hval0
  refine (walk n0 n1 n2 W (glob_of_laid hL) (u8_bounds w0) (u16_bounds w1) (u32_bounds w2)).mono fun e W' ⟨he, bel⟩ => ?_
  subst he
  exact ⟨_, rfl, _, _, _, [], _, [], hW', trodAll_mk1 (shut_bool Tryd.underlying4 _), (trodAll_cons_mk (shut_int Tryd.underlying5 w0) (trodAll_cons_mk (shut_int Tryd.underlying34 w1) (trodAll_cons_mk (shut_int Tryd.underlying23 w2) trodAll_mk0))), rfl, bel.frame _, fun h => by cases h⟩

theorem over : Rows.codesBackRow.holds Tryd.pinned (OpenSpec.ofChange Rows.codesBackSpec) :=
  OpenClaim.holds_of_wide 5 Tryd.f5 rfl rfl rfl rfl rfl rfl rfl ⟨rfl, rfl, rfl, rfl, rfl⟩ rfl rfl rfl rfl rfl (by kernel_rfl) Tryd.func5 (by kernel_rfl)
    (of_decide_eq_true (by kernel_rfl)) (by unfold Func.isWrapper; first | (rw [if_pos (by decide +kernel)]; kernel_rfl) | (rw [if_neg (by decide +kernel)]; exact ⟨rfl, rfl⟩))
    (fun os started H enc _ => lifted os started H enc)

/-- ████ THE STATEMENT ████ -/
theorem proved : Rows.CodesBackCardSaid :=
  Claim7.holds_tied_plain_at .later [] [.data, .data, .data] true Rows.codesBackCard.stood.harness false
    over (fun _ h => by cases h) (by kernel_rfl) (fun _ h => by cases h) codesBack_row_tie rfl ⟨rfl, rfl⟩ (by kernel_rfl) rfl
    (fun f fn hf hfn => by
      obtain rfl : f = 5 := Option.some.inj ((show Tryd.prog.funcNamed Rows.codesBackRow.func = some 5 by kernel_rfl).symm.trans hf) |>.symm
      obtain rfl : fn = Tryd.f5 := (Option.some.inj (Tryd.func5.symm.trans hfn)).symm
      exact ⟨by kernel_rfl, fun j t ht => by
        rw [Tryd.params5] at ht
        have hm : t ∈ [5, 34, 23] := by
          have := Array.mem_of_getElem? ht
          simp at this
          simpa using this
        have hall : ([5, 34, 23].all fun u => !Tryd.prog.wantsStandIn u) = true := by kernel_rfl
        exact (show Tryd.prog.wantsStandIn t = false by simpa using List.all_eq_true.1 hall t hm)⟩)
    (by kernel_rfl)
#print axioms proved
end Go.Proofs.YtcekhmomilhmoaaDoor.codesBack
