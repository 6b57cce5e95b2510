
/- CodesTell holds, tied to the program's text: for every two numbers the law returns true. No condition of ours; the row's own: the package's tables read as the text lays them. -/
import Derived.Test.YtcekhmomilhmoaaDoorCodArgs
import Derived.Test.YtcekhmomilhmoaaDoorCodAwake
import Derived.Test.YtcekhmomilhmoaaDoorCodRefO
namespace Go.Proofs.YtcekhmomilhmoaaDoor.codesTell
open Go.ChangeShapes Go.WideShapes Go.ChangeAt Go.RowKit

theorem begs_len (k : Int) : ((begs k).length : Int) - 1 = lastZ k ∧ (begs k).length ≤ 53 := by
  unfold begs lastZ
  by_cases h : k < 0 ∨ 2 < k
  · rw [if_pos h, if_pos h]
    simp
  · rw [if_neg h, if_neg h]
    have := last_le k.toNat (by omega)
    simp
    omega

set_option maxRecDepth 100000 in
set_option maxHeartbeats 1000000 in
theorem walk (k c : Int) (w : World) (hgl : Glob w) (_hk : -9223372036854775808 ≤ k ∧ k ≤ 9223372036854775807) (_hc : -9223372036854775808 ≤ c ∧ c ≤ 9223372036854775807) :
    Calls Tryd.prog 3 #[.int .i64 k, .int .i64 c] w fun e w' => e = .returned (.bool true) ∧ Below w.heap.size w w' := by
  have HG := Lib.hid hgl
  have hw3 := hgl.2.2.2
  obtain ⟨X, hX⟩ : ∃ X, X = codeN k c := ⟨_, rfl⟩
  have HC : Hid (∀ W, Glob W → Calls Tryd.prog 8 #[.int .i64 k, .int .i64 c] W fun e w' => e = .returned (.tuple #[.int .u32 (X.1 : Int), .int .i64 (X.2.1 : Int), .int .i64 (X.2.2 : Int)]) ∧ Below W.heap.size W w') := fun W hW => by rw [hX]; exact code_any k c W hW
  have HR : Hid (∀ W, Calls Tryd.prog 9 #[.int .i64 k, .int .i64 c] W fun e w' => e = .returned (.tuple #[.int .u32 (X.1 : Int), .int .i64 (X.2.1 : Int), .int .i64 (X.2.2 : Int)]) ∧ Below W.heap.size W w') := fun W => by rw [hX]; exact refCode_any k c W
  obtain ⟨b, a, e⟩ := X
  obtain ⟨L, hL⟩ : ∃ L, L = (begs k).length := ⟨_, rfl⟩
  obtain ⟨Z, hZ⟩ : ∃ Z, Z = lastZ k := ⟨_, rfl⟩
  have hlz := begs_len k
  have HL : Hid (∀ W, Glob W → Calls Tryd.prog 10 #[.int .i64 k] W fun e w' => e = .returned (.int .i64 Z) ∧ W = w') := fun W hW => by rw [hZ]; exact last_any k W hW
  have HB : Hid (∀ W, Calls Tryd.prog 11 #[.int .i64 k] W fun e w' => ∃ A q, e = .returned (.slice A L q) ∧ Below W.heap.size W w') := fun W => by
    refine (begins_any k W).mono ?_
    rintro e w' ⟨A, q, he, _, hB⟩
    exact ⟨A, q, by rw [hL]; exact he, hB⟩
  rw [← hL, ← hZ] at hlz
  obtain ⟨rfl, hL53⟩ := hlz
  clear hX hL hZ hgl
  go_enter Tryd.func3, Tryd.ntmps3
  go_wp2_with (first
    | (go_at_call 7; refine (awake_any _ HG.out).mono ?_; rintro e' w1 ⟨rfl, hB1⟩; have HB1 := Lib.hid hB1; have HG1 := Lib.hid (HG.out.below hB1 hw3); clear hB1)
    | (go_at_call 8; refine (HC.out _ HG1.out).mono ?_; rintro e' w2 ⟨rfl, hB2⟩; have HB2 := Lib.hid (HB1.out.trans (hB2.mono HB1.out.size)); have HG2 := Lib.hid (HG.out.below HB2.out hw3); clear hB2)
    | (go_at_call 9; refine (HR.out _).mono ?_; rintro e' w3 ⟨rfl, hB3⟩; have HB3 := Lib.hid (HB2.out.trans (hB3.mono HB2.out.size)); have HG3 := Lib.hid (HG.out.below HB3.out hw3); clear hB3)
    | (go_at_call 10; refine (HL.out _ HG3.out).mono ?_; rintro e' w4 ⟨rfl, rfl⟩)
    | (go_at_call 11; refine (HB.out _).mono ?_; rintro e' w5 ⟨A5, q5, rfl, hB5⟩; have HB5 := Lib.hid (HB3.out.trans (hB5.mono HB3.out.size)); clear hB5))
  go_ret
  exact ⟨rfl, HB5.out⟩

set_option maxRecDepth 100000 in
theorem lifted (os : Os) (started : os.Started) (H : Type) (enc : TypeId × Value → H) :
    ReturnsInHanded {} Tryd.checked os 3 .any (fun w args => (Rows.codesTellSpec.pre enc Tryd.prog Tryd.f3 [] false w args ∧ laidMetH Tryd.prog laidL w) ∧ sizedMet enc Tryd.prog Tryd.f3 (OpenSpec.ofChange Rows.codesTellSpec) false w args)
      (Rows.codesTellSpec.post enc Tryd.prog Tryd.f3 false true false false) := by
  refine returnsInHanded_of_change_and (C := Tryd.checked) (X := fun w _ => laidMetH Tryd.prog laidL w) (fun _ _ _ hh h => h.of_heap hh) own started (by kernel_rfl) Tryd.func3
    (ChangeSpec.witness_shaped (enc := enc) (C := Tryd.checked) (os := os) (X := fun w _ => laidMetH Tryd.prog laidL w) false (World.doorLaid Tryd.prog 400 os) #[.int .i64 0, .int .i64 0] 8 rfl (World.shaped_of_RefB (by kernel_rfl) (by kernel_rfl)) (by kernel_rfl) (by kernel_rfl) (by kernel_rfl) (door_met os _)) ?_
  intro W base args ds gs before hval0 hW _ _ hL _
  have hval : ∀ (j : Nat) t v, Tryd.f3.params[j]? = some t → args[j]? = some v → Value.okWide Tryd.prog W .any base t v := hval0
  have hW' := hW
  obtain ⟨p, q, hA0, hV, rfl, hfz, hnd⟩ := hW
  have hA : DataW.TrodAll enc Tryd.prog W 0 (fun _ => true) true Tryd.f3.params.toList args.toList ds p := hA0
  rw [Tryd.params3] at hA hval
  obtain ⟨v0, vs0, d0, ds0, p0, q0, hargs, rfl, rfl, h0, r0⟩ := trodAll_cons hA
  obtain ⟨v1, vs1, d1, ds1, p1, q1, rfl, rfl, rfl, h1, r1⟩ := trodAll_cons r0
  obtain ⟨rfl, rfl, rfl⟩ := trodAll_nil r1
  obtain rfl : args = #[v0, v1] := by cases args; simp_all
  obtain ⟨rfl, rfl⟩ := trodVars_none hV
  obtain ⟨n0, rfl, rfl, rfl, w0⟩ := open_int Tryd.underlying3 (hval 0 3 v0 rfl rfl) h0
  obtain ⟨n1, rfl, rfl, rfl, w1⟩ := open_int Tryd.underlying3 (hval 1 3 v1 rfl rfl) h1
  clear hA0 hval0
  refine (walk n0 n1 W (glob_of_laid hL) (int_bounds w0) (int_bounds w1)).mono fun e W' ⟨he, bel⟩ => ?_
  subst he
  exact ⟨_, rfl, _, _, _, [], _, [], hW', trodAll_mk1 (shut_bool Tryd.underlying4 _), (trodAll_cons_mk (shut_int Tryd.underlying3 w0) (trodAll_cons_mk (shut_int Tryd.underlying3 w1) trodAll_mk0)), rfl, bel.frame _, fun h => by cases h⟩

theorem over : Rows.codesTellRow.holds Tryd.pinned (OpenSpec.ofChange Rows.codesTellSpec) :=
  OpenClaim.holds_of_wide 3 Tryd.f3 rfl rfl rfl rfl rfl rfl rfl ⟨rfl, rfl, rfl, rfl, rfl⟩ rfl rfl rfl rfl rfl (by kernel_rfl) Tryd.func3 (by kernel_rfl)
    (of_decide_eq_true (by kernel_rfl)) (by unfold Func.isWrapper; first | (rw [if_pos (by decide +kernel)]; kernel_rfl) | (rw [if_neg (by decide +kernel)]; exact ⟨rfl, rfl⟩))
    (fun os started H enc _ => lifted os started H enc)

/-- ████ THE STATEMENT ████ -/
theorem proved : Rows.CodesTellCardSaid :=
  Claim7.holds_tied_plain_at .later [] [.data, .data, .data] true Rows.codesTellCard.stood.harness false
    over (fun _ h => by cases h) (by kernel_rfl) (fun _ h => by cases h) codesTell_row_tie rfl ⟨rfl, rfl⟩ (by kernel_rfl) rfl
    (fun f fn hf hfn => by
      obtain rfl : f = 3 := Option.some.inj ((show Tryd.prog.funcNamed Rows.codesTellRow.func = some 3 by kernel_rfl).symm.trans hf) |>.symm
      obtain rfl : fn = Tryd.f3 := (Option.some.inj (Tryd.func3.symm.trans hfn)).symm
      exact ⟨by kernel_rfl, fun j t ht => by
        rw [Tryd.params3] at ht
        have hm : t ∈ [3, 3] := by
          have := Array.mem_of_getElem? ht
          simp at this
          simpa using this
        have hall : ([3, 3].all fun u => !Tryd.prog.wantsStandIn u) = true := by kernel_rfl
        exact (show Tryd.prog.wantsStandIn t = false by simpa using List.all_eq_true.1 hall t hm)⟩)
    (by kernel_rfl)
#print axioms proved
end Go.Proofs.YtcekhmomilhmoaaDoor.codesTell
