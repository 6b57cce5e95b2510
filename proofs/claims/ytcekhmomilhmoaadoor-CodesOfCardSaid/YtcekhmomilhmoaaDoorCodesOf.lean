
/- CodesOf holds, tied to the program's text: for every two numbers the law returns true. No condition of ours; the row's own: the package's tables read as the text lays them. -/
import Derived.Test.YtcekhmomilhmoaaDoorCodArgs
import Derived.Test.YtcekhmomilhmoaaDoorCodAwake
import Derived.Test.YtcekhmomilhmoaaDoorCodRefO
namespace Go.Proofs.YtcekhmomilhmoaaDoor.codesOf
open Go.ChangeShapes Go.WideShapes Go.ChangeAt Go.RowKit

set_option maxRecDepth 100000 in
set_option maxHeartbeats 1000000 in
theorem walk (k vi : Int) (w : World) (hgl : Glob w) (_hk : -9223372036854775808 ≤ k ∧ k ≤ 9223372036854775807) (hv : 0 ≤ vi ∧ vi ≤ 4294967295) :
    Calls Tryd.prog 4 #[.int .i64 k, .int .u32 vi] w fun e w' => e = .returned (.bool true) ∧ Below w.heap.size w w' := by
  obtain ⟨v, rfl⟩ := Int.eq_ofNat_of_zero_le hv.1
  have hv4 : v < 4294967296 := by omega
  have HG := Lib.hid hgl
  have hw3 := hgl.2.2.2
  obtain ⟨X, hX⟩ : ∃ X, X = ofN k v := ⟨_, rfl⟩
  have HC : Hid (∀ W, Glob W → Calls Tryd.prog 12 #[.int .i64 k, .int .u32 (v : Int)] W fun e w' => e = .returned (.tuple #[.int .i64 (X.1 : Int), .int .u32 (X.2.1 : Int), .int .i64 (X.2.2 : Int)]) ∧ W = w') := fun W hW => by rw [hX]; exact of_any k v W hW hv4
  have HR : Hid (∀ W, Calls Tryd.prog 13 #[.int .i64 k, .int .u32 (v : Int)] W fun e w' => e = .returned (.tuple #[.int .i64 (X.1 : Int), .int .u32 (X.2.1 : Int), .int .i64 (X.2.2 : Int)]) ∧ Below W.heap.size W w') := fun W => by rw [hX]; exact refOf_any k v W hv4
  obtain ⟨b, a, e⟩ := X
  clear hX hgl hv
  go_enter Tryd.func4, Tryd.ntmps4
  go_wp2_with (first
    | (go_at_call 7; refine (awake_any _ HG.out).mono ?_; rintro e' w1 ⟨rfl, hB1⟩; have HB1 := Lib.hid hB1; have HG1 := Lib.hid (HG.out.below hB1 hw3); clear hB1)
    | (go_at_call 12; refine (HC.out _ HG1.out).mono ?_; rintro e' w2 ⟨rfl, rfl⟩)
    | (go_at_call 13; refine (HR.out _).mono ?_; rintro e' w3 ⟨rfl, hB3⟩; have HB3 := Lib.hid (HB1.out.trans (hB3.mono HB1.out.size)); clear hB3))
  go_ret
  exact ⟨rfl, HB3.out⟩

set_option maxRecDepth 100000 in
theorem lifted (os : Os) (started : os.Started) (H : Type) (enc : TypeId × Value → H) :
    ReturnsInHanded {} Tryd.checked os 4 .any (fun w args => (Rows.codesOfSpec.pre enc Tryd.prog Tryd.f4 [] false w args ∧ laidMetH Tryd.prog laidL w) ∧ sizedMet enc Tryd.prog Tryd.f4 (OpenSpec.ofChange Rows.codesOfSpec) false w args)
      (Rows.codesOfSpec.post enc Tryd.prog Tryd.f4 false true false false) := by
  refine returnsInHanded_of_change_and (C := Tryd.checked) (X := fun w _ => laidMetH Tryd.prog laidL w) (fun _ _ _ hh h => h.of_heap hh) own started (by kernel_rfl) Tryd.func4
    (ChangeSpec.witness_shaped (enc := enc) (C := Tryd.checked) (os := os) (X := fun w _ => laidMetH Tryd.prog laidL w) false (World.doorLaid Tryd.prog 400 os) #[.int .i64 0, .int .u32 0] 8 rfl (World.shaped_of_RefB (by kernel_rfl) (by kernel_rfl)) (by kernel_rfl) (by kernel_rfl) (by kernel_rfl) (door_met os _)) ?_
  intro W base args ds gs before hval0 hW _ _ hL _
  have hval : ∀ (j : Nat) t v, Tryd.f4.params[j]? = some t → args[j]? = some v → Value.okWide Tryd.prog W .any base t v := hval0
  have hW' := hW
  obtain ⟨p, q, hA0, hV, rfl, hfz, hnd⟩ := hW
  have hA : DataW.TrodAll enc Tryd.prog W 0 (fun _ => true) true Tryd.f4.params.toList args.toList ds p := hA0
  rw [Tryd.params4] at hA hval
  obtain ⟨v0, vs0, d0, ds0, p0, q0, hargs, rfl, rfl, h0, r0⟩ := trodAll_cons hA
  obtain ⟨v1, vs1, d1, ds1, p1, q1, rfl, rfl, rfl, h1, r1⟩ := trodAll_cons r0
  obtain ⟨rfl, rfl, rfl⟩ := trodAll_nil r1
  obtain rfl : args = #[v0, v1] := by cases args; simp_all
  obtain ⟨rfl, rfl⟩ := trodVars_none hV
  obtain ⟨n0, rfl, rfl, rfl, w0⟩ := open_int Tryd.underlying3 (hval 0 3 v0 rfl rfl) h0
  obtain ⟨n1, rfl, rfl, rfl, w1⟩ := open_int Tryd.underlying23 (hval 1 23 v1 rfl rfl) h1
  clear hA0 hval0
  refine (walk n0 n1 W (glob_of_laid hL) (int_bounds w0) (u32_bounds w1)).mono fun e W' ⟨he, bel⟩ => ?_
  subst he
  exact ⟨_, rfl, _, _, _, [], _, [], hW', trodAll_mk1 (shut_bool Tryd.underlying4 _), (trodAll_cons_mk (shut_int Tryd.underlying3 w0) (trodAll_cons_mk (shut_int Tryd.underlying23 w1) trodAll_mk0)), rfl, bel.frame _, fun h => by cases h⟩

theorem over : Rows.codesOfRow.holds Tryd.pinned (OpenSpec.ofChange Rows.codesOfSpec) :=
  OpenClaim.holds_of_wide 4 Tryd.f4 rfl rfl rfl rfl rfl rfl rfl ⟨rfl, rfl, rfl, rfl, rfl⟩ rfl rfl rfl rfl rfl (by kernel_rfl) Tryd.func4 (by kernel_rfl)
    (of_decide_eq_true (by kernel_rfl)) (by unfold Func.isWrapper; first | (rw [if_pos (by decide +kernel)]; kernel_rfl) | (rw [if_neg (by decide +kernel)]; exact ⟨rfl, rfl⟩))
    (fun os started H enc _ => lifted os started H enc)

/-- ████ THE STATEMENT ████ -/
theorem proved : Rows.CodesOfCardSaid :=
  Claim7.holds_tied_plain_at .later [] [.data, .data, .data] true Rows.codesOfCard.stood.harness false
    over (fun _ h => by cases h) (by kernel_rfl) (fun _ h => by cases h) codesOf_row_tie rfl ⟨rfl, rfl⟩ (by kernel_rfl) rfl
    (fun f fn hf hfn => by
      obtain rfl : f = 4 := Option.some.inj ((show Tryd.prog.funcNamed Rows.codesOfRow.func = some 4 by kernel_rfl).symm.trans hf) |>.symm
      obtain rfl : fn = Tryd.f4 := (Option.some.inj (Tryd.func4.symm.trans hfn)).symm
      exact ⟨by kernel_rfl, fun j t ht => by
        rw [Tryd.params4] at ht
        have hm : t ∈ [3, 23] := by
          have := Array.mem_of_getElem? ht
          simp at this
          simpa using this
        have hall : ([3, 23].all fun u => !Tryd.prog.wantsStandIn u) = true := by kernel_rfl
        exact (show Tryd.prog.wantsStandIn t = false by simpa using List.all_eq_true.1 hall t hm)⟩)
    (by kernel_rfl)
#print axioms proved
end Go.Proofs.YtcekhmomilhmoaaDoor.codesOf
