/- CrcLengths holds, tied to the program's text: for every number and every byte the law returns true. No condition of ours; the row's own: the package's table reads as the text lays it. -/
import Derived.Test.YtliieipgmjnnfaaDoorCrcArgs
import Derived.Test.YtliieipgmjnnfaaDoorCrcOf
namespace Go.Proofs.YtliieipgmjnnfaaDoor.crcLengths
open Go.ChangeShapes Go.WideShapes Go.ChangeAt Go.RowKit

/-- A row of bytes; nothing that was there has turned. -/
def St (w wx : World) (g : Nat) (ys : List UInt8) : Prop := Box wx g 5 (bcells ys) ∧ Below w.heap.size w wx ∧ w.heap.size ≤ g
theorem St.step {w wx w' : World} {g : Nat} {ys : List UInt8} (h : St w wx g ys) (hB : Below wx.heap.size wx w') : St w w' g ys :=
  ⟨h.1.below hB h.1.lt, h.2.1.trans (hB.mono h.2.1.size), h.2.2⟩
theorem St.dat {w wx : World} {g : Nat} {ys : List UInt8} (h : St w wx g ys) : Dat false wx 0 wx.heap.size (some ⟨g, 0, none⟩) ys := fun _ =>
  ⟨g, 0, rfl, Nat.zero_le _, h.1.lt, fun j hj => by
    rw [Nat.zero_add, h.1.cell j, bcells_get ys j hj]
    rfl, fun ho => by cases ho⟩
theorem St.below {w wx : World} {g : Nat} (ys : List UInt8) (h : St w wx g ys) : Below w.heap.size w wx := h.2.1
set_option maxRecDepth 100000 in
set_option maxHeartbeats 1000000 in
theorem walk (n c : Nat) (w : World) (hgl : Glob w) (hn : n ≤ 65535) :
    Calls Tryd.prog 4 #[.int .u16 (n : Int), .int .u8 (c : Int)] w fun e w' => e = .returned (.bool true) ∧ Below w.heap.size w w' := by
  obtain ⟨i0, hi0, hz0, hz1, hz2⟩ := info_parts u8_info
  have HG := Lib.hid hgl
  have hw2 := hgl.2
  clear hgl
  obtain ⟨L, hL⟩ : ∃ L, L = n % 400 := ⟨_, rfl⟩
  have hLi : (n : Int) % 400 = (L : Int) := by omega
  have hL4 : L < 400 := by omega
  clear hL
  go_enter Tryd.func4, Tryd.ntmps4
  go_upto_region 4 with (go_at_call 7; refine (awake_any _ HG.out).mono ?_; rintro e' w1 ⟨rfl, hB1⟩; have HB1 := Lib.hid hB1; clear hB1)
  go_cut [6] (fun p wx => ∃ g, p = .slice (some ⟨g, 0, none⟩) L L ∧ St w wx g (List.replicate L 0))
  case first =>
    have hmk := run_make (P := Tryd.prog) w1 26 5 i0 (.int .u8 0) Tryd.underlying26 hi0 hz0 .i64 .i64 (L : Int) (L : Int) (by omega) (by omega) (by rw [hz2]; omega) (by omega)
    rw [Int.toNat_natCast, hz1, Nat.mul_one, made_bytes] at hmk
    obtain ⟨C, hC⟩ : ∃ C, C = bcells (List.replicate L 0) := ⟨_, rfl⟩
    rw [← hC] at hmk
    have HC := Lib.hid hC
    clear hC
    go_wp2_with fail
    go_meet
    have hb := Box.new w1 5 C
    rw [HC.out] at hb
    rw [HC.out]
    exact ⟨_, rfl, hb, HB1.out.alloc HB1.out.size _, HB1.out.size⟩
  case rest =>
    obtain ⟨g, rfl, hs⟩ := hcut
    have HS := Lib.hid hs
    clear hs HB1
    go_wp2_with fail
    go_loopg [7] L (fun gh i wx => ∃ k : Nat, ∃ ys : List UInt8, k + gh = L ∧ i = .int .i64 k ∧ ys.length = L ∧ St w wx g ys)
    case atStart => exact ⟨0, _, by omega, rfl, by simp, HS.out⟩
    case round =>
      obtain ⟨k, ys, hk, rfl, hyl, hs⟩ := hrel
      have HK := Lib.hid hk
      have HY := Lib.hid hyl
      have HSr := Lib.hid hs
      have hkL : k ≤ L := by omega
      clear hk hyl hs HS
      by_cases hlt : k < L
      · have hki : (k : Int) < (L : Int) := by omega
        have q : wr.cell? ⟨g, k, none⟩ = some (.int .u8 ((ys.getD k 0).toNat : Int)) := (HSr.out.1.cell k).trans (bcells_get ys k (by rw [HY.out]; exact hlt))
        have wf := HSr.out.1.free k
        obtain ⟨y, hy⟩ : ∃ y, y = ((ys.getD k 0).toNat : Int) := ⟨_, rfl⟩
        rw [← hy] at q
        clear hy
        go_wp2_with fail
        go_roundg (L - (k + 1))
        case measure => have := HK.out; omega
        case rel =>
          have hp := HSr.out.1.put k (.int .u8 (((c : Int) + (k : Int) / 7) % 256))
          rw [bcells_set _ _ _ (by omega) (by omega)] at hp
          exact ⟨k + 1, _, by omega, by go_num, by rw [List.length_set]; exact HY.out, hp, HSr.out.2.1.setCell HSr.out.2.2 _, HSr.out.2.2⟩
      · have hkL2 : k = L := by omega
        subst hkL2
        obtain ⟨Z, hZ⟩ : ∃ Z, Z = ((crcOf ys).toNat : Int) := ⟨_, rfl⟩
        have hcv : ∀ W, St w W g ys → (convert 26 9 (.slice (some ⟨g, 0, none⟩) k k)).run Tryd.prog W = .ok (.string (str ys)) W := fun W hW => run_str (P := Tryd.prog) W 26 Tryd.underlying26 Tryd.underlying5 (c := k) hW.dat HY.out 9 Tryd.underlying9
        have HOF : Hid (∀ W, (St w W g ys ∧ (convert 26 9 (.slice (some ⟨g, 0, none⟩) k k)).run Tryd.prog W = .ok (.string (str ys)) W) → Calls Tryd.prog 12 #[.slice (some ⟨g, 0, none⟩) k k] W fun e w' => e = .returned (.int .u32 Z) ∧ Below W.heap.size W w') := fun W hW => by rw [hZ]; exact pof_any (HG.out.below hW.1.2.1 hw2) hW.1.dat HY.out (Nat.le_refl _) (by omega)
        have HREF : Hid (∀ W, Calls Tryd.prog 11 #[.string (str ys)] W fun e w' => e = .returned (.int .u32 Z) ∧ Below W.heap.size W w') := fun W => by
          have h := of_any (str ys) W (by show ys.toArray.size ≤ _; rw [List.size_toArray, HY.out]; omega)
          rw [show (str ys).data.toList = ys from rfl, ← hZ] at h
          exact h
        have h0 : St w wr.drew g ys := ⟨HSr.out.1, HSr.out.2.1.drew, HSr.out.2.2⟩
        have c0 := hcv _ h0
        have HCV := Lib.hid hcv
        clear hZ hcv HK HSr
        go_upto_region 9 with fail
        go_region_held3 (fun w' => St w w' g ys ∧ (convert 26 9 (.slice (some ⟨g, 0, none⟩) k k)).run Tryd.prog w' = .ok (.string (str ys)) w') (first | exact ⟨h0, c0⟩ | exact ⟨s7, c7⟩ | assumption)
          (first
            | (go_at_call 12; refine (HOF.out _ (by assumption)).mono ?_; rintro e' w7 ⟨rfl, hB7⟩; have s7 := St.step (by first | assumption | exact And.left (by assumption)) hB7; have c7 := HCV.out _ s7; clear hB7)
            | (go_at_call 11; refine (HREF.out _).mono ?_; rintro e' w7 ⟨rfl, hB7⟩; have s7 := St.step (by first | assumption | exact And.left (by assumption)) hB7; have c7 := HCV.out _ s7; clear hB7))
        go_wp2_with fail
        go_ret
        exact ⟨rfl, St.below ys (by assumption)⟩

set_option maxRecDepth 100000 in
theorem lifted (os : Os) (started : os.Started) (H : Type) (enc : TypeId × Value → H) :
    ReturnsInHanded {} Tryd.checked os 4 .any (fun w args => (Rows.crcLengthsSpec.pre enc Tryd.prog Tryd.f4 [] false w args ∧ laidMetH Tryd.prog laidL w) ∧ sizedMet enc Tryd.prog Tryd.f4 (OpenSpec.ofChange Rows.crcLengthsSpec) false w args)
      (Rows.crcLengthsSpec.post enc Tryd.prog Tryd.f4 false true false false) := by
  refine returnsInHanded_of_change_and (C := Tryd.checked) (X := fun w _ => laidMetH Tryd.prog laidL w) (fun _ _ _ hh h => h.of_heap hh) own started (by kernel_rfl) Tryd.func4
    (ChangeSpec.witness_shaped (enc := enc) (C := Tryd.checked) (os := os) (X := fun w _ => laidMetH Tryd.prog laidL w) false (World.doorLaid Tryd.prog 400 os) #[.int .u16 0, .int .u8 0] 8 rfl (World.shaped_of_RefB (by kernel_rfl) (by kernel_rfl)) (by kernel_rfl) (by kernel_rfl) (by kernel_rfl) (door_met os _)) ?_
  intro W base args ds gs before hval0 hW _ _ hL _
  have hval : ∀ (j : Nat) t v, Tryd.f4.params[j]? = some t → args[j]? = some v → Value.okWide Tryd.prog W .any base t v := hval0
  have hW' := hW
  obtain ⟨p, q, hA0, hV, rfl, hfz, hnd⟩ := hW
  have hA : DataW.TrodAll enc Tryd.prog W 0 (fun _ => true) true Tryd.f4.params.toList args.toList ds p := hA0
  rw [Tryd.params4] at hA hval
  obtain ⟨v0, vs0, d0, ds0, p0, q0, hargs, rfl, rfl, h0, r0⟩ := trodAll_cons hA
  obtain ⟨v1, vs1, d1, ds1, p1, q1, rfl, rfl, rfl, h1, r1⟩ := trodAll_cons r0
  obtain ⟨rfl, rfl, rfl⟩ := trodAll_nil r1
  obtain rfl : args = #[v0, v1] := by cases args; simp_all
  obtain ⟨rfl, rfl⟩ := trodVars_none hV
  obtain ⟨a0, rfl, rfl, rfl, w0⟩ := open_int Tryd.underlying33 (hval 0 33 v0 rfl rfl) h0
  obtain ⟨a1, rfl, rfl, rfl, w1⟩ := open_int Tryd.underlying5 (hval 1 5 v1 rfl rfl) h1
  clear hA0 hval0
  have hn : 0 ≤ a0 ∧ a0 ≤ 65535 := by simpa [Lit.wf, IntKind.min, IntKind.max, IntKind.signed, IntKind.bits] using w0
  have hc : 0 ≤ a1 ∧ a1 ≤ 255 := by simpa [Lit.wf, IntKind.min, IntKind.max, IntKind.signed, IntKind.bits] using w1
  obtain ⟨n, rfl⟩ := Int.eq_ofNat_of_zero_le hn.1
  obtain ⟨c, rfl⟩ := Int.eq_ofNat_of_zero_le hc.1
  refine (walk n c W (glob_of_laid hL) (by omega)).mono fun e W' ⟨he, bel⟩ => ?_
  subst he
  exact ⟨_, rfl, _, _, _, [], _, [], hW', trodAll_mk1 (shut_bool Tryd.underlying4 _), (trodAll_cons_mk (shut_int Tryd.underlying33 w0) (trodAll_mk1 (shut_int Tryd.underlying5 w1))), rfl, bel.frame _, fun h => by cases h⟩

theorem over : Rows.crcLengthsRow.holds Tryd.pinned (OpenSpec.ofChange Rows.crcLengthsSpec) :=
  OpenClaim.holds_of_wide 4 Tryd.f4 rfl rfl rfl rfl rfl rfl rfl ⟨rfl, rfl, rfl, rfl, rfl⟩ rfl rfl rfl rfl rfl (by kernel_rfl) Tryd.func4 (by kernel_rfl)
    (of_decide_eq_true (by kernel_rfl)) (by unfold Func.isWrapper; first | (rw [if_pos (by decide +kernel)]; kernel_rfl) | (rw [if_neg (by decide +kernel)]; exact ⟨rfl, rfl⟩))
    (fun os started H enc _ => lifted os started H enc)

/-- ████ THE STATEMENT ████ -/
theorem proved : Rows.CrcLengthsCardSaid :=
  Claim7.holds_tied_plain_at .later [] [.data] true Rows.crcLengthsCard.stood.harness false
    over (fun _ h => by cases h) (by kernel_rfl) (fun _ h => by cases h) crcLengths_row_tie rfl ⟨rfl, rfl⟩ (by kernel_rfl) rfl
    (fun f fn hf hfn => by
      obtain rfl : f = 4 := Option.some.inj ((show Tryd.prog.funcNamed Rows.crcLengthsRow.func = some 4 by kernel_rfl).symm.trans hf) |>.symm
      obtain rfl : fn = Tryd.f4 := (Option.some.inj (Tryd.func4.symm.trans hfn)).symm
      exact ⟨by kernel_rfl, fun j t ht => by
        rw [Tryd.params4] at ht
        have hm : t ∈ [33, 5] := by
          have := Array.mem_of_getElem? ht
          simp at this
          simpa using this
        have hall : ([33, 5].all fun u => !Tryd.prog.wantsStandIn u) = true := by kernel_rfl
        exact (show Tryd.prog.wantsStandIn t = false by simpa using List.all_eq_true.1 hall t hm)⟩)
    (by kernel_rfl)
#print axioms proved
end Go.Proofs.YtliieipgmjnnfaaDoor.crcLengths
