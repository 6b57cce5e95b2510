
/- MatchSame holds, tied to the program's text: for every byte, number and level the law returns true. No condition of ours; the row's own: the package's variable reads as the text lays it. -/
import Derived.Test.YtfaonmggiffemaaDoorMatLaw
namespace Go.Proofs.YtfaonmggiffemaaDoor.matchSame
open Go.ChangeShapes Go.WideShapes Go.ChangeAt Go.RowKit

/-- The first k bytes are laid. -/
def part (x : UInt8) (m k : Nat) : List UInt8 := List.replicate k x ++ List.replicate (m - k) 0
theorem part_zero (x : UInt8) (m : Nat) : part x m 0 = List.replicate m 0 := by simp [part]
theorem part_all (x : UInt8) (m : Nat) : part x m m = List.replicate m x := by simp [part]
theorem part_len (x : UInt8) {m k : Nat} (h : k ≤ m) : (part x m k).length = m := by simp [part]; omega
theorem part_set (x : UInt8) {m k : Nat} (h : k < m) : (part x m k).set k x = part x m (k + 1) := by
  unfold part
  rw [List.set_append_right _ _ (by simp), List.length_replicate, Nat.sub_self, show m - k = m - (k + 1) + 1 by omega, List.replicate_succ, List.set_cons_zero, List.replicate_succ', List.append_assoc]
  rfl

theorem dat_of_row {w : World} {lo hi : Nat} {A : Option Addr} {xs : List UInt8} (h : DatE cel w lo hi A xs) : Dat false w lo hi A xs := fun hx => by
  obtain ⟨d, o, hA, h1, h2, hc⟩ := h hx
  exact ⟨d, o, hA, h1, h2, fun j hj => by rw [hc j hj, List.getD_eq_getElem?_getD, List.getElem?_eq_getElem hj]; rfl, fun h => by cases h⟩
/-- What the loop holds. -/
structure SI (w0 w : World) (x : UInt8) (m k : Nat) : Prop where
  own : OwE cel w 5 w0.heap.size (.slice (some ⟨w0.heap.size, 0, none⟩) m m) (part x m k)
  be : Below w0.heap.size w0 w

set_option maxRecDepth 100000 in
set_option maxHeartbeats 4000000 in
theorem walk (cc n lv : Int) (w : World) (hgl : Glob w) (hb0 : 0 ≤ cc ∧ cc ≤ 255) (hb1 : 0 ≤ n ∧ n ≤ 65535) (hb2 : 0 ≤ lv ∧ lv ≤ 255) :
    Calls Tryd.prog 4 #[.int .u8 cc, .int .u16 n, .int .u8 lv] w fun e w' => e = .returned (.bool true) ∧ Below w.heap.size w w' := by
  have HG := Lib.hid hgl
  have hw2 := hgl.2
  obtain ⟨cn, rfl⟩ := Int.eq_ofNat_of_zero_le hb0.1
  obtain ⟨nn, rfl⟩ := Int.eq_ofNat_of_zero_le hb1.1
  obtain ⟨ln, rfl⟩ := Int.eq_ofNat_of_zero_le hb2.1
  have hnn : nn ≤ 65535 := by omega
  have hln : ln ≤ 255 := by omega
  obtain ⟨x, hx⟩ : ∃ x : UInt8, (x.toNat : Int) = (cn : Int) := ⟨UInt8.ofNat cn, by simp; omega⟩
  rw [← hx]
  obtain ⟨m, hm⟩ : ∃ m, m = nn % 900 := ⟨_, rfl⟩
  have hm9 : m ≤ 899 := by omega
  have hmi : ((nn : Int).tmod 900) = (m : Int) := by
    rw [hm, Int.tmod_eq_emod_of_nonneg (by omega)]
    simp
  have hmi2 : ((nn : Int) % 900) = (m : Int) := by rw [hm]; simp
  obtain ⟨l, hl⟩ : ∃ l, l = ln % 9 := ⟨_, rfl⟩
  have hl9 : l ≤ 8 := by omega
  have hli : ((ln : Int).tmod 9) = (l : Int) := by
    rw [hl, Int.tmod_eq_emod_of_nonneg (by omega)]
    simp
  have hli2 : ((ln : Int) % 9) = (l : Int) := by rw [hl]; simp
  obtain ⟨l1, hl1⟩ : ∃ l1, l1 = l + 1 := ⟨_, rfl⟩
  have hl1b : 1 ≤ l1 ∧ l1 ≤ 9 := by omega
  have hli3 : (l : Int) + 1 = (l1 : Int) := by omega
  obtain ⟨i0, hi0, hz0, hz1, hz2⟩ := info_parts u8_row
  have HI := Lib.hid (And.intro hi0 (And.intro hz0 (And.intro hz1 hz2)))
  clear hgl hb0 hb1 hb2 hx hm hl hl1 hi0 hz0 hz1 hz2
  go_enter Tryd.func4, Tryd.ntmps4
  go_upto_region 5 with (go_at_call 7; refine (awake_any _ HG.out).mono ?_; rintro e' w1 ⟨rfl, hB1⟩; have HB1 := Lib.hid hB1; clear hB1)
  have hs1 := HB1.out.size
  go_wp2_with (at_make; refine wpList_make_full _ rfl _ _ 22 rfl w1.heap.size 5 i0 (.int .u8 0) 1 Tryd.underlying22 HI.out.1 HI.out.2.1 HI.out.2.2.1 .i64 .i64 _ _ m rfl rfl rfl rfl ?_ ?_ ?_ ?_)
  · first | omega | (rw [HI.out.2.2.2]; omega)
  · unfold maxLen; omega
  · exact Nat.le_refl _
  intro w2 ho hg
  have hS0 : SI w1 w2 x m 0 := ⟨by rw [part_zero]; exact OwE.madeA (f := cel) (z := 0) ho, (Below.refl _ _).grown hg (Nat.le_refl _) (fun j hj => by cases hj)⟩
  have HS0 := Lib.hid hS0
  clear ho hg hS0
  go_wp2_with fail
  go_loopg [10] m (fun gh i wx => ∃ k : Nat, i = .int .i64 (k : Int) ∧ k + gh = m ∧ Hid (SI w1 wx x m k))
  case atStart => exact ⟨0, rfl, by omega, HS0⟩
  case round =>
    obtain ⟨k, rfl, hkg, HS⟩ := hrel
    have HKG := Lib.hid hkg
    have hkm : k ≤ m := by omega
    clear hkg HS0
    by_cases hlt : k < m
    · obtain ⟨g', rfl⟩ : ∃ g', gk = g' + 1 := ⟨gk - 1, by have := HKG.out; omega⟩
      have hki : (k : Int) < (m : Int) := by omega
      have hkl : k < (part x m k).length := by rw [part_len x hkm]; exact hlt
      have hc := (HS.out.own.cellA k hkl).1
      have hf := (HS.out.own.cellA k hkl).2
      unfold cel at hc
      have HS1 : Hid (SI w1 (wr.setCell ⟨w1.heap.size, k, none⟩ (.int .u8 (x.toNat : Int))) x m (k + 1)) := by
        have h := HS.out.own.putA k x
        rw [part_set x hlt] at h
        exact ⟨h, HS.out.be.setCell (Nat.le_refl _) _⟩
      generalize (part x m k)[k] = y at hc
      go_wp2_with fail
      go_roundg g'
      case rel => exact ⟨k + 1, by go_num, by have := HKG.out; omega, HS1⟩
      case measure => omega
    · obtain rfl : k = m := by omega
      have hki : ¬ (k : Int) < (k : Int) := by omega
      have hown := HS.out.own
      rw [part_all] at hown
      have hlen : (List.replicate k x).length = k := by simp
      have hD := Lib.hid (dat_of_row hown.datA)
      have hB3 := Lib.hid (HB1.out.trans (HS.out.be.mono hs1))
      have hs3 := HS.out.be.size
      have HF : Hid (Calls Tryd.prog 8 #[.slice (some ⟨w1.heap.size, 0, none⟩) k k, .int .i64 0, .int .i64 (k : Int), .int .i64 (l1 : Int)] wr (FPost (List.replicate k x) 0 k l1 wr)) :=
        find_ok (HG.out.below hB3.out hw2) hD.out hlen (Nat.le_refl _) (by omega) (Nat.le_refl _) 0 k l1 (Nat.zero_le _) (Nat.le_refl _) hl1b.2
      have hal : ∀ i, 0 ≤ i → i < k → (List.replicate k x).getD i 0 = (List.replicate k x).getD 0 0 := fun i _ hi => by
        rw [List.getD_eq_getElem?_getD, List.getD_eq_getElem?_getD, List.getElem?_replicate, List.getElem?_replicate, if_pos hi, if_pos (by omega)]
      have HAl := Lib.hid hal
      clear hown hal
      go_upto_region 11 with (go_at_call 8; refine HF.out.mono ?_; rintro e' w4 ⟨⟨v, L, b, rfl, q, hq, ho, hmk, _, hne⟩, hB⟩; obtain ⟨A4, n4, c4, rfl⟩ := ho.slice; have HO4 := Lib.hid ho; have HM4 := Lib.hid hmk; have HQ4 := Lib.hid hq; have HN4 := Lib.hid hne; have hD4 := Lib.hid (hD.out.below hB (Nat.le_refl _)); have HB4 := Lib.hid (hB3.out.trans (hB.mono (by have := hB3.out.size; omega))); clear ho hB hmk hq hne)
      have HP : Hid (Calls Tryd.prog 9 #[.string (str (List.replicate k x)), .int .i64 0, .int .i64 (k : Int), .slice A4 n4 c4, .int .i64 (b : Int)] w4 fun e w' => e = .returned (.bool true) ∧ ∃ z, w' = w4.drewN z) :=
        ref_ok (fr := 0) HO4.out (by rw [hlen]; exact Nat.le_refl _) (by rw [hlen]; omega) HM4.out HQ4.out (Nat.zero_le _) 0
      have hcv := run_str (P := Tryd.prog) w4 22 Tryd.underlying22 Tryd.underlying5 (c := k) (m := k) hD4.out hlen 9 Tryd.underlying9
      have hln4 := HO4.out.len
      clear hlen HF
      generalize str (List.replicate k x) = S at *
      by_cases h8 : k < 8
      · have h8i : (k : Int) < 8 := by omega
        clear hln4
        go_wp2_with (go_at_call 9; refine HP.out.mono ?_; rintro e' w5 ⟨rfl, z, rfl⟩)
        go_ret
        exact ⟨rfl, below_drewN HB4.out z⟩
      · have h8i : ¬ (k : Int) < 8 := by omega
        have hpos : (0 : Int) < (n4 : Int) := by
          have hne := HN4.out hl1b.1 (by omega) HAl.out
          have : 0 < L.length := List.length_pos_iff.2 hne
          omega
        clear hln4
        go_wp2_with (go_at_call 9; refine HP.out.mono ?_; rintro e' w5 ⟨rfl, z, rfl⟩)
        go_ret
        refine ⟨?_, below_drewN HB4.out z⟩
        simp
        omega

set_option maxRecDepth 100000 in
theorem lifted (os : Os) (started : os.Started) (H : Type) (enc : TypeId × Value → H) :
    ReturnsInHanded {} Tryd.checked os 4 .any (fun w args => (Rows.matchSameSpec.pre enc Tryd.prog Tryd.f4 [] false w args ∧ laidMetH Tryd.prog laidL w) ∧ sizedMet enc Tryd.prog Tryd.f4 (OpenSpec.ofChange Rows.matchSameSpec) false w args)
      (Rows.matchSameSpec.post enc Tryd.prog Tryd.f4 false true false false) := by
  refine returnsInHanded_of_change_and (C := Tryd.checked) (X := fun w _ => laidMetH Tryd.prog laidL w) (fun _ _ _ hh h => h.of_heap hh) own started (by kernel_rfl) Tryd.func4
    (ChangeSpec.witness_shaped (enc := enc) (C := Tryd.checked) (os := os) (X := fun w _ => laidMetH Tryd.prog laidL w) false (World.doorLaid Tryd.prog 400 os) #[.int .u8 0, .int .u16 0, .int .u8 0] 8 rfl (World.shaped_of_RefB (by kernel_rfl) (by kernel_rfl)) (by kernel_rfl) (by kernel_rfl) (by kernel_rfl) (door_met os _)) ?_
  intro W base args ds gs before hval0 hW _ _ hL _
  have hval : ∀ (j : Nat) t v, Tryd.f4.params[j]? = some t → args[j]? = some v → Value.okWide Tryd.prog W .any base t v := hval0
  have hW' := hW
  obtain ⟨p, q, hA0, hV, rfl, hfz, hnd⟩ := hW
  have hA : DataW.TrodAll enc Tryd.prog W 0 (fun _ => true) true Tryd.f4.params.toList args.toList ds p := hA0
  rw [Tryd.params4] at hA hval
  obtain ⟨v0, vs0, d0, ds0, p0, q0, hargs, rfl, rfl, h0, r0⟩ := trodAll_cons hA
  obtain ⟨v1, vs1, d1, ds1, p1, q1, rfl, rfl, rfl, h1, r1⟩ := trodAll_cons r0
  obtain ⟨v2, vs2, d2, ds2, p2, q2, rfl, rfl, rfl, h2, r2⟩ := trodAll_cons r1
  obtain ⟨rfl, rfl, rfl⟩ := trodAll_nil r2
  obtain rfl : args = #[v0, v1, v2] := by cases args; simp_all
  obtain ⟨rfl, rfl⟩ := trodVars_none hV
  obtain ⟨n0, rfl, rfl, rfl, w0⟩ := open_int Tryd.underlying5 (hval 0 5 v0 rfl rfl) h0
  obtain ⟨n1, rfl, rfl, rfl, w1⟩ := open_int Tryd.underlying30 (hval 1 30 v1 rfl rfl) h1
  obtain ⟨n2, rfl, rfl, rfl, w2⟩ := open_int Tryd.underlying5 (hval 2 5 v2 rfl rfl) h2
  clear hA0 hval0
  refine (walk n0 n1 n2 W (glob_of_laid hL) (u8_bounds w0) (u16_bounds w1) (u8_bounds w2)).mono fun e W' ⟨he, bel⟩ => ?_
  subst he
  exact ⟨_, rfl, _, _, _, [], _, [], hW', trodAll_mk1 (shut_bool Tryd.underlying4 _), (trodAll_cons_mk (shut_int Tryd.underlying5 w0) (trodAll_cons_mk (shut_int Tryd.underlying30 w1) (trodAll_cons_mk (shut_int Tryd.underlying5 w2) trodAll_mk0))), rfl, bel.frame _, fun h => by cases h⟩

theorem over : Rows.matchSameRow.holds Tryd.pinned (OpenSpec.ofChange Rows.matchSameSpec) :=
  OpenClaim.holds_of_wide 4 Tryd.f4 rfl rfl rfl rfl rfl rfl rfl ⟨rfl, rfl, rfl, rfl, rfl⟩ rfl rfl rfl rfl rfl (by kernel_rfl) Tryd.func4 (by kernel_rfl)
    (of_decide_eq_true (by kernel_rfl)) (by unfold Func.isWrapper; first | (rw [if_pos (by decide +kernel)]; kernel_rfl) | (rw [if_neg (by decide +kernel)]; exact ⟨rfl, rfl⟩))
    (fun os started H enc _ => lifted os started H enc)

/-- ████ THE STATEMENT ████ -/
theorem proved : Rows.MatchSameCardSaid :=
  Claim7.holds_tied_plain_at .later [] [.data] true Rows.matchSameCard.stood.harness false
    over (fun _ h => by cases h) (by kernel_rfl) (fun _ h => by cases h) matchSame_row_tie rfl ⟨rfl, rfl⟩ (by kernel_rfl) rfl
    (fun f fn hf hfn => by
      obtain rfl : f = 4 := Option.some.inj ((show Tryd.prog.funcNamed Rows.matchSameRow.func = some 4 by kernel_rfl).symm.trans hf) |>.symm
      obtain rfl : fn = Tryd.f4 := (Option.some.inj (Tryd.func4.symm.trans hfn)).symm
      exact ⟨by kernel_rfl, fun j t ht => by
        rw [Tryd.params4] at ht
        have hm : t ∈ [5, 30, 5] := by
          have := Array.mem_of_getElem? ht
          simp at this
          simpa using this
        have hall : ([5, 30, 5].all fun u => !Tryd.prog.wantsStandIn u) = true := by kernel_rfl
        exact (show Tryd.prog.wantsStandIn t = false by simpa using List.all_eq_true.1 hall t hm)⟩)
    (by kernel_rfl)
#print axioms proved
end Go.Proofs.YtfaonmggiffemaaDoor.matchSame
