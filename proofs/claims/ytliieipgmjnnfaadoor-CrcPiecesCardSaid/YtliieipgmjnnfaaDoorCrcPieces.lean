/- CrcPieces holds, tied to the program's text: for every slice of bytes and every slice of cuts the law returns true, and the slices read behind the call as they read before. No condition of ours; the row's own: the package's table reads as the text lays it. -/
import Derived.Test.YtliieipgmjnnfaaDoorCrcArgs
namespace Go.Proofs.YtliieipgmjnnfaaDoor.crcPieces
open Go.ChangeShapes Go.WideShapes Go.ChangeAt Go.RowKit

theorem row16_of_trod {H : Type} {enc : TypeId × Value → H} {W : World} {a : Option Addr} {len cap : Nat} {d : DataW H} {p : List MemPlace}
    (h : ∃ fuel, DataW.trod enc Tryd.prog W 0 (fun _ => true) true fuel 35 (Value.cells (.slice a len cap)).toList = some (d, p)) : ∃ zs, IsRow .u16 W a len cap zs := by
  obtain ⟨fuel, hf⟩ := h
  rcases open_ints Tryd.underlying35 Tryd.underlying33 (by kernel_rfl) hf with ⟨hcs, _⟩ | ⟨x, l, c, zs, hcs, _, hl, hm, hz, _, hcell, hwz⟩
  · simp [Value.cells] at hcs
    obtain ⟨rfl, rfl, rfl⟩ := hcs
    exact ⟨[], .inl ⟨rfl, rfl, rfl, rfl⟩⟩
  · simp [Value.cells] at hcs
    obtain ⟨rfl, rfl, rfl⟩ := hcs
    exact ⟨zs, .inr ⟨_, rfl, hl, hm, by simpa using hz, hcell, hwz⟩⟩

/-- A digest; nothing that was there has turned. -/
def St (w wx : World) (g : Nat) (A : List UInt8) : Prop := Hsh wx g A ∧ Below w.heap.size w wx
section
variable {w wx w' : World} {g : Nat} {A A' : List UInt8}
theorem St.write (h : St w wx g A) (hg : w.heap.size ≤ g) (hh : Hsh w' g A') (hw : wx.grownBy w' (some g)) : St w w' g A' :=
  ⟨hh, h.2.trans (wide_to_below hw h.2.size hg)⟩
theorem St.step (h : St w wx g A) (hB : Below wx.heap.size wx w') : St w w' g A :=
  ⟨h.1.keep (hB.block g h.1.lt), h.2.trans (hB.mono h.2.size)⟩
end

/-- What the law reads of the cuts: where there are any, a cell each. -/
def Cuts (w wx : World) (a : Option Addr) (len : Nat) : Prop := Below w.heap.size w wx → 0 < len → ∃ b off, a = some ⟨b, off, none⟩ ∧ ∀ k, k < len → ∃ z : Nat, z < 65536 ∧ wx.cell? ⟨b, off + k, none⟩ = some (.int .u16 (z : Int))
theorem cuts_of_row {w : World} {a : Option Addr} {len cap : Nat} {zs : List Int} (h : IsRow .u16 w a len cap zs) (wx : World) : Cuts w wx a len := by
  intro hB hlen
  rcases h with ⟨_, rfl, _, _⟩ | ⟨x, rfl, hl, hm, hz, hc, hw⟩
  · omega
  · obtain ⟨b, off, rfl, hc'⟩ := ints_at hc (by omega)
    refine ⟨b, off, rfl, fun k hk => ?_⟩
    have hcell := hc' k (by omega)
    have hkz : k < zs.length := by omega
    have hwf := hw _ (List.getElem_mem hkz)
    have hr : 0 ≤ zs[k] ∧ zs[k] ≤ 65535 := by simpa [Lit.wf, IntKind.min, IntKind.max, IntKind.signed, IntKind.bits] using hwf
    have hlt := World.block_lt_of_cell? w _ hcell
    refine ⟨(zs[k]).toNat, by omega, ?_⟩
    rw [World.cell?_of_block (w := w) (w' := wx) (a := ⟨b, off + k, none⟩) (hB.block b hlt), hcell]
    simp [List.getD, hkz]
    omega

set_option maxRecDepth 100000 in
set_option maxHeartbeats 500000 in
theorem walk (a0 : Option Addr) (xs : List UInt8) (cap0 : Nat) (a1 : Option Addr) (len1 cap1 : Nat) (z1 : List Int) (w : World) (hgl : Glob w) (hd0 : Dat false w 0 w.heap.size a0 xs) (hc0 : xs.length ≤ cap0) (w1 : IsRow .u16 w a1 len1 cap1 z1) :
    Calls Tryd.prog 5 #[.slice a0 xs.length cap0, .slice a1 len1 cap1] w fun e w' => e = .returned (.bool true) ∧ Below w.heap.size w w' := by
  have HC := Lib.hid (fun wx => cuts_of_row w1 wx)
  have HG := Lib.hid hgl
  have HD0 := Lib.hid hd0
  have hw2 := hgl.2
  clear hgl hd0 w1
  by_cases hsmall : xs.length ≤ 1000 ∧ len1 ≤ 30
  · obtain ⟨hx5, hy5⟩ := hsmall
    have hxi : ¬ (1000 : Int) < (xs.length : Int) := by omega
    have hyi : ¬ (30 : Int) < (len1 : Int) := by omega
    obtain ⟨L, hL⟩ : ∃ L, L = xs.length := ⟨_, rfl⟩
    rw [← hL] at hx5 hxi hc0 ⊢
    have HL := Lib.hid hL
    clear hL
    go_enter Tryd.func5, Tryd.ntmps5
    go_upto_region 6 with (go_at_call 7; refine (awake_any _ HG.out).mono ?_; rintro e' w1 ⟨rfl, hB1⟩; have HB1 := Lib.hid hB1; clear hB1)
    go_cut [6] (fun p wx => ∃ g, p = .pointer (some ⟨g, 0, none⟩) ∧ w.heap.size ≤ g ∧ St w wx g [])
    case first =>
      go_wp2_with (go_at_call 8; refine (new_any _).mono ?_; rintro e' w5 ⟨rfl, hh5, hB5⟩; have HH5 := Lib.hid hh5; have HB5 := Lib.hid hB5; clear hh5 hB5)
      go_meet
      exact ⟨_, rfl, HB1.out.size, HH5.out, HB1.out.trans (HB5.out.mono HB1.out.size)⟩
    case rest =>
      obtain ⟨g, rfl, hg, ht⟩ := hcut
      have HT := Lib.hid ht
      clear ht HB1
      go_wp2_with fail
      go_loopg [7, 8] len1 (fun gh p i wx => ∃ k at_ : Nat, k + gh = len1 ∧ at_ ≤ L ∧ p = .int .i64 at_ ∧ i = .int .i64 k ∧ St w wx g (xs.take at_))
      case atStart => exact ⟨0, 0, by omega, by omega, rfl, rfl, HT.out⟩
      case round =>
        obtain ⟨k, at_, hk, hat, rfl, rfl, ht⟩ := hrel
        have HK := Lib.hid hk
        have HTr := Lib.hid ht
        have hk1 : k ≤ len1 := by omega
        clear hk ht HT
        have hlat : (xs.take at_).length = at_ := by rw [List.length_take, ← HL.out]; omega
        have HLA := Lib.hid hlat
        clear hlat
        by_cases hlt : k < len1
        · have hlti : (k : Int) < (len1 : Int) := by omega
          obtain ⟨b, off, rfl, hz⟩ := HC.out wr HTr.out.2 (by omega)
          obtain ⟨z, hz16, hcell⟩ := hz k hlt
          have HCW := Lib.hid (HC.out)
          clear hz HC
          obtain ⟨q, hq⟩ : ∃ q, q = z % (L - at_ + 1) := ⟨_, rfl⟩
          have hqL : at_ + q ≤ L := by have : z % (L - at_ + 1) < L - at_ + 1 := Nat.mod_lt _ (by omega); omega
          have hqi : (z : Int) % ((L : Int) - (at_ : Int) + 1) = (q : Int) := by
            rw [hq, Int.natCast_emod]
            congr 1
            omega
          have hqt : (z : Int).tmod ((L : Int) - (at_ : Int) + 1) = (q : Int) := by rw [Int.tmod_eq_emod_of_nonneg (by omega)]; exact hqi
          clear hq
          obtain ⟨zs, hzs⟩ : ∃ zs, zs = (xs.drop at_).take q := ⟨_, rfl⟩
          have hzl : zs.length = q := by rw [hzs, List.length_take, List.length_drop, ← HL.out]; omega
          have HDL : Hid (q = 0 → Dat false wr 0 w.heap.size a0 zs) := fun h0 => by
            have : zs = [] := List.eq_nil_of_length_eq_zero (by omega)
            rw [this]
            exact Dat.nil _ _ _ _ _
          have HDR : Hid (Dat false wr 0 w.heap.size (a0.map (fun x => x.add at_)) zs) := by
            rw [hzs]
            exact ((HD0.out.below HTr.out.2 (Nat.le_refl _)).drop at_).take q
          have htk : xs.take at_ ++ zs = xs.take (at_ + q) := by rw [hzs, List.take_add]
          have HTK := Lib.hid htk
          have HZL := Lib.hid hzl
          clear hzs htk hzl
          go_upto_region 12 with fail
          go_cut [] (fun wx => St w wx g (xs.take (at_ + q)))
          case first =>
            by_cases hcap : cap0 = at_
            · subst hcap
              have hq0 : q = 0 := by omega
              have HDl := Lib.hid (HDL.out hq0)
              subst hq0
              go_wp2_with (go_at_call 9; refine (write_any (HG.out.below HTr.out.2 hw2) HTr.out.1 HDl.out HZL.out (by omega)).mono ?_; rintro e' w6 ⟨rfl, hh6, hg6⟩; have HT6 := Lib.hid (HTr.out.write hg hh6 hg6); clear hh6 hg6)
              go_meet
              rw [← HTK.out]
              exact HT6.out
            · go_wp2_with (go_at_call 9; refine (write_any (HG.out.below HTr.out.2 hw2) HTr.out.1 HDR.out HZL.out (by omega)).mono ?_; rintro e' w6 ⟨rfl, hh6, hg6⟩; have HT6 := Lib.hid (HTr.out.write hg hh6 hg6); clear hh6 hg6)
              go_meet
              rw [← HTK.out]
              exact HT6.out
          case rest =>
            have HT1 := Lib.hid (show St w wc g (xs.take (at_ + q)) from hcut)
            clear hcut HTr HDL HDR HTK HZL hcell
            obtain ⟨m, hm⟩ : ∃ m, m = at_ + q := ⟨_, rfl⟩
            rw [← hm] at HT1 hqL
            have hmi : (at_ : Int) + (q : Int) = (m : Int) := by omega
            have hmc : (m : Int) ≤ (cap0 : Int) := by omega
            clear hm
            have hlaq : (xs.take m).length = m := by rw [List.length_take, ← HL.out]; omega
            obtain ⟨Z, hZ⟩ : ∃ Z, Z = ((crcOf (xs.take m)).toNat : Int) := ⟨_, rfl⟩
            have HSUM : Hid (∀ W, St w W g (xs.take m) → Calls Tryd.prog 10 #[.pointer (some ⟨g, 0, none⟩)] W fun e w' => e = .returned (.int .u32 Z) ∧ Below W.heap.size W w') := fun W hW => by rw [hZ]; exact sum_any hW.1
            have HOF : Hid (∀ W, St w W g (xs.take m) → Calls Tryd.prog 12 #[.slice a0 m cap0] W fun e w' => e = .returned (.int .u32 Z) ∧ Below W.heap.size W w') := fun W hW => by rw [hZ]; exact pof_any (HG.out.below hW.2 hw2) ((HD0.out.below hW.2 (Nat.le_refl _)).take m) hlaq hW.2.size (by omega)
            clear hZ hlaq
            go_upto_region 13 with fail
            go_cut [7] (fun p wx => wc = wx ∧ p = .int .i64 (m : Int))
            case first =>
              go_wp2_with fail
              go_meet
              exact ⟨rfl, rfl⟩
            case rest =>
              obtain ⟨rfl, rfl⟩ := hcut
              have h0 : St w wc.drew g (xs.take m) := ⟨HT1.out.1, HT1.out.2.drew⟩
              clear hmi
              go_upto_region 14 with fail
              go_region_held3 (fun w' => St w w' g (xs.take m)) (first | exact h0 | exact s7 | assumption)
                (first
                  | (go_at_call 10; refine (HSUM.out _ (by assumption)).mono ?_; rintro e' w7 ⟨rfl, hB7⟩; have s7 := St.step (by assumption) hB7; clear hB7)
                  | (go_at_call 12; refine (HOF.out _ (by assumption)).mono ?_; rintro e' w7 ⟨rfl, hB7⟩; have s7 := St.step (by assumption) hB7; clear hB7))
              go_wp2_with fail
              go_roundg (len1 - (k + 1))
              case measure => have := HK.out; omega
              case rel => exact ⟨k + 1, m, by omega, hqL, rfl, by go_num, by assumption⟩
        · have hk : k = len1 := by omega
          subst hk
          obtain ⟨zs, hzs⟩ : ∃ zs, zs = xs.drop at_ := ⟨_, rfl⟩
          have hzl : zs.length = L - at_ := by rw [hzs, List.length_drop, ← HL.out]
          have HDL : Hid (L - at_ = 0 → Dat false wr 0 w.heap.size a0 zs) := fun h0 => by
            have : zs = [] := List.eq_nil_of_length_eq_zero (by omega)
            rw [this]
            exact Dat.nil _ _ _ _ _
          have HDR : Hid (Dat false wr 0 w.heap.size (a0.map (fun x => x.add at_)) zs) := by
            rw [hzs]
            exact (HD0.out.below HTr.out.2 (Nat.le_refl _)).drop at_
          have htk : xs.take at_ ++ zs = xs := by rw [hzs, List.take_append_drop]
          have HTK := Lib.hid htk
          have HZL := Lib.hid hzl
          have hati : (at_ : Int) ≤ (L : Int) := by omega
          clear hzs htk hzl HK HC
          go_upto_region 16 with fail
          go_cut [] (fun wx => St w wx g xs)
          case first =>
            by_cases hcap : cap0 = at_
            · subst hcap
              have hq0 : L - cap0 = 0 := by omega
              have hq1 : L = cap0 := by omega
              subst hq1
              have HDl := Lib.hid (HDL.out hq0)
              rw [hq0] at HZL
              go_wp2_with (go_at_call 9; refine (write_any (HG.out.below HTr.out.2 hw2) HTr.out.1 HDl.out HZL.out (by omega)).mono ?_; rintro e' w6 ⟨rfl, hh6, hg6⟩; have HT6 := Lib.hid (HTr.out.write hg hh6 hg6); clear hh6 hg6)
              go_meet
              rw [← HTK.out]
              exact HT6.out
            · go_wp2_with (go_at_call 9; refine (write_any (HG.out.below HTr.out.2 hw2) HTr.out.1 HDR.out HZL.out (by omega)).mono ?_; rintro e' w6 ⟨rfl, hh6, hg6⟩; have HT6 := Lib.hid (HTr.out.write hg hh6 hg6); clear hh6 hg6)
              go_meet
              rw [← HTK.out]
              exact HT6.out
          case rest =>
            have HS0 := Lib.hid (show St w wc g xs from hcut)
            clear hcut HTr HDL HDR HTK HZL
            obtain ⟨Z, hZ⟩ : ∃ Z, Z = ((crcOf xs).toNat : Int) := ⟨_, rfl⟩
            obtain ⟨Y, hY⟩ : ∃ Y, Y = ((crcOf []).toNat : Int) := ⟨_, rfl⟩
            have HSUM : Hid (∀ W, St w W g xs → Calls Tryd.prog 10 #[.pointer (some ⟨g, 0, none⟩)] W fun e w' => e = .returned (.int .u32 Z) ∧ Below W.heap.size W w') := fun W hW => by rw [hZ]; exact sum_any hW.1
            have HOF : Hid (∀ W, St w W g xs → Calls Tryd.prog 12 #[.slice a0 L cap0] W fun e w' => e = .returned (.int .u32 Z) ∧ Below W.heap.size W w') := fun W hW => by rw [hZ]; exact pof_any (HG.out.below hW.2 hw2) (HD0.out.below hW.2 (Nat.le_refl _)) HL.out.symm hW.2.size (by omega)
            have HSN : Hid (∀ W, St w W g xs → Calls Tryd.prog 10 #[.pointer none] W fun e w' => e = .returned (.int .u32 Y) ∧ Below W.heap.size W w') := fun W hW => by rw [hY]; exact sum_nil W (HG.out.below hW.2 hw2)
            have HON : Hid (∀ W, St w W g xs → Calls Tryd.prog 12 #[.slice none 0 0] W fun e w' => e = .returned (.int .u32 Y) ∧ Below W.heap.size W w') := fun W hW => by rw [hY]; exact pof_any (own := false) (HG.out.below hW.2 hw2) (Dat.nil false W 0 0 none) rfl (Nat.zero_le _) (Nat.zero_le _)
            clear hZ hY
            go_upto_region 19 with (go_at_call 9; refine (write_nil _ _).mono ?_; rintro e' w' ⟨rfl, rfl⟩)
            go_wp2_with (first
              | (go_at_call 10; refine (HSUM.out _ HS0.out).mono ?_; rintro e' w6 ⟨rfl, hB⟩; have HS1 := Lib.hid (HS0.out.step hB); clear hB HS0)
              | (go_at_call 12; refine (HOF.out _ HS1.out).mono ?_; rintro e' w7 ⟨rfl, hB⟩; have HS2 := Lib.hid (HS1.out.step hB); clear hB HS1)
              | (go_at_call 10; refine (HSUM.out _ HS2.out).mono ?_; rintro e' w8 ⟨rfl, hB⟩; have HS3 := Lib.hid (HS2.out.step hB); clear hB HS2)
              | (go_at_call 10; refine (HSUM.out _ HS3.out).mono ?_; rintro e' w9 ⟨rfl, hB⟩; have HS4 := Lib.hid (HS3.out.step hB); clear hB HS3)
              | (go_at_call 10; refine (HSN.out _ HS4.out).mono ?_; rintro e' w10 ⟨rfl, hB⟩; have HS5 := Lib.hid (HS4.out.step hB); clear hB HS4)
              | (go_at_call 12; refine (HON.out _ HS5.out).mono ?_; rintro e' w11 ⟨rfl, hB⟩; have HS6 := Lib.hid (HS5.out.step hB); clear hB HS5))
            go_ret
            exact ⟨rfl, HS6.out.2⟩
  · go_enter Tryd.func5, Tryd.ntmps5
    by_cases hx5 : xs.length ≤ 1000
    · have hyi : (30 : Int) < (len1 : Int) := by omega
      have hxi : ¬ (1000 : Int) < (xs.length : Int) := by omega
      go_wp2_with (go_at_call 7; refine (awake_any _ HG.out).mono ?_; rintro e' w1 ⟨rfl, hB1⟩; have HB1 := Lib.hid hB1; clear hB1)
      go_ret
      exact ⟨rfl, HB1.out⟩
    · have hxi : (1000 : Int) < (xs.length : Int) := by omega
      go_wp2_with (go_at_call 7; refine (awake_any _ HG.out).mono ?_; rintro e' w1 ⟨rfl, hB1⟩; have HB1 := Lib.hid hB1; clear hB1)
      go_ret
      exact ⟨rfl, HB1.out⟩

set_option maxRecDepth 100000 in
theorem lifted (os : Os) (started : os.Started) (H : Type) (enc : TypeId × Value → H) :
    ReturnsInHanded {} Tryd.checked os 5 .any (fun w args => (Rows.crcPiecesSpec.pre enc Tryd.prog Tryd.f5 [] false w args ∧ laidMetH Tryd.prog laidL w) ∧ sizedMet enc Tryd.prog Tryd.f5 (OpenSpec.ofChange Rows.crcPiecesSpec) false w args)
      (Rows.crcPiecesSpec.post enc Tryd.prog Tryd.f5 false true false false) := by
  refine returnsInHanded_of_change_and (C := Tryd.checked) (X := fun w _ => laidMetH Tryd.prog laidL w) (fun _ _ _ hh h => h.of_heap hh) own started (by kernel_rfl) Tryd.func5
    (ChangeSpec.witness_shaped (enc := enc) (C := Tryd.checked) (os := os) (X := fun w _ => laidMetH Tryd.prog laidL w) false (World.doorLaid Tryd.prog 400 os) #[.slice none 0 0, .slice none 0 0] 8 rfl (World.shaped_of_RefB (by kernel_rfl) (by kernel_rfl)) (by kernel_rfl) (by kernel_rfl) (by kernel_rfl) (door_met os _)) ?_
  intro W base args ds gs before hval0 hW _ _ hL _
  have hval : ∀ (j : Nat) t v, Tryd.f5.params[j]? = some t → args[j]? = some v → Value.okWide Tryd.prog W .any base t v := hval0
  have hW' := hW
  obtain ⟨p, q, hA0, hV, rfl, hfz, hnd⟩ := hW
  have hA : DataW.TrodAll enc Tryd.prog W 0 (fun _ => true) true Tryd.f5.params.toList args.toList ds p := hA0
  rw [Tryd.params5] at hA hval
  obtain ⟨v0, vs0, d0, ds0, p0, q0, hargs, rfl, rfl, h0, r0⟩ := trodAll_cons hA
  obtain ⟨v1, vs1, d1, ds1, p1, q1, rfl, rfl, rfl, h1, r1⟩ := trodAll_cons r0
  obtain ⟨rfl, rfl, rfl⟩ := trodAll_nil r1
  obtain rfl : args = #[v0, v1] := by cases args; simp_all
  obtain ⟨rfl, rfl⟩ := trodVars_none hV
  obtain ⟨a0, len0, cap0, rfl⟩ := okWide_slice Tryd.underlying26 (hval 0 26 v0 rfl rfl)
  have k0 := h0
  have lt0 : ∀ x ∈ p0, x.block < W.heap.size := by obtain ⟨m, hm⟩ := k0; exact DataW.trod_lt m _ _ _ hm
  obtain ⟨z0, w0⟩ := row_of_trod h0
  obtain ⟨a1, len1, cap1, rfl⟩ := okWide_slice Tryd.underlying35 (hval 1 35 v1 rfl rfl)
  have k1 := h1
  have lt1 : ∀ x ∈ p1, x.block < W.heap.size := by obtain ⟨m, hm⟩ := k1; exact DataW.trod_lt m _ _ _ hm
  obtain ⟨z1, w1⟩ := row16_of_trod h1
  clear hA0 hval0
  obtain ⟨xs, rfl, hc0, _, hd0⟩ := row_dat w0
  refine (walk a0 xs cap0 a1 len1 cap1 z1 W (glob_of_laid hL) hd0 hc0 w1).mono fun e W' ⟨he, bel⟩ => ?_
  subst he
  exact ⟨_, rfl, _, _, _, [], _, [], hW', trodAll_mk1 (shut_bool Tryd.underlying4 _), (trodAll_cons_mk (Below.trod laidOut (by kernel_rfl) (of_decide_eq_true (by kernel_rfl)) k0 bel lt0) (trodAll_cons_mk (Below.trod laidOut (by kernel_rfl) (of_decide_eq_true (by kernel_rfl)) k1 bel lt1) trodAll_mk0)), rfl, bel.frame _, fun h => by cases h⟩

theorem over : Rows.crcPiecesRow.holds Tryd.pinned (OpenSpec.ofChange Rows.crcPiecesSpec) :=
  OpenClaim.holds_of_wide 5 Tryd.f5 rfl rfl rfl rfl rfl rfl rfl ⟨rfl, rfl, rfl, rfl, rfl⟩ rfl rfl rfl rfl rfl (by kernel_rfl) Tryd.func5 (by kernel_rfl)
    (of_decide_eq_true (by kernel_rfl)) (by unfold Func.isWrapper; first | (rw [if_pos (by decide +kernel)]; kernel_rfl) | (rw [if_neg (by decide +kernel)]; exact ⟨rfl, rfl⟩))
    (fun os started H enc _ => lifted os started H enc)

/-- ████ THE STATEMENT ████ -/
theorem proved : Rows.CrcPiecesCardSaid :=
  Claim7.holds_tied_plain_at .later [] [.data] true Rows.crcPiecesCard.stood.harness false
    over (fun _ h => by cases h) (by kernel_rfl) (fun _ h => by cases h) crcPieces_row_tie rfl ⟨rfl, rfl⟩ (by kernel_rfl) rfl
    (fun f fn hf hfn => by
      obtain rfl : f = 5 := Option.some.inj ((show Tryd.prog.funcNamed Rows.crcPiecesRow.func = some 5 by kernel_rfl).symm.trans hf) |>.symm
      obtain rfl : fn = Tryd.f5 := (Option.some.inj (Tryd.func5.symm.trans hfn)).symm
      exact ⟨by kernel_rfl, fun j t ht => by
        rw [Tryd.params5] at ht
        have hm : t ∈ [26, 35] := by
          have := Array.mem_of_getElem? ht
          simp at this
          simpa using this
        have hall : ([26, 35].all fun u => !Tryd.prog.wantsStandIn u) = true := by kernel_rfl
        exact (show Tryd.prog.wantsStandIn t = false by simpa using List.all_eq_true.1 hall t hm)⟩)
    (by kernel_rfl)
#print axioms proved

end Go.Proofs.YtliieipgmjnnfaaDoor.crcPieces
