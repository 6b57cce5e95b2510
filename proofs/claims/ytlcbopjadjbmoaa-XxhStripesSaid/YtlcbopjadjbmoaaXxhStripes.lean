/- XxhStripes holds: for every number, every slice of bytes and every byte the law returns true, and the slice reads behind the call as it read before. No condition. -/
import Derived.Test.YtlcbopjadjbmoaaXxhArgs
import Derived.Test.YtlcbopjadjbmoaaXxhOf
namespace Go.Proofs.Ytlcbopjadjbmoaa.xxhStripes
open Go.ChangeShapes Go.WideShapes Go.ChangeAt Go.RowKit

/-- A row of bytes; nothing that was there has turned. -/
def St (w wx : World) (g : Nat) (ys : List UInt8) : Prop := Box wx g 5 (bcells ys) ∧ Below w.heap.size w wx ∧ w.heap.size ≤ g
theorem St.step {w wx w' : World} {g : Nat} {ys : List UInt8} (h : St w wx g ys) (hB : Below wx.heap.size wx w') : St w w' g ys :=
  ⟨h.1.below hB h.1.lt, h.2.1.trans (hB.mono h.2.1.size), h.2.2⟩
theorem St.dat {w wx : World} {g : Nat} {ys : List UInt8} (h : St w wx g ys) : Dat false wx 0 wx.heap.size (some ⟨g, 0, none⟩) ys := fun _ =>
  ⟨g, 0, rfl, Nat.zero_le _, h.1.lt, fun j hj => by
    rw [Nat.zero_add, h.1.cell j, bcells_get ys j hj]
    rfl, fun ho => by cases ho⟩
theorem St.below {w wx : World} {g : Nat} (ys : List UInt8) (h : St w wx g ys) : Below w.heap.size w wx := h.2.1
/-- The slice of the call's own, as one that may be appended to. -/
theorem St.own {w wx : World} {g L : Nat} {ys : List UInt8} (h : St w wx g ys) (hl : ys.length = L) (hL : L ≤ 1000) : OwB wx 5 w.heap.size (.slice (some ⟨g, 0, none⟩) L L) ys := by
  subst hl
  refine ⟨by simp, .inr ⟨g, ys.length, bcells ys, rfl, h.2.2, h.1, Nat.le_refl _, by unfold maxLen; omega, by simp [bcells], ?_⟩⟩
  rw [Nat.mul_one]
  unfold bcells
  exact List.take_of_length_le (by simp)
/-- Bytes of the call's own in blocks below hi; nothing that was there has turned. -/
def Sp (w wx : World) (hi : Nat) (A : Option Addr) (zs : List UInt8) : Prop := Dat true wx w.heap.size hi A zs ∧ Below w.heap.size w wx ∧ hi ≤ wx.heap.size
theorem Sp.step {w wx w' : World} {hi : Nat} {A : Option Addr} {zs : List UInt8} (h : Sp w wx hi A zs) (hB : Below wx.heap.size wx w') : Sp w w' hi A zs :=
  ⟨h.1.below hB h.2.2, h.2.1.trans (hB.mono h.2.1.size), Nat.le_trans h.2.2 hB.size⟩
theorem Sp.below {w wx : World} {hi : Nat} {A : Option Addr} (zs : List UInt8) (h : Sp w wx hi A zs) : Below w.heap.size w wx := h.2.1

set_option maxRecDepth 100000 in
set_option maxHeartbeats 1000000 in
theorem walk (n c : Nat) (a1 : Option Addr) (xs : List UInt8) (cap1 : Nat) (w : World) (hn : n ≤ 255) (hd : Dat false w 0 w.heap.size a1 xs) :
    Calls Try.prog 6 #[.int .u8 (n : Int), .slice a1 xs.length cap1, .int .u8 (c : Int)] w fun e w' => e = .returned (.bool true) ∧ Below w.heap.size w w' := by
  obtain ⟨i0, hi0, hz0, hz1, hz2⟩ := info_parts u8_info
  have HD := Lib.hid hd
  obtain ⟨X, hX⟩ : ∃ X, X = xs.length := ⟨_, rfl⟩
  rw [← hX]
  have HX := Lib.hid hX
  clear hd hX
  by_cases hsm : X ≤ 40
  · have hni : ¬ (40 : Int) < (X : Int) := by omega
    obtain ⟨m, hm⟩ : ∃ m, m = n % 5 := ⟨_, rfl⟩
    obtain ⟨L, hL⟩ : ∃ L, L = 32 * m := ⟨_, rfl⟩
    have hmi : (n : Int) % 5 = (m : Int) := by omega
    have hLi : 32 * (m : Int) = (L : Int) := by omega
    have hL4 : L < 400 := by omega
    have hm5 : m < 5 := by omega
    clear hL hm
    go_enter Try.func6, Try.ntmps6
    go_upto_region 6 with (go_at_call 7; refine (awake_any _).mono ?_; rintro e' w1 ⟨rfl, hB1⟩; have HB1 := Lib.hid hB1; clear hB1)
    go_cut [8] (fun p wx => ∃ g, p = .slice (some ⟨g, 0, none⟩) L L ∧ St w wx g (List.replicate L 0))
    case first =>
      have hmk := run_make (P := Try.prog) w1 26 5 i0 (.int .u8 0) Try.underlying26 hi0 hz0 .i64 .i64 (L : Int) (L : Int) (by omega) (by omega) (by rw [hz2]; omega) (by omega)
      rw [Int.toNat_natCast, hz1, Nat.mul_one, made_bytes] at hmk
      obtain ⟨C, hC⟩ : ∃ C, C = bcells (List.replicate L 0) := ⟨_, rfl⟩
      rw [← hC] at hmk
      have HC := Lib.hid hC
      clear hC
      go_wp2_with fail
      go_meet
      have hb := Box.new w1 5 C
      rw [HC.out] at hb
      rw [HC.out]
      exact ⟨_, rfl, hb, HB1.out.alloc HB1.out.size _, HB1.out.size⟩
    case rest =>
      obtain ⟨g, rfl, hs⟩ := hcut
      have HS := Lib.hid hs
      clear hs HB1 hmi hLi
      go_wp2_with fail
      go_loopg [9] L (fun gh i wx => ∃ k : Nat, ∃ ys : List UInt8, k + gh = L ∧ i = .int .i64 k ∧ ys.length = L ∧ St w wx g ys)
      case atStart => exact ⟨0, _, by omega, rfl, by simp, HS.out⟩
      case round =>
        obtain ⟨k, ys, hk, rfl, hyl, hs⟩ := hrel
        have HK := Lib.hid hk
        have HY := Lib.hid hyl
        have HSr := Lib.hid hs
        have hkL : k ≤ L := by omega
        clear hk hyl hs HS
        by_cases hlt : k < L
        · have hki : (k : Int) < (L : Int) := by omega
          have q : wr.cell? ⟨g, k, none⟩ = some (.int .u8 ((ys.getD k 0).toNat : Int)) := (HSr.out.1.cell k).trans (bcells_get ys k (by rw [HY.out]; exact hlt))
          have wf := HSr.out.1.free k
          obtain ⟨y, hy⟩ : ∃ y, y = ((ys.getD k 0).toNat : Int) := ⟨_, rfl⟩
          rw [← hy] at q
          clear hy
          go_wp2_with fail
          go_roundg (L - (k + 1))
          case measure => have := HK.out; omega
          case rel =>
            obtain ⟨z, hz⟩ : ∃ z, z = (c : Int) * ((k : Int) % 256) := ⟨_, rfl⟩
            rw [← hz]
            have hp := HSr.out.1.put k (.int .u8 (z % 256))
            rw [bcells_set _ _ _ (by omega) (by omega)] at hp
            exact ⟨k + 1, _, by omega, by go_num, by rw [List.length_set]; exact HY.out, hp, HSr.out.2.1.setCell HSr.out.2.2 _, HSr.out.2.2⟩
        · have hkL2 : k = L := by omega
          subst hkL2
          have HO : Hid (OwB wr 5 w.heap.size (.slice (some ⟨g, 0, none⟩) k k) ys) := HSr.out.own HY.out (by omega)
          have HD1 : Hid (Dat false wr 0 w.heap.size a1 xs) := HD.out.below HSr.out.2.1 (Nat.le_refl _)
          have hsz := HSr.out.2.1.size
          clear HK
          go_upto_region 11 with fail
          go_cut [8] (fun p wx => ∃ A m2 c2 hi zs, p = .slice A m2 c2 ∧ zs.length = m2 ∧ m2 ≤ c2 ∧ m2 ≤ 1000 ∧ Sp w wx hi A zs)
          case first =>
            go_wp2_with (at_builtin; refine list_app _ rfl _ _ 26 rfl i0 Try.underlying26 hi0 hz0 hz1 hz2 rfl HO.out rfl HD1.out HX.out.symm ?_ ?_ ?_)
            · rw [HY.out]; omega
            · exact hsz
            intro v' w2 ho hgr hat
            obtain ⟨A, c2, hv, hmc, hd2⟩ := ho.form
            have hB2 : Below w.heap.size wr w2 := (Below.refl _ _).grown hgr hsz (fun j hj => (HO.out.block j hj).1)
            have HM2 : Hid ((ys ++ xs).length ≤ 1000) := by unfold Hid; rw [List.length_append, HY.out, ← HX.out]; omega
            have HV := Lib.hid hv
            have HMC := Lib.hid hmc
            have HD2 := Lib.hid hd2
            have HB2 := Lib.hid hB2
            clear hv hmc hd2 hB2 ho hgr hat
            go_wp2_with fail
            go_meet
            exact ⟨A, _, c2, _, _, HV.out, rfl, HMC.out, HM2.out, HD2.out, HSr.out.2.1.trans HB2.out, Nat.le_refl _⟩
          case rest =>
            obtain ⟨A, m2, c2, hi, zs, rfl, hzl, hmc, hm1, hsp⟩ := hcut
            have HZL := Lib.hid hzl
            have HSP := Lib.hid hsp
            clear hzl hsp HO HD1 HSr HY HX HD hsz
            obtain ⟨Z, hZ⟩ : ∃ Z, Z = ((xxhOf zs).toNat : Int) := ⟨_, rfl⟩
            have hcv : ∀ W, Sp w W hi A zs → (convert 26 9 (.slice A m2 c2)).run Try.prog W = .ok (.string (str zs)) W := fun W hW => run_str (P := Try.prog) W 26 Try.underlying26 Try.underlying5 (c := c2) hW.1 HZL.out 9 Try.underlying9
            have HOF : Hid (∀ W, (Sp w W hi A zs ∧ (convert 26 9 (.slice A m2 c2)).run Try.prog W = .ok (.string (str zs)) W) → Calls Try.prog 12 #[.slice A m2 c2] W fun e w' => e = .returned (.int .u64 Z) ∧ Below W.heap.size W w') := fun W hW => by rw [hZ]; exact pof_any hW.1.1 HZL.out hmc hW.1.2.2 (by omega)
            have HREF : Hid (∀ W, Calls Try.prog 11 #[.string (str zs)] W fun e w' => e = .returned (.int .u64 Z) ∧ Below W.heap.size W w') := fun W => by
              have h := of_any (str zs) W (by show zs.toArray.size ≤ _; rw [List.size_toArray, HZL.out]; omega)
              rw [show (str zs).data.toList = zs from rfl, ← hZ] at h
              exact h
            have h0 : Sp w wc.drew hi A zs := ⟨HSP.out.1, HSP.out.2.1.drew, HSP.out.2.2⟩
            have c0 := hcv _ h0
            have HCV := Lib.hid hcv
            clear hZ hcv HSP
            go_upto_region 12 with fail
            go_region_held3 (fun w' => Sp w w' hi A zs ∧ (convert 26 9 (.slice A m2 c2)).run Try.prog w' = .ok (.string (str zs)) w') (first | exact ⟨h0, c0⟩ | exact ⟨s7, c7⟩ | assumption)
              (first
                | (go_at_call 12; refine (HOF.out _ (by assumption)).mono ?_; rintro e' w7 ⟨rfl, hB7⟩; have s7 := Sp.step (by first | assumption | exact And.left (by assumption)) hB7; have c7 := HCV.out _ s7; clear hB7)
                | (go_at_call 11; refine (HREF.out _).mono ?_; rintro e' w7 ⟨rfl, hB7⟩; have s7 := Sp.step (by first | assumption | exact And.left (by assumption)) hB7; have c7 := HCV.out _ s7; clear hB7))
            go_wp2_with fail
            go_ret
            exact ⟨rfl, Sp.below zs (by assumption)⟩
  · have hni : (40 : Int) < (X : Int) := by omega
    go_enter Try.func6, Try.ntmps6
    go_wp2_with (go_at_call 7; refine (awake_any _).mono ?_; rintro e' w1 ⟨rfl, hB1⟩; have HB1 := Lib.hid hB1; clear hB1)
    go_ret
    exact ⟨rfl, HB1.out⟩

set_option maxRecDepth 100000 in
theorem lifted (os : Os) (started : os.Started) (H : Type) (enc : TypeId × Value → H) :
    ReturnsInHanded {} Try.checked os 6 .any (Rows.xxhStripesSpec.pre6 enc Try.prog Try.f6 Rows.xxhStripesRow.domain false) (Rows.xxhStripesSpec.post enc Try.prog Try.f6 false true false false) := by
  refine returnsInHanded_of_change (C := Try.checked) own started (by kernel_rfl) Try.func6
    (ChangeSpec.witness6 (enc := enc) (C := Try.checked) false ⟨#[], #[.int .u8 0, .slice none 0 0, .int .u8 0], []⟩ 8 (by kernel_rfl) (by kernel_rfl) (by kernel_rfl) (by kernel_rfl)) ?_
  intro W base args ds gs before hval0 hW _ _
  have hval : ∀ (j : Nat) t v, Try.f6.params[j]? = some t → args[j]? = some v → Value.okWide Try.prog W .any base t v := hval0
  have hW' := hW
  obtain ⟨p, q, hA0, hV, rfl, hfz, hnd⟩ := hW
  have hA : DataW.TrodAll enc Try.prog W 0 (fun _ => true) true Try.f6.params.toList args.toList ds p := hA0
  rw [Try.params6] at hA hval
  obtain ⟨v0, vs0, d0, ds0, p0, q0, hargs, rfl, rfl, h0, r0⟩ := trodAll_cons hA
  obtain ⟨v1, vs1, d1, ds1, p1, q1, rfl, rfl, rfl, h1, r1⟩ := trodAll_cons r0
  obtain ⟨v2, vs2, d2, ds2, p2, q2, rfl, rfl, rfl, h2, r2⟩ := trodAll_cons r1
  obtain ⟨rfl, rfl, rfl⟩ := trodAll_nil r2
  obtain rfl : args = #[v0, v1, v2] := by cases args; simp_all
  obtain ⟨rfl, rfl⟩ := trodVars_none hV
  obtain ⟨a0, rfl, rfl, rfl, w0⟩ := open_int Try.underlying5 (hval 0 5 v0 rfl rfl) h0
  obtain ⟨a1, len1, cap1, rfl⟩ := okWide_slice Try.underlying26 (hval 1 26 v1 rfl rfl)
  have k1 := h1
  have lt1 : ∀ x ∈ p1, x.block < W.heap.size := by obtain ⟨m, hm⟩ := k1; exact DataW.trod_lt m _ _ _ hm
  obtain ⟨z1, w1⟩ := row_of_trod h1
  obtain ⟨a2, rfl, rfl, rfl, w2⟩ := open_int Try.underlying5 (hval 2 5 v2 rfl rfl) h2
  clear hA0 hval0
  have hn : 0 ≤ a0 ∧ a0 ≤ 255 := by simpa [Lit.wf, IntKind.min, IntKind.max, IntKind.signed, IntKind.bits] using w0
  have hc : 0 ≤ a2 ∧ a2 ≤ 255 := by simpa [Lit.wf, IntKind.min, IntKind.max, IntKind.signed, IntKind.bits] using w2
  obtain ⟨n, rfl⟩ := Int.eq_ofNat_of_zero_le hn.1
  obtain ⟨c, rfl⟩ := Int.eq_ofNat_of_zero_le hc.1
  obtain ⟨xs, rfl, _, _, hd1⟩ := row_dat w1
  refine (walk n c a1 xs cap1 W (by omega) hd1).mono fun e W' ⟨he, bel⟩ => ?_
  subst he
  exact ⟨_, rfl, _, _, _, [], _, [], hW', trodAll_mk1 (shut_bool Try.underlying4 _), (trodAll_cons_mk (shut_int Try.underlying5 w0) (trodAll_cons_mk (Below.trod laidOut (by kernel_rfl) (of_decide_eq_true (by kernel_rfl)) k1 bel lt1) (trodAll_mk1 (shut_int Try.underlying5 w2)))), rfl, bel.frame _, fun h => by cases h⟩

theorem over : Rows.xxhStripesRow.holds Try.pinned (OpenSpec.ofChange Rows.xxhStripesSpec) :=
  OpenClaim.holds_of_wide 6 Try.f6 rfl rfl rfl rfl rfl rfl rfl ⟨rfl, rfl, rfl, rfl, rfl⟩ rfl rfl rfl rfl rfl (by kernel_rfl) Try.func6 (by kernel_rfl)
    (of_decide_eq_true (by kernel_rfl)) (by unfold Func.isWrapper; first | (rw [if_pos (by decide +kernel)]; kernel_rfl) | (rw [if_neg (by decide +kernel)]; exact ⟨rfl, rfl⟩))
    (fun os started H enc _ => lifted os started H enc)

/-- The statement. -/
theorem proved : Rows.XxhStripesSaid := over
#print axioms proved
end Go.Proofs.Ytlcbopjadjbmoaa.xxhStripes
