
/- The contract of the document's states. -/
import Derived.Test.YtafdfjacfodbnaaWtRs
import Derived.Test.YtafdfjacfodbnaaWtStates
import Derived.Test.YtafdfjacfodbnaaPileD
import Derived.Test.YtafdfjacfodbnaaPileC
import Derived.Deep.RegionHeld3
namespace Go.Proofs.Ytafdfjacfodbnaa
open Go.RowKit

theorem u8cel_oneT (x : Nat) : (u8cel x).oneCell' = true := rfl
theorem str_fromT (xs : List UInt8) (k n : Nat) (hn : n = xs.length) : (str xs).extract k n = str (xs.drop k) := by
  subst hn
  apply ByteArray.ext
  simp [str, ByteArray.data_extract]
  rw [List.take_of_length_le (by simp)]
/-- What the document's states answers. -/
def RStsPost (xs : List UInt8) (w : World) (e : Ending) (w' : World) : Prop :=
  Below w.heap.size w w' ∧ ((∃ t, stsR xs = .ok t ∧ t.2 = true ∧ t.1.length ≤ 255 ∧ e = .returned (.tuple #[.string (str (byt t.1)), .int .i64 0])) ∨ (∃ t, stsR xs = .ok t ∧ (t.2 = false ∨ 255 < t.1.length) ∧ e = .returned (.tuple #[.string (str []), .int .i64 11])) ∨ (∃ er, stsR xs = .error er ∧ e = .returned (.tuple #[.string (str []), .int .i64 er])))

section
variable {w : World}
set_option maxRecDepth 100000 in
set_option maxHeartbeats 8000000 in
theorem refStates_any (S : ByteArray) {xs : List UInt8} {n : Nat} (hS : S = str xs) (hn : xs.length = n) (hm : n ≤ 1000) :
    Calls Try.prog 33 #[.string S] w (RStsPost xs w) := by
  have HRd := Lib.hid (refRead6_any S (xs := xs) (by rw [hS]; rfl) 6 12 w (by omega) rfl)
  have hsz : S.size = n := by rw [hS, ← hn]; simp [str, ByteArray.size]
  have HN := Lib.hid hn
  have HS := Lib.hid hS
  obtain ⟨R, hR⟩ : ∃ R, R = rdC (bitsOf xs) 6 12 := ⟨_, rfl⟩
  rw [← hR] at HRd
  have HR := Lib.hid hR
  clear hn hS hR
  go_enter Try.func33, Try.ntmps33
  go_wp2_with fail
  refine HRd.out.mono ?_
  rintro e w1 ⟨hB1, hpost⟩
  clear HRd
  cases R with
  | error er =>
    simp only at hpost
    subst hpost
    have hbad : stsR xs = .error er := by unfold stsR; rw [← HR.out]
    have her := stsR_err hbad
    have hez : (er != 0) = true := by rw [bne_iff_ne]; omega
    have HB := Lib.hid hbad
    have HB1 := Lib.hid hB1
    have hs1 := hB1.size
    clear hbad hB1
    go_wp2_with fail
    go_ret2
    exact ⟨HB1.out.alloc (by omega) _, .inr (.inr ⟨er, HB.out, rfl⟩)⟩
  | ok r =>
    obtain ⟨l, ps, a⟩ := r
    simp only at hpost
    obtain ⟨v, rfl, hO⟩ := hpost
    obtain ⟨hmay, hps12, hl6⟩ := rdC_may HR.out.symm (by decide)
    have hfit := rdC_fits HR.out.symm
    rw [bitsOf_length, HN.out] at hfit
    obtain ⟨K, hK⟩ : ∃ K, K = (a + 7) / 8 := ⟨_, rfl⟩
    have hKn : K ≤ n := by omega
    have hF := mayF hmay
    have hl15 := hF.l15
    obtain ⟨Ac, cc, rfl, hcc, hDc⟩ := hO.form
    obtain ⟨m, hmm⟩ : ∃ m, m = ps.length := ⟨_, rfl⟩
    rw [← hmm] at hcc ⊢
    rw [← hK]
    have hps256 : m ≤ 256 := by have := hF.len; omega
    have HMay := Lib.hid hmay
    have HF := Lib.hid hF
    have HMm := Lib.hid hmm
    have HK := Lib.hid hK
    have HB1 := Lib.hid hB1
    have hs1 := hB1.size
    have hKz : (0 : Int) ≤ (K : Int) := by omega
    have hKnz : (K : Int) ≤ (n : Int) := by omega
    have HDc := Lib.hid hDc
    have hbd := may_bounds hmay
    have HBd := Lib.hid hbd
    have hyl : (xs.drop K).length = n - K := by rw [List.length_drop, HN.out]
    have HSt : Hid (stsR xs = if noBack (xs.drop K) = true then .error 11 else if (bread (xs.drop K) (bread (xs.drop K) (top (xs.drop K) : Int) (l : Int)).2 (l : Int)).2 < 0 then .error 11
        else .ok (wlk (tab l ps) (xs.drop K) 256 (bread (xs.drop K) (top (xs.drop K) : Int) (l : Int)).1 (bread (xs.drop K) (bread (xs.drop K) (top (xs.drop K) : Int) (l : Int)).2 (l : Int)).1 (bread (xs.drop K) (bread (xs.drop K) (top (xs.drop K) : Int) (l : Int)).2 (l : Int)).2)) := by
      show stsR xs = _
      unfold stsR
      rw [← HR.out]
      simp only [← HK.out]
    have hex : S.extract K n = str (xs.drop K) := by rw [HS.out, str_fromT xs K n HN.out.symm]
    obtain ⟨ys, hys⟩ : ∃ ys, ys = xs.drop K := ⟨_, rfl⟩
    rw [← hys] at hyl HSt hex
    obtain ⟨Sy, hSy⟩ : ∃ Sy, Sy = str ys := ⟨_, rfl⟩
    have hyd : Sy.data.toList = ys := by rw [hSy]; rfl
    have hysz : Sy.size = n - K := by rw [hSy, ← hyl]; simp [str, ByteArray.size]
    rw [← hSy] at hex
    have HBc := Lib.hid (HB1.out.alloc hs1 (.cells #[.int .i64 (l : Int), .slice Ac m cc] 73))
    have HXc := Lib.hid (Box.new w1 73 #[.int .i64 (l : Int), .slice Ac m cc])
    have hsc : (w1.alloc (.cells #[.int .i64 (l : Int), .slice Ac m cc] 73)).heap.size = w1.heap.size + 1 := World.size_alloc _ _
    have HDc2 := Lib.hid (HDc.out.alloc (Nat.le_refl _) (.cells #[.int .i64 (l : Int), .slice Ac m cc] 73))
    have HYd := Lib.hid hyd
    clear hB1 hO hmay hF hK hmm hDc hfit hbd hys hSy hyd
    go_wp2_with fail
    generalize w1.alloc (.cells #[.int .i64 (l : Int), .slice Ac m cc] 73) = W1 at *
    rcases hnb : noBack ys with _ | _
    case true =>
      refine (refNew_no Sy _ (by omega) (by rw [HYd.out]; exact hnb)).mono ?_
      rintro e w2 ⟨rfl, hB2⟩
      have HB2 := Lib.hid (HBc.out.trans (hB2.mono (by omega)))
      have hbad : stsR xs = .error 11 := by rw [HSt.out, if_pos hnb]
      have HBad := Lib.hid hbad
      clear hbad hnb hB2
      go_wp2_with fail
      go_ret2
      exact ⟨HB2.out.alloc (by have := HB2.out.size; omega) _, .inr (.inr ⟨11, HBad.out, rfl⟩)⟩
    case false =>
      have hyp : 0 < ys.length := by
        rcases Nat.eq_zero_or_pos ys.length with h | h
        · simp [noBack, h] at hnb
        · exact h
      have htop := top_lt ys hyp
      have HNw := Lib.hid (refNew_yes Sy W1 (by omega) (by rw [HYd.out]; exact hnb))
      rw [HYd.out] at HNw
      obtain ⟨T, hT⟩ : ∃ T, T = top ys := ⟨_, rfl⟩
      rw [← hT] at HNw htop HSt
      have HT := Lib.hid hT
      have HNb := Lib.hid hnb
      clear hT hnb
      refine HNw.out.mono ?_
      rintro e w2 ⟨Ab, cb, rfl, hdb, hcb, hB2⟩
      have HB2 := Lib.hid (HBc.out.trans (hB2.mono (by omega)))
      have hs2 := hB2.size
      have HX2 := Lib.hid (HXc.out.below hB2 HXc.out.lt)
      have HD2 := Lib.hid (HDc2.out.below hB2 (by omega))
      have HB3 := Lib.hid (HB2.out.alloc (by omega) (.cells #[.slice Ab T cb, .int .i64 0] 78))
      have HX3 := Lib.hid (HX2.out.alloc (.cells #[.slice Ab T cb, .int .i64 0] 78))
      have HD3 := Lib.hid (HD2.out.alloc (by omega) (.cells #[.slice Ab T cb, .int .i64 0] 78))
      have HV3 := Lib.hid (Box.new w2 78 #[.slice Ab T cb, .int .i64 0])
      have HE3 := Lib.hid (hdb.alloc (Nat.le_refl _) (.cells #[.slice Ab T cb, .int .i64 0] 78))
      have hs3 : (w2.alloc (.cells #[.slice Ab T cb, .int .i64 0] 78)).heap.size = w2.heap.size + 1 := World.size_alloc _ _
      obtain ⟨c0, c1, _, _⟩ := box2 HX3.out
      have HBu := Lib.hid (refBuild_any (w := w2.alloc (.cells #[.slice Ab T cb, .int .i64 0] 78)) (cp := cc) (l : Int) HD3.out HMm.out.symm hcc (by unfold maxLen; omega) (by omega) HBd.out)
      clear hdb hB2 HNw HX2 HD2
      go_wp2_with fail
      generalize w2.alloc (.cells #[.slice Ab T cb, .int .i64 0] 78) = W3 at *
      refine HBu.out.mono ?_
      rintro e w4 ⟨hB4, ⟨_, v, rfl, hOe⟩ | ⟨hno, _⟩⟩
      case inr => rw [HMay.out] at hno; cases hno
      rw [show ((l : Nat) : Int).toNat = l by omega] at hOe
      obtain ⟨Ae, ce, rfl, hce, hDe⟩ := hOe.form rcell_len
      have htl := tab_length HF.out
      have hn15 : 2 ^ l ≤ 2 ^ 15 := Nat.pow_le_pow_right (by omega) hl15
      rw [htl] at hce ⊢
      have hfi := tab_fineW HF.out
      obtain ⟨nn, hnn⟩ : ∃ nn, nn = 2 ^ l := ⟨_, rfl⟩
      rw [← hnn] at htl hce hn15 hfi ⊢
      have hs4 := hB4.size
      have hs5 : (w4.alloc (.cells #[.int .i64 (l : Int), .slice Ae nn ce] 83)).heap.size = w4.heap.size + 1 := World.size_alloc _ _
      obtain ⟨es, hes⟩ : ∃ es, es = tab l ps := ⟨_, rfl⟩
      rw [← hes] at htl hfi hDe HSt
      have hrs : Rs w (w4.alloc (.cells #[.int .i64 (l : Int), .slice Ae nn ce] 83)) w4.heap.size w2.heap.size (l : Int) Ae nn ce W3.heap.size w4.heap.size es W1.heap.size w2.heap.size Ab cb ys (T : Int) (w4.heap.size + 1) (.slice none 0 0) [] :=
        ⟨Box.new w4 _ _, hDe.alloc (Nat.le_refl _) _, by simpa using (HV3.out.below hB4 (by omega)).alloc _, by simpa using (HE3.out.below hB4 (by omega)).alloc (by omega) _, OwE.nil _ _ _ _, (HB3.out.trans (hB4.mono (by omega))).alloc (by omega) _⟩
      have hro : RsO w w4.heap.size w2.heap.size W3.heap.size w4.heap.size W1.heap.size w2.heap.size (w4.heap.size + 1) := ⟨by omega, by omega, by omega, by omega, by omega, by omega, by omega⟩
      have HRs := Lib.hid hrs
      have HO := Lib.hid hro
      have HFi := Lib.hid (And.intro hfi (And.intro htl hnn))
      have hyl2 : ys.length ≤ 1000 := by omega
      have hTl : (T : Int) ≤ 8 * (ys.length : Int) := by omega
      clear hOe hDe hB4 htl hfi hnn hes c0 c1 HBu hrs hro HB3 HX3 HD3 HV3 HE3
      obtain ⟨t0, t1, _, _⟩ := box2 HRs.out.t
      obtain ⟨v0, v1, g0, g1⟩ := box2 HRs.out.b
      rw [show ((T : Int)).toNat = T by omega] at v0 v1
      have HDb := Lib.hid HRs.out.d
      rw [show ((T : Int)).toNat = T by omega] at HDb
      have HL1 := Lib.hid (HRs.out.last (l : Int) (by simpa using hcb) (by omega) hTl (by omega))
      rw [show ((T : Int)).toNat = T by omega] at HL1
      have e0 : (T : Int) - (T : Int) = 0 := by omega
      rw [e0] at v1 HL1
      have hlt1 := bread_lt ys (T : Int) l
      have hle1 := bread_le' ys (T : Int) (l : Int)
      generalize bread ys (T : Int) (l : Int) = tt at *
      obtain ⟨X, left1⟩ := tt
      dsimp only at *
      have hXn : X < nn := by rw [HFi.out.2.2]; omega
      obtain ⟨M1, hM1⟩ : ∃ M1, M1 = left1.toNat := ⟨_, rfl⟩
      obtain ⟨LK1, hLK1⟩ : ∃ LK1, LK1 = (left1.toNat : Int) - left1 := ⟨_, rfl⟩
      rw [← hLK1, ← hM1] at HL1
      have hvl := HRs.out.b.lt
      have HS1 := Lib.hid (refStart_any (A := Ae) (n := nn) (c := ce) (l : Int) HDb.out (by omega) (by omega) HL1.out)
      have HM1 := Lib.hid hM1
      have HLK1 := Lib.hid hLK1
      clear hM1 hLK1 HDb HL1 e0 hlt1
      go_wp2_with fail
      generalize w4.alloc (.cells #[.int .i64 (l : Int), .slice Ae nn ce] 83) = W5 at *
      refine HS1.out.mono ?_
      rintro e we ⟨rfl, hB⟩
      have HR3 := Lib.hid (HRs.out.below HO.out hB)
      have HR4 := Lib.hid (HR3.out.put HO.out hle1.1)
      rw [← HLK1.out, ← HM1.out] at HR4
      clear hB HS1 HRs t0 t1 v0 v1 g0 g1
      obtain ⟨v0, v1, g0, g1⟩ := box2 HR3.out.b
      have htb3 := HR3.out.t.lt
      obtain ⟨t0, t1, _, _⟩ := box2 HR3.out.t
      have hvt : w2.heap.size < w4.heap.size := by omega
      clear HR3
      go_upto_region 11 with fail
      clear v0 v1 g0 g1 t0 t1 htb3
      generalize (we.setCell ⟨w2.heap.size, 0, none⟩ (.slice Ab M1 cb)).setCell ⟨w2.heap.size, 1, none⟩ (.int .i64 LK1) = wf at *
      obtain ⟨t0, t1, _, _⟩ := box2 HR4.out.t
      obtain ⟨v0, v1, g0, g1⟩ := box2 HR4.out.b
      rw [← HM1.out] at v0
      rw [← HLK1.out] at v1
      have HDb := Lib.hid HR4.out.d
      have HL2 := Lib.hid (HR4.out.last (l : Int) (by omega) (by omega) (by omega) (by omega))
      have hlt2 := bread_lt ys left1 l
      have hle2 := bread_le' ys left1 (l : Int)
      generalize bread ys left1 (l : Int) = tt at *
      obtain ⟨Y, left2⟩ := tt
      dsimp only at *
      have hYn : Y < nn := by rw [HFi.out.2.2]; omega
      obtain ⟨M2, hM2⟩ : ∃ M2, M2 = left2.toNat := ⟨_, rfl⟩
      obtain ⟨LK2, hLK2⟩ : ∃ LK2, LK2 = (left2.toNat : Int) - left2 := ⟨_, rfl⟩
      rw [← hLK2, ← hM2, ← HLK1.out, ← HM1.out] at HL2
      rw [← HM1.out] at HDb
      have hvl4 := HR4.out.b.lt
      have HS2 := Lib.hid (refStart_any (A := Ae) (n := nn) (c := ce) (l : Int) HDb.out (by omega) (by omega) HL2.out)
      have HM2 := Lib.hid hM2
      have HLK2 := Lib.hid hLK2
      clear hM2 hLK2 HDb HL2 hlt2
      go_wp2_with fail
      refine HS2.out.mono ?_
      rintro e wg ⟨rfl, hB⟩
      have HR5 := Lib.hid (HR4.out.below HO.out hB)
      have HR6 := Lib.hid (HR5.out.put HO.out hle2.1)
      rw [← HLK2.out, ← HM2.out] at HR6
      clear hB HS2 HR4 t0 t1 v0 v1 g0 g1
      obtain ⟨v0, v1, g0, g1⟩ := box2 HR5.out.b
      rw [← HM1.out] at v0
      rw [← HLK1.out] at v1
      clear HR5
      go_upto_region 12 with fail
      clear v0 v1 g0 g1
      generalize (wg.setCell ⟨w2.heap.size, 0, none⟩ (.slice Ab M2 cb)).setCell ⟨w2.heap.size, 1, none⟩ (.int .i64 LK2) = wh at *
      obtain ⟨v0, v1, g0, g1⟩ := box2 HR6.out.b
      rw [← HM2.out] at v0
      rw [← HLK2.out] at v1
      have HU2 := Lib.hid (fun Wq => refLeft_any Ab M2 cb LK2 left2 Wq (by rw [HM2.out, HLK2.out]; omega) (by omega) (by omega))
      by_cases h0 : left2 < 0
      · go_wp2_with (go_at_call 46; refine (HU2.out _).mono ?_; rintro e wi ⟨rfl, hB⟩; have HR7 := Lib.hid (HR6.out.below HO.out hB); clear hB)
        have hst := HSt.out
        rw [if_neg (by rw [HNb.out]; decide), if_pos h0] at hst
        have HSt2 := Lib.hid hst
        clear hst
        go_ret2
        exact ⟨HR7.out.k, .inr (.inr ⟨11, HSt2.out, rfl⟩)⟩
      · have h0z : ¬ left2 < 0 := h0
        have hst := HSt.out
        rw [if_neg (by rw [HNb.out]; decide), if_neg h0] at hst
        obtain ⟨Tg, hTg⟩ : ∃ Tg, Tg = wlk es ys 256 X Y left2 := ⟨_, rfl⟩
        rw [← hTg] at hst
        have HTg := Lib.hid hTg
        have HSt2 := Lib.hid hst
        clear hst hTg
        obtain ⟨i0, hi0, hi1⟩ := Option.map_eq_some_iff.1 info_byte
        simp only [Prod.mk.injEq] at hi1
        obtain ⟨hz0, hz1, hz2⟩ := hi1
        have HI := Lib.hid (And.intro hi0 (And.intro hz0 (And.intro hz1 hz2)))
        clear hi0 hz0 hz1 hz2
        go_wp2_with (go_at_call 46; refine (HU2.out _).mono ?_; rintro e wi ⟨rfl, hB⟩; have HR7 := Lib.hid (HR6.out.below HO.out hB); clear hB)
        clear HU2 HR6 v0 v1 g0 g1
        go_loopg [9, 10, 11] 256 (fun gh v9 v10 v11 wx => ∃ (a b : Nat) (left : Int) (acc : List Nat), v9 = .int .i64 (a : Int) ∧ v10 = .int .i64 (b : Int) ∧ acc.length + gh = 256 ∧ a < nn ∧ b < nn ∧ 0 ≤ left ∧ left ≤ (T : Int) ∧ Rs w wx w4.heap.size w2.heap.size (l : Int) Ae nn ce W3.heap.size w4.heap.size es W1.heap.size w2.heap.size Ab cb ys left (w4.heap.size + 1) v11 acc ∧ Tg.1 = acc ++ (wlk es ys gh a b left).1 ∧ Tg.2 = (wlk es ys gh a b left).2)
        case atStart => exact ⟨X, Y, left2, [], rfl, rfl, rfl, hXn, hYn, by omega, by omega, HR7.out, by rw [HTg.out]; rfl, by rw [HTg.out]⟩
        case round =>
          clear HTg HR7 HM1 HM2 HLK1 HLK2 hle1 hle2
          obtain ⟨a, b, left, acc, rfl, rfl, hg, ha, hb, hl0, hlT, hrs, htg1, htg2⟩ := hrel
          have HG := Lib.hid hg
          have HT1 := Lib.hid (And.intro htg1 htg2)
          have HRs := Lib.hid hrs
          obtain ⟨Av, cv, rfl, _, _⟩ := hrs.o.form
          have hal : acc.length ≤ 256 := by omega
          clear hg hrs htg1 htg2
          by_cases hlt : acc.length < 256
          · have hltz : (acc.length : Int) < 256 := by omega
            obtain ⟨gk', rfl⟩ : ∃ g', gk = g' + 1 := ⟨gk - 1, by have := HG.out; omega⟩
            have hxl : a < es.length := by rw [HFi.out.2.1]; exact ha
            have hyl' : b < es.length := by rw [HFi.out.2.1]; exact hb
            obtain ⟨hex', hs256, hb15, hen⟩ := e_get HFi.out.1 hxl
            obtain ⟨hey, hs256', _, _⟩ := e_get HFi.out.1 hyl'
            obtain ⟨d, o, hA, hd1, hd2, hcs⟩ := HRs.out.e.ref (by omega)
            obtain ⟨k0, k1, k2⟩ := hcs a hxl
            rw [hex'] at k0 k1 k2
            simp only at k0 k1 k2
            obtain ⟨t0, t1, _, _⟩ := box2 HRs.out.t
            rw [hA] at t1
            have HA := Lib.hid hA
            have HEx := Lib.hid hex'
            have HEy := Lib.hid hey
            obtain ⟨S1, hS1⟩ : ∃ S1, S1 = eS es a := ⟨_, rfl⟩
            obtain ⟨B1, hB1⟩ : ∃ B1, B1 = eB es a := ⟨_, rfl⟩
            obtain ⟨E1, hE1⟩ : ∃ E1, E1 = eE es a := ⟨_, rfl⟩
            rw [← hS1] at k0 hs256
            rw [← hB1] at k1 hb15 hen
            rw [← hE1] at k2 hen
            have HSx := Lib.hid (And.intro hS1 (And.intro hB1 hE1))
            have hp15 := Nat.two_pow_pos B1
            have hE16 : E1 ≤ 65536 := by omega
            have hai : (a : Int) < (nn : Int) := by omega
            have hbi : (b : Int) < (nn : Int) := by omega
            have htl := HRs.out.t.lt
            have hvl' := HRs.out.b.lt
            have wS1 : IntKind.u8.wrap (S1 : Int) = (S1 : Int) := by rw [IntKind.wrap_u8]; omega
            have hsE : (wr.alloc (.cells #[.int .i64 (S1 : Int), .int .i64 (B1 : Int), .int .i64 (E1 : Int)] 90)).heap.size = wr.heap.size + 1 := World.size_alloc _ _
            have HR1 := Lib.hid (HRs.out.below HO.out ((Below.refl wr.heap.size wr).alloc (Nat.le_refl _) (.cells #[.int .i64 (S1 : Int), .int .i64 (B1 : Int), .int .i64 (E1 : Int)] 90)))
            have HX1 := Lib.hid (Box.new wr 90 #[.int .i64 (S1 : Int), .int .i64 (B1 : Int), .int .i64 (E1 : Int)])
            have HA1 := Lib.hid (HR1.out.o.alloc (.cells #[.int .u8 (S1 : Int)] 5))
            have hd1e := datE_one u8cel (wr.alloc (.cells #[.int .i64 (S1 : Int), .int .i64 (B1 : Int), .int .i64 (E1 : Int)] 90)) S1 5 _ rfl
            rw [World.size_alloc] at hd1e
            have HD1 := Lib.hid hd1e
            clear hd1e hcs hA hex' hey hS1 hB1 hE1
            go_wp2_with (at_builtin; refine list_appE u8cel_oneT _ rfl _ _ 22 rfl i0 (.int .u8 0) 1 Try.underlying22 HI.out.1 HI.out.2.1 HI.out.2.2.1 HI.out.2.2.2 rfl (by decide) rfl HA1.out rfl HD1.out rfl ?_ ?_ ?_)
            · first | omega | (simp; omega)
            · first | omega | (simp; omega)
            intro va w9 ho1 hg1 hat1
            have HR2 := Lib.hid (HR1.out.push HO.out ho1 hg1)
            have HX2 := Lib.hid ((HX1.out.alloc (.cells #[.int .u8 (S1 : Int)] 5)).grown hg1 (fun e => by have := (HRs.out.o.block _ e.symm).2; omega))
            obtain ⟨A1, c1', hva, _, _⟩ := ho1.form
            subst hva
            have hx9 := HX2.out.lt
            have hv9 := HR2.out.b.lt
            have x1 := HX2.out.cell 1
            simp only [List.getElem?_toArray, List.getElem?_cons_succ, List.getElem?_cons_zero] at x1
            clear ho1 hg1 hat1 HA1 HD1 HR1 HX1 k0 k1 k2 t0 t1 hsE
            generalize wr.heap.size = xb at *
            obtain ⟨v0, v1, g0, g1⟩ := box2 HR2.out.b
            obtain ⟨M1, hM1⟩ : ∃ M1, M1 = left.toNat := ⟨_, rfl⟩
            obtain ⟨LK1, hLK1⟩ : ∃ LK1, LK1 = (left.toNat : Int) - left := ⟨_, rfl⟩
            rw [← hM1] at v0
            rw [← hLK1] at v1
            have HU2 := Lib.hid (fun Wq => refLeft_any Ab M1 cb LK1 left Wq (by omega) (by omega) (by omega))
            have HM1 := Lib.hid hM1
            have HLK1 := Lib.hid hLK1
            clear hM1 hLK1
            go_wp2_with fail
            go_region_held3 (fun w' => w'.cell? ⟨w2.heap.size, 0, none⟩ = some (.slice Ab M1 cb) ∧ w'.cell? ⟨w2.heap.size, 1, none⟩ = some (.int .i64 LK1) ∧ w'.cell? ⟨xb, 1, none⟩ = some (.int .i64 (B1 : Int))) (first | exact ⟨v0, v1, x1⟩ | exact ⟨s0, s1, s2⟩ | go_keep) (first | (go_at_call 46; refine (HU2.out _).mono ?_; rintro e' wy ⟨rfl, hB5⟩; have s0 : wy.cell? ⟨w2.heap.size, 0, none⟩ = some (.slice Ab M1 cb) := (hB5.cell (p := ⟨w2.heap.size, 0, none⟩) (by exact hv9)).trans v0; have s1 : wy.cell? ⟨w2.heap.size, 1, none⟩ = some (.int .i64 LK1) := (hB5.cell (p := ⟨w2.heap.size, 1, none⟩) (by exact hv9)).trans v1; have s2 : wy.cell? ⟨xb, 1, none⟩ = some (.int .i64 (B1 : Int)) := (hB5.cell (p := ⟨xb, 1, none⟩) (by exact hx9)).trans x1; have HBy : Hid (Below w9.heap.size w9 wy) := (⟨hB5.os, hB5.tape, hB5.output, hB5.size, hB5.block⟩ : Below w9.heap.size w9 wy); clear hB5))
            all_goals
              have HRy := Lib.hid (HR2.out.below HO.out HBy.out)
              clear HR2 HX2 HBy v0 v1 g0 g1 x1 HU2
              try clear s0 s1 s2
              have hh : W3.heap.size ≤ d := hd1
              obtain ⟨t0, t1, _, _⟩ := box2 HRy.out.t
              rw [HA.out] at t1
              have hty := HRy.out.t.lt
              by_cases hlb : left < (B1 : Int)
              · have hfu : (wlk es ys (gk' + 1) a b left) = ([eS es a, eS es b], true) := wlk_stop (by rw [← HSx.out.2.1]; exact hlb)
                have HFu := Lib.hid hfu
                obtain ⟨d', o', hA', _, _, hcs'⟩ := HRy.out.e.ref (by omega)
                rw [HA.out] at hA'
                injection hA' with hA'
                injection hA' with hA1 hA2 _
                subst hA1 hA2
                obtain ⟨k0, k1, k2⟩ := hcs' b hyl'
                rw [HEy.out] at k0 k1 k2
                simp only at k0 k1 k2
                obtain ⟨S2, hS2⟩ : ∃ S2, S2 = eS es b := ⟨_, rfl⟩
                rw [← hS2] at k0 hs256'
                have HS2 := Lib.hid hS2
                have wS2 : IntKind.u8.wrap (S2 : Int) = (S2 : Int) := by rw [IntKind.wrap_u8]; omega
                have hOy := HRy.out.o
                rw [List.length_append, List.length_singleton] at hOy
                have HA2 := Lib.hid (hOy.alloc (.cells #[.int .u8 (S2 : Int)] 5))
                clear hOy
                have HD2 := Lib.hid (datE_one u8cel wy S2 5 _ rfl)
                clear hcs' hS2 hfu
                go_wp2_with (at_builtin; refine list_appE u8cel_oneT _ rfl _ _ 22 rfl i0 (.int .u8 0) 1 Try.underlying22 HI.out.1 HI.out.2.1 HI.out.2.2.1 HI.out.2.2.2 rfl (by decide) rfl HA2.out rfl HD2.out rfl ?_ ?_ ?_)
                · first | omega | (simp; omega)
                · first | omega | (simp; omega)
                intro vb2 w10 ho2 hg2 hat2
                have hg2' : (wy.alloc (.cells #[.int .u8 (S2 : Int)] 5)).grownBy w10 (Value.slice A1 (acc ++ [S1]).length c1').ownBlock := by
                  rw [List.length_append, List.length_singleton]
                  exact hg2
                have hB10 : Below w.heap.size w w10 := (HRy.out.push HO.out ho2 hg2').k
                have HB10 := Lib.hid hB10
                have ho2' : OwE u8cel w10 5 (w4.heap.size + 1) vb2 Tg.1 := by
                  rw [HT1.out.1, HFu.out, ← HSx.out.1, ← HS2.out]
                  simpa using ho2
                have hTl : Tg.1.length = acc.length + 2 := by rw [HT1.out.1, HFu.out]; simp
                have hT2 : Tg.2 = true := by rw [HT1.out.2, HFu.out]
                obtain ⟨A2, c2, rfl, hc2, hD⟩ := ho2'.form
                rw [hTl] at hc2 ⊢
                have hDb := hD.bytes (stsR_ok HSt2.out).1
                have hlb2 : (byt Tg.1).length = acc.length + 2 := by rw [← hTl]; simp [byt]
                have hcv := run_str (P := Try.prog) w10 22 Try.underlying22 Try.underlying5 (c := c2) hDb hlb2 9 Try.underlying9
                have HTl := Lib.hid hTl
                have HT2 := Lib.hid hT2
                clear ho2 hg2 hg2' hat2 ho2' hD hDb hlb2 HA2 HD2 hB10 hTl hT2 k0 k1 k2 t0 t1
                by_cases h255 : 255 < acc.length + 2
                · have h255z : (255 : Int) < (acc.length : Int) + 2 := by omega
                  go_wp2_with fail
                  go_ret2
                  exact ⟨HB10.out, .inr (.inl ⟨Tg, HSt2.out, .inr (by rw [HTl.out]; exact h255), rfl⟩)⟩
                · have h255z : ¬ (255 : Int) < (acc.length : Int) + 2 := by omega
                  go_wp2_with fail
                  go_ret2
                  exact ⟨HB10.out, .inl ⟨Tg, HSt2.out, HT2.out, by rw [HTl.out]; omega, rfl⟩⟩
              · have hlz : ¬ left < (B1 : Int) := hlb
                have hEd := HRy.out.e
                rw [HA.out] at hEd
                have hexx := HEx.out
                rw [← HSx.out.1, ← HSx.out.2.1, ← HSx.out.2.2] at hexx
                obtain ⟨v0, v1, g0, g1⟩ := box2 HRy.out.b
                rw [← HM1.out] at v0
                rw [← HLK1.out] at v1
                have hvy := HRy.out.b.lt
                have HDb := Lib.hid HRy.out.d
                have HL2 := Lib.hid (HRy.out.last (B1 : Int) (by omega) (by omega) (by omega) (by omega))
                have hlt3 := bread_lt ys left B1
                have hge3 := bread_stays (xs := ys) hl0 hlb
                have hle3 := bread_le' ys left (B1 : Int)
                have hp15b : 2 ^ B1 ≤ 2 ^ 15 := Nat.pow_le_pow_right (by omega) hb15
                generalize hbr : bread ys left (B1 : Int) = tt at HL2 hlt3 hge3 hle3
                obtain ⟨X3, left3⟩ := tt
                dsimp only at HL2 hlt3 hge3 hle3
                obtain ⟨M3, hM3⟩ : ∃ M3, M3 = left3.toNat := ⟨_, rfl⟩
                obtain ⟨LK3, hLK3⟩ : ∃ LK3, LK3 = (left3.toNat : Int) - left3 := ⟨_, rfl⟩
                rw [← hLK3, ← hM3, ← HLK1.out, ← HM1.out] at HL2
                rw [← HM1.out] at HDb
                have HNx := Lib.hid (refNext_any (A := some ⟨d, o, none⟩) (n := nn) (c := ce) (l : Int) a HDb.out (by omega) hEd (by omega) HFi.out.2.1 (by omega) ha hexx hE16 (by omega) HL2.out)
                have HM3 := Lib.hid hM3
                have HLK3 := Lib.hid hLK3
                obtain ⟨EX, hEX⟩ : ∃ EX, EX = E1 + X3 := ⟨_, rfl⟩
                rw [← hEX] at HNx
                have hEXn : EX < nn := by omega
                have HTn : Hid (Tg.1 = (acc ++ [S1]) ++ (wlk es ys gk' b EX left3).1 ∧ Tg.2 = (wlk es ys gk' b EX left3).2) := by
                  have hb' : bread ys left (eB es a : Int) = (X3, left3) := by rw [← HSx.out.2.1]; exact hbr
                  have hl' : ¬ left < (eB es a : Int) := by rw [← HSx.out.2.1]; exact hlb
                  have e2 := wlk_go (es := es) (xs := ys) (f := gk') (a := a) (b := b) (left := left) hl' hb'
                  rw [← HSx.out.1, ← HSx.out.2.2, ← hEX] at e2
                  have h1 := HT1.out.1
                  have h2 := HT1.out.2
                  rw [e2] at h1 h2
                  refine ⟨?_, h2⟩
                  rw [h1]
                  simp
                clear hEd hexx hlt3 hbr hEX HT1 hM3 hLK3 HDb HL2
                go_wp2_with fail
                refine HNx.out.mono ?_
                rintro e wd ⟨rfl, hB⟩
                have HR3 := Lib.hid (HRy.out.below HO.out hB)
                have HR4 := Lib.hid (HR3.out.put HO.out hle3.1)
                rw [← HLK3.out, ← HM3.out] at HR4
                clear hB HNx HRy t0 t1 v0 v1 g0 g1
                obtain ⟨v0, v1, g0, g1⟩ := box2 HR3.out.b
                clear HR3
                go_wp2_with fail
                go_roundg gk'
                case measure => omega
                case rel => exact ⟨b, EX, left3, acc ++ [S1], rfl, rfl, by have := HG.out; simp; omega, hb, hEXn, hge3, by omega, by simpa using HR4.out, HTn.out.1, HTn.out.2⟩
          · have hltz : ¬ (acc.length : Int) < 256 := by omega
            obtain rfl : gk = 0 := by have := HG.out; omega
            go_wp2_with fail
            go_ret2
            exact ⟨HRs.out.k, .inr (.inl ⟨Tg, HSt2.out, .inl HT1.out.2, rfl⟩)⟩
end
end Go.Proofs.Ytafdfjacfodbnaa
