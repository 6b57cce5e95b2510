
/- HuffJumps holds: for all slices of bytes the law returns true, and the slices read behind the call as they read before. No condition. -/
import Derived.Test.YtjpjbbbpmhcgnaaHufAwake
import Derived.Test.YtjpjbbbpmhcgnaaPileC
namespace Go.Proofs.Ytjpjbbbpmhcgnaa.huffJumps
open Go.ChangeShapes Go.WideShapes Go.ChangeAt Go.RowKit

theorem str_same (x : ByteArray) : (x == x) = true := by
  show x.beq x = true
  cases x
  first
  | (simp [ByteArray.beq]; done)
  | (unfold ByteArray.beq; simp; done)

theorem str_neq (x : ByteArray) : (x != x) = false := by
  show (!(x == x)) = false
  rw [str_same x]
  rfl
theorem le2 : ∀ {xs : List UInt8} {k : Nat}, k + 2 ≤ xs.length → le ((xs.drop k).take 2) = (xs.getD k 0).toNat + 256 * (xs.getD (k + 1) 0).toNat
  | [], _, h => by simp at h
  | [x], _, h => by simp at h
  | x :: y :: r, 0, _ => by simp [le]
  | x :: y :: r, k + 1, h => by
    have := le2 (xs := y :: r) (k := k) (by simpa using h)
    simpa using this

set_option maxRecDepth 100000 in
set_option maxHeartbeats 1000000 in
theorem walk (a0 : Option Addr) (xs : List UInt8) (cap0 : Nat) (a1 : Option Addr) (bs : List UInt8) (cap1 : Nat) (w : World) (hd : Dat false w 0 w.heap.size a0 xs) (hm : xs.length ≤ maxLen)
    (hd1 : Dat false w 0 w.heap.size a1 bs) (hm1 : bs.length ≤ maxLen) (hcap1 : bs.length ≤ cap1) :
    Calls Try.prog 8 #[.slice a0 xs.length cap0, .slice a1 bs.length cap1] w fun e w' => e = .returned (.bool true) ∧ Below w.heap.size w w' := by
  unfold maxLen at hm hm1
  obtain ⟨n, hn⟩ : ∃ n, n = xs.length := ⟨_, rfl⟩
  obtain ⟨m, hm0⟩ : ∃ m, m = bs.length := ⟨_, rfl⟩
  rw [← hn] at hm ⊢
  rw [← hm0] at hm1 hcap1 ⊢
  have HN := Lib.hid (And.intro hn.symm hm0.symm)
  have HD := Lib.hid (And.intro hd hd1)
  clear hd hd1 hn hm0
  by_cases h1 : 300 < n
  · have h1' : (300 : Int) < (n : Int) := by omega
    go_enter Try.func8, Try.ntmps8
    go_wp2_with fail
    refine (huf_awake _).mono ?_
    rintro e w1 ⟨rfl, hB⟩
    have HB1 := Lib.hid hB
    clear hB
    go_wp2_with fail
    go_ret
    exact ⟨rfl, HB1.out⟩
  by_cases h2 : 500 < m
  · have h1' : ¬ (300 : Int) < (n : Int) := by omega
    have h2' : (500 : Int) < (m : Int) := by omega
    go_enter Try.func8, Try.ntmps8
    go_wp2_with fail
    refine (huf_awake _).mono ?_
    rintro e w1 ⟨rfl, hB⟩
    have HB1 := Lib.hid hB
    clear hB
    go_wp2_with fail
    go_ret
    exact ⟨rfl, HB1.out⟩
  have h1' : ¬ (300 : Int) < (n : Int) := by omega
  have h2' : ¬ (500 : Int) < (m : Int) := by omega
  have Hn : Hid (n ≤ 300 ∧ m ≤ 500) := ⟨by omega, by omega⟩
  go_enter Try.func8, Try.ntmps8
  go_wp2_with fail
  refine (huf_awake _).mono ?_
  rintro e w1 ⟨rfl, hB1⟩
  have HB1 := Lib.hid hB1
  have hs1 := hB1.size
  clear hB1
  go_wp2_with fail
  refine (hufEncode4_any (c := cap0) (c2 := cap1) (HD.out.1.below HB1.out (Nat.le_refl _)) HN.out.1 (by have := Hn.out; omega) (by omega) (HD.out.2.below HB1.out (Nat.le_refl _)) HN.out.2 (by have := Hn.out; omega) hcap1 (by omega)).mono ?_
  rintro e w2 ⟨⟨ys, er⟩, hr1, hB2, v, rfl, hO2⟩
  obtain ⟨A2, c2, rfl, hc2, hD2⟩ := hO2.form
  obtain ⟨l2, hl2⟩ : ∃ l, l = ys.length := ⟨_, rfl⟩
  dsimp only at hc2 hD2 ⊢
  rw [← hl2] at hc2 ⊢
  have HB2 := Lib.hid (HB1.out.trans (hB2.mono hs1))
  have hs2 := hB2.size
  have hs2' : w.heap.size ≤ w2.heap.size := by omega
  have H2 := Lib.hid (And.intro hr1 (And.intro hD2 hl2.symm))
  clear hr1 hB2 hD2 hl2 hO2
  have hCk : CountOk bs.length := by unfold CountOk; rw [HN.out.2]; have := Hn.out; omega
  clear hCk
  rcases H2.out.1 with ⟨d, hM, _, hC, h3, hr⟩ | ⟨_, hr⟩
  · injection hr with hr1 hr2
    subst hr2
    rw [HN.out.2] at h3
    obtain ⟨ps, hps⟩ : ∃ ps, ps = encF d (nat xs) bs := ⟨_, rfl⟩
    rw [← hps] at hr1
    have hpl : ∀ i, (ps i).length ≤ 2 * m + 1 ∧ 1 ≤ (ps i).length := fun i => by
      have h1 := encF_le (ls := bs) hM i
      rw [HN.out.2] at h1
      rw [hps]
      exact ⟨h1, encS_ne _⟩
    have hjl : l2 = 6 + sumN ps 4 := by rw [← H2.out.2.2, hr1, joinF_len]
    have hb5 : ∀ i, i < 3 → (ps i).length ≤ 65535 := fun i _ => by have := (hpl i).1; have := Hn.out; omega
    have hst : ∀ i, i < 4 → strm d (nat xs) (ps i) (cntF m i) = (symL bs i, 0) := fun i hi => by
      have := strm_part hM hC (by rw [HN.out.2]; exact h3) i hi
      rw [HN.out.2] at this
      rw [hps]
      exact this
    have hs4 : sumN ps 4 ≤ 10000 := by
      have e0 := (hpl 0).1
      have e1 := (hpl 1).1
      have e2 := (hpl 2).1
      have e3 := (hpl 3).1
      have := Hn.out
      simp only [sumN]
      omega
    have HM := Lib.hid hM
    have hkl : kF m ≤ m + 1 := kF_le m
    have hkf : ((m : Int) + 3) / 4 = (kF m : Nat) := by unfold kF; omega
    have hl6 : ¬ (l2 : Int) < 6 := by omega
    have hl2b : l2 ≤ 10006 := by omega
    obtain ⟨d6, o6, hA6, _, hd6, hc6, _⟩ := H2.out.2.1 (by have := H2.out.2.2; omega)
    subst hA6
    have HP := Lib.hid (And.intro hpl (And.intro hb5 (And.intro hst (And.intro hr1 hjl))))
    have HC6 := Lib.hid hc6
    have h3z : 3 * (kF m : Int) ≤ (m : Int) := by omega
    have HSy : Hid (∀ i, i < 4 → i * kF m + cntF m i ≤ m ∧ (symL bs i).length = cntF m i) := fun i hi => by
      have h1 := kF_cut (ls := bs) (by rw [HN.out.2]; exact h3) hi
      have h2 := symL_len (ls := bs) (by rw [HN.out.2]; exact h3) hi
      rw [HN.out.2] at h1 h2
      exact ⟨h1, h2⟩
    have HIx : Hid ((∀ i, i < 3 → cntF m i = kF m) ∧ cntF m 3 = m - 3 * kF m ∧ ∀ i, symL bs i = (bs.drop (i * kF m)).take (cntF m i)) := ⟨fun i hi => by unfold cntF; rw [if_pos hi], rfl, fun i => by unfold symL; rw [HN.out.2]⟩
    have HK := Lib.hid h3
    clear hr1 hps hpl hjl hb5 hst hM hC hc6 h3
    generalize kF m = kk at *
    go_wp2_with fail
    clear hkf
    go_loopg [9, 10] 4 (fun gh va vi wx => ∃ i a : Nat, vi = .int .i64 (i : Int) ∧ i + gh = 4 ∧ va = .int .i64 (a : Int) ∧ a = 6 + sumN ps i ∧ Below w2.heap.size w2 wx)
    case atStart => exact ⟨0, 6, rfl, rfl, rfl, rfl, Below.refl _ _⟩
    case round =>
      obtain ⟨i, at0, rfl, hgk, rfl, hat0, hB⟩ := hrel
      have hBs := hB.size
      have HBw := Lib.hid (HB2.out.trans (hB.mono hs2'))
      have HBj := Lib.hid hB
      have hdw : d6 < wr.heap.size := by omega
      clear hB
      by_cases hlt : i < 4
      · obtain ⟨g', rfl⟩ : ∃ g', gk = g' + 1 := ⟨gk - 1, by omega⟩
        have hltz : (i : Int) < 4 := by omega
        obtain ⟨hy1, hy2⟩ := HSy.out i hlt
        have hst := HP.out.2.2.1 i hlt
        have hja := join_at (ps := ps) i hlt
        rw [← HP.out.2.2.2.1] at hja
        have hnbl := HP.out.1 i
        have hs1' : sumN ps (i + 1) = sumN ps i + (ps i).length := rfl
        have hs2 : sumN ps (i + 1) ≤ sumN ps 4 := sumN_le (by omega)
        have hs3 : i = 3 → sumN ps (i + 1) = sumN ps 4 := fun e => by rw [e]
        have hll := HP.out.2.2.2.2
        have hsz := fun h : i < 3 => szF_join (ps := ps) i h (HP.out.2.1 i h)
        rw [← HP.out.2.2.2.1] at hsz
        have hcut := HIx.out.2.2 i
        have hDb : Dat true wr w1.heap.size w2.heap.size (if c2 = 6 + sumN ps i then some ⟨d6, o6, none⟩ else (some (⟨d6, o6, none⟩ : Addr)).map (·.add (6 + sumN ps i))) ((ys.drop (6 + sumN ps i)).take (ps i).length) :=
          ((H2.out.2.1.below HBj.out (Nat.le_refl _)).cut (c := c2) (k := 6 + sumN ps i) (by rw [H2.out.2.2]; exact hc2)).take _
        rw [hja] at hDb
        have HS3 := Lib.hid (And.intro hs1' (And.intro hs3 hcut))
        obtain ⟨at1, hat1⟩ : ∃ x, x = 6 + sumN ps (i + 1) := ⟨_, rfl⟩
        obtain ⟨nb, hnb⟩ : ∃ x, x = (ps i).length := ⟨_, rfl⟩
        obtain ⟨p, hp⟩ : ∃ x, x = i * kk := ⟨_, rfl⟩
        obtain ⟨p1, hp1⟩ : ∃ x, x = i * kk + cntF m i := ⟨_, rfl⟩
        obtain ⟨ct, hct⟩ : ∃ x, x = cntF m i := ⟨_, rfl⟩
        have hcvl : ∀ W, Below w.heap.size w W → (convert 22 9 (.slice (if cap1 = p then a1 else a1.map (·.add p)) ct (cap1 - p))).run Try.prog W = .ok (.string (str (symL bs i))) W := fun W h => by
          have hdl := ((HD.out.2.below h (Nat.le_refl _)).cut (c := cap1) (k := p) (by rw [HN.out.2]; exact hcap1)).take ct
          have he : (bs.drop p).take ct = symL bs i := by rw [hp, hct]; exact hcut.symm
          rw [he] at hdl
          exact run_str (P := Try.prog) W 22 Try.underlying22 Try.underlying5 (c := cap1 - p) (m := ct) hdl (by rw [hct]; exact hy2) 9 Try.underlying9
        rw [← hct] at hy1 hy2 hst hcut
        rw [← hp] at hy1 hcut hp1
        rw [← hnb] at hs1' hnbl hsz
        rw [← hat0] at hDb
        rw [← hct] at hp1
        have e1 : at0 + nb = at1 := by omega
        have e2 : at1 ≤ l2 := by omega
        have e3 : i = 3 → at1 = l2 := fun e => by have := hs3 e; omega
        have e4 : at0 < c2 := by omega
        have hne : ¬ c2 = at0 := by omega
        rw [if_neg hne] at hDb
        have hat00 : at0 ≠ 0 := by omega
        have hDb : Dat true wr w1.heap.size w2.heap.size (some ⟨d6, o6 + at0, none⟩) (ps i) := by simpa [Addr.add, hat00] using hDb
        have HDb := Lib.hid (And.intro hDb hnb.symm)
        have HDe := Lib.hid (fun W (h : Below wr.heap.size wr W) => hufDecode_any (w := W) (c := cap0) (c2 := c2 - at0) (ct : Int) ((HD.out.1.below HBw.out (Nat.le_refl _)).below h (by omega)) HN.out.1 (by have := Hn.out; omega) (by have := h.size; omega) (HDb.out.1.below h (by omega)) HDb.out.2 (by omega) (by have := h.size; omega))
        have hpm : p1 ≤ m := by rw [hp1]; exact hy1
        have hpc : p + ct = p1 := hp1.symm
        obtain ⟨rb, hrb⟩ : ∃ x, x = l2 - at0 := ⟨_, rfl⟩
        obtain ⟨ll, hll3⟩ : ∃ x, x = m - 3 * kk := ⟨_, rfl⟩
        have i1 : (l2 : Int) - (at0 : Int) = (rb : Int) := by omega
        have i2 : (m : Int) - 3 * (kk : Int) = (ll : Int) := by omega
        have i3 : (at0 : Int) + (nb : Int) = (at1 : Int) := by omega
        have i4 : (i : Int) * (kk : Int) = (p : Int) := by rw [hp, Int.natCast_mul]
        have i5 : (p : Int) + (ct : Int) = (p1 : Int) := by omega
        have hnr : nb ≤ rb := by omega
        have j1 : at1 - at0 = nb := by omega
        have j2 : p1 - p = ct := by omega
        have HE := Lib.hid (And.intro hat1 (And.intro hy2 (And.intro hst e3)))
        have HCv := Lib.hid hcvl
        have hct3 : i = 3 → ct = ll := fun e => by rw [hct, e, hll3]; exact HIx.out.2.1
        have hctk : i < 3 → ct = kk := fun h => by rw [hct]; exact HIx.out.1 i h
        have hrn : i = 3 → nb = rb := fun e => by have := e3 e; omega
        have hn1 := hnbl.2
        have hn2 := hnbl.1
        clear hat0 hat1 hp hp1 hnb hct hst hcut hs1' hs2 hs3 hll hja hDb hnbl hy1 hy2 e1 e3 hpc hrb hll3 hcvl
        by_cases hi3 : i < 3
        · have hiz3 : (i : Int) < 3 := by omega
          have hk' : kk = ct := (hctk hi3).symm
          subst hk'
          obtain ⟨q0, hq0⟩ : ∃ x, x = 2 * i := ⟨_, rfl⟩
          obtain ⟨q1, hq1⟩ : ∃ x, x = 2 * i + 1 := ⟨_, rfl⟩
          have hyl : q1 < ys.length := by rw [H2.out.2.2]; omega
          have hsum : (ys.getD q0 0).toNat + 256 * (ys.getD q1 0).toNat = nb := by
            rw [← hsz hi3, hq0, hq1]
            exact (le2 (by omega)).symm
          have cb0 := (HBj.out.cell (p := ⟨d6, o6 + q0, none⟩) hd6).trans (HC6.out q0 (by omega))
          have cb1 := (HBj.out.cell (p := ⟨d6, o6 + q1, none⟩) hd6).trans (HC6.out q1 hyl)
          unfold cel at cb0 cb1
          have hx0 := (ys.getD q0 0).toNat_lt
          have hx1 := (ys.getD q1 0).toNat_lt
          generalize (ys.getD q0 0).toNat = x0 at *
          generalize (ys.getD q1 0).toNat = x1 at *
          have i6 : 2 * (i : Int) = (q0 : Int) := by omega
          have i7 : (q0 : Int) + 1 = (q1 : Int) := by omega
          have i8 : (x0 : Int) + 256 * (x1 : Int) = (nb : Int) := by omega
          have hq1l : q1 < l2 := by rw [← H2.out.2.2]; exact hyl
          have i9 : (q0 : Int) < (l2 : Int) := by omega
          have i10 : (q1 : Int) < (l2 : Int) := by omega
          have i11 : 256 * (x1 : Int) ≤ 256 * 255 := by omega
          clear hq0 hq1 hyl hsum hsz hctk hct3 hrn
          go_wp2_with fail
          go_quiet (fail)
          go_wp2_with fail
          have HDn := fun k => HDe.out (wr.drewN k) (show Below wr.heap.size wr (wr.drewN k) from ⟨rfl, rfl, rfl, Nat.le_refl _, fun _ _ => rfl⟩)
          refine (HDn _).mono ?_
          rintro e w5 ⟨r, hr, hB5', A5, c5, rfl, hc5, hD5⟩
          have hrr : r = (symL bs i, 0) := DRes.uni hr (.inl ⟨d, HM.out, by unfold CountOk; omega, HE.out.2.2.1.symm⟩)
          subst hrr
          dsimp only at hc5 hD5 ⊢
          rw [HE.out.2.1] at hc5 ⊢
          have hB5 : Below wr.heap.size wr w5 := ⟨hB5'.os, hB5'.tape, hB5'.output, hB5'.size, hB5'.block⟩
          have HB5 := Lib.hid (And.intro (HBw.out.trans (hB5.mono (by omega))) (HBj.out.trans (hB5.mono hBs)))
          have k1 := run_str (P := Try.prog) w5.drew 22 Try.underlying22 Try.underlying5 (c := c5) (m := kk) hD5.drew HE.out.2.1 9 Try.underlying9
          have k2 := HCv.out w5.drew HB5.out.1.drew
          have ssn := str_neq (str (symL bs i))
          have hp1c : (p1 : Int) ≤ (cap1 : Int) := by omega
          have hpp : (p : Int) ≤ (p1 : Int) := by omega
          have hp00 : (0 : Int) ≤ (p : Int) := by omega
          have hp10 : (0 : Int) ≤ (p1 : Int) := by omega
          have wp : IntKind.i64.wrap (p : Int) = (p : Int) := IntWalk.i64_in _ (by omega)
          have wp1 : IntKind.i64.wrap (p1 : Int) = (p1 : Int) := IntWalk.i64_in _ (by omega)
          have np : p ≤ p1 := by omega
          have np1 : p1 ≤ cap1 := by omega
          have hpd : (0 : Int) ≤ (p1 : Int) - (p : Int) := by omega
          clear hr hB5 hB5' hD5 HDe HDn
          generalize str (symL bs i) = Y at *
          by_cases hce : cap1 = p
          · have k3 : (convert 22 9 (.slice a1 kk kk)).run Try.prog w5.drew = .ok (.string Y) w5.drew := by
              rw [if_pos hce, show cap1 - p = kk by omega] at k2
              exact k2
            have hce' : p = cap1 := hce.symm
            have q1' : (p1 : Int) = (cap1 : Int) := by omega
            have q2' : p1 = cap1 := by omega
            have q4' : cap1 - p = 0 := by omega
            have q5' : cap1 - cap1 = kk := by omega
            have q6' : IntKind.i64.wrap (cap1 : Int) = (cap1 : Int) := IntWalk.i64_in _ (by omega)
            have q7' : (0 : Int) ≤ (cap1 : Int) := by omega
            have q8' : (cap1 : Int) + (kk : Int) = (cap1 : Int) := by omega
            clear hce k2
            go_wp2_with fail
            go_region_held3 (fun w' => (convert 22 9 (.slice A5 kk c5)).run Try.prog w' = .ok (.string Y) w' ∧ (convert 22 9 (.slice a1 kk kk)).run Try.prog w' = .ok (.string Y) w') (first | exact ⟨k1, k3⟩ | go_keep) (fail)
            go_wp2_with fail
            go_roundg g'
            case measure => omega
            case rel => exact ⟨i + 1, at1, by go_num, by omega, by congr 1, HE.out.1, HB5.out.2.drew⟩
          · rw [if_neg hce] at k2
            go_wp2_with fail
            go_region_held3 (fun w' => (convert 22 9 (.slice A5 kk c5)).run Try.prog w' = .ok (.string Y) w' ∧ (convert 22 9 (.slice (a1.map (·.add p)) kk (cap1 - p))).run Try.prog w' = .ok (.string Y) w') (first | exact ⟨k1, k2⟩ | go_keep) (fail)
            go_wp2_with fail
            go_roundg g'
            case measure => omega
            case rel => exact ⟨i + 1, at1, by go_num, by omega, by congr 1, HE.out.1, HB5.out.2.drew⟩
        · have hiz3 : ¬ (i : Int) < 3 := by omega
          have hi3' : i = 3 := by omega
          have hk' : ct = ll := hct3 hi3'
          subst hk'
          have hk2 : nb = rb := hrn hi3'
          subst hk2
          clear hctk hct3 hrn hsz hi3 hi3'
          go_wp2_with fail
          refine (HDe.out wr (Below.refl _ _)).mono ?_
          rintro e w5 ⟨r, hr, hB5', A5, c5, rfl, hc5, hD5⟩
          have hrr : r = (symL bs i, 0) := DRes.uni hr (.inl ⟨d, HM.out, by unfold CountOk; omega, HE.out.2.2.1.symm⟩)
          subst hrr
          dsimp only at hc5 hD5 ⊢
          rw [HE.out.2.1] at hc5 ⊢
          have hB5 : Below wr.heap.size wr w5 := ⟨hB5'.os, hB5'.tape, hB5'.output, hB5'.size, hB5'.block⟩
          have HB5 := Lib.hid (And.intro (HBw.out.trans (hB5.mono (by omega))) (HBj.out.trans (hB5.mono hBs)))
          have k1 := run_str (P := Try.prog) w5.drew 22 Try.underlying22 Try.underlying5 (c := c5) (m := ct) hD5.drew HE.out.2.1 9 Try.underlying9
          have k2 := HCv.out w5.drew HB5.out.1.drew
          have ssn := str_neq (str (symL bs i))
          have hp1c : (p1 : Int) ≤ (cap1 : Int) := by omega
          have hpp : (p : Int) ≤ (p1 : Int) := by omega
          have hp00 : (0 : Int) ≤ (p : Int) := by omega
          have hp10 : (0 : Int) ≤ (p1 : Int) := by omega
          have wp : IntKind.i64.wrap (p : Int) = (p : Int) := IntWalk.i64_in _ (by omega)
          have wp1 : IntKind.i64.wrap (p1 : Int) = (p1 : Int) := IntWalk.i64_in _ (by omega)
          have np : p ≤ p1 := by omega
          have np1 : p1 ≤ cap1 := by omega
          have hpd : (0 : Int) ≤ (p1 : Int) - (p : Int) := by omega
          clear hr hB5 hB5' hD5 HDe
          generalize str (symL bs i) = Y at *
          by_cases hce : cap1 = p
          · have k3 : (convert 22 9 (.slice a1 ct ct)).run Try.prog w5.drew = .ok (.string Y) w5.drew := by
              rw [if_pos hce, show cap1 - p = ct by omega] at k2
              exact k2
            have hce' : p = cap1 := hce.symm
            have q1' : (p1 : Int) = (cap1 : Int) := by omega
            have q2' : p1 = cap1 := by omega
            have q4' : cap1 - p = 0 := by omega
            have q5' : cap1 - cap1 = ct := by omega
            have q6' : IntKind.i64.wrap (cap1 : Int) = (cap1 : Int) := IntWalk.i64_in _ (by omega)
            have q7' : (0 : Int) ≤ (cap1 : Int) := by omega
            have q8' : (cap1 : Int) + (ct : Int) = (cap1 : Int) := by omega
            clear hce k2
            go_wp2_with fail
            go_region_held3 (fun w' => (convert 22 9 (.slice A5 ct c5)).run Try.prog w' = .ok (.string Y) w' ∧ (convert 22 9 (.slice a1 ct ct)).run Try.prog w' = .ok (.string Y) w') (first | exact ⟨k1, k3⟩ | go_keep) (fail)
            go_wp2_with fail
            go_roundg g'
            case measure => omega
            case rel => exact ⟨i + 1, at1, by go_num, by omega, by congr 1, HE.out.1, HB5.out.2.drew⟩
          · rw [if_neg hce] at k2
            go_wp2_with fail
            go_region_held3 (fun w' => (convert 22 9 (.slice A5 ct c5)).run Try.prog w' = .ok (.string Y) w' ∧ (convert 22 9 (.slice (a1.map (·.add p)) ct (cap1 - p))).run Try.prog w' = .ok (.string Y) w') (first | exact ⟨k1, k2⟩ | go_keep) (fail)
            go_wp2_with fail
            go_roundg g'
            case measure => omega
            case rel => exact ⟨i + 1, at1, by go_num, by omega, by congr 1, HE.out.1, HB5.out.2.drew⟩
      · obtain rfl : i = 4 := by omega
        have hltz : ¬ ((4 : Nat) : Int) < 4 := by decide
        have hal : at0 = l2 := hat0.trans HP.out.2.2.2.2.symm
        have haz : ((at0 : Int) == (l2 : Int)) = true := by rw [beq_iff_eq, hal]
        clear hat0 hal
        go_wp2_with fail
        go_ret
        exact ⟨rfl, HBw.out⟩
  · injection hr with hr1 hr2
    subst hr1 hr2
    have hl0 : l2 = 0 := H2.out.2.2.symm
    subst hl0
    go_wp2_with fail
    go_ret
    exact ⟨rfl, HB2.out⟩

set_option maxRecDepth 100000 in
theorem lifted (os : Os) (started : os.Started) (H : Type) (enc : TypeId × Value → H) :
    ReturnsInHanded {} Try.checked os 8 .any (Rows.huffJumpsSpec.pre6 enc Try.prog Try.f8 Rows.huffJumpsRow.domain false) (Rows.huffJumpsSpec.post enc Try.prog Try.f8 false true false false) := by
  refine returnsInHanded_of_change (C := Try.checked) own started (by kernel_rfl) Try.func8
    (ChangeSpec.witness6 (enc := enc) (C := Try.checked) false ⟨#[], #[.slice none 0 0, .slice none 0 0], []⟩ 8 (by kernel_rfl) (by kernel_rfl) (by kernel_rfl) (by kernel_rfl)) ?_
  intro W base args ds gs before hval0 hW hcnd _
  have hval : ∀ (j : Nat) t v, Try.f8.params[j]? = some t → args[j]? = some v → Value.okWide Try.prog W .any base t v := hval0
  have hW' := hW
  obtain ⟨p, q, hA0, hV, rfl, hfz, hnd⟩ := hW
  have hA : DataW.TrodAll enc Try.prog W 0 (fun _ => true) true Try.f8.params.toList args.toList ds p := hA0
  rw [Try.params8] at hA hval
  obtain ⟨v0, vs0, d0, ds0, p0, q0, hargs, rfl, rfl, h0, r0⟩ := trodAll_cons hA
  obtain ⟨v1, vs1, d1, ds1, p1, q1, rfl, rfl, rfl, h1, r1⟩ := trodAll_cons r0
  obtain ⟨rfl, rfl, rfl⟩ := trodAll_nil r1
  obtain rfl : args = #[v0, v1] := by cases args; simp_all
  obtain ⟨rfl, rfl⟩ := trodVars_none hV
  obtain ⟨a0, len0, cap0, rfl⟩ := okWide_slice Try.underlying22 (hval 0 22 v0 rfl rfl)
  have k0 := h0
  have lt0 : ∀ x ∈ p0, x.block < W.heap.size := by obtain ⟨m, hm⟩ := k0; exact DataW.trod_lt m _ _ _ hm
  obtain ⟨z0, w0⟩ := row_of_trod h0
  obtain ⟨xs0, rfl, hl0, hm0, hd0⟩ := row_dat w0
  obtain ⟨a1, len1, cap1, rfl⟩ := okWide_slice Try.underlying22 (hval 1 22 v1 rfl rfl)
  have k1 := h1
  have lt1 : ∀ x ∈ p1, x.block < W.heap.size := by obtain ⟨m, hm⟩ := k1; exact DataW.trod_lt m _ _ _ hm
  obtain ⟨z1, w1⟩ := row_of_trod h1
  obtain ⟨xs1, rfl, hl1, hm1, hd1⟩ := row_dat w1
  clear hA0 hval0
  refine (walk a0 xs0 cap0 a1 xs1 cap1 W hd0 (by omega) hd1 (by omega) hl1).mono fun e W' ⟨he, bel⟩ => ?_
  subst he
  exact ⟨_, rfl, _, _, _, [], _, [], hW', trodAll_mk1 (shut_bool Try.underlying4 _), (trodAll_cons_mk (Below.trod laidOut (by kernel_rfl) (of_decide_eq_true (by kernel_rfl)) k0 bel lt0) (trodAll_cons_mk (Below.trod laidOut (by kernel_rfl) (of_decide_eq_true (by kernel_rfl)) k1 bel lt1) trodAll_mk0)), rfl, bel.frame _, fun h => by cases h⟩

theorem over : Rows.huffJumpsRow.holds Try.pinned (OpenSpec.ofChange Rows.huffJumpsSpec) :=
  OpenClaim.holds_of_wide 8 Try.f8 rfl rfl rfl rfl rfl rfl rfl ⟨rfl, rfl, rfl, rfl, rfl⟩ rfl rfl rfl rfl rfl (by kernel_rfl) Try.func8 (by kernel_rfl)
    (of_decide_eq_true (by kernel_rfl)) (by unfold Func.isWrapper; first | (rw [if_pos (by decide +kernel)]; kernel_rfl) | (rw [if_neg (by decide +kernel)]; exact ⟨rfl, rfl⟩))
    (fun os started H enc _ => lifted os started H enc)

theorem proved : Rows.HuffJumpsSaid := over
end Go.Proofs.Ytjpjbbbpmhcgnaa.huffJumps
