
/- NormalLast holds: for every two bytes and every bool the law returns true. No condition. -/
import Derived.Test.YtafhabpckgmkgaaNormTail
import Derived.Test.YtafhabpckgmkgaaArgs
namespace Go.Proofs.Ytafhabpckgmkgaa.normalLast
open Go.ChangeShapes Go.WideShapes Go.ChangeAt Go.RowKit

theorem sum_last (n : Nat) (P : Int) : tot (List.replicate n 0 ++ [P]) = wi P := by
  rw [tot_append, tot_zeros, tot_cons]
  simp [tot]
theorem may_one (l n : Nat) (h1 : 5 ≤ l) (h2 : l ≤ 8) (hn : n < 20) (P : Nat) (hP : (2 : Int) ^ l = P) : mayB (l : Int) (List.replicate n 0 ++ [(P : Int)]) = true := by
  have hp : 2 ^ 5 ≤ 2 ^ l := Nat.pow_le_pow_right (by omega) h1
  have hpp : ((2 ^ l : Nat) : Int) = P := by rw [← hP]; simp
  refine mayB_iff.2 ⟨by omega, by omega, by simp, by simp; omega, by simp; omega, ?_, ?_⟩
  · intro p hp
    rw [List.mem_append] at hp
    rcases hp with h | h
    · rw [List.mem_replicate] at h; omega
    · simp at h; omega
  · rw [sum_last, show ((l : Nat) : Int).toNat = l by omega, hP]
    unfold wi
    split <;> omega
theorem tot_rare (n : Nat) : tot (List.replicate n (-1)) = n := by
  induction n with
  | zero => rfl
  | succ n ih =>
    rw [List.replicate_succ, tot_cons, ih]
    have : wi (-1) = 1 := rfl
    omega
theorem may_rare (l : Nat) (h1 : 5 ≤ l) (h2 : l ≤ 8) (P : Nat) (hP : (2 : Int) ^ l = P) : mayB (l : Int) (List.replicate P (-1)) = true := by
  have hp : 2 ^ 5 ≤ 2 ^ l := Nat.pow_le_pow_right (by omega) h1
  have hp8 : 2 ^ l ≤ 2 ^ 8 := Nat.pow_le_pow_right (by omega) h2
  have hpp : ((2 ^ l : Nat) : Int) = P := by rw [← hP]; simp
  refine mayB_iff.2 ⟨by omega, by omega, by simp; omega, by simp; omega, ?_, ?_, ?_⟩
  · rw [List.getLast?_replicate, if_neg (by omega)]
    decide
  · intro p hp
    rw [List.mem_replicate] at hp
    omega
  · rw [tot_rare, show ((l : Nat) : Int).toNat = l by omega, hP]

set_option maxRecDepth 100000 in
set_option maxHeartbeats 4000000 in
theorem walk (lg n : Int) (rare : Bool) (w : World) (hl0 : 0 ≤ lg ∧ lg ≤ 255) (hn0 : 0 ≤ n ∧ n ≤ 255) :
    Calls Try.prog 7 #[.int .u8 lg, .int .u8 n, .bool rare] w fun e w' => e = .returned (.bool true) ∧ Below w.heap.size w w' := by
  obtain ⟨i0, hi0, hz0, hz1, hz2⟩ := info_parts int_info
  obtain ⟨hl1, hl2⟩ := hl0
  obtain ⟨hn1, hn2⟩ := hn0
  obtain ⟨m, hm⟩ : ∃ m : Nat, n % 20 = (m : Int) := ⟨(n % 20).toNat, by omega⟩
  obtain ⟨q, hq⟩ : ∃ q : Nat, lg % 4 = (q : Int) := ⟨(lg % 4).toNat, by omega⟩
  have hm20 : m < 20 := by omega
  have hq4 : q < 4 := by omega
  obtain ⟨l, hl⟩ : ∃ l : Nat, l = 5 + q := ⟨_, rfl⟩
  have hl5 : 5 ≤ l := by omega
  have hl8 : l ≤ 8 := by omega
  have hlq : (5 : Int) + (q : Int) = (l : Int) := by omega
  obtain ⟨P, hP⟩ : ∃ P : Nat, P = 2 ^ l := ⟨_, rfl⟩
  have hpow : (2 : Int) ^ l = (P : Nat) := by rw [hP]; simp
  have hp8 : 2 ^ l ≤ 2 ^ 8 := Nat.pow_le_pow_right (by omega) hl8
  rw [← hP] at hp8
  have HOne := Lib.hid (may_one l m hl5 hl8 hm20 P hpow)
  have HRare := Lib.hid (may_rare l hl5 hl8 P hpow)
  have HPow := Lib.hid hpow
  clear hl hP hpow
  go_enter Try.func7, Try.ntmps7
  go_wp2_with fail
  refine (awake_any _).mono ?_
  rintro e w1 ⟨rfl, hB⟩
  have HB1 := Lib.hid hB
  have hs1 := hB.size
  clear hB
  go_wp2_with fail
  have hb1 := Box.new w1 26 #[.int .i64 (l : Int), .slice none 0 0]
  have HX1 := Lib.hid hb1
  clear hb1
  rw [hq]
  clear hq
  go_loopg [10] m (fun gh i wx => ∃ (j : Nat) (v : Value), j + gh = m ∧ i = .int .i64 j ∧ Box wx w1.heap.size 26 #[.int .i64 (l : Int), v] ∧ OwE icel wx 3 (w1.heap.size + 1) v (List.replicate j 0) ∧ Below w1.heap.size w1 wx)
  case atStart => exact ⟨0, _, by omega, rfl, HX1.out, OwE.nil _ _ _ _, (Below.refl _ _).alloc (Nat.le_refl _) _⟩
  case round =>
    obtain ⟨j, v, hj, rfl, hb, ho, hB⟩ := hrel
    obtain ⟨A, c, rfl, hc, _⟩ := ho.form
    rw [List.length_replicate] at hb ho hc
    obtain ⟨c0, c1, f0, f1⟩ := box2 hb
    have HX := Lib.hid hb
    have HO := Lib.hid ho
    have HBx := Lib.hid hB
    have HJ := Lib.hid hj
    have hlt := hb.lt
    have hjm : j ≤ m := by omega
    clear hb ho hB hj
    by_cases hjl : j < m
    · obtain ⟨g', rfl⟩ : ∃ g', gk = g' + 1 := ⟨gk - 1, by have := HJ.out; omega⟩
      have hji : (j : Int) < (m : Int) := by omega
      have HA := Lib.hid (HO.out.alloc (.cells #[.int .i64 0] 3))
      have HD1 := Lib.hid (datE_one icel wr 0 3 _ rfl)
      go_wp2_with (at_builtin; refine list_appE icel_one _ rfl _ _ 24 rfl i0 (.int .i64 0) 8 Try.underlying24 hi0 hz0 hz1 hz2 rfl (by decide) rfl HA.out rfl HD1.out rfl ?_ ?_ ?_)
      · first | omega | (simp; omega)
      · first | omega | (simp; omega)
      intro v1 w4 ho1 hg1 hat1
      obtain ⟨Av, nv, cv, rfl⟩ := ho1.slice
      obtain ⟨k0, k1, kf, HK⟩ := push_facts HX.out HO.out ho1 hg1
      clear ho1 hg1 hat1 HA HD1 c0 c1 f0 f1
      go_wp2_with fail
      go_roundg g'
      case rel =>
        refine ⟨j + 1, _, by have := HJ.out; omega, by go_num, HK.out.1, ?_, HBx.out.trans HK.out.2.2⟩
        have h1 := HK.out.2.1
        rw [show List.replicate j (0 : Int) ++ [0] = List.replicate (j + 1) 0 by rw [List.replicate_succ']] at h1
        exact h1
      case measure => omega
    · obtain rfl : j = m := by omega
      have hji : ¬ (j : Int) < (j : Int) := by omega
      cases rare with
      | false =>
        have hpw := HPow.out
        have HA := Lib.hid (HO.out.alloc (.cells #[.int .i64 (P : Int)] 3))
        have HD1 := Lib.hid (datE_one icel wr (P : Int) 3 _ rfl)
        go_wp2_with (at_builtin; refine list_appE icel_one _ rfl _ _ 24 rfl i0 (.int .i64 0) 8 Try.underlying24 hi0 hz0 hz1 hz2 rfl (by decide) rfl HA.out rfl HD1.out rfl ?_ ?_ ?_)
        · first | omega | (simp; omega)
        · first | omega | (simp; omega)
        intro v1 w4 ho1 hg1 hat1
        obtain ⟨Av, nv, cv, rfl⟩ := ho1.slice
        obtain ⟨k0, k1, kf, HK⟩ := push_facts HX.out HO.out ho1 hg1
        clear ho1 hg1 hat1 HA HD1 c0 c1 f0 f1
        go_wp2_with fail
        generalize w4.setCell ⟨w1.heap.size, 1, none⟩ (.slice Av nv cv) = ws at *
        obtain ⟨PS, hPS⟩ : ∃ PS : List Int, PS = List.replicate j 0 ++ [(P : Int)] := ⟨_, rfl⟩
        have HM : Hid (mayB (l : Int) PS = true) := by rw [hPS]; exact HOne.out
        have HX9 : Hid (Box ws w1.heap.size 26 #[.int .i64 (l : Int), .slice Av nv cv]) := HK.out.1
        have HO9 : Hid (OwE icel ws 3 (w1.heap.size + 1) (.slice Av nv cv) PS) := by rw [hPS]; exact HK.out.2.1
        have HB9 : Hid (Below w.heap.size w ws) := HB1.out.trans (Below.mono (HBx.out.trans HK.out.2.2) hs1)
        clear hPS
        have hpl := (mayB_iff.1 HM.out).2.2.2.1
        have HNv : Hid (PS.length = nv) := HO9.out.len
        have hnv : nv ≤ 256 := by have := HNv.out; omega
        have hcv := HO9.out.cap
        have hmx : nv ≤ maxLen := by unfold maxLen; omega
        have hlt9 := HX9.out.lt
        have hsz9 := HB9.out.size
        refine (check_any (c := cv) l 15 HO9.out.dat HNv.out hcv hmx (Nat.le_refl _) (may_bounds HM.out)).mono ?_
        rintro e wa ⟨rfl, hB⟩
        rw [chk_ok HM.out (by omega)]
        have hsza := hB.size
        have HXa := Lib.hid (HX9.out.below hB hlt9)
        have HOa := Lib.hid (HO9.out.below hB (Nat.le_refl _))
        have HBa := Lib.hid (HB9.out.trans (hB.mono hsz9))
        clear hB
        try clear k0 k1 kf
        try clear c0 c1 f0 f1
        obtain ⟨c0, c1, f0, f1⟩ := box2 HXa.out
        go_wp2_with fail
        refine (write_told (c := cv) l HM.out HOa.out.dat HNv.out hcv hmx (Nat.le_refl _) (may_bounds HM.out)).mono ?_
        rintro e wb ⟨vb, rfl, hob, hB⟩
        obtain ⟨Ab, cb, rfl, hcb, hdb⟩ := hob.form
        have hszb := hB.size
        have HXb := Lib.hid (HXa.out.below hB (by omega))
        have HOb := Lib.hid (HOa.out.below hB (Nat.le_refl _))
        have HBb := Lib.hid (HBa.out.trans (hB.mono (by omega)))
        have hbl := wrC_bound HM.out
        have hR := rdC_back (log := (l : Int)) HM.out (most := 15) (sy := 256) (by omega) (by have := HNv.out; omega) []
        rw [List.append_nil, show ((l : Nat) : Int).toNat = l by omega] at hR
        have HR := Lib.hid (read_any (c := cb) 15 256 hdb rfl (by rw [wrC_len]; omega) (Nat.le_refl _) hR)
        have HE := Lib.hid (wrC_len l PS)
        clear hob hB hdb hR hbl c0 c1 f0 f1 hcb
        generalize (bytesOf (wrC l PS)).length = L at *
        have hL0 : ((L : Int) == (L : Int)) = true := by simp
        go_wp2_with fail
        refine HR.out.mono ?_
        rintro e wc ⟨hB, vc, rfl, hoc⟩
        rw [← HE.out]
        obtain ⟨Ac, cc, rfl, hcc, hdc⟩ := hoc.form
        rw [HNv.out] at hcc ⊢
        have hszc := hB.size
        have HXc := Lib.hid (HXb.out.below hB (by omega))
        have HOc := Lib.hid (HOb.out.below hB (Nat.le_refl _))
        have HBc := Lib.hid (HBb.out.trans (hB.mono (by omega)))
        have HDc := Lib.hid hdc
        have hltc := HXc.out.lt
        clear hB hoc hdc hL0
        obtain ⟨c0, c1, f0, f1⟩ := box2 HXc.out
        have HSame : Hid (∀ wz, Below (wc.heap.size + 1) (wc.alloc (.cells #[.int .i64 (l : Int), .slice Ac nv cc] 26)) wz → Calls Try.prog 11 #[.agg #[.int .i64 (l : Int), .slice Av nv cv], .agg #[.int .i64 (l : Int), .slice Ac nv cc]] wz fun e w' => e = .returned (.bool true) ∧ Below wz.heap.size wz w') := by
          intro wz hz
          have hzs := hz.size
          simp only [World.size_alloc] at hzs
          exact same_yes l ((HOc.out.dat.alloc (Nat.le_refl _) _).below hz (by omega)) ((HDc.out.alloc (Nat.le_refl _) _).below hz (by omega)) HNv.out (by omega) (by omega) (by omega)
        have HChk : Hid (∀ wz, Below (wc.heap.size + 1) (wc.alloc (.cells #[.int .i64 (l : Int), .slice Ac nv cc] 26)) wz → Calls Try.prog 13 #[.agg #[.int .i64 (l : Int), .slice Av nv cv], .int .i64 ((l : Int) - 1)] wz fun e w' => e = .returned (.int .i64 12) ∧ Below wz.heap.size wz w') := by
          intro wz hz
          have hzs := hz.size
          simp only [World.size_alloc] at hzs
          have h9 := check_any (c := cv) (w := wz) l ((l : Int) - 1) ((HOc.out.dat.alloc (Nat.le_refl _) _).below hz (by omega)) HNv.out hcv hmx (by omega) (may_bounds HM.out)
          rw [chk_big HM.out (by omega)] at h9
          exact h9
        have HT : Hid ((wc.alloc (.cells #[.int .i64 (l : Int), .slice Ac nv cc] 26)).cell? ⟨w1.heap.size, 0, none⟩ = some (.int .i64 (l : Int)) ∧ (wc.alloc (.cells #[.int .i64 (l : Int), .slice Ac nv cc] 26)).cell? ⟨w1.heap.size, 1, none⟩ = some (.slice Av nv cv) ∧ (wc.alloc (.cells #[.int .i64 (l : Int), .slice Ac nv cc] 26)).cell? ⟨wc.heap.size, 0, none⟩ = some (.int .i64 (l : Int)) ∧ (wc.alloc (.cells #[.int .i64 (l : Int), .slice Ac nv cc] 26)).cell? ⟨wc.heap.size, 1, none⟩ = some (.slice Ac nv cc)) :=
          ⟨(HXc.out.alloc _).cell 0, (HXc.out.alloc _).cell 1, (Box.new wc _ _).cell 0, (Box.new wc _ _).cell 1⟩
        have HBd : Hid (Below w.heap.size w (wc.alloc (.cells #[.int .i64 (l : Int), .slice Ac nv cc] 26))) := HBc.out.alloc (by omega) _
        have hb1 : w1.heap.size < wc.heap.size + 1 := by omega
        have hb2 : wc.heap.size < wc.heap.size + 1 := by omega
        have hs0 : w.heap.size ≤ wc.heap.size + 1 := by omega
        have hW0 : wc.heap.size + 1 ≤ (wc.alloc (.cells #[.int .i64 (l : Int), .slice Ac nv cc] 26)).heap.size := by simp
        clear c0 c1 f0 f1
        obtain ⟨t0, t1, t2, t3⟩ := HT.out
        have hlm : IntKind.i64.wrap ((l : Int) - 1) = (l : Int) - 1 := IntWalk.i64_in _ (by omega)
        go_wp2_with fail
        generalize wc.alloc (.cells #[.int .i64 (l : Int), .slice Ac nv cc] 26) = W0 at *
        generalize wc.heap.size = b2 at *
        have HB : Hid (Below (b2 + 1) W0 W0.drew) := (Below.refl _ _).drew
        go_region_held3 (fun w' => w'.cell? ⟨w1.heap.size, 0, none⟩ = some (.int .i64 (l : Int)) ∧ w'.cell? ⟨w1.heap.size, 1, none⟩ = some (.slice Av nv cv) ∧ w'.cell? ⟨b2, 0, none⟩ = some (.int .i64 (l : Int)) ∧ w'.cell? ⟨b2, 1, none⟩ = some (.slice Ac nv cc)) (first | exact ⟨t0, t1, t2, t3⟩ | exact ⟨s0, s1, s2, s3⟩ | go_keep) (first | (go_at_call 12; refine (modelOf_any _ _ _ _ _).mono ?_; rintro e' wn ⟨rfl, hB⟩; have HB := Lib.hid (HB.out.trans (hB.mono (Nat.le_trans hW0 HB.out.size))); obtain ⟨s0, s1, s2, s3⟩ := cells4 HB.out hb1 hb2 HT.out; clear hB) | (go_at_call 11; refine (HSame.out _ HB.out).mono ?_; rintro e' wn ⟨rfl, hB⟩; have HB := Lib.hid (HB.out.trans (hB.mono (Nat.le_trans hW0 HB.out.size))); obtain ⟨s0, s1, s2, s3⟩ := cells4 HB.out hb1 hb2 HT.out; clear hB) | (go_at_call 13; refine (HChk.out _ HB.out).mono ?_; rintro e' wn ⟨rfl, hB⟩; have HB := Lib.hid (HB.out.trans (hB.mono (Nat.le_trans hW0 HB.out.size))); obtain ⟨s0, s1, s2, s3⟩ := cells4 HB.out hb1 hb2 HT.out; clear hB))
        all_goals
          go_wp2_with fail
          go_ret
          exact ⟨rfl, HBd.out.trans (HB.out.mono hs0)⟩
      | true =>
        have hx2 := HX.out.put 1 (.slice none 0 0)
        have HX2 := Lib.hid hx2
        have HB2 : Hid (Below w1.heap.size w1 (wr.setCell ⟨w1.heap.size, 1, none⟩ (.slice none 0 0))) := HBx.out.setCell (Nat.le_refl _) _
        clear hx2
        have hpw := HPow.out
        go_wp2_with fail
        go_loopg [11] P (fun gh i wx => ∃ (j : Nat) (v : Value), j + gh = P ∧ i = .int .i64 j ∧ Box wx w1.heap.size 26 #[.int .i64 (l : Int), v] ∧ OwE icel wx 3 (w1.heap.size + 1) v (List.replicate j (-1)) ∧ Below w1.heap.size w1 wx)
        case atStart => exact ⟨0, _, by omega, rfl, HX2.out, OwE.nil _ _ _ _, HB2.out⟩
        case round =>
          obtain ⟨i, v, hi, rfl, hb, ho, hB⟩ := hrel
          obtain ⟨A2, c2, rfl, hc2, _⟩ := ho.form
          rw [List.length_replicate] at hb ho hc2
          clear c0 c1 f0 f1
          obtain ⟨c0, c1, f0, f1⟩ := box2 hb
          have HX3 := Lib.hid hb
          have HO3 := Lib.hid ho
          have HB3 := Lib.hid hB
          have HI := Lib.hid hi
          have hlt3 := hb.lt
          have hiP : i ≤ P := by omega
          clear hb ho hB hi
          by_cases hil : i < P
          · obtain ⟨g', rfl⟩ : ∃ g', gk = g' + 1 := ⟨gk - 1, by have := HI.out; omega⟩
            have hii : (i : Int) < (P : Int) := by omega
            have HA := Lib.hid (HO3.out.alloc (.cells #[.int .i64 (-1)] 3))
            have HD1 := Lib.hid (datE_one icel wr (-1) 3 _ rfl)
            go_wp2_with (at_builtin; refine list_appE icel_one _ rfl _ _ 24 rfl i0 (.int .i64 0) 8 Try.underlying24 hi0 hz0 hz1 hz2 rfl (by decide) rfl HA.out rfl HD1.out rfl ?_ ?_ ?_)
            · first | omega | (simp; omega)
            · first | omega | (simp; omega)
            intro v1 w4 ho1 hg1 hat1
            obtain ⟨Av, nv, cv, rfl⟩ := ho1.slice
            obtain ⟨k0, k1, kf, HK⟩ := push_facts HX3.out HO3.out ho1 hg1
            clear ho1 hg1 hat1 HA HD1 c0 c1 f0 f1
            go_wp2_with fail
            go_roundg g'
            case rel =>
              refine ⟨i + 1, _, by have := HI.out; omega, by go_num, HK.out.1, ?_, HB3.out.trans HK.out.2.2⟩
              have h1 := HK.out.2.1
              rw [show List.replicate i (-1 : Int) ++ [-1] = List.replicate (i + 1) (-1) by rw [List.replicate_succ']] at h1
              exact h1
            case measure => omega
          · obtain rfl : i = P := by omega
            have hii : ¬ (i : Int) < (i : Int) := by omega
            go_wp2_with fail
            generalize wr = ws at *
            obtain ⟨PS, hPS⟩ : ∃ PS : List Int, PS = List.replicate i (-1) := ⟨_, rfl⟩
            have HM : Hid (mayB (l : Int) PS = true) := by rw [hPS]; exact HRare.out
            have HX9 : Hid (Box ws w1.heap.size 26 #[.int .i64 (l : Int), .slice A2 i c2]) := HX3.out
            have HO9 : Hid (OwE icel ws 3 (w1.heap.size + 1) (.slice A2 i c2) PS) := by rw [hPS]; exact HO3.out
            have HB9 : Hid (Below w.heap.size w ws) := HB1.out.trans (Below.mono HB3.out hs1)
            clear hPS
            have hpl := (mayB_iff.1 HM.out).2.2.2.1
            have HNv : Hid (PS.length = i) := HO9.out.len
            have hi : i ≤ 256 := by have := HNv.out; omega
            have hc9 := HO9.out.cap
            have hmx : i ≤ maxLen := by unfold maxLen; omega
            have hlt9 := HX9.out.lt
            have hsz9 := HB9.out.size
            refine (check_any (c := c2) l 15 HO9.out.dat HNv.out hc9 hmx (Nat.le_refl _) (may_bounds HM.out)).mono ?_
            rintro e wa ⟨rfl, hB⟩
            rw [chk_ok HM.out (by omega)]
            have hsza := hB.size
            have HXa := Lib.hid (HX9.out.below hB hlt9)
            have HOa := Lib.hid (HO9.out.below hB (Nat.le_refl _))
            have HBa := Lib.hid (HB9.out.trans (hB.mono hsz9))
            clear hB
            try clear k0 k1 kf
            try clear c0 c1 f0 f1
            obtain ⟨c0, c1, f0, f1⟩ := box2 HXa.out
            go_wp2_with fail
            refine (write_told (c := c2) l HM.out HOa.out.dat HNv.out hc9 hmx (Nat.le_refl _) (may_bounds HM.out)).mono ?_
            rintro e wb ⟨vb, rfl, hob, hB⟩
            obtain ⟨Ab, cb, rfl, hcb, hdb⟩ := hob.form
            have hszb := hB.size
            have HXb := Lib.hid (HXa.out.below hB (by omega))
            have HOb := Lib.hid (HOa.out.below hB (Nat.le_refl _))
            have HBb := Lib.hid (HBa.out.trans (hB.mono (by omega)))
            have hbl := wrC_bound HM.out
            have hR := rdC_back (log := (l : Int)) HM.out (most := 15) (sy := 256) (by omega) (by have := HNv.out; omega) []
            rw [List.append_nil, show ((l : Nat) : Int).toNat = l by omega] at hR
            have HR := Lib.hid (read_any (c := cb) 15 256 hdb rfl (by rw [wrC_len]; omega) (Nat.le_refl _) hR)
            have HE := Lib.hid (wrC_len l PS)
            clear hob hB hdb hR hbl c0 c1 f0 f1 hcb
            generalize (bytesOf (wrC l PS)).length = L at *
            have hL0 : ((L : Int) == (L : Int)) = true := by simp
            go_wp2_with fail
            refine HR.out.mono ?_
            rintro e wc ⟨hB, vc, rfl, hoc⟩
            rw [← HE.out]
            obtain ⟨Ac, cc, rfl, hcc, hdc⟩ := hoc.form
            rw [HNv.out] at hcc ⊢
            have hszc := hB.size
            have HXc := Lib.hid (HXb.out.below hB (by omega))
            have HOc := Lib.hid (HOb.out.below hB (Nat.le_refl _))
            have HBc := Lib.hid (HBb.out.trans (hB.mono (by omega)))
            have HDc := Lib.hid hdc
            have hltc := HXc.out.lt
            clear hB hoc hdc hL0
            obtain ⟨c0, c1, f0, f1⟩ := box2 HXc.out
            have HSame : Hid (∀ wz, Below (wc.heap.size + 1) (wc.alloc (.cells #[.int .i64 (l : Int), .slice Ac i cc] 26)) wz → Calls Try.prog 11 #[.agg #[.int .i64 (l : Int), .slice A2 i c2], .agg #[.int .i64 (l : Int), .slice Ac i cc]] wz fun e w' => e = .returned (.bool true) ∧ Below wz.heap.size wz w') := by
              intro wz hz
              have hzs := hz.size
              simp only [World.size_alloc] at hzs
              exact same_yes l ((HOc.out.dat.alloc (Nat.le_refl _) _).below hz (by omega)) ((HDc.out.alloc (Nat.le_refl _) _).below hz (by omega)) HNv.out (by omega) (by omega) (by omega)
            have HChk : Hid (∀ wz, Below (wc.heap.size + 1) (wc.alloc (.cells #[.int .i64 (l : Int), .slice Ac i cc] 26)) wz → Calls Try.prog 13 #[.agg #[.int .i64 (l : Int), .slice A2 i c2], .int .i64 ((l : Int) - 1)] wz fun e w' => e = .returned (.int .i64 12) ∧ Below wz.heap.size wz w') := by
              intro wz hz
              have hzs := hz.size
              simp only [World.size_alloc] at hzs
              have h9 := check_any (c := c2) (w := wz) l ((l : Int) - 1) ((HOc.out.dat.alloc (Nat.le_refl _) _).below hz (by omega)) HNv.out hc9 hmx (by omega) (may_bounds HM.out)
              rw [chk_big HM.out (by omega)] at h9
              exact h9
            have HT : Hid ((wc.alloc (.cells #[.int .i64 (l : Int), .slice Ac i cc] 26)).cell? ⟨w1.heap.size, 0, none⟩ = some (.int .i64 (l : Int)) ∧ (wc.alloc (.cells #[.int .i64 (l : Int), .slice Ac i cc] 26)).cell? ⟨w1.heap.size, 1, none⟩ = some (.slice A2 i c2) ∧ (wc.alloc (.cells #[.int .i64 (l : Int), .slice Ac i cc] 26)).cell? ⟨wc.heap.size, 0, none⟩ = some (.int .i64 (l : Int)) ∧ (wc.alloc (.cells #[.int .i64 (l : Int), .slice Ac i cc] 26)).cell? ⟨wc.heap.size, 1, none⟩ = some (.slice Ac i cc)) :=
              ⟨(HXc.out.alloc _).cell 0, (HXc.out.alloc _).cell 1, (Box.new wc _ _).cell 0, (Box.new wc _ _).cell 1⟩
            have HBd : Hid (Below w.heap.size w (wc.alloc (.cells #[.int .i64 (l : Int), .slice Ac i cc] 26))) := HBc.out.alloc (by omega) _
            have hb1 : w1.heap.size < wc.heap.size + 1 := by omega
            have hb2 : wc.heap.size < wc.heap.size + 1 := by omega
            have hs0 : w.heap.size ≤ wc.heap.size + 1 := by omega
            have hW0 : wc.heap.size + 1 ≤ (wc.alloc (.cells #[.int .i64 (l : Int), .slice Ac i cc] 26)).heap.size := by simp
            clear c0 c1 f0 f1
            obtain ⟨t0, t1, t2, t3⟩ := HT.out
            have hlm : IntKind.i64.wrap ((l : Int) - 1) = (l : Int) - 1 := IntWalk.i64_in _ (by omega)
            go_wp2_with fail
            generalize wc.alloc (.cells #[.int .i64 (l : Int), .slice Ac i cc] 26) = W0 at *
            generalize wc.heap.size = b2 at *
            have HB : Hid (Below (b2 + 1) W0 W0.drew) := (Below.refl _ _).drew
            go_region_held3 (fun w' => w'.cell? ⟨w1.heap.size, 0, none⟩ = some (.int .i64 (l : Int)) ∧ w'.cell? ⟨w1.heap.size, 1, none⟩ = some (.slice A2 i c2) ∧ w'.cell? ⟨b2, 0, none⟩ = some (.int .i64 (l : Int)) ∧ w'.cell? ⟨b2, 1, none⟩ = some (.slice Ac i cc)) (first | exact ⟨t0, t1, t2, t3⟩ | exact ⟨s0, s1, s2, s3⟩ | go_keep) (first | (go_at_call 12; refine (modelOf_any _ _ _ _ _).mono ?_; rintro e' wn ⟨rfl, hB⟩; have HB := Lib.hid (HB.out.trans (hB.mono (Nat.le_trans hW0 HB.out.size))); obtain ⟨s0, s1, s2, s3⟩ := cells4 HB.out hb1 hb2 HT.out; clear hB) | (go_at_call 11; refine (HSame.out _ HB.out).mono ?_; rintro e' wn ⟨rfl, hB⟩; have HB := Lib.hid (HB.out.trans (hB.mono (Nat.le_trans hW0 HB.out.size))); obtain ⟨s0, s1, s2, s3⟩ := cells4 HB.out hb1 hb2 HT.out; clear hB) | (go_at_call 13; refine (HChk.out _ HB.out).mono ?_; rintro e' wn ⟨rfl, hB⟩; have HB := Lib.hid (HB.out.trans (hB.mono (Nat.le_trans hW0 HB.out.size))); obtain ⟨s0, s1, s2, s3⟩ := cells4 HB.out hb1 hb2 HT.out; clear hB))
            all_goals
              go_wp2_with fail
              go_ret
              exact ⟨rfl, HBd.out.trans (HB.out.mono hs0)⟩

set_option maxRecDepth 100000 in
theorem lifted (os : Os) (started : os.Started) (H : Type) (enc : TypeId × Value → H) :
    ReturnsInHanded {} Try.checked os 7 .any (Rows.normalLastSpec.pre6 enc Try.prog Try.f7 Rows.normalLastRow.domain false) (Rows.normalLastSpec.post enc Try.prog Try.f7 false true false false) := by
  refine returnsInHanded_of_change (C := Try.checked) own started (by kernel_rfl) Try.func7
    (ChangeSpec.witness6 (enc := enc) (C := Try.checked) false ⟨#[], #[.int .u8 0, .int .u8 0, .bool false], []⟩ 8 (by kernel_rfl) (by kernel_rfl) (by kernel_rfl) (by kernel_rfl)) ?_
  intro W base args ds gs before hval0 hW hcnd _
  have hval : ∀ (j : Nat) t v, Try.f7.params[j]? = some t → args[j]? = some v → Value.okWide Try.prog W .any base t v := hval0
  have hW' := hW
  obtain ⟨p, q, hA0, hV, rfl, hfz, hnd⟩ := hW
  have hA : DataW.TrodAll enc Try.prog W 0 (fun _ => true) true Try.f7.params.toList args.toList ds p := hA0
  rw [Try.params7] at hA hval
  obtain ⟨v0, vs0, d0, ds0, p0, q0, hargs, rfl, rfl, h0, r0⟩ := trodAll_cons hA
  obtain ⟨v1, vs1, d1, ds1, p1, q1, rfl, rfl, rfl, h1, r1⟩ := trodAll_cons r0
  obtain ⟨v2, vs2, d2, ds2, p2, q2, rfl, rfl, rfl, h2, r2⟩ := trodAll_cons r1
  obtain ⟨rfl, rfl, rfl⟩ := trodAll_nil r2
  obtain rfl : args = #[v0, v1, v2] := by cases args; simp_all
  obtain ⟨rfl, rfl⟩ := trodVars_none hV
  obtain ⟨n0, rfl, rfl, rfl, w0⟩ := open_int Try.underlying5 (hval 0 5 v0 rfl rfl) h0
  obtain ⟨n1, rfl, rfl, rfl, w1⟩ := open_int Try.underlying5 (hval 1 5 v1 rfl rfl) h1
  obtain ⟨n2, rfl, rfl, rfl⟩ := open_bool Try.underlying4 (hval 2 4 v2 rfl rfl) h2
  clear hA0 hval0
  refine (walk n0 n1 n2 W (u8_bounds w0) (u8_bounds w1)).mono fun e W' ⟨he, bel⟩ => ?_
  subst he
  exact ⟨_, rfl, _, _, _, [], _, [], hW', trodAll_mk1 (shut_bool Try.underlying4 _), (trodAll_cons_mk (shut_int Try.underlying5 w0) (trodAll_cons_mk (shut_int Try.underlying5 w1) (trodAll_cons_mk (shut_bool Try.underlying4 n2) trodAll_mk0))), rfl, bel.frame _, fun h => by cases h⟩

theorem over : Rows.normalLastRow.holds Try.pinned (OpenSpec.ofChange Rows.normalLastSpec) :=
  OpenClaim.holds_of_wide 7 Try.f7 rfl rfl rfl rfl rfl rfl rfl ⟨rfl, rfl, rfl, rfl, rfl⟩ rfl rfl rfl rfl rfl (by kernel_rfl) Try.func7 (by kernel_rfl)
    (of_decide_eq_true (by kernel_rfl)) (by unfold Func.isWrapper; first | (rw [if_pos (by decide +kernel)]; kernel_rfl) | (rw [if_neg (by decide +kernel)]; exact ⟨rfl, rfl⟩))
    (fun os started H enc _ => lifted os started H enc)

theorem proved : Rows.NormalLastSaid := over
end Go.Proofs.Ytafhabpckgmkgaa.normalLast
