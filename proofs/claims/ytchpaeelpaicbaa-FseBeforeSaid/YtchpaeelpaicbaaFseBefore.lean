
/- FseBefore holds: for all counts, states and symbols the law returns true, and the counts read behind the call as they read before. No condition. -/
import Derived.Test.YtchpaeelpaicbaaFseAwake
import Derived.Test.YtchpaeelpaicbaaNormCounts
namespace Go.Proofs.Ytchpaeelpaicbaa.fseBefore
open Go.ChangeShapes Go.WideShapes Go.ChangeAt Go.RowKit

theorem thr_none (es : List En) (y st : Int) (h : ∀ j (hj : j < es.length), matB es[j] y st = false) (m : Nat) : thr es y st m = 0 := by
  unfold thr
  rw [List.length_eq_zero_iff, List.filter_eq_nil_iff]
  intro x hx
  obtain ⟨j, hj, rfl⟩ := List.getElem_of_mem (List.mem_of_mem_take hx)
  rw [h j hj]
  simp
theorem mat_sym {x : En} {y st : Int} (h : x.s ≠ y) : matB x y st = false := by
  unfold matB
  simp [h]
theorem mat_yes {s b e y st : Nat} : matB ⟨s, b, e⟩ y st = true ↔ s = y ∧ e ≤ st ∧ st < e + 2 ^ b := by
  unfold matB
  simp only [Bool.and_eq_true, decide_eq_true_eq]
  rw [show ((b : Nat) : Int).toNat = b by omega]
  have : (2 : Int) ^ b = ((2 ^ b : Nat) : Int) := by simp
  rw [this]
  omega

/-- What the law holds: the table, the entries. -/
structure St (w wx : World) (l t d n c : Nat) (es : List En) : Prop where
  tb : Box wx t 28 #[.int .i64 (l : Int), .slice (some ⟨d, 0, none⟩) n c]
  es : OwR 3 ecell wx 67 w.heap.size (.slice (some ⟨d, 0, none⟩) n c) es
  below : Below w.heap.size w wx
theorem St.next {w wx wy : World} {l t d n c : Nat} {es : List En} (h : St w wx l t d n c es) (hb : Below wx.heap.size wx wy) : St w wy l t d n c es :=
  ⟨h.tb.below hb h.tb.lt, h.es.below hb (Nat.le_refl _), h.below.trans (hb.mono h.below.size)⟩
theorem St.alloc {w wx : World} {l t d n c : Nat} {es : List En} (h : St w wx l t d n c es) (o : Obj) : St w (wx.alloc o) l t d n c es :=
  h.next ((Below.refl _ _).alloc (Nat.le_refl _) _)

set_option maxRecDepth 100000 in
set_option maxHeartbeats 8000000 in
theorem walk (L : Int) (A : Option Addr) (ps : List Int) (cp : Nat) (sx yx : Int) (w : World) (_hL : -9223372036854775808 ≤ L ∧ L ≤ 9223372036854775807) (hd : DatE icel w 0 w.heap.size A ps) (hc : ps.length ≤ cp) (hm : ps.length ≤ maxLen) (hb : ∀ p ∈ ps, -9223372036854775808 ≤ p ∧ p ≤ 9223372036854775807) (hsx : 0 ≤ sx ∧ sx ≤ 65535) (hyx : 0 ≤ yx ∧ yx ≤ 255) :
    Calls Try.prog 5 #[.agg #[.int .i64 L, .slice A ps.length cp], .int .u16 sx, .int .u8 yx] w fun e w' => e = .returned (.bool true) ∧ Below w.heap.size w w' := by
  obtain ⟨T, rfl⟩ := Int.eq_ofNat_of_zero_le hsx.1
  obtain ⟨Y, rfl⟩ := Int.eq_ofNat_of_zero_le hyx.1
  have hT : T ≤ 65535 := by omega
  have hY : Y ≤ 255 := by omega
  clear hsx hyx
  have hx := Box.new w 24 #[.int .i64 L, .slice A ps.length cp]
  have HX := Lib.hid hx
  have HD := Lib.hid hd
  have HBd := Lib.hid hb
  have hmx := hm
  unfold maxLen at hmx
  obtain ⟨m, hmm⟩ : ∃ m, m = ps.length := ⟨_, rfl⟩
  rw [← hmm] at hmx hc hm HX ⊢
  have HM := Lib.hid hmm.symm
  clear hd hb hmm hx
  by_cases h300 : 300 < m
  · have h3 : (300 : Int) < (m : Int) := by omega
    go_enter Try.func5, Try.ntmps5
    go_wp2_with fail
    refine (fse_awake _).mono ?_
    rintro e w1 ⟨rfl, hB⟩
    have HB := Lib.hid (((Below.refl _ _).alloc (Nat.le_refl _) (.cells #[.int .i64 L, .slice A m cp] 24)).trans (hB.mono (by simp)))
    obtain ⟨c0, c1, f0, f1⟩ := box2 (HX.out.below hB (by simp))
    clear hB
    go_wp2_with fail
    go_ret
    exact ⟨rfl, HB.out⟩
  · have h3 : decide ((300 : Int) < (m : Int)) = false := by simp; omega
    by_cases h10 : 10 < L
    · go_enter Try.func5, Try.ntmps5
      go_wp2_with fail
      refine (fse_awake _).mono ?_
      rintro e w1 ⟨rfl, hB⟩
      have HB := Lib.hid (((Below.refl _ _).alloc (Nat.le_refl _) (.cells #[.int .i64 L, .slice A m cp] 24)).trans (hB.mono (by simp)))
      obtain ⟨c0, c1, f0, f1⟩ := box2 (HX.out.below hB (by simp))
      clear hB
      go_wp2_with fail
      go_ret
      exact ⟨rfl, HB.out⟩
    · have h10' : decide (10 < L) = false := by simp; omega
      go_enter Try.func5, Try.ntmps5
      go_wp2_with fail
      refine (fse_awake _).mono ?_
      rintro e w1 ⟨rfl, hB⟩
      have HB := Lib.hid (((Below.refl _ _).alloc (Nat.le_refl _) (.cells #[.int .i64 L, .slice A m cp] 24)).trans (hB.mono (by simp)))
      have HX1 := Lib.hid (HX.out.below hB (by simp))
      have hs1 := hB.size
      simp only [World.size_alloc] at hs1
      obtain ⟨c0, c1, f0, f1⟩ := box2 HX1.out
      clear hB HX
      go_wp2_with fail
      refine (build_any (cp := cp) L (HD.out.below HB.out (Nat.le_refl _)) HM.out hc hm (by omega) HBd.out).mono ?_
      rintro e w2 ⟨hB, hor⟩
      have HB2 := Lib.hid (HB.out.trans (hB.mono (by omega)))
      have HX2 := Lib.hid (HX1.out.below hB (by omega))
      have hs2 := hB.size
      clear hB HB HX1 c0 c1 f0 f1
      rcases hor with ⟨hmay, v, rfl, ho⟩ | ⟨hmay, rfl⟩
      · obtain ⟨l, rfl⟩ := Int.eq_ofNat_of_zero_le (show 0 ≤ L by have := (mayB_iff.1 hmay).1; omega)
        rw [show ((l : Nat) : Int).toNat = l by omega] at ho
        have HF := Lib.hid (mayF hmay)
        have hl10 : l ≤ 10 := by omega
        have hn0 : 0 < 2 ^ l := Nat.two_pow_pos _
        have hn10 : 2 ^ l ≤ 2 ^ 10 := Nat.pow_le_pow_right (by omega) hl10
        have htl := tab_length HF.out
        obtain ⟨d, c, rfl, hd1, hd2, hdc⟩ := ho.place (by omega)
        rw [htl] at ho hdc ⊢
        obtain ⟨n, hn⟩ : ∃ n, n = 2 ^ l := ⟨_, rfl⟩
        rw [← hn] at htl ho hdc hn0 hn10 ⊢
        have HN := Lib.hid hn
        have HT := Lib.hid htl
        have HFi := Lib.hid (tab_fine HF.out)
        have hst : St w (w2.alloc (.cells #[.int .i64 (l : Int), .slice (some ⟨d, 0, none⟩) n c] 28)) l w2.heap.size d n c (tab l ps) :=
          ⟨Box.new w2 _ _, (ho.mono (by omega)).alloc _, HB2.out.alloc (by omega) _⟩
        have HSt := Lib.hid hst
        clear hn htl ho hmay h10 h10' hst HB2 HX2
        obtain ⟨S, hS⟩ : ∃ S, S = T % n := ⟨_, rfl⟩
        have hSn : S < n := by rw [hS]; exact Nat.mod_lt _ hn0
        have hSi : (T : Int) % (n : Int) = (S : Int) := by rw [hS]; simp
        have hTw : IntKind.i64.wrap (T : Int) = (T : Int) := IntWalk.i64_in _ (by omega)
        have hn1 : (1 : Int) ≤ (n : Int) := by omega
        obtain ⟨t0, t1, _, _⟩ := box2 HSt.out.tb
        clear hS
        go_wp2_with fail
        refine (before_any (l : Int) Y S (HSt.out.es.dat ecell_len) HFi.out HT.out (by omega) (Nat.le_refl _) hSn).mono ?_
        rintro e w3 ⟨hB, hor⟩
        have HSt3 := Lib.hid (HSt.out.next hB)
        clear hB HSt t0 t1
        obtain ⟨t0, t1, _, _⟩ := box2 HSt3.out.tb
        by_cases hw : 1 ≤ (wi (ps.getD Y 0)).toNat
        · have hth := thr_one HF.out Y S (by rw [← HN.out]; exact hSn)
          rw [if_pos hw, ← HN.out] at hth
          obtain ⟨i, hi, rfl, hmi⟩ : ∃ i, ∃ hi : i < (tab l ps).length, e = .returned (.tuple #[.int .i64 (i : Int), .int .u64 ((S : Int) - (tab l ps)[i].e), .int .i64 (tab l ps)[i].b, .int .i64 0]) ∧ matB (tab l ps)[i] (Y : Int) (S : Int) = true := by
            rcases hor with ⟨i, hi, h1, h2⟩ | ⟨h1, _⟩
            · exact ⟨i, hi, h1, h2⟩
            · rw [thr_none _ _ _ h1] at hth
              cases hth
          obtain ⟨si, bi, ei, hxi, hsi, hbi, hei⟩ := HFi.out i hi
          rw [hxi] at hmi ⊢
          obtain ⟨rfl, hm1, hm2⟩ := mat_yes.1 hmi
          have HXi := Lib.hid hxi
          have hin : i < n := by have := HT.out; omega
          have HTh := Lib.hid hth
          clear hor hxi hmi hth
          dsimp only
          go_wp2_with fail
          refine (before_none (A := some ⟨d, 0, none⟩) (c := c) (l : Int) (si : Int) (n : Int) (Or.inr (by omega)) (by omega)).mono ?_
          rintro e w4 ⟨rfl, hB⟩
          have HSt4 := Lib.hid (HSt3.out.next hB)
          clear hB HSt3 t0 t1
          obtain ⟨t0, t1, _, _⟩ := box2 HSt4.out.tb
          go_wp2_with fail
          refine (first_any (c := c) (l : Int) (si : Int) (HSt4.out.es.dat ecell_len) HT.out (by omega) (Nat.le_refl _)).mono ?_
          rintro e w5 ⟨hB, hor⟩
          have HSt5 := Lib.hid (HSt4.out.next hB)
          clear hB HSt4 t0 t1
          obtain ⟨fi, hfi, rfl, hf1, hf2⟩ : ∃ i, ∃ hi : i < (tab l ps).length, e = .returned (.tuple #[.int .i64 (i : Int), .int .i64 0]) ∧ (tab l ps)[i].s = (si : Int) ∧ ∀ j (hj : j < i), (tab l ps)[j].s ≠ (si : Int) := by
            rcases hor with ⟨i, hi, h1, h2, h3⟩ | ⟨h1, _⟩
            · exact ⟨i, hi, h1, h2, h3⟩
            · exact absurd (by rw [HXi.out]) (h1 i hi)
          have HF1 := Lib.hid hf1
          have HF2 := Lib.hid hf2
          have hfn : fi < n := by have := HT.out; omega
          clear hor hf1 hf2
          go_wp2_with fail
          go_loopg [21, 22, 23] n (fun gh th fs j wx => ∃ k : Nat, k + gh = n ∧ j = .int .i64 (k : Int) ∧ th = .int .i64 (thr (tab l ps) si S k : Nat) ∧ ((k ≤ fi ∧ fs = .int .i64 (-1)) ∨ (fi < k ∧ fs = .int .i64 (fi : Int))) ∧ St w wx l w2.heap.size d n c (tab l ps))
          case atStart => exact ⟨0, by omega, rfl, by simp [thr], .inl ⟨Nat.zero_le _, rfl⟩, HSt5.out⟩
          case round =>
            clear HSt5
            obtain ⟨k, hk, rfl, rfl, hfs, hst⟩ := hrel
            have HSt := Lib.hid hst
            have HK := Lib.hid hk
            have hkn : k ≤ n := by omega
            have hthk := thr_le (tab l ps) si S k
            clear hst hk
            obtain ⟨t0, t1, _, _⟩ := box2 HSt.out.tb
            by_cases hlt : k < n
            · obtain ⟨g', rfl⟩ : ∃ g', gk = g' + 1 := ⟨gk - 1, by have := HK.out; omega⟩
              have hki : (k : Int) < (n : Int) := by omega
              have hkt : k < (tab l ps).length := by have := HT.out; omega
              obtain ⟨x0, x1, x2⟩ := (HSt.out.es.cells3 k hkt).1
              have HTs := Lib.hid (thr_succ (tab l ps) si S k hkt)
              have HSa := fun (s b e : Int) => Lib.hid (HSt.out.alloc (.cells #[.int .u8 s, .int .i64 b, .int .i64 e] 67))
              have HFi2 : Hid (k < fi → ((tab l ps)[k]'hkt).s ≠ (si : Int)) := fun h => HF2.out k h
              have HFi1 := Lib.hid (HF1.out)
              obtain ⟨s, b, e, hx, hs256, hb15, he2⟩ := HFi.out k hkt
              have hp := Nat.two_pow_pos b
              have hp15 : 2 ^ b ≤ 2 ^ 15 := Nat.pow_le_pow_right (by omega) hb15
              have HMy := Lib.hid (mat_yes (s := s) (b := b) (e := e) (y := si) (st := S))
              rw [hx] at x0 x1 x2 HTs HFi2
              have HXk := Lib.hid hx
              simp only at x0 x1 x2
              obtain ⟨P, hP⟩ : ∃ P : Nat, P = 2 ^ b := ⟨_, rfl⟩
              rw [← hP] at hp hp15 he2 HMy
              have hpow : (2 : Int) ^ b = (P : Int) := by rw [hP]; simp
              have hbw : IntKind.u64.wrap (b : Int) = (b : Int) := by rw [IntKind.wrap_u64]; omega
              have hwt : thr (tab l ps) si S k + 1 ≤ 70000 := by omega
              clear hx hP
              generalize thr (tab l ps) si S k = C at *
              by_cases hs : s = si
              · subst hs
                have hfk : fi ≤ k := by
                  rcases Nat.lt_or_ge k fi with q | q
                  · exact absurd rfl (HFi2.out q)
                  · exact q
                rcases hfs with ⟨hq, rfl⟩ | ⟨hq, rfl⟩
                · obtain rfl : k = fi := by omega
                  by_cases h1 : e ≤ S
                  · have h1i : (e : Int) ≤ (S : Int) := by omega
                    by_cases h2 : S < e + P
                    · have h2i : (S : Int) < (e : Int) + (P : Int) := by omega
                      have HC : Hid (thr (tab l ps) s S (k + 1) = C + 1) := by rw [Hid, HTs.out, if_pos (HMy.out.2 ⟨rfl, h1, h2⟩)]
                      go_wp2_with fail
                      go_roundg g'
                      case rel => exact ⟨k + 1, by have := HK.out; omega, by go_num, by rw [HC.out]; go_num, Or.inr ⟨by omega, rfl⟩, (HSa _ _ _).out⟩
                      case measure => omega
                    · have h2i : ¬ (S : Int) < (e : Int) + (P : Int) := by omega
                      have HC : Hid (thr (tab l ps) s S (k + 1) = C) := by rw [Hid, HTs.out, if_neg (fun q => by have := (HMy.out.1 q); omega)]; rfl
                      go_wp2_with fail
                      go_roundg g'
                      case rel => exact ⟨k + 1, by have := HK.out; omega, by go_num, by rw [HC.out], Or.inr ⟨by omega, rfl⟩, (HSa _ _ _).out⟩
                      case measure => omega
                  · have h1i : decide ((e : Int) ≤ (S : Int)) = false := by simp; omega
                    have HC : Hid (thr (tab l ps) s S (k + 1) = C) := by rw [Hid, HTs.out, if_neg (fun q => by have := (HMy.out.1 q); omega)]; rfl
                    go_wp2_with fail
                    go_roundg g'
                    case rel => exact ⟨k + 1, by have := HK.out; omega, by go_num, by rw [HC.out], Or.inr ⟨by omega, rfl⟩, (HSa _ _ _).out⟩
                    case measure => omega
                · by_cases h1 : e ≤ S
                  · have h1i : (e : Int) ≤ (S : Int) := by omega
                    by_cases h2 : S < e + P
                    · have h2i : (S : Int) < (e : Int) + (P : Int) := by omega
                      have HC : Hid (thr (tab l ps) s S (k + 1) = C + 1) := by rw [Hid, HTs.out, if_pos (HMy.out.2 ⟨rfl, h1, h2⟩)]
                      go_wp2_with fail
                      go_roundg g'
                      case rel => exact ⟨k + 1, by have := HK.out; omega, by go_num, by rw [HC.out]; go_num, Or.inr ⟨by omega, rfl⟩, (HSa _ _ _).out⟩
                      case measure => omega
                    · have h2i : ¬ (S : Int) < (e : Int) + (P : Int) := by omega
                      have HC : Hid (thr (tab l ps) s S (k + 1) = C) := by rw [Hid, HTs.out, if_neg (fun q => by have := (HMy.out.1 q); omega)]; rfl
                      go_wp2_with fail
                      go_roundg g'
                      case rel => exact ⟨k + 1, by have := HK.out; omega, by go_num, by rw [HC.out], Or.inr ⟨by omega, rfl⟩, (HSa _ _ _).out⟩
                      case measure => omega
                  · have h1i : decide ((e : Int) ≤ (S : Int)) = false := by simp; omega
                    have HC : Hid (thr (tab l ps) s S (k + 1) = C) := by rw [Hid, HTs.out, if_neg (fun q => by have := (HMy.out.1 q); omega)]; rfl
                    go_wp2_with fail
                    go_roundg g'
                    case rel => exact ⟨k + 1, by have := HK.out; omega, by go_num, by rw [HC.out], Or.inr ⟨by omega, rfl⟩, (HSa _ _ _).out⟩
                    case measure => omega
              · have hs1 : ((s : Int) == (si : Int)) = false := by rw [beq_eq_false_iff_ne]; omega
                have hfk : k ≠ fi := by
                  rintro rfl
                  have h7 := HFi1.out
                  rw [HXk.out] at h7
                  apply hs
                  have : (s : Int) = (si : Int) := h7
                  omega
                have HNx : Hid ((k + 1 ≤ fi ∧ u22 = .int .i64 (-1)) ∨ (fi < k + 1 ∧ u22 = .int .i64 (fi : Int))) := by
                  rcases hfs with ⟨a, b⟩ | ⟨a, b⟩
                  · exact .inl ⟨by omega, b⟩
                  · exact .inr ⟨by omega, b⟩
                have HC : Hid (thr (tab l ps) si S (k + 1) = C) := by rw [Hid, HTs.out, if_neg (fun q => by have := (HMy.out.1 q); omega)]; rfl
                clear hfs
                go_wp2_with fail
                go_roundg g'
                case rel => exact ⟨k + 1, by have := HK.out; omega, by go_num, by rw [HC.out], HNx.out, (HSa _ _ _).out⟩
                case measure => omega
            · obtain rfl : k = n := by omega
              have hki : ¬ (k : Int) < (k : Int) := by omega
              obtain ⟨_, rfl⟩ : fi < k ∧ u22 = .int .i64 (fi : Int) := by
                rcases hfs with ⟨a, b⟩ | h
                · omega
                · exact h
              rw [HTh.out]
              obtain ⟨x0, x1, x2⟩ := (HSt.out.es.cells3 i hi).1
              rw [HXi.out] at x0 x1 x2
              simp only at x0 x1 x2
              have hii : (i : Int) < (k : Int) := by omega
              obtain ⟨P, hP⟩ : ∃ P : Nat, P = 2 ^ bi := ⟨_, rfl⟩
              have hpow : (2 : Int) ^ bi = (P : Int) := by rw [hP]; simp
              have hp15 : 2 ^ bi ≤ 2 ^ 15 := Nat.pow_le_pow_right (by omega) hbi
              rw [← hP] at hm2 hei hp15
              have hbw : IntKind.u64.wrap (bi : Int) = (bi : Int) := by rw [IntKind.wrap_u64]; omega
              have hxw : IntKind.i64.wrap ((S : Int) - (ei : Int)) = (S : Int) - (ei : Int) := IntWalk.i64_in _ (by omega)
              have hpw : IntKind.u64.wrap (P : Int) = (P : Int) := by rw [IntKind.wrap_u64]; omega
              have hxs : (ei : Int) + ((S : Int) - (ei : Int)) = (S : Int) := by omega
              have hxp : (S : Int) - (ei : Int) < (P : Int) := by omega
              clear hP hfs
              go_wp2_with fail
              go_ret
              exact ⟨rfl, HSt.out.below.alloc HSt.out.below.size _⟩
        · have hns := tab_hasnt HF.out Y hw
          obtain rfl : e = .returned (.tuple #[.int .i64 0, .int .u64 0, .int .i64 0, .int .i64 21]) := by
            rcases hor with ⟨i, hi, _, h2⟩ | ⟨_, h2⟩
            · rw [mat_sym (hns i hi)] at h2
              cases h2
            · exact h2
          have HNs := Lib.hid hns
          clear hor hns
          go_wp2_with fail
          refine (before_none (A := some ⟨d, 0, none⟩) (c := c) (l : Int) (Y : Int) (n : Int) (Or.inr (by omega)) (by omega)).mono ?_
          rintro e w4 ⟨rfl, hB⟩
          have HSt4 := Lib.hid (HSt3.out.next hB)
          clear hB HSt3 t0 t1
          obtain ⟨t0, t1, _, _⟩ := box2 HSt4.out.tb
          go_wp2_with fail
          refine (first_any (c := c) (l : Int) (Y : Int) (HSt4.out.es.dat ecell_len) HT.out (by omega) (Nat.le_refl _)).mono ?_
          rintro e w5 ⟨hB, hor⟩
          have HSt5 := Lib.hid (HSt4.out.next hB)
          clear hB HSt4 t0 t1
          obtain rfl : e = .returned (.tuple #[.int .i64 0, .int .i64 21]) := by
            rcases hor with ⟨i, hi, _, h2, _⟩ | ⟨_, h2⟩
            · exact absurd h2 (HNs.out i hi)
            · exact h2
          clear hor
          go_wp2_with fail
          go_loopg [21, 22, 23] n (fun gh th fs j wx => ∃ k : Nat, k + gh = n ∧ j = .int .i64 (k : Int) ∧ th = .int .i64 0 ∧ fs = .int .i64 (-1) ∧ St w wx l w2.heap.size d n c (tab l ps))
          case atStart => exact ⟨0, by omega, rfl, rfl, rfl, HSt5.out⟩
          case round =>
            clear HSt5
            obtain ⟨k, hk, rfl, rfl, rfl, hst⟩ := hrel
            have HSt := Lib.hid hst
            have HK := Lib.hid hk
            have hkn : k ≤ n := by omega
            clear hst hk
            obtain ⟨t0, t1, _, _⟩ := box2 HSt.out.tb
            by_cases hlt : k < n
            · obtain ⟨g', rfl⟩ : ∃ g', gk = g' + 1 := ⟨gk - 1, by have := HK.out; omega⟩
              have hki : (k : Int) < (n : Int) := by omega
              have hkt : k < (tab l ps).length := by have := HT.out; omega
              obtain ⟨x0, x1, x2⟩ := (HSt.out.es.cells3 k hkt).1
              have hne := HNs.out k hkt
              have HSa := fun (s b e : Int) => Lib.hid (HSt.out.alloc (.cells #[.int .u8 s, .int .i64 b, .int .i64 e] 67))
              generalize (tab l ps)[k] = x at *
              obtain ⟨s, b, e⟩ := x
              simp only at x0 x1 x2 hne
              have hs1 : (s == (Y : Int)) = false := by rw [beq_eq_false_iff_ne]; exact hne
              clear hne
              go_wp2_with fail
              go_roundg g'
              case rel => exact ⟨k + 1, by have := HK.out; omega, by go_num, rfl, rfl, (HSa _ _ _).out⟩
              case measure => omega
            · obtain rfl : k = n := by omega
              have hki : ¬ (k : Int) < (k : Int) := by omega
              go_wp2_with fail
              go_ret
              exact ⟨rfl, HSt.out.below⟩
      · go_wp2_with fail
        go_ret
        exact ⟨rfl, HB2.out.alloc (by omega) _⟩

set_option maxRecDepth 100000 in
theorem lifted (os : Os) (started : os.Started) (H : Type) (enc : TypeId × Value → H) :
    ReturnsInHanded {} Try.checked os 5 .any (Rows.fseBeforeSpec.pre6 enc Try.prog Try.f5 Rows.fseBeforeRow.domain false) (Rows.fseBeforeSpec.post enc Try.prog Try.f5 false true false false) := by
  refine returnsInHanded_of_change (C := Try.checked) own started (by kernel_rfl) Try.func5
    (ChangeSpec.witness6 (enc := enc) (C := Try.checked) false ⟨#[], #[.agg #[.int .i64 0, .slice none 0 0], .int .u16 0, .int .u8 0], []⟩ 8 (by kernel_rfl) (by kernel_rfl) (by kernel_rfl) (by kernel_rfl)) ?_
  intro W base args ds gs before hval0 hW hcnd _
  have hval : ∀ (j : Nat) t v, Try.f5.params[j]? = some t → args[j]? = some v → Value.okWide Try.prog W .any base t v := hval0
  have hW' := hW
  obtain ⟨p, q, hA0, hV, rfl, hfz, hnd⟩ := hW
  have hA : DataW.TrodAll enc Try.prog W 0 (fun _ => true) true Try.f5.params.toList args.toList ds p := hA0
  rw [Try.params5] at hA hval
  obtain ⟨v0, vs0, d0, ds0, p0, q0, hargs, rfl, rfl, h0, r0⟩ := trodAll_cons hA
  obtain ⟨v1, vs1, d1, ds1, p1, q1, rfl, rfl, rfl, h1, r1⟩ := trodAll_cons r0
  obtain ⟨v2, vs2, d2, ds2, p2, q2, rfl, rfl, rfl, h2, r2⟩ := trodAll_cons r1
  obtain ⟨rfl, rfl, rfl⟩ := trodAll_nil r2
  obtain rfl : args = #[v0, v1, v2] := by cases args; simp_all
  obtain ⟨rfl, rfl⟩ := trodVars_none hV
  have k0 := h0
  have lt0 : ∀ x ∈ p0, x.block < W.heap.size := by obtain ⟨m, hm⟩ := k0; exact DataW.trod_lt m _ _ _ hm
  obtain ⟨l0, a0, ns0, cap0, rfl, wl0, hl0, hm0, hd0, hb0⟩ := counts_of (hval 0 24 v0 rfl rfl) h0
  obtain ⟨n1, rfl, rfl, rfl, w1⟩ := open_int Try.underlying60 (hval 1 60 v1 rfl rfl) h1
  obtain ⟨n2, rfl, rfl, rfl, w2⟩ := open_int Try.underlying5 (hval 2 5 v2 rfl rfl) h2
  clear hA0 hval0
  refine (walk l0 a0 ns0 cap0 n1 n2 W wl0 hd0 hl0 (by omega) hb0 (u16_bounds w1) (u8_bounds w2)).mono fun e W' ⟨he, bel⟩ => ?_
  subst he
  exact ⟨_, rfl, _, _, _, [], _, [], hW', trodAll_mk1 (shut_bool Try.underlying4 _), (trodAll_cons_mk (Below.trod laidOut (by kernel_rfl) (of_decide_eq_true (by kernel_rfl)) k0 bel lt0) (trodAll_cons_mk (shut_int Try.underlying60 w1) (trodAll_cons_mk (shut_int Try.underlying5 w2) trodAll_mk0))), rfl, bel.frame _, fun h => by cases h⟩

theorem over : Rows.fseBeforeRow.holds Try.pinned (OpenSpec.ofChange Rows.fseBeforeSpec) :=
  OpenClaim.holds_of_wide 5 Try.f5 rfl rfl rfl rfl rfl rfl rfl ⟨rfl, rfl, rfl, rfl, rfl⟩ rfl rfl rfl rfl rfl (by kernel_rfl) Try.func5 (by kernel_rfl)
    (of_decide_eq_true (by kernel_rfl)) (by unfold Func.isWrapper; first | (rw [if_pos (by decide +kernel)]; kernel_rfl) | (rw [if_neg (by decide +kernel)]; exact ⟨rfl, rfl⟩))
    (fun os started H enc _ => lifted os started H enc)

theorem proved : Rows.FseBeforeSaid := over
end Go.Proofs.Ytchpaeelpaicbaa.fseBefore
