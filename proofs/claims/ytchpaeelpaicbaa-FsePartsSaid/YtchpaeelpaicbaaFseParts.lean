
/- FseParts holds: for all counts the law returns true, and the counts read behind the call as they read before. No condition. -/
import Derived.Test.YtchpaeelpaicbaaFseAwake
import Derived.Test.YtchpaeelpaicbaaNormCounts
namespace Go.Proofs.Ytchpaeelpaicbaa.fseParts
open Go.ChangeShapes Go.WideShapes Go.ChangeAt Go.RowKit

theorem cnt_succ (sy : List Nat) (i : Nat) (h : i < sy.length) : (fun s => if s = sy.getD i 0 then (sy.take i).count (sy.getD i 0) + 1 else (sy.take i).count s) = fun s => (sy.take (i + 1)).count s := by
  funext s
  rw [count_take_succ sy i s h]
  by_cases e : s = sy.getD i 0
  · rw [if_pos e, e, if_pos rfl]
  · rw [if_neg e, if_neg (fun q => e q.symm)]; rfl
/-- What stands at the top. -/
theorem top_entry {l : Nat} {ps : List Int} (h : MayF l ps) (k : Nat) (hk : k < ps.length) (hp : ps.getD k 0 = -1) :
    (rr ps k).length < 2 ^ l ∧ ∃ hi : 2 ^ l - 1 - (rr ps k).length < (tab l ps).length, (tab l ps)[2 ^ l - 1 - (rr ps k).length] = ⟨k, l, 0⟩ := by
  obtain ⟨h1, h2⟩ := h.top k hk hp
  have hl := tab_length h
  have hsl := h.syms_len
  refine ⟨h1, by omega, ?_⟩
  have hi : 2 ^ l - 1 - (rr ps k).length < (syms l ps).length := by omega
  rw [tab_get h _ (by omega)]
  have hg : (syms l ps).getD (2 ^ l - 1 - (rr ps k).length) 0 = k := by
    rw [List.getD_eq_getElem?_getD, h2]; rfl
  have hkb := h.k_w (2 ^ l - 1 - (rr ps k).length) (by omega)
  rw [hg, hp] at hkb
  have hw : (wi (-1)).toNat = 1 := rfl
  rw [hw] at hkb
  have hk1 : kOf ps (syms l ps) (2 ^ l - 1 - (rr ps k).length) = 1 := by omega
  rw [hk1, hg]
  have e1 : Nat.log2 1 = 0 := by decide
  unfold entN
  rw [e1]
  simp

/-- What the law holds: the counts, the table, how often symbols are, the entries. -/
structure St (w w2 wx : World) (l : Nat) (A : Option Addr) (m cp d n c : Nat) (es : List En) (g : Nat → Nat) : Prop where
  cb : Box wx w.heap.size 24 #[.int .i64 (l : Int), .slice A m cp]
  tb : Box wx w2.heap.size 28 #[.int .i64 (l : Int), .slice (some ⟨d, 0, none⟩) n c]
  ar : Box wx (w2.heap.size + 1) 76 (arr g)
  es : OwR 3 ecell wx 67 w.heap.size (.slice (some ⟨d, 0, none⟩) n c) es
  below : Below w.heap.size w wx
theorem St.drawn {w w2 wx : World} {l : Nat} {A : Option Addr} {m cp d n c : Nat} {es : List En} {g : Nat → Nat} (h : St w w2 wx l A m cp d n c es g) (q : Nat) : St w w2 (wx.drewN q) l A m cp d n c es g :=
  ⟨h.cb, h.tb, h.ar, h.es.drawn q, below_drawn h.below q⟩

set_option maxRecDepth 100000 in
set_option maxHeartbeats 4000000 in
theorem walk (L : Int) (A : Option Addr) (ps : List Int) (cp : Nat) (w : World) (_hL : -9223372036854775808 ≤ L ∧ L ≤ 9223372036854775807) (hd : DatE icel w 0 w.heap.size A ps) (hc : ps.length ≤ cp) (hm : ps.length ≤ maxLen) (hb : ∀ p ∈ ps, -9223372036854775808 ≤ p ∧ p ≤ 9223372036854775807) :
    Calls Try.prog 7 #[.agg #[.int .i64 L, .slice A ps.length cp]] w fun e w' => e = .returned (.bool true) ∧ Below w.heap.size w w' := by
  have hx := Box.new w 24 #[.int .i64 L, .slice A ps.length cp]
  have HX := Lib.hid hx
  have HD := Lib.hid hd
  have HBd := Lib.hid hb
  have hmx := hm
  unfold maxLen at hmx
  obtain ⟨m, hmm⟩ : ∃ m, m = ps.length := ⟨_, rfl⟩
  rw [← hmm] at hmx hc hm HX ⊢
  have HM := Lib.hid hmm.symm
  clear hd hb hmm hx
  by_cases h300 : 300 < m
  · have h3 : (300 : Int) < (m : Int) := by omega
    go_enter Try.func7, Try.ntmps7
    go_wp2_with fail
    refine (fse_awake _).mono ?_
    rintro e w1 ⟨rfl, hB⟩
    have HB := Lib.hid (((Below.refl _ _).alloc (Nat.le_refl _) (.cells #[.int .i64 L, .slice A m cp] 24)).trans (hB.mono (by simp)))
    obtain ⟨c0, c1, f0, f1⟩ := box2 (HX.out.below hB (by simp))
    clear hB
    go_wp2_with fail
    go_ret
    exact ⟨rfl, HB.out⟩
  · have h3 : decide ((300 : Int) < (m : Int)) = false := by simp; omega
    by_cases h10 : 10 < L
    · go_enter Try.func7, Try.ntmps7
      go_wp2_with fail
      refine (fse_awake _).mono ?_
      rintro e w1 ⟨rfl, hB⟩
      have HB := Lib.hid (((Below.refl _ _).alloc (Nat.le_refl _) (.cells #[.int .i64 L, .slice A m cp] 24)).trans (hB.mono (by simp)))
      obtain ⟨c0, c1, f0, f1⟩ := box2 (HX.out.below hB (by simp))
      clear hB
      go_wp2_with fail
      go_ret
      exact ⟨rfl, HB.out⟩
    · have h10' : decide (10 < L) = false := by simp; omega
      go_enter Try.func7, Try.ntmps7
      go_wp2_with fail
      refine (fse_awake _).mono ?_
      rintro e w1 ⟨rfl, hB⟩
      have HB := Lib.hid (((Below.refl _ _).alloc (Nat.le_refl _) (.cells #[.int .i64 L, .slice A m cp] 24)).trans (hB.mono (by simp)))
      have HX1 := Lib.hid (HX.out.below hB (by simp))
      have hs1 := hB.size
      simp only [World.size_alloc] at hs1
      obtain ⟨c0, c1, f0, f1⟩ := box2 HX1.out
      clear hB HX
      go_wp2_with fail
      refine (build_any (cp := cp) L (HD.out.below HB.out (Nat.le_refl _)) HM.out hc hm (by omega) HBd.out).mono ?_
      rintro e w2 ⟨hB, hor⟩
      have HB2 := Lib.hid (HB.out.trans (hB.mono (by omega)))
      have HX2 := Lib.hid (HX1.out.below hB (by omega))
      have hs2 := hB.size
      clear hB HB HX1 c0 c1 f0 f1
      rcases hor with ⟨hmay, v, rfl, ho⟩ | ⟨hmay, rfl⟩
      · obtain ⟨l, rfl⟩ := Int.eq_ofNat_of_zero_le (show 0 ≤ L by have := (mayB_iff.1 hmay).1; omega)
        rw [show ((l : Nat) : Int).toNat = l by omega] at ho
        have HF := Lib.hid (mayF hmay)
        have hl10 : l ≤ 10 := by omega
        have hn0 : 0 < 2 ^ l := Nat.two_pow_pos _
        have hn10 : 2 ^ l ≤ 2 ^ 10 := Nat.pow_le_pow_right (by omega) hl10
        have htl := tab_length HF.out
        obtain ⟨d, c, rfl, hd1, hd2, hdc⟩ := ho.place (by omega)
        rw [htl] at ho hdc ⊢
        obtain ⟨n, hn⟩ : ∃ n, n = 2 ^ l := ⟨_, rfl⟩
        rw [← hn] at htl ho hdc hn0 hn10 ⊢
        have HN := Lib.hid hn
        have HT := Lib.hid htl
        have HO := Lib.hid ho
        clear hn htl ho hmay h10 h10'
        go_wp2_with (refine wpList_alloc_z rfl 76 rfl (arr fun _ => 0) array_zero ?_)
        have hy := (Box.new w2 28 #[.int .i64 (l : Int), .slice (some ⟨d, 0, none⟩) n c]).alloc (.cells (arr fun _ => 0) 76)
        have hz := Box.new (w2.alloc (.cells #[.int .i64 (l : Int), .slice (some ⟨d, 0, none⟩) n c] 28)) 76 (arr fun _ => 0)
        rw [World.size_alloc] at hz
        have HI : Hid (St w w2 ((w2.alloc (.cells #[.int .i64 (l : Int), .slice (some ⟨d, 0, none⟩) n c] 28)).alloc (.cells (arr fun _ => 0) 76)) l A m cp d n c (tab l ps) (fun s => ((syms l ps).take 0).count s)) := by
          refine ⟨(HX2.out.alloc _).alloc _, hy, ?_, ?_, ?_⟩
          · have e : (fun s => ((syms l ps).take 0).count s) = fun _ => 0 := by funext s; simp
            rw [e]
            exact hz
          · exact ((HO.out.mono (by omega)).alloc _).alloc _
          · exact (HB2.out.alloc (by omega) _).alloc (by simp; omega) _
        clear hy hz HX2 HO HB2
        generalize (w2.alloc (.cells #[.int .i64 (l : Int), .slice (some ⟨d, 0, none⟩) n c] 28)).alloc (.cells (arr fun _ => 0) 76) = W at *
        go_loopg [7] n (fun gh i wx => ∃ k : Nat, k + gh = n ∧ i = .int .i64 (k : Int) ∧ St w w2 wx l A m cp d n c (tab l ps) (fun s => ((syms l ps).take k).count s))
        case atStart => exact ⟨0, by omega, rfl, HI.out⟩
        case round =>
          clear HI
          obtain ⟨k, hk, rfl, hi⟩ := hrel
          have HI := Lib.hid hi
          have HK := Lib.hid hk
          have hkn : k ≤ n := by omega
          clear hi hk
          obtain ⟨t0, t1, _, _⟩ := box2 HI.out.tb
          by_cases hlt : k < n
          · obtain ⟨g', rfl⟩ : ∃ g', gk = g' + 1 := ⟨gk - 1, by have := HK.out; omega⟩
            have hki : (k : Int) < (n : Int) := by omega
            have hkt : k < (tab l ps).length := by have := HT.out; omega
            have hks : k < (syms l ps).length := by have := HF.out.syms_len; have := HN.out; omega
            have hcell := (HI.out.es.cells3 k hkt).1.1
            rw [tab_sym HF.out k hkt] at hcell
            have hs256 : (syms l ps).getD k 0 < 256 := by
              rw [getD_of _ _ _ hks]
              have h1 := HF.out.syms_lt _ (List.getElem_mem hks)
              have h2 := HF.out.len
              omega
            have HNs := Lib.hid (cnt_succ (syms l ps) k hks)
            have hcl : ((syms l ps).take k).count ((syms l ps).getD k 0) ≤ k := by
              refine Nat.le_trans List.count_le_length ?_
              rw [List.length_take]; omega
            have hc1 := (HI.out.ar.cell ((syms l ps).getD k 0)).trans (arr_get _ _ hs256)
            have hf1 := HI.out.ar.free ((syms l ps).getD k 0)
            have hput := HI.out.ar.put ((syms l ps).getD k 0) (.int .i64 ((((syms l ps).take k).count ((syms l ps).getD k 0) + 1 : Nat) : Int))
            rw [arr_set] at hput
            rw [HNs.out] at hput
            have HPut := Lib.hid hput
            have hsi : (((syms l ps).getD k 0 : Nat) : Int) < 256 := by omega
            clear hput hs256 HNs
            generalize (syms l ps).getD k 0 = s at *
            generalize ((syms l ps).take k).count s = C at *
            go_wp2_with fail
            go_roundg g'
            case rel =>
              refine ⟨k + 1, by have := HK.out; omega, by go_num, ?_⟩
              exact ⟨HI.out.cb.far (by show w.heap.size ≠ w2.heap.size + 1; omega) _, HI.out.tb.far (by show w2.heap.size ≠ w2.heap.size + 1; omega) _, HPut.out, HI.out.es.aside (by omega) _ _, HI.out.below.setCell (by show w.heap.size ≤ w2.heap.size + 1; omega) _⟩
            case measure => omega
          · obtain rfl : k = n := by omega
            have hki : ¬ (k : Int) < (k : Int) := by omega
            have hfull : (fun s => ((syms l ps).take k).count s) = fun s => (wi (ps.getD s 0)).toNat := by
              funext s
              rw [List.take_of_length_le (by have := HF.out.syms_len; have := HN.out; omega), HF.out.count s]
            rw [hfull] at HI
            clear hfull
            go_wp2_with fail
            clear t0 t1
            obtain ⟨wo, rfl⟩ : ∃ wo : World, wo = wr := ⟨_, rfl⟩
            go_loopg [8, 9] m (fun gh t i wx => ∃ j : Nat, j + gh = m ∧ i = .int .i64 (j : Int) ∧ t = .int .i64 ((k : Int) - 1 - ((rr ps j).length : Nat)) ∧ ∃ q, wx = wo.drewN q)
            case atStart => exact ⟨0, by omega, rfl, by simp [rr], 0, rfl⟩
            case round =>
              obtain ⟨j, hj, rfl, rfl, q, rfl⟩ := hrel
              have HJ := Lib.hid hj
              have HIq := Lib.hid (HI.out.drawn q)
              have hjm : j ≤ m := by omega
              clear hj
              obtain ⟨b0, b1, _, _⟩ := box2 HI.out.cb
              by_cases hjl : j < m
              · obtain ⟨g', rfl⟩ : ∃ g', gk = g' + 1 := ⟨gk - 1, by have := HJ.out; omega⟩
                have hji : (j : Int) < (m : Int) := by omega
                have hjp : j < ps.length := by have := HM.out; omega
                obtain ⟨d1, o1, rfl, q1, q2, hcp⟩ := (HD.out.below HI.out.below (Nat.le_refl _)) (by omega)
                have hcell := hcp j hjp
                unfold icel at hcell
                have HG := Lib.hid (getD_eq ps j 0 hjp)
                have hpg := HF.out.ge ps[j] (List.getElem_mem hjp)
                have hm256 := HF.out.len
                have hca := (HI.out.ar.cell j).trans (arr_get _ _ (by omega))
                have hj256 : (j : Int) < 256 := by omega
                have hwp : (((wi (ps.getD j 0)).toNat : Nat) : Int) = wi (ps.getD j 0) := by have := (wi_pos (HF.out.getD j)).1; omega
                rw [hwp, HG.out] at hca
                have hwl := HF.out.wi_le j
                rw [HG.out, ← HN.out] at hwl
                have hpb : ps[j] ≤ 1024 := by unfold wi at hwl; split at hwl <;> omega
                clear hcp hwp hm256 hwl
                by_cases hp : ps[j] = -1
                · have hgj : ps.getD j 0 = -1 := by rw [HG.out, hp]
                  obtain ⟨hr1, hi1, hte⟩ := top_entry HF.out j hjp hgj
                  rw [← HN.out] at hr1
                  have hrs : rr ps (j + 1) = j :: rr ps j := by rw [rr, if_pos hgj]
                  have HRs := Lib.hid hrs
                  rw [hp] at hcell hca
                  rw [show wi (-1) = 1 from rfl] at hca
                  obtain ⟨⟨e0, e1, e2⟩, _⟩ := HI.out.es.cells3 _ hi1
                  rw [hte] at e0 e1 e2
                  simp only at e0 e1 e2
                  rw [← HN.out] at e0 e1 e2
                  obtain ⟨t0, t1, _, _⟩ := box2 HI.out.tb
                  obtain ⟨T, hT⟩ : ∃ T, T = k - 1 - (rr ps j).length := ⟨_, rfl⟩
                  rw [← hT] at e0 e1 e2
                  have hTi : (k : Int) - 1 - ((rr ps j).length : Nat) = (T : Int) := by omega
                  have hTk : (T : Int) < (k : Int) := by omega
                  have HTi := Lib.hid hTi
                  rw [hTi]
                  clear hT hTi hrs hte hi1 hgj hp hpg hpb hr1
                  have hT0 : (0 : Int) ≤ (T : Int) := by omega
                  have hjw : IntKind.i64.wrap (j : Int) = (j : Int) := IntWalk.i64_in _ (by omega)
                  go_wp2_with fail
                  go_quiet (fail)
                  clear hjw
                  go_wp2_with fail
                  go_roundg g'
                  case rel => exact ⟨j + 1, by have := HJ.out; omega, by go_num, by rw [HRs.out, ← HTi.out, List.length_cons]; congr 1; omega, _, rfl⟩
                  case measure => omega
                · have hw : wi ps[j] = ps[j] := by unfold wi; rw [if_neg hp]
                  have hrs : rr ps (j + 1) = rr ps j := by rw [rr, if_neg (by rw [HG.out]; exact hp)]
                  have HRs := Lib.hid hrs
                  rw [hw] at hca
                  have hp0 : 0 ≤ ps[j] := by omega
                  clear hw hrs hp hpg
                  generalize ps[j] = p at *
                  go_wp2_with fail
                  go_roundg g'
                  case rel => exact ⟨j + 1, by have := HJ.out; omega, by go_num, by rw [HRs.out], _, rfl⟩
                  case measure => omega
              · obtain rfl : j = m := by omega
                have hji : ¬ (j : Int) < (j : Int) := by omega
                go_wp2_with fail
                go_ret
                exact ⟨rfl, HIq.out.below⟩
      · go_wp2_with fail
        go_ret
        exact ⟨rfl, HB2.out.alloc (by omega) _⟩

set_option maxRecDepth 100000 in
theorem lifted (os : Os) (started : os.Started) (H : Type) (enc : TypeId × Value → H) :
    ReturnsInHanded {} Try.checked os 7 .any (Rows.fsePartsSpec.pre6 enc Try.prog Try.f7 Rows.fsePartsRow.domain false) (Rows.fsePartsSpec.post enc Try.prog Try.f7 false true false false) := by
  refine returnsInHanded_of_change (C := Try.checked) own started (by kernel_rfl) Try.func7
    (ChangeSpec.witness6 (enc := enc) (C := Try.checked) false ⟨#[], #[.agg #[.int .i64 0, .slice none 0 0]], []⟩ 8 (by kernel_rfl) (by kernel_rfl) (by kernel_rfl) (by kernel_rfl)) ?_
  intro W base args ds gs before hval0 hW hcnd _
  have hval : ∀ (j : Nat) t v, Try.f7.params[j]? = some t → args[j]? = some v → Value.okWide Try.prog W .any base t v := hval0
  have hW' := hW
  obtain ⟨p, q, hA0, hV, rfl, hfz, hnd⟩ := hW
  have hA : DataW.TrodAll enc Try.prog W 0 (fun _ => true) true Try.f7.params.toList args.toList ds p := hA0
  rw [Try.params7] at hA hval
  obtain ⟨v0, vs0, d0, ds0, p0, q0, hargs, rfl, rfl, h0, r0⟩ := trodAll_cons hA
  obtain ⟨rfl, rfl, rfl⟩ := trodAll_nil r0
  obtain rfl : args = #[v0] := by cases args; simp_all
  obtain ⟨rfl, rfl⟩ := trodVars_none hV
  have k0 := h0
  have lt0 : ∀ x ∈ p0, x.block < W.heap.size := by obtain ⟨m, hm⟩ := k0; exact DataW.trod_lt m _ _ _ hm
  obtain ⟨l0, a0, ns0, cap0, rfl, wl0, hl0, hm0, hd0, hb0⟩ := counts_of (hval 0 24 v0 rfl rfl) h0
  clear hA0 hval0
  refine (walk l0 a0 ns0 cap0 W wl0 hd0 hl0 (by omega) hb0).mono fun e W' ⟨he, bel⟩ => ?_
  subst he
  exact ⟨_, rfl, _, _, _, [], _, [], hW', trodAll_mk1 (shut_bool Try.underlying4 _), (trodAll_cons_mk (Below.trod laidOut (by kernel_rfl) (of_decide_eq_true (by kernel_rfl)) k0 bel lt0) trodAll_mk0), rfl, bel.frame _, fun h => by cases h⟩

theorem over : Rows.fsePartsRow.holds Try.pinned (OpenSpec.ofChange Rows.fsePartsSpec) :=
  OpenClaim.holds_of_wide 7 Try.f7 rfl rfl rfl rfl rfl rfl rfl ⟨rfl, rfl, rfl, rfl, rfl⟩ rfl rfl rfl rfl rfl (by kernel_rfl) Try.func7 (by kernel_rfl)
    (of_decide_eq_true (by kernel_rfl)) (by unfold Func.isWrapper; first | (rw [if_pos (by decide +kernel)]; kernel_rfl) | (rw [if_neg (by decide +kernel)]; exact ⟨rfl, rfl⟩))
    (fun os started H enc _ => lifted os started H enc)

theorem proved : Rows.FsePartsSaid := over
end Go.Proofs.Ytchpaeelpaicbaa.fseParts
