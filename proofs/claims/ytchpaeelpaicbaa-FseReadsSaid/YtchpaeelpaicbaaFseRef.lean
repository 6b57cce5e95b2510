
/- The contract of the document's Build. -/
import Derived.Test.YtchpaeelpaicbaaFseRefP
import Derived.Test.YtchpaeelpaicbaaFseEntries
namespace Go.Proofs.Ytchpaeelpaicbaa
open Go.RowKit

/-- What the document's Build answers. -/
def RefPost (L : Int) (ps : List Int) (w : World) (e : Ending) (w' : World) : Prop :=
  Below w.heap.size w w' ∧ ((mayB L ps = true ∧ ∃ v, e = .returned (.tuple #[.agg #[.int .i64 L, v], .int .i64 0]) ∧ OwR 3 rcell w' 84 w.heap.size v (tab L.toNat ps)) ∨
    (mayB L ps = false ∧ e = .returned (.tuple #[.agg #[.int .i64 0, .slice none 0 0], .int .i64 1])))
/-- With the array that counts, in block ab. -/
structure RBA (w wx : World) (g l : Nat) (A : Option Addr) (m cp : Nat) (v : Value) (es : List En) (ab : Nat) (f : Nat → Nat) : Prop where
  rb : RB w wx g l A m cp v es
  ar : Box wx ab 76 (arr f)
  hab : g < ab

section
variable {w : World} {lo hi m cp : Nat} {A : Option Addr} {ps : List Int}
set_option maxRecDepth 100000 in
set_option maxHeartbeats 1000000 in
theorem refBuild_no (L : Int) (hno : mayB L ps = false) (hd : DatE icel w lo hi A ps) (hm : ps.length = m) (hc : m ≤ cp) (hmx : m ≤ maxLen) (hhi : hi ≤ w.heap.size) (hb : ∀ p ∈ ps, -9223372036854775808 ≤ p ∧ p ≤ 9223372036854775807) :
    Calls Try.prog 10 #[.agg #[.int .i64 L, .slice A m cp]] w fun e w' => e = .returned (.tuple #[.agg #[.int .i64 0, .slice none 0 0], .int .i64 1]) ∧ Below w.heap.size w w' := by
  have hb2 : Below w.heap.size w ((w.alloc (.cells #[.int .i64 L, .slice A m cp] 37)).alloc (.cells #[.int .i64 0, .slice none 0 0] 34)) := ((Below.refl _ _).alloc (Nat.le_refl _) _).alloc (by simp) _
  have HC := Lib.hid (refCheck_any (c := cp) L 15 (hd.below hb2 hhi) hm hc hmx (by simp; omega) hb)
  rw [chk_no hno] at HC
  have HX := Lib.hid (Box.new (w.alloc (.cells #[.int .i64 L, .slice A m cp] 37)) 34 #[.int .i64 0, .slice none 0 0])
  rw [World.size_alloc] at HX
  have HB2 := Lib.hid hb2
  clear hd hm hb hno hb2
  go_enter Try.func10, Try.ntmps10
  go_wp2_with fail
  refine HC.out.mono ?_
  rintro e w1 ⟨rfl, hB⟩
  have HB := Lib.hid (HB2.out.trans (hB.mono (by simp; omega)))
  obtain ⟨c0, c1, f0, f1⟩ := box2 (HX.out.below hB (by simp))
  clear hB
  go_wp2_with fail
  refine bodyPost_ret (v := .tuple #[.agg #[.int .i64 0, .slice none 0 0], .int .i64 1]) (by simp [results, Try.results10, go_sem, c0, c1]) rfl ⟨rfl, ?_⟩
  exact (HB.out.setCell (by show w.heap.size ≤ w.heap.size + 1; omega) _).setCell (by show w.heap.size ≤ w.heap.size + 1; omega) _

set_option maxRecDepth 100000 in
set_option maxHeartbeats 8000000 in
theorem refBuild_yes (l : Nat) (hyes : mayB (l : Int) ps = true) (hd : DatE icel w lo hi A ps) (hm : ps.length = m) (hc : m ≤ cp) (hmx : m ≤ maxLen) (hhi : hi ≤ w.heap.size) (hb : ∀ p ∈ ps, -9223372036854775808 ≤ p ∧ p ≤ 9223372036854775807) :
    Calls Try.prog 10 #[.agg #[.int .i64 (l : Int), .slice A m cp]] w fun e w' => ∃ v, e = .returned (.tuple #[.agg #[.int .i64 (l : Int), v], .int .i64 0]) ∧ OwR 3 rcell w' 84 w.heap.size v (tab l ps) ∧ Below w.heap.size w w' := by
  have hb2 : Below w.heap.size w ((w.alloc (.cells #[.int .i64 (l : Int), .slice A m cp] 37)).alloc (.cells #[.int .i64 0, .slice none 0 0] 34)) := ((Below.refl _ _).alloc (Nat.le_refl _) _).alloc (by simp) _
  have HC := Lib.hid (refCheck_any (c := cp) (l : Int) 15 (hd.below hb2 hhi) hm hc hmx (by simp; omega) hb)
  have hF := mayF hyes
  rw [chk_ok hyes (by have := hF.l15; omega)] at HC
  have hx0 := (Box.new w 37 #[.int .i64 (l : Int), .slice A m cp]).alloc (.cells #[.int .i64 0, .slice none 0 0] 34)
  have HX0 := Lib.hid hx0
  have HX := Lib.hid (Box.new (w.alloc (.cells #[.int .i64 (l : Int), .slice A m cp] 37)) 34 #[.int .i64 0, .slice none 0 0])
  rw [World.size_alloc] at HX
  have HB2 := Lib.hid hb2
  have HF := Lib.hid hF
  have HD := Lib.hid hd
  have HM := Lib.hid hm
  have hl5 := hF.l5
  have hl15 := hF.l15
  obtain ⟨i0, hi0, hz0, hz1, hz2⟩ := info_parts ref_info
  obtain ⟨n, hn⟩ : ∃ n : Nat, n = 2 ^ l := ⟨_, rfl⟩
  have hn5 : 2 ^ 5 ≤ 2 ^ l := Nat.pow_le_pow_right (by omega) hl5
  have hn15 : 2 ^ l ≤ 2 ^ 15 := Nat.pow_le_pow_right (by omega) hl15
  have hm256 : m ≤ 256 := by have := hF.len; omega
  rw [← hn] at hn5 hn15
  have HN := Lib.hid hn
  have HPw := fun W => Lib.hid (refPower_any l W (by omega))
  rw [← hn] at HPw
  clear hd hm hb hyes hb2 hF hx0 hn
  go_enter Try.func10, Try.ntmps10
  go_wp2_with fail
  refine HC.out.mono ?_
  rintro e w1 ⟨rfl, hB⟩
  have HB := Lib.hid (HB2.out.trans (hB.mono (by simp; omega)))
  have HY0 := Lib.hid (HX0.out.below hB (by simp; omega))
  have HY := Lib.hid (HX.out.below hB (by simp))
  have hs1 := hB.size
  simp only [World.size_alloc] at hs1
  obtain ⟨c0, c1, f0, f1⟩ := box2 HY0.out
  clear hB HC HX HX0 HB2
  go_wp2_with fail
  refine (HPw _).out.mono ?_
  rintro e w2 ⟨rfl, rfl⟩
  go_wp2_with fail
  have hrb : RB w (w1.alloc (.cells #[.int .i64 (l : Int), .slice none 0 0] 34)) w1.heap.size l A m cp (.slice none 0 0) (List.replicate 0 none1) :=
    ⟨HY0.out.alloc _, HY.out.alloc _, Box.new w1 _ _, OwR.nil _ _ _ _ _, HB.out.alloc (by omega) _, by omega⟩
  have HRB := Lib.hid hrb
  clear hrb HY0 HY HB c0 c1 f0 f1
  generalize w1.alloc (.cells #[.int .i64 (l : Int), .slice none 0 0] 34) = W at *
  go_loopg [7] n (fun gh i wx => ∃ (k : Nat) (v : Value), k + gh = n ∧ i = .int .i64 (k : Int) ∧ RB w wx w1.heap.size l A m cp v (List.replicate k none1))
  case atStart => exact ⟨0, _, by omega, rfl, HRB.out⟩
  case round =>
    clear HRB
    obtain ⟨k, v, hk, rfl, hrb⟩ := hrel
    have hkn : k ≤ n := by omega
    have HK := Lib.hid hk
    clear hk
    obtain ⟨Av, cv, rfl, hcv, _⟩ := hrb.es.form rcell_len
    rw [List.length_replicate] at hrb hcv
    have HRB := Lib.hid hrb
    obtain ⟨t0, t1, _, _⟩ := box2 hrb.tb
    have hlt1 := hrb.tb.lt
    clear hrb
    by_cases hlt : k < n
    · obtain ⟨g', rfl⟩ : ∃ g', gk = g' + 1 := ⟨gk - 1, by have := HK.out; omega⟩
      have hki : (k : Int) < (n : Int) := by omega
      have HA := Lib.hid (HRB.out.es.alloc (.cells #[.int .i64 (-1), .int .i64 0, .int .i64 0] 84))
      have HD1 := Lib.hid (datR_one (f := rcell) (z := 3) wr none1 84 #[.int .i64 (-1), .int .i64 0, .int .i64 0] rfl)
      go_wp2_with (at_builtin; refine list_appR rcell_len (by decide) rcell_one _ rfl _ _ 32 rfl i0 (.agg #[.int .i64 0, .int .i64 0, .int .i64 0]) 24 Try.underlying32 hi0 hz0 hz1 hz2 rfl (by decide) rfl HA.out rfl HD1.out rfl ?_ ?_ ?_)
      · first | omega | (simp; omega)
      · first | omega | (simp; omega)
      intro v1 w4 ho1 hg1 hat1
      obtain ⟨Av1, nv1, cv1, rfl⟩ := ho1.slice
      obtain ⟨k0, k1, kf, HKf⟩ := pushR_facts HRB.out.tb HRB.out.es ho1 hg1
      have HR2 := Lib.hid (HRB.out.push HKf.out)
      rw [show List.replicate k none1 ++ [none1] = List.replicate (k + 1) none1 by rw [List.replicate_succ']] at HR2
      clear ho1 hg1 hat1 HA HD1 t0 t1 HKf
      go_wp2_with fail
      go_roundg g'
      case rel => exact ⟨k + 1, _, by have := HK.out; omega, by go_num, HR2.out⟩
      case measure => omega
    · obtain rfl : k = n := by omega
      have hki : ¬ (k : Int) < (k : Int) := by omega
      obtain ⟨d, hd1, hd2, rfl⟩ : ∃ d, w1.heap.size + 1 ≤ d ∧ d < wr.heap.size ∧ Av = some ⟨d, 0, none⟩ := by
        obtain ⟨d, c', hv, h1, h2, _⟩ := HRB.out.es.place (by rw [List.length_replicate]; omega)
        injection hv with hv
        exact ⟨d, h1, h2, hv⟩
      clear HK
      go_wp2_with fail
      clear t0 t1
      obtain ⟨wo, rfl⟩ : ∃ wo : World, wo = wr := ⟨_, rfl⟩
      go_loopg [8, 9] m (fun gh t i wx => ∃ j F : Nat, j + gh = m ∧ i = .int .i64 (j : Int) ∧ t = .int .i64 ((F : Int) - 1) ∧ F + (rr ps j).length = k ∧ RB w wx w1.heap.size l A m cp (.slice (some ⟨d, 0, none⟩) k cv) (List.replicate F none1 ++ (rr ps j).map raw))
      case atStart => exact ⟨0, k, by omega, rfl, rfl, by simp [rr], by simpa [rr] using HRB.out⟩
      case round =>
        clear HRB
        obtain ⟨j, F, hj, rfl, rfl, hF, hrb⟩ := hrel
        have HJ := Lib.hid hj
        have HFk := Lib.hid hF
        have HRB := Lib.hid hrb
        have hFk : F ≤ k := by omega
        have hjm : j ≤ m := by omega
        clear hj hF hrb
        obtain ⟨b0, b1, _, _⟩ := box2 HRB.out.cb
        by_cases hjl : j < m
        · obtain ⟨g', rfl⟩ : ∃ g', gk = g' + 1 := ⟨gk - 1, by have := HJ.out; omega⟩
          have hji : (j : Int) < (m : Int) := by omega
          have hjp : j < ps.length := by have := HM.out; omega
          obtain ⟨da, oa, rfl, q1, q2, hcp⟩ := (HD.out.below HRB.out.below hhi) (by omega)
          have hcell := hcp j hjp
          unfold icel at hcell
          have HG := Lib.hid (getD_eq ps j 0 hjp)
          have hpg := HF.out.ge ps[j] (List.getElem_mem hjp)
          clear hcp
          generalize ps[j] = p at *
          by_cases hp : p = -1
          · subst hp
            have hrs : rr ps (j + 1) = j :: rr ps j := by rw [rr, if_pos HG.out]
            have h1 := rr_mono ps (show j + 1 ≤ ps.length by omega)
            have h2 := HF.out.sum
            rw [hrs, List.length_cons] at h1
            obtain ⟨F', rfl⟩ : ∃ F', F = F' + 1 := ⟨F - 1, by have := HFk.out; have := HN.out; omega⟩
            have HRs := Lib.hid hrs
            have hlen : F' < (List.replicate (F' + 1) none1 ++ (rr ps j).map raw).length := by simp; omega
            obtain ⟨⟨e0, e1, e2⟩, f0, f1, f2⟩ := HRB.out.cells F' hlen
            have he : (List.replicate (F' + 1) none1 ++ (rr ps j).map raw)[F'] = none1 := by
              rw [List.getElem_append_left (by simp)]
              simp
            rw [he] at e0
            have hput := HRB.out.put F' 0 hlen (by decide) (.int .i64 (j : Int)) (raw j) (by rw [he]; rfl)
            rw [rare_set] at hput
            have HPut := Lib.hid hput
            have e3 : ((F' + 1 : Nat) : Int) - 1 = (F' : Int) := by omega
            rw [e3]
            obtain ⟨t0, t1, _, _⟩ := box2 HRB.out.tb
            have hFi : (F' : Int) < (k : Int) := by omega
            clear hrs h1 h2 e1 e2 f1 f2 he hput e3
            go_wp2_with fail
            go_roundg g'
            case rel =>
              exact ⟨j + 1, F', by have := HJ.out; omega, by go_num, rfl, by have := HFk.out; rw [HRs.out, List.length_cons]; omega, by rw [HRs.out, List.map_cons]; exact HPut.out⟩
            case measure => omega
          · have hrs : rr ps (j + 1) = rr ps j := by rw [rr, if_neg (by rw [HG.out]; exact hp)]
            have HRs := Lib.hid hrs
            have hp0 : decide (p < 0) = false := by simp; omega
            clear hrs
            go_wp2_with fail
            go_roundg g'
            case rel => exact ⟨j + 1, F, by have := HJ.out; omega, by go_num, rfl, by rw [HRs.out]; exact HFk.out, by rw [HRs.out]; exact HRB.out⟩
            case measure => omega
        · obtain rfl : j = m := by omega
          have hji : ¬ (j : Int) < (j : Int) := by omega
          have hFe : F = fe l ps := by
            have h1 := HFk.out
            have h2 := HN.out
            have h3 := HM.out
            unfold fe
            rw [h3]
            omega
          have HFe := Lib.hid hFe
          have hrb0 : RB w wr w1.heap.size l A j cp (.slice (some ⟨d, 0, none⟩) k cv) (atE l ps 0 0).1 := by
            have h1 := HRB.out
            have h3 := HM.out
            rw [hFe, ← h3] at h1
            rw [h3] at h1
            rw [atE_zero]
            rw [← h3] at h1 ⊢
            exact h1
          have HR0 := Lib.hid hrb0
          clear hrb0 hFe HFk HJ HRB
          have HA0 : Hid ((atE l ps 0 0).2 = 0) := by rw [Hid, atE_zero]
          go_wp2_with fail
          clear b0 b1
          go_loopg [10, 11] j (fun gh t i wx => ∃ q a : Nat, q + gh = j ∧ i = .int .i64 (q : Int) ∧ t = .int .i64 (a : Int) ∧ a = (atE l ps q 0).2 ∧ (0 < F → a < F) ∧ RB w wx w1.heap.size l A j cp (.slice (some ⟨d, 0, none⟩) k cv) (atE l ps q 0).1)
          case atStart => exact ⟨0, 0, by omega, rfl, rfl, HA0.out.symm, fun h => h, HR0.out⟩
          case round =>
            clear HR0
            obtain ⟨q, a, hq, rfl, rfl, ha, haF, hrb⟩ := hrel
            have HQ := Lib.hid hq
            have HRB := Lib.hid hrb
            have HA1 := Lib.hid ha
            have HAF := Lib.hid haF
            have hqj : q ≤ j := by omega
            clear hq hrb ha haF
            obtain ⟨b0, b1, _, _⟩ := box2 HRB.out.cb
            by_cases hql : q < j
            · obtain ⟨g', rfl⟩ : ∃ g', gk = g' + 1 := ⟨gk - 1, by have := HQ.out; omega⟩
              have hqi : (q : Int) < (j : Int) := by omega
              have hqp : q < ps.length := by have := HM.out; omega
              have HG := Lib.hid (getD_eq ps q 0 hqp)
              have hpg := HF.out.ge ps[q] (List.getElem_mem hqp)
              have HCel : Hid (∀ wx, Below w.heap.size w wx → ∃ da oa, A = some ⟨da, oa, none⟩ ∧ wx.cell? ⟨da, oa + q, none⟩ = some (.int .i64 ps[q])) := fun wx hb => by
                obtain ⟨da, oa, rfl, q1, q2, hcp⟩ := (HD.out.below hb hhi) (by omega)
                exact ⟨da, oa, rfl, hcp q hqp⟩
              have hFk : F ≤ k := by rw [HFe.out, HN.out]; exact HF.out.fe_le.1
              obtain ⟨P, hP⟩ : ∃ P : Nat, P = (ps.getD q 0).toNat := ⟨_, rfl⟩
              have hP32 : P ≤ k := by
                have h1 := HF.out.fe_le.1
                have h2 := ot_mono ps (show q + 1 ≤ ps.length by omega)
                rw [ot, List.length_append, List.length_replicate, HF.out.fe_eq, ← hP] at h2
                have := HN.out
                omega
              have HPP := Lib.hid hP
              have hpP : P = (ps[q]).toNat := by rw [hP, HG.out]
              have HPp := Lib.hid hpP
              have hp15 : ps[q] ≤ 32768 := by omega
              clear hP hpP
              generalize ps[q] = p at *
              have HAn := Lib.hid (atE_next l ps q)
              have HCv := Lib.hid (HF.out.atE_bd q 0 hqp (Nat.zero_le _))
              go_wp2_with fail
              obtain ⟨wo, rfl⟩ : ∃ wo : World, wo = wr := ⟨_, rfl⟩
              clear b0 b1
              go_loopg [10, 12] P (fun gh t i wx => ∃ r a : Nat, r + gh = P ∧ i = .int .i64 (r : Int) ∧ t = .int .i64 (a : Int) ∧ a = (atE l ps q r).2 ∧ (0 < F → a < F) ∧ RB w wx w1.heap.size l A j cp (.slice (some ⟨d, 0, none⟩) k cv) (atE l ps q r).1)
              case atStart => exact ⟨0, a, by omega, rfl, rfl, HA1.out, HAF.out, HRB.out⟩
              case round =>
                clear HA1 HAF HRB
                obtain ⟨r, a, hr, rfl, rfl, ha, haF, hrb⟩ := hrel
                have HR := Lib.hid hr
                have HRB := Lib.hid hrb
                have HA1 := Lib.hid ha
                have HAF := Lib.hid haF
                have hrP : r ≤ P := by omega
                clear hr hrb ha haF
                obtain ⟨b0, b1, _, _⟩ := box2 HRB.out.cb
                obtain ⟨da, oa, rfl, hcell⟩ := HCel.out wr HRB.out.below
                by_cases hrl : r < P
                · obtain ⟨g2, rfl⟩ : ∃ g2, gk = g2 + 1 := ⟨gk - 1, by have := HR.out; omega⟩
                  have hri : (r : Int) < p := by have := HPp.out; omega
                  have hF0 : 0 < F := by have := HCv.out.2.2; rw [HFe.out]; apply this; have := HPP.out; omega
                  have haF := HAF.out hF0
                  have hbd := HF.out.atE_bd q r hqp (by have := HPP.out; omega)
                  have hlen : a < (atE l ps q r).1.length := by rw [hbd.1]; have := HN.out; omega
                  have hnb := (HF.out.atE_bd q (r + 1) hqp (by have := HPP.out; omega)).2.1 (by rw [← HFe.out]; exact hF0)
                  have HSt := Lib.hid (atE_step l ps q r)
                  rw [HSt.out] at hnb
                  rw [← HFe.out, ← HN.out, ← HA1.out] at HSt
                  rw [← HFe.out, ← HN.out, ← HA1.out] at hnb
                  dsimp only at hnb
                  obtain ⟨x0, x1, x2, ⟨c0, _, _⟩, f0, _, _⟩ : ∃ x0 x1 x2 : Int, (wr.cell? ⟨d, a * 3, none⟩ = some (.int .i64 x0) ∧ wr.cell? ⟨d, a * 3 + 1, none⟩ = some (.int .i64 x1) ∧ wr.cell? ⟨d, a * 3 + 2, none⟩ = some (.int .i64 x2)) ∧ wr.frozen? ⟨d, a * 3, none⟩ = false ∧ wr.frozen? ⟨d, a * 3 + 1, none⟩ = false ∧ wr.frozen? ⟨d, a * 3 + 2, none⟩ = false := ⟨_, _, _, HRB.out.cells a hlen⟩
                  have HEx : Hid (∀ x ∈ (atE l ps q r).1, x.b = 0 ∧ x.e = 0) := by
                    have h1 : ∀ (S : List En) (L : List En × Nat), (∀ x ∈ L.1, x.b = 0 ∧ x.e = 0) → (∀ x ∈ S, x.b = 0 ∧ x.e = 0) → ∀ x ∈ (S.foldl (place (2 ^ l) (fe l ps)) L).1, x.b = 0 ∧ x.e = 0 := by
                      intro S
                      induction S with
                      | nil => intro L h _; exact h
                      | cons s S ih =>
                        intro L h hs
                        refine ih _ ?_ (fun x hx => hs x (by simp [hx]))
                        intro x hx
                        unfold place at hx
                        rcases List.mem_or_eq_of_mem_set hx with q | q
                        · exact h x q
                        · rw [q]; exact hs s (by simp)
                    refine h1 _ _ ?_ ?_
                    · intro x hx
                      simp only [List.mem_append, List.mem_replicate, List.mem_map] at hx
                      rcases hx with ⟨_, rfl⟩ | ⟨_, _, rfl⟩ <;> exact ⟨rfl, rfl⟩
                    · intro x hx
                      obtain ⟨_, _, rfl⟩ := List.mem_map.1 hx
                      exact ⟨rfl, rfl⟩
                  have HPut := Lib.hid (HRB.out.put a 0 hlen (by decide) (.int .i64 (q : Int)) (raw q) (by
                    have := HEx.out _ (List.getElem_mem hlen)
                    simp [rcell, raw, this]))
                  obtain ⟨T, hT⟩ : ∃ T, T = skip k F k (nx k a) := ⟨_, rfl⟩
                  rw [← hT] at hnb HSt
                  have HT := Lib.hid hT
                  obtain ⟨t0, t1, _, _⟩ := box2 HRB.out.tb
                  have haki : (a : Int) < (k : Int) := by omega
                  have hb : ((a : Int) + (k : Int) / 2 + (k : Int) / 8 + 3) % (k : Int) = ((nx k a : Nat) : Int) := by
                    rw [show (a : Int) + (k : Int) / 2 + (k : Int) / 8 + 3 = ((a + stp k : Nat) : Int) by unfold stp; omega]
                    exact (Int.natCast_emod _ _).symm
                  have HNx : Hid (nx k a < k) := Nat.mod_lt _ (by omega)
                  obtain ⟨y, hy⟩ : ∃ y, y = nx k a := ⟨_, rfl⟩
                  rw [← hy] at hb HNx HT
                  clear hT hlen hy HEx hbd
                  go_wp2_with fail
                  rw [hb]
                  have HR3 : Hid (RB w (wr.setCell ⟨d, a * 3, none⟩ (.int .i64 (q : Int))) w1.heap.size l (some ⟨da, oa, none⟩) j cp (.slice (some ⟨d, 0, none⟩) k cv) (atE l ps q (r + 1)).1) := by
                    rw [HSt.out]
                    exact HPut.out
                  have hyk := HNx.out
                  clear c0 f0 t0 t1 hcell b0 b1 hb HPut HRB haki
                  generalize wr.setCell ⟨d, a * 3, none⟩ (.int .i64 (q : Int)) = w3 at *
                  go_loopg [10, 13] k (fun gh t i wx => ∃ y z : Nat, t = .int .i64 (y : Int) ∧ y < k ∧ i = .int .i64 (z : Int) ∧ z + gh = k ∧ T = skip k F gh y ∧ wx = w3)
                  case atStart => exact ⟨y, 0, rfl, hyk, rfl, by omega, HT.out, rfl⟩
                  case round =>
                    clear HT HNx
                    obtain ⟨y, z, rfl, hyk, rfl, hz, hTs, rfl⟩ := hrel
                    have HZ := Lib.hid hz
                    have HTs := Lib.hid hTs
                    have hzk : z ≤ k := by omega
                    clear hz hTs
                    by_cases hyF : y < F
                    · have hyi : decide ((F : Int) - 1 < (y : Int)) = false := by simp; omega
                      have hyT : y = T := by
                        rw [HTs.out]
                        cases gk with
                        | zero => rfl
                        | succ f => rw [skip, if_pos hyF]
                      subst hyT
                      by_cases hzl : z < k
                      · have hzi : (z : Int) < (k : Int) := by omega
                        go_wp2_with fail
                        go_roundg g2
                        case rel => exact ⟨r + 1, y, by have := HR.out; omega, by go_num, rfl, by rw [HSt.out], fun _ => hyF, HR3.out⟩
                        case measure => omega
                      · have hzi : decide ((z : Int) < (k : Int)) = false := by simp; omega
                        go_wp2_with fail
                        go_roundg g2
                        case rel => exact ⟨r + 1, y, by have := HR.out; omega, by go_num, rfl, by rw [HSt.out], fun _ => hyF, HR3.out⟩
                        case measure => omega
                    · have hyi : (F : Int) - 1 < (y : Int) := by omega
                      obtain ⟨f, hf⟩ : ∃ f, gk = f + 1 := by
                        cases gk with
                        | zero =>
                          exfalso
                          have := HTs.out
                          rw [skip] at this
                          omega
                        | succ f => exact ⟨f, rfl⟩
                      subst hf
                      have hzi : (z : Int) < (k : Int) := by have := HZ.out; omega
                      have HTn : Hid (T = skip k F f (nx k y)) := by rw [Hid, HTs.out, skip, if_neg hyF]
                      have hb : ((y : Int) + (k : Int) / 2 + (k : Int) / 8 + 3) % (k : Int) = ((nx k y : Nat) : Int) := by
                        rw [show (y : Int) + (k : Int) / 2 + (k : Int) / 8 + 3 = ((y + stp k : Nat) : Int) by unfold stp; omega]
                        exact (Int.natCast_emod _ _).symm
                      have HNx : Hid (nx k y < k) := Nat.mod_lt _ (by omega)
                      obtain ⟨y2, hy2⟩ : ∃ y2, y2 = nx k y := ⟨_, rfl⟩
                      rw [← hy2] at hb HNx HTn
                      have HBb := Lib.hid hb
                      clear hy2 hb
                      go_wp2_with fail
                      go_roundg f
                      case rel => exact ⟨y2, z + 1, by rw [HBb.out], HNx.out, by go_num, by have := HZ.out; omega, HTn.out, rfl⟩
                      case measure => omega
                · obtain rfl : r = P := by omega
                  have hri : ¬ (r : Int) < p := by have := HPp.out; omega
                  go_wp2_with fail
                  go_roundg g'
                  case rel =>
                    refine ⟨q + 1, a, by have := HQ.out; omega, by go_num, rfl, ?_, HAF.out, ?_⟩
                    · rw [HAn.out, ← HPP.out]; exact HA1.out
                    · rw [HAn.out, ← HPP.out]; exact HRB.out
                  case measure => omega
            · obtain rfl : q = j := by omega
              have hqi : ¬ (q : Int) < (q : Int) := by omega
              have hrb := HRB.out
              rw [show (atE l ps q 0).1 = (syms l ps).map raw by have := HM.out; rw [← this]; exact HF.out.atE_all] at hrb
              have hsl := HF.out.syms_len
              have htl := tab_length HF.out
              rw [← HN.out] at hsl htl
              have HSl := Lib.hid hsl
              have HTl := Lib.hid htl
              have HR1 := Lib.hid hrb
              clear hrb hsl htl HRB HA1 HAF
              go_wp2_with (refine wpList_alloc_z rfl 76 rfl (arr fun _ => 0) array_zero ?_)
              have hRA : RBA w (wr.alloc (.cells (arr fun _ => 0) 76)) w1.heap.size l A q cp (.slice (some ⟨d, 0, none⟩) k cv) (mid (tab l ps) (syms l ps) 0) wr.heap.size (fun s => ((syms l ps).take 0).count s) := by
                refine ⟨?_, ?_, ?_⟩
                · rw [mid_zero]
                  exact HR1.out.alloc _
                · have e : (fun s => ((syms l ps).take 0).count s) = fun _ => 0 := by funext s; simp
                  rw [e]
                  exact Box.new wr _ _
                · have := HR1.out.es.block d rfl
                  omega
              have hdw : d < wr.heap.size := (HR1.out.es.block d rfl).2
              have HRA := Lib.hid hRA
              clear hRA HR1 b0 b1
              generalize wr.heap.size = ab at *
              generalize wr.alloc (.cells (arr fun _ => 0) 76) = W2 at *
              go_loopg [15] k (fun gh i wx => ∃ z : Nat, z + gh = k ∧ i = .int .i64 (z : Int) ∧ RBA w wx w1.heap.size l A q cp (.slice (some ⟨d, 0, none⟩) k cv) (mid (tab l ps) (syms l ps) z) ab (fun s => ((syms l ps).take z).count s))
              case atStart => exact ⟨0, by omega, rfl, HRA.out⟩
              case round =>
                clear HRA
                obtain ⟨z, hz, rfl, hra⟩ := hrel
                have HZ := Lib.hid hz
                have HRA := Lib.hid hra
                have hzk : z ≤ k := by omega
                clear hz hra
                obtain ⟨b0, b1, _, _⟩ := box2 HRA.out.rb.cb
                obtain ⟨t0, t1, _, _⟩ := box2 HRA.out.rb.tb
                by_cases hzl : z < k
                · obtain ⟨g', rfl⟩ : ∃ g', gk = g' + 1 := ⟨gk - 1, by have := HZ.out; omega⟩
                  have hzi : (z : Int) < (k : Int) := by omega
                  have hzs : z < (syms l ps).length := by have := HSl.out; omega
                  have hzt : z < (tab l ps).length := by have := HTl.out; omega
                  have hlen : (tab l ps).length = (syms l ps).length := by rw [HTl.out, HSl.out]
                  have hzm : z < (mid (tab l ps) (syms l ps) z).length := by rw [mid_length _ _ hlen z (by omega)]; exact hzt
                  have hmg := mid_get (tab l ps) (syms l ps) hlen z hzt
                  have hms := mid_set (tab l ps) (syms l ps) hlen z hzt
                  rw [show (tab l ps)[z] = entN l ((syms l ps).getD z 0) (kOf ps (syms l ps) z) from tab_get HF.out z hzt] at hms
                  have hsp : (syms l ps).getD z 0 < ps.length := by
                    rw [getD_of _ _ _ hzs]
                    exact HF.out.syms_lt _ (List.getElem_mem hzs)
                  have hkb := HF.out.k_bd z (by have := HN.out; omega)
                  have hkf : kOf ps (syms l ps) z = (wi (ps.getD ((syms l ps).getD z 0) 0)).toNat + ((syms l ps).take z).count ((syms l ps).getD z 0) := rfl
                  have hcs := cnt_succ (syms l ps) z hzs
                  obtain ⟨⟨e0, _, _⟩, _, _, _⟩ := HRA.out.rb.cells z hzm
                  rw [hmg] at e0
                  have cA := (HRA.out.ar.cell ((syms l ps).getD z 0)).trans (arr_get _ _ (by have := HM.out; omega))
                  have fA := HRA.out.ar.free ((syms l ps).getD z 0)
                  have hput := HRA.out.ar.put ((syms l ps).getD z 0) (.int .i64 ((((syms l ps).take z).count ((syms l ps).getD z 0) + 1 : Nat) : Int))
                  rw [arr_set] at hput
                  rw [hcs] at hput
                  have HPutA := Lib.hid hput
                  have HMs := Lib.hid hms
                  have HMg := Lib.hid hmg
                  have HKf := Lib.hid hkf
                  have HKb := Lib.hid hkb
                  have hC : ((syms l ps).take z).count ((syms l ps).getD z 0) ≤ z := by
                    refine Nat.le_trans List.count_le_length ?_
                    rw [List.length_take]; omega
                  unfold raw at e0
                  dsimp only at e0
                  clear hmg hms hkf hkb hput hcs
                  generalize (syms l ps).getD z 0 = sy at *
                  generalize ((syms l ps).take z).count sy = C at *
                  generalize kOf ps (syms l ps) z = K at *
                  have hsq : (sy : Int) < (q : Int) := by have := HM.out; omega
                  have hs256 : (sy : Int) < 256 := by omega
                  obtain ⟨da, oa, rfl, _, _, hcp⟩ := (HD.out.below HRA.out.rb.below hhi) (by omega)
                  have hcell := hcp sy hsp
                  unfold icel at hcell
                  have HG := Lib.hid (getD_eq ps sy 0 hsp)
                  have hpg := HF.out.ge ps[sy] (List.getElem_mem hsp)
                  have hwl := HF.out.wi_le sy
                  rw [HG.out, ← HN.out] at hwl
                  have hp15 : ps[sy] ≤ 32768 := by unfold wi at hwl; split at hwl <;> omega
                  have HKw : Hid (K = (wi ps[sy]).toNat + C) := by rw [Hid, HKf.out, HG.out]
                  clear hcp hwl HKf
                  generalize ps[sy] = p at *
                  have hge : decide (q ≤ sy) = false := by simp; have := HM.out; omega
                  have hneg : decide ((sy : Int) < 0) = false := by simp
                  by_cases hp : p < 0
                  · obtain rfl : p = -1 := by omega
                    have hKi : (C : Int) + 1 = (K : Int) := by have := HKw.out; rw [show (wi (-1)).toNat = 1 from rfl] at this; omega
                    have HKi := Lib.hid hKi
                    clear hKi
                    go_wp2_with fail
                    have HRB3 : Hid (RBA w (wr.setCell ⟨ab, sy, none⟩ (.int .i64 ((C : Int) + 1))) w1.heap.size l (some ⟨da, oa, none⟩) q cp (.slice (some ⟨d, 0, none⟩) k cv) (mid (tab l ps) (syms l ps) z) ab (fun s => ((syms l ps).take (z + 1)).count s)) :=
                      ⟨HRA.out.rb.aside HRA.out.hab (by omega) _ _, HPutA.out, HRA.out.hab⟩
                    clear b0 b1 t0 t1 cA fA hcell e0 HPutA HRA
                    generalize wr.setCell ⟨ab, sy, none⟩ (.int .i64 ((C : Int) + 1)) = w3 at *
                    rw [HKi.out]
                    clear HKi
                    have hkb := HKb.out
                    rw [← HN.out] at hkb
                    have hlb := log_bd HKb.out.1 HKb.out.2
                    have HG2 : Hid (2 ^ K.log2 ≤ K ∧ K < 2 ^ (K.log2 + 1)) := ⟨Nat.log2_self_le (by omega), Nat.lt_log2_self⟩
                    obtain ⟨G, hG⟩ : ∃ G, G = K.log2 := ⟨_, rfl⟩
                    have hen : entN l sy K = ⟨(sy : Int), ((l - G : Nat) : Int), ((K * 2 ^ (l - G) - 2 ^ l : Nat) : Int)⟩ := by unfold entN; rw [hG]
                    rw [hen] at HMs
                    rw [← hG] at HG2 hlb
                    clear hG hen
                    obtain ⟨hGl, hQ1, hQ2⟩ := hlb
                    obtain ⟨Bt, hBt⟩ : ∃ Bt, Bt = l - G := ⟨_, rfl⟩
                    rw [← hBt] at HMs hQ1 hQ2
                    obtain ⟨PB, hPB⟩ : ∃ PB : Nat, PB = 2 ^ Bt := ⟨_, rfl⟩
                    obtain ⟨Q, hQ⟩ : ∃ Q : Nat, Q = K * PB := ⟨_, rfl⟩
                    rw [← hPB, ← HN.out] at HMs hQ1 hQ2
                    rw [← hQ] at HMs hQ1 hQ2
                    have HPB := fun W => Lib.hid (refPower_any Bt W (by omega))
                    rw [← hPB] at HPB
                    have hKPB : (K : Int) * (PB : Int) = (Q : Int) := by rw [hQ]; simp
                    have hBtl : (l : Int) - (G : Int) = (Bt : Int) := by omega
                    have HKPB := Lib.hid hKPB
                    have HBtl := Lib.hid hBtl
                    clear hPB hQ hKPB hBtl hBt
                    obtain ⟨b0, b1, _, _⟩ := box2 HRB3.out.rb.cb
                    go_loopg [19] G (fun gh t wx => ∃ x : Nat, x + gh = G ∧ t = .int .i64 ((l : Int) - (x : Int)) ∧ wx = w3)
                    case atStart => exact ⟨0, by omega, by simp, rfl⟩
                    case round =>
                      obtain ⟨x, hxg, rfl, rfl⟩ := hrel
                      have HXg := Lib.hid hxg
                      have hx : x ≤ G := by omega
                      clear hxg
                      have HP1 := Lib.hid (refPower_any (x + 1) wr (by omega))
                      obtain ⟨PP, hPP⟩ : ∃ PP : Nat, PP = 2 ^ (x + 1) := ⟨_, rfl⟩
                      rw [← hPP] at HP1
                      have hxl : (x : Int) ≤ (l : Int) := by omega
                      by_cases hxG : x < G
                      · obtain ⟨g3, rfl⟩ : ∃ g3, gk = g3 + 1 := ⟨gk - 1, by have := HXg.out; omega⟩
                        have hle : PP ≤ K := by
                          rw [hPP]
                          exact Nat.le_trans (Nat.pow_le_pow_right (by omega) (by omega)) HG2.out.1
                        have hlei : (PP : Int) ≤ (K : Int) := by omega
                        clear hPP
                        go_wp2_with fail
                        rw [show (l : Int) - ((l : Int) - (x : Int)) + 1 = ((x + 1 : Nat) : Int) by omega]
                        refine HP1.out.mono ?_
                        rintro e w' ⟨rfl, rfl⟩
                        go_wp2_with fail
                        go_roundg g3
                        case rel => exact ⟨x + 1, by have := HXg.out; omega, by go_num, rfl⟩
                        case measure => omega
                      · obtain rfl : x = G := by omega
                        have hlt2 : K < PP := by rw [hPP]; exact HG2.out.2
                        have hlei : ¬ (PP : Int) ≤ (K : Int) := by omega
                        clear hPP
                        rw [HBtl.out]
                        obtain ⟨t0, t1, _, _⟩ := box2 HRB3.out.rb.tb
                        obtain ⟨⟨_, e1, _⟩, _, f1, _⟩ := HRB3.out.rb.cells z hzm
                        rw [HMg.out] at e1
                        have hp1 := HRB3.out.rb.put z 1 hzm (by decide) (.int .i64 (Bt : Int)) ⟨(sy : Int), (Bt : Int), 0⟩ (by rw [HMg.out]; rfl)
                        have HR4 := Lib.hid hp1
                        have HBx := Lib.hid HBtl.out
                        unfold raw at e1
                        dsimp only at e1
                        clear hp1
                        have hBl : (Bt : Int) ≤ (l : Int) := by have := HBtl.out; omega
                        go_wp2_with fail
                        rw [show (l : Int) - (Bt : Int) + 1 = ((x + 1 : Nat) : Int) by have := HBtl.out; omega]
                        refine HP1.out.mono ?_
                        rintro e w' ⟨rfl, rfl⟩
                        go_wp2_with fail
                        have har := HRB3.out.ar.far (show ab ≠ (⟨d, z * 3 + 1, none⟩ : Addr).block by show ab ≠ d; omega) (.int .i64 (Bt : Int))
                        have HAr := Lib.hid har
                        have hab := HRB3.out.hab
                        clear har e1 f1 t0 t1 b0 b1 HRB3 hlei
                        generalize wr.setCell ⟨d, z * 3 + 1, none⟩ (.int .i64 (Bt : Int)) = w5 at *
                        obtain ⟨t0, t1, _, _⟩ := box2 HR4.out.tb
                        have hzm2 : z < ((mid (tab l ps) (syms l ps) z).set z ⟨(sy : Int), (Bt : Int), 0⟩).length := by rw [List.length_set]; exact hzm
                        have hz2 : ((mid (tab l ps) (syms l ps) z).set z ⟨(sy : Int), (Bt : Int), 0⟩)[z]'hzm2 = ⟨(sy : Int), (Bt : Int), 0⟩ := by simp
                        obtain ⟨⟨_, _, e2⟩, _, _, f2⟩ := HR4.out.cells z hzm2
                        rw [hz2] at e2
                        dsimp only at e2
                        have hp2 := HR4.out.put z 2 hzm2 (by decide) (.int .i64 ((Q - k : Nat) : Int)) ⟨(sy : Int), (Bt : Int), ((Q - k : Nat) : Int)⟩ (by rw [hz2]; rfl)
                        rw [List.set_set, HMs.out, show ((Q - k : Nat) : Int) = (Q : Int) - (k : Int) by omega] at hp2
                        have HR5 := Lib.hid hp2
                        have q1 := HKPB.out
                        have q2 : IntKind.i64.wrap (Q : Int) = (Q : Int) := IntWalk.i64_in _ (by omega)
                        have q3 : IntKind.i64.wrap ((Q : Int) - (k : Int)) = (Q : Int) - (k : Int) := IntWalk.i64_in _ (by omega)
                        clear hz2 hp2
                        go_region_with (go_at_call 33; refine (HPB _).out.mono ?_; rintro e' wn ⟨rfl, rfl⟩)
                        all_goals
                          clear q1 q2 q3 e2 f2 t0 t1
                          go_wp2_with fail
                          go_roundg g'
                          case rel => exact ⟨z + 1, by have := HZ.out; omega, by go_num, ⟨by first | exact HR5.out.drewR | exact HR5.out, by first | exact HAr.out.far (by show ab ≠ d; omega) _, hab⟩⟩
                          case measure => omega
                  · have hw : wi p = p := by unfold wi; rw [if_neg (by omega)]
                    have hKi : (C : Int) + p = (K : Int) := by have := HKw.out; rw [hw] at this; omega
                    have HKi := Lib.hid hKi
                    have hp0 : decide (p < 0) = false := by simp; omega
                    clear hKi hw
                    go_wp2_with fail
                    have HRB3 : Hid (RBA w (wr.setCell ⟨ab, sy, none⟩ (.int .i64 ((C : Int) + 1))) w1.heap.size l (some ⟨da, oa, none⟩) q cp (.slice (some ⟨d, 0, none⟩) k cv) (mid (tab l ps) (syms l ps) z) ab (fun s => ((syms l ps).take (z + 1)).count s)) :=
                      ⟨HRA.out.rb.aside HRA.out.hab (by omega) _ _, HPutA.out, HRA.out.hab⟩
                    clear b0 b1 t0 t1 cA fA hcell e0 HPutA HRA
                    generalize wr.setCell ⟨ab, sy, none⟩ (.int .i64 ((C : Int) + 1)) = w3 at *
                    rw [HKi.out]
                    clear HKi
                    have hkb := HKb.out
                    rw [← HN.out] at hkb
                    have hlb := log_bd HKb.out.1 HKb.out.2
                    have HG2 : Hid (2 ^ K.log2 ≤ K ∧ K < 2 ^ (K.log2 + 1)) := ⟨Nat.log2_self_le (by omega), Nat.lt_log2_self⟩
                    obtain ⟨G, hG⟩ : ∃ G, G = K.log2 := ⟨_, rfl⟩
                    have hen : entN l sy K = ⟨(sy : Int), ((l - G : Nat) : Int), ((K * 2 ^ (l - G) - 2 ^ l : Nat) : Int)⟩ := by unfold entN; rw [hG]
                    rw [hen] at HMs
                    rw [← hG] at HG2 hlb
                    clear hG hen
                    obtain ⟨hGl, hQ1, hQ2⟩ := hlb
                    obtain ⟨Bt, hBt⟩ : ∃ Bt, Bt = l - G := ⟨_, rfl⟩
                    rw [← hBt] at HMs hQ1 hQ2
                    obtain ⟨PB, hPB⟩ : ∃ PB : Nat, PB = 2 ^ Bt := ⟨_, rfl⟩
                    obtain ⟨Q, hQ⟩ : ∃ Q : Nat, Q = K * PB := ⟨_, rfl⟩
                    rw [← hPB, ← HN.out] at HMs hQ1 hQ2
                    rw [← hQ] at HMs hQ1 hQ2
                    have HPB := fun W => Lib.hid (refPower_any Bt W (by omega))
                    rw [← hPB] at HPB
                    have hKPB : (K : Int) * (PB : Int) = (Q : Int) := by rw [hQ]; simp
                    have hBtl : (l : Int) - (G : Int) = (Bt : Int) := by omega
                    have HKPB := Lib.hid hKPB
                    have HBtl := Lib.hid hBtl
                    clear hPB hQ hKPB hBtl hBt
                    obtain ⟨b0, b1, _, _⟩ := box2 HRB3.out.rb.cb
                    go_loopg [19] G (fun gh t wx => ∃ x : Nat, x + gh = G ∧ t = .int .i64 ((l : Int) - (x : Int)) ∧ wx = w3)
                    case atStart => exact ⟨0, by omega, by simp, rfl⟩
                    case round =>
                      obtain ⟨x, hxg, rfl, rfl⟩ := hrel
                      have HXg := Lib.hid hxg
                      have hx : x ≤ G := by omega
                      clear hxg
                      have HP1 := Lib.hid (refPower_any (x + 1) wr (by omega))
                      obtain ⟨PP, hPP⟩ : ∃ PP : Nat, PP = 2 ^ (x + 1) := ⟨_, rfl⟩
                      rw [← hPP] at HP1
                      have hxl : (x : Int) ≤ (l : Int) := by omega
                      by_cases hxG : x < G
                      · obtain ⟨g3, rfl⟩ : ∃ g3, gk = g3 + 1 := ⟨gk - 1, by have := HXg.out; omega⟩
                        have hle : PP ≤ K := by
                          rw [hPP]
                          exact Nat.le_trans (Nat.pow_le_pow_right (by omega) (by omega)) HG2.out.1
                        have hlei : (PP : Int) ≤ (K : Int) := by omega
                        clear hPP
                        go_wp2_with fail
                        rw [show (l : Int) - ((l : Int) - (x : Int)) + 1 = ((x + 1 : Nat) : Int) by omega]
                        refine HP1.out.mono ?_
                        rintro e w' ⟨rfl, rfl⟩
                        go_wp2_with fail
                        go_roundg g3
                        case rel => exact ⟨x + 1, by have := HXg.out; omega, by go_num, rfl⟩
                        case measure => omega
                      · obtain rfl : x = G := by omega
                        have hlt2 : K < PP := by rw [hPP]; exact HG2.out.2
                        have hlei : ¬ (PP : Int) ≤ (K : Int) := by omega
                        clear hPP
                        rw [HBtl.out]
                        obtain ⟨t0, t1, _, _⟩ := box2 HRB3.out.rb.tb
                        obtain ⟨⟨_, e1, _⟩, _, f1, _⟩ := HRB3.out.rb.cells z hzm
                        rw [HMg.out] at e1
                        have hp1 := HRB3.out.rb.put z 1 hzm (by decide) (.int .i64 (Bt : Int)) ⟨(sy : Int), (Bt : Int), 0⟩ (by rw [HMg.out]; rfl)
                        have HR4 := Lib.hid hp1
                        have HBx := Lib.hid HBtl.out
                        unfold raw at e1
                        dsimp only at e1
                        clear hp1
                        have hBl : (Bt : Int) ≤ (l : Int) := by have := HBtl.out; omega
                        go_wp2_with fail
                        rw [show (l : Int) - (Bt : Int) + 1 = ((x + 1 : Nat) : Int) by have := HBtl.out; omega]
                        refine HP1.out.mono ?_
                        rintro e w' ⟨rfl, rfl⟩
                        go_wp2_with fail
                        have har := HRB3.out.ar.far (show ab ≠ (⟨d, z * 3 + 1, none⟩ : Addr).block by show ab ≠ d; omega) (.int .i64 (Bt : Int))
                        have HAr := Lib.hid har
                        have hab := HRB3.out.hab
                        clear har e1 f1 t0 t1 b0 b1 HRB3 hlei
                        generalize wr.setCell ⟨d, z * 3 + 1, none⟩ (.int .i64 (Bt : Int)) = w5 at *
                        obtain ⟨t0, t1, _, _⟩ := box2 HR4.out.tb
                        have hzm2 : z < ((mid (tab l ps) (syms l ps) z).set z ⟨(sy : Int), (Bt : Int), 0⟩).length := by rw [List.length_set]; exact hzm
                        have hz2 : ((mid (tab l ps) (syms l ps) z).set z ⟨(sy : Int), (Bt : Int), 0⟩)[z]'hzm2 = ⟨(sy : Int), (Bt : Int), 0⟩ := by simp
                        obtain ⟨⟨_, _, e2⟩, _, _, f2⟩ := HR4.out.cells z hzm2
                        rw [hz2] at e2
                        dsimp only at e2
                        have hp2 := HR4.out.put z 2 hzm2 (by decide) (.int .i64 ((Q - k : Nat) : Int)) ⟨(sy : Int), (Bt : Int), ((Q - k : Nat) : Int)⟩ (by rw [hz2]; rfl)
                        rw [List.set_set, HMs.out, show ((Q - k : Nat) : Int) = (Q : Int) - (k : Int) by omega] at hp2
                        have HR5 := Lib.hid hp2
                        have q1 := HKPB.out
                        have q2 : IntKind.i64.wrap (Q : Int) = (Q : Int) := IntWalk.i64_in _ (by omega)
                        have q3 : IntKind.i64.wrap ((Q : Int) - (k : Int)) = (Q : Int) - (k : Int) := IntWalk.i64_in _ (by omega)
                        clear hz2 hp2
                        go_region_with (go_at_call 33; refine (HPB _).out.mono ?_; rintro e' wn ⟨rfl, rfl⟩)
                        all_goals
                          clear q1 q2 q3 e2 f2 t0 t1
                          go_wp2_with fail
                          go_roundg g'
                          case rel => exact ⟨z + 1, by have := HZ.out; omega, by go_num, ⟨by first | exact HR5.out.drewR | exact HR5.out, by first | exact HAr.out.far (by show ab ≠ d; omega) _, hab⟩⟩
                          case measure => omega
                · obtain rfl : z = k := by omega
                  have hzi : ¬ (z : Int) < (z : Int) := by omega
                  obtain ⟨r0, r1, _, _⟩ := box2 HRA.out.rb.rb
                  have hful := mid_all (tab l ps) (syms l ps) (by rw [HTl.out, HSl.out])
                  rw [HTl.out] at hful
                  rw [hful] at HRA
                  clear hful
                  go_wp2_with fail
                  refine bodyPost_ret (v := .tuple #[.agg #[.int .i64 (l : Int), .slice (some ⟨d, 0, none⟩) z cv], .int .i64 0]) (by simp [results, Try.results10, go_sem, r0, r1]) rfl ⟨.slice (some ⟨d, 0, none⟩) z cv, rfl, ?_, ?_⟩
                  · exact (((HRA.out.rb.es.aside (by omega) _ _).aside (by omega) _ _)).mono (by omega)
                  · exact (HRA.out.rb.below.setCell (by show w.heap.size ≤ w.heap.size + 1; omega) _).setCell (by show w.heap.size ≤ w.heap.size + 1; omega) _
/-- The table of counts, or none, by the document. -/
theorem refBuild_any (L : Int) (hd : DatE icel w lo hi A ps) (hm : ps.length = m) (hc : m ≤ cp) (hmx : m ≤ maxLen) (hhi : hi ≤ w.heap.size) (hb : ∀ p ∈ ps, -9223372036854775808 ≤ p ∧ p ≤ 9223372036854775807) :
    Calls Try.prog 10 #[.agg #[.int .i64 L, .slice A m cp]] w (RefPost L ps w) := by
  cases hq : mayB L ps with
  | false => exact (refBuild_no L hq hd hm hc hmx hhi hb).mono fun e w' ⟨h1, h2⟩ => ⟨h2, .inr ⟨hq, h1⟩⟩
  | true =>
    obtain ⟨l, rfl⟩ := Int.eq_ofNat_of_zero_le (show 0 ≤ L by have := (mayB_iff.1 hq).1; omega)
    exact (refBuild_yes l hq hd hm hc hmx hhi hb).mono fun e w' ⟨v, h1, h2, h3⟩ => ⟨h3, .inl ⟨hq, v, h1, by simpa using h2⟩⟩
end
end Go.Proofs.Ytchpaeelpaicbaa
