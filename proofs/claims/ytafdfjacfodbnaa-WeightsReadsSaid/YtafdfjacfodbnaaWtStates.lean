
/- The contract of the program's readStates, and of readTold where states tell the weights. -/
import Derived.Test.YtafdfjacfodbnaaWtWalk
import Derived.Test.YtafdfjacfodbnaaWtRead
import Derived.Test.YtafdfjacfodbnaaPileD
import Derived.Test.YtafdfjacfodbnaaPileC
namespace Go.Proofs.Ytafdfjacfodbnaa
open Go.RowKit

/-- The weights that states tell, and whether their bits ended; or an error. -/
def stsR (xs : List UInt8) : Except Int (List Nat × Bool) :=
  match rdC (bitsOf xs) 6 12 with
  | .error e => .error e
  | .ok (l, ps, a) =>
    if noBack (xs.drop ((a + 7) / 8)) = true then .error 11
    else if (bread (xs.drop ((a + 7) / 8)) (bread (xs.drop ((a + 7) / 8)) (top (xs.drop ((a + 7) / 8)) : Int) (l : Int)).2 (l : Int)).2 < 0 then .error 11
    else .ok (wlk (tab l ps) (xs.drop ((a + 7) / 8)) 256 (bread (xs.drop ((a + 7) / 8)) (top (xs.drop ((a + 7) / 8)) : Int) (l : Int)).1 (bread (xs.drop ((a + 7) / 8)) (bread (xs.drop ((a + 7) / 8)) (top (xs.drop ((a + 7) / 8)) : Int) (l : Int)).2 (l : Int)).1 (bread (xs.drop ((a + 7) / 8)) (bread (xs.drop ((a + 7) / 8)) (top (xs.drop ((a + 7) / 8)) : Int) (l : Int)).2 (l : Int)).2)
def okSts (xs : List UInt8) (l : List Nat) : Prop := ∃ b, stsR xs = .ok (l, b)
def badSts (xs : List UInt8) (er : Int) : Prop := stsR xs = .error er

theorem rdC_fits {L : List Bool} {most sy : Int} {log a : Nat} {ps : List Int} (h : rdC L most sy = .ok (log, ps, a)) : a ≤ L.length := by
  unfold rdC at h
  split at h
  · cases h
  · next x hx =>
    split at h
    · cases h
    · split at h
      · cases h
      · next q a' hq =>
        simp only [Except.ok.injEq, Prod.mk.injEq] at h
        obtain ⟨_, _, rfl⟩ := h
        refine (rdP_le _ hq).2 ?_
        unfold rd at hx
        split at hx
        · assumption
        · cases hx
theorem rdC_err {L : List Bool} {most sy : Int} {er : Int} (h : rdC L most sy = .error er) : er = 10 ∨ er = 11 ∨ er = 12 := by
  unfold rdC at h
  split at h
  · injection h with h; omega
  · split at h
    · injection h with h; omega
    · split at h
      · next e he =>
        injection h with h
        subst h
        have := rdP_err _ he
        omega
      · cases h
theorem stsR_err {xs : List UInt8} {er : Int} (h : stsR xs = .error er) : er = 10 ∨ er = 11 ∨ er = 12 := by
  unfold stsR at h
  split at h
  · next e he =>
    injection h with h
    subst h
    exact rdC_err he
  · split at h
    · injection h with h; omega
    · split at h
      · injection h with h; omega
      · cases h
theorem stsR_ok {xs : List UInt8} {t : List Nat × Bool} (h : stsR xs = .ok t) : (∀ x ∈ t.1, x < 256) ∧ t.1.length ≤ 257 ∧ (t.2 = false → t.1.length = 256) := by
  unfold stsR at h
  split at h
  · cases h
  · next l ps a he =>
    split at h
    · cases h
    · split at h
      · cases h
      · injection h with h
        subst h
        have hF := mayF (rdC_may he (by decide)).1
        exact ⟨wlk_lt (eS_lt (tab_fineW hF)) _ _ _ _, (wlk_len _ _ _ _).2, (wlk_len _ _ _ _).1⟩

section
variable {w : World}
set_option maxRecDepth 100000 in
set_option maxHeartbeats 4000000 in
theorem readStates_any {own : Bool} {lo hi n c : Nat} {A : Option Addr} {xs : List UInt8} (hd : Dat own w lo hi A xs) (hn : xs.length = n) (hm : n ≤ 1000) (hcn : n ≤ c) (hhi : hi ≤ w.heap.size) :
    Calls Try.prog 41 #[.slice A n c] w (ToldPost (okSts xs) (badSts xs) w) := by
  have HRd := Lib.hid (read_any (c := c) 6 12 hd hn (by omega) hhi rfl)
  have HD := Lib.hid hd
  have HN := Lib.hid hn
  obtain ⟨R, hR⟩ : ∃ R, R = rdC (bitsOf xs) 6 12 := ⟨_, rfl⟩
  rw [← hR] at HRd
  have HR := Lib.hid hR
  clear hd hn hR
  go_enter Try.func41, Try.ntmps41
  go_wp2_with fail
  refine HRd.out.mono ?_
  rintro e w1 ⟨hB1, hpost⟩
  clear HRd
  cases R with
  | error er =>
    simp only at hpost
    subst hpost
    have hbad : badSts xs er := by unfold badSts stsR; rw [← HR.out]
    have her := stsR_err hbad
    have hez : (er != 0) = true := by rw [bne_iff_ne]; omega
    have HB := Lib.hid hbad
    have HB1 := Lib.hid hB1
    have hs1 := hB1.size
    clear hbad hB1
    go_wp2_with fail
    go_ret2
    exact ⟨HB1.out.alloc (by omega) _, .inr ⟨er, by omega, HB.out, rfl⟩⟩
  | ok r =>
    obtain ⟨l, ps, a⟩ := r
    simp only at hpost
    obtain ⟨v, rfl, hO⟩ := hpost
    obtain ⟨hmay, hps12, hl6⟩ := rdC_may HR.out.symm (by decide)
    have hfit := rdC_fits HR.out.symm
    rw [bitsOf_length, HN.out] at hfit
    obtain ⟨K, hK⟩ : ∃ K, K = (a + 7) / 8 := ⟨_, rfl⟩
    have hKn : K ≤ n := by omega
    have hF := mayF hmay
    have hl15 := hF.l15
    obtain ⟨Ac, cc, rfl, hcc, hDc⟩ := hO.form
    obtain ⟨m, hmm⟩ : ∃ m, m = ps.length := ⟨_, rfl⟩
    rw [← hmm] at hcc ⊢
    rw [← hK]
    have hps256 : m ≤ 256 := by have := hF.len; omega
    have HMay := Lib.hid hmay
    have HF := Lib.hid hF
    have HMm := Lib.hid hmm
    have HK := Lib.hid hK
    have HB1 := Lib.hid hB1
    have hs1 := hB1.size
    have hKz : (0 : Int) ≤ (K : Int) := by omega
    have hKnz : (K : Int) ≤ (n : Int) := by omega
    have hKcz : K ≤ c := by omega
    have HDc := Lib.hid hDc
    have hbd := may_bounds hmay
    have HBd := Lib.hid hbd
    have hcut := HD.out.cut (k := K) (c := c) (by rw [HN.out]; exact hcn)
    have D1 : Hid (c = K → Dat own w lo hi A (xs.drop K)) := fun h => by rw [if_pos h] at hcut; exact hcut
    have D2 : Hid (c ≠ K → Dat own w lo hi (A.map (·.add K)) (xs.drop K)) := fun h => by rw [if_neg h] at hcut; exact hcut
    have hyl : (xs.drop K).length = n - K := by rw [List.length_drop, HN.out]
    have HSt : Hid (stsR xs = if noBack (xs.drop K) = true then .error 11 else if (bread (xs.drop K) (bread (xs.drop K) (top (xs.drop K) : Int) (l : Int)).2 (l : Int)).2 < 0 then .error 11
        else .ok (wlk (tab l ps) (xs.drop K) 256 (bread (xs.drop K) (top (xs.drop K) : Int) (l : Int)).1 (bread (xs.drop K) (bread (xs.drop K) (top (xs.drop K) : Int) (l : Int)).2 (l : Int)).1 (bread (xs.drop K) (bread (xs.drop K) (top (xs.drop K) : Int) (l : Int)).2 (l : Int)).2)) := by
      show stsR xs = _
      unfold stsR
      rw [← HR.out]
      simp only [← HK.out]
    obtain ⟨ys, hys⟩ : ∃ ys, ys = xs.drop K := ⟨_, rfl⟩
    rw [← hys] at D1 D2 hyl HSt
    have HBc := Lib.hid (HB1.out.alloc hs1 (.cells #[.int .i64 (l : Int), .slice Ac m cc] 98))
    have HXc := Lib.hid (Box.new w1 98 #[.int .i64 (l : Int), .slice Ac m cc])
    have hsc : (w1.alloc (.cells #[.int .i64 (l : Int), .slice Ac m cc] 98)).heap.size = w1.heap.size + 1 := World.size_alloc _ _
    have HDc2 := Lib.hid (HDc.out.alloc (Nat.le_refl _) (.cells #[.int .i64 (l : Int), .slice Ac m cc] 98))
    clear hB1 hO hmay hF hK hmm hDc hfit hbd hcut hys
    by_cases hcK : c = K
    · have hnb : noBack ys = true := by
        have h0 : ys = [] := List.eq_nil_of_length_eq_zero (by omega)
        rw [h0]
        simp [noBack]
      have D3 := Lib.hid (D1.out hcK)
      go_wp2_with fail
      generalize w1.alloc (.cells #[.int .i64 (l : Int), .slice Ac m cc] 98) = W1 at *
      refine (newBack_no ((D3.out).below HBc.out hhi) hyl (by omega) hnb).mono ?_
      rintro e w2 ⟨rfl, rfl⟩
      have hbad : badSts xs 11 := by unfold badSts; rw [HSt.out, if_pos hnb]
      have HBad := Lib.hid hbad
      clear hbad hnb
      go_wp2_with fail
      go_ret2
      exact ⟨HBc.out, .inr ⟨11, by decide, HBad.out, rfl⟩⟩
    · have D3 := Lib.hid (D2.out hcK)
      go_wp2_with fail
      generalize w1.alloc (.cells #[.int .i64 (l : Int), .slice Ac m cc] 98) = W1 at *
      rcases hnb : noBack ys with _ | _
      case true =>
        refine (newBack_no ((D3.out).below HBc.out hhi) hyl (by omega) hnb).mono ?_
        rintro e w2 ⟨rfl, rfl⟩
        have hbad : badSts xs 11 := by unfold badSts; rw [HSt.out, if_pos hnb]
        have HBad := Lib.hid hbad
        clear hbad hnb
        go_wp2_with fail
        go_ret2
        exact ⟨HBc.out, .inr ⟨11, by decide, HBad.out, rfl⟩⟩
      case false =>
        have hyp : 0 < ys.length := by
          rcases Nat.eq_zero_or_pos ys.length with h | h
          · simp [noBack, h] at hnb
          · exact h
        have htop := top_lt ys hyp
        refine (newBack_yes ((D2.out hcK).below HBc.out hhi) hyl (by omega) (by omega) hnb).mono ?_
        rintro e w2 ⟨g, rfl, hr, hB2⟩
        have HB2 := Lib.hid (HBc.out.trans (hB2.mono (by omega)))
        have hs2 := hB2.size
        have hg0 := hr.1
        have hglt := hr.lt
        have HR2 := Lib.hid hr
        have HX2 := Lib.hid (HXc.out.below hB2 HXc.out.lt)
        have HD2 := Lib.hid (HDc2.out.below hB2 (by omega))
        have HNb := Lib.hid hnb
        obtain ⟨c0, c1, _, _⟩ := box2 HX2.out
        have HBu := Lib.hid (build_any (w := w2) (cp := cc) (l : Int) HD2.out HMm.out.symm hcc (by unfold maxLen; omega) (by omega) HBd.out)
        clear hr hB2 hnb D1 D2
        go_wp2_with fail
        refine HBu.out.mono ?_
        rintro e w3 ⟨hB3, ⟨_, v, rfl, hOe⟩ | ⟨hno, _⟩⟩
        case inr => rw [HMay.out] at hno; cases hno
        rw [show ((l : Nat) : Int).toNat = l by omega] at hOe
        obtain ⟨Ae, ce, rfl, hce, hDe⟩ := hOe.form ecell_len
        have htl := tab_length HF.out
        have hn15 : 2 ^ l ≤ 2 ^ 15 := Nat.pow_le_pow_right (by omega) hl15
        rw [htl] at hce ⊢
        have hfi := tab_fineW HF.out
        obtain ⟨nn, hnn⟩ : ∃ nn, nn = 2 ^ l := ⟨_, rfl⟩
        rw [← hnn] at htl hce hn15 hfi ⊢
        have hs3 := hB3.size
        have HB3 := Lib.hid (HB2.out.trans (hB3.mono HB2.out.size))
        have HR4 := Lib.hid ((HR2.out.below hB3 hglt).keep fun k _ hk => Below.heap_alloc w3 (.cells #[.int .i64 (l : Int), .slice Ae nn ce] 106) k (by omega))
        have HD4 := Lib.hid (hDe.alloc (Nat.le_refl _) (.cells #[.int .i64 (l : Int), .slice Ae nn ce] 106))
        have HB4 := Lib.hid (HB3.out.alloc (by omega) (.cells #[.int .i64 (l : Int), .slice Ae nn ce] 106))
        have HX4 := Lib.hid (Box.new w3 106 #[.int .i64 (l : Int), .slice Ae nn ce])
        have hs4 : (w3.alloc (.cells #[.int .i64 (l : Int), .slice Ae nn ce] 106)).heap.size = w3.heap.size + 1 := World.size_alloc _ _
        have HFi := Lib.hid (And.intro hfi (And.intro htl hnn))
        clear hOe hDe hB3 htl hfi hnn c0 c1 HBu
        go_wp2_with fail
        generalize w3.alloc (.cells #[.int .i64 (l : Int), .slice Ae nn ce] 106) = W4 at *
        refine (walk_any (A := Ae) (c := ce) HR4.out (by omega) (by omega) hl15 HD4.out (by omega) (by omega) HFi.out.2.1 (by omega) HFi.out.1 (by rw [HFi.out.2.2]; exact Nat.le_refl _)).mono ?_
        rintro e w5 ⟨hG, ⟨hneg, rfl⟩ | ⟨hpos, v5, rfl, hO5⟩⟩
        · have hbad : badSts xs 11 := by unfold badSts; rw [HSt.out, if_neg (by rw [HNb.out]; decide), if_pos hneg]
          have HBad := Lib.hid hbad
          have HG := Lib.hid (HB4.out.grown hG (by omega) (fun k hk => by injection hk with hk; omega))
          clear hbad hneg hG
          go_wp2_with fail
          go_ret2
          exact ⟨HG.out, .inr ⟨11, by decide, HBad.out, rfl⟩⟩
        · have hok := HSt.out
          rw [if_neg (by rw [HNb.out]; decide), if_neg (by omega)] at hok
          have h3 := stsR_ok hok
          have HOk := Lib.hid (And.intro hok h3)
          have HG := Lib.hid (HB4.out.grown hG (by omega) (fun k hk => by injection hk with hk; omega))
          have HO5 := Lib.hid (hO5.mono (show w.heap.size ≤ W4.heap.size by omega))
          clear hok h3 hG hpos hO5
          go_wp2_with fail
          go_ret2
          exact ⟨HG.out, .inl ⟨_, v5, ⟨_, HOk.out.1⟩, rfl, HO5.out, HOk.out.2.1, Nat.le_trans HOk.out.2.2.1 (by decide)⟩⟩
theorem toldStates_any {own : Bool} {lo hi n c h : Nat} {A : Option Addr} {xs : List UInt8} (hd : Dat own w lo hi A xs) (hn : xs.length = n) (hm : n ≤ 1000) (hcn : n ≤ c) (hhi : hi ≤ w.heap.size) (h1 : h ≤ 127) :
    Calls Try.prog 31 #[.slice A n c, .int .i64 (h : Int)] w (ToldPost (okSts xs) (badSts xs) w) := by
  have HR := Lib.hid (readStates_any (c := c) hd hn hm hcn hhi)
  have h1z : ¬ (127 : Int) < (h : Int) := by omega
  clear hd hn
  go_enter Try.func31, Try.ntmps31
  go_wp2_with fail
  refine HR.out.mono ?_
  rintro _ w1 ⟨hB, ⟨l, v, hok, rfl, hO, h256, hl⟩ | ⟨er, her, hbad, rfl⟩⟩
  · have HF := Lib.hid (And.intro hB (And.intro hok (And.intro hO (And.intro h256 hl))))
    clear hB hok hO h256 hl HR
    go_wp2_with fail
    go_ret2
    exact ⟨HF.out.1, .inl ⟨l, v, HF.out.2.1, rfl, HF.out.2.2.1, HF.out.2.2.2.1, HF.out.2.2.2.2⟩⟩
  · have HF := Lib.hid (And.intro hB (And.intro her hbad))
    clear hB her hbad HR
    go_wp2_with fail
    go_ret2
    exact ⟨HF.out.1, .inr ⟨er, HF.out.2.1, HF.out.2.2, rfl⟩⟩
end
end Go.Proofs.Ytafdfjacfodbnaa
