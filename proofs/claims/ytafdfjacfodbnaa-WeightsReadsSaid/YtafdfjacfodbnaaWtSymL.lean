
/- Merging where the left part is of one element. -/
import Derived.Test.YtafdfjacfodbnaaWtRot2
namespace Go.Proofs.Ytafdfjacfodbnaa
open Go.RowKit Go.Sort

theorem getI_ab {p A B s : List Pk} {a m b t : Nat} (ha : a = p.length) (hm : m = a + A.length) (hb : b = m + B.length) :
    (a ≤ t → t < m → (p ++ A ++ B ++ s)[t]! = A[t - a]!) ∧ (m ≤ t → t < b → (p ++ A ++ B ++ s)[t]! = B[t - m]!) := by
  subst ha hm hb
  refine ⟨fun h1 h2 => ?_, fun h1 h2 => ?_⟩
  · rw [getI_left _ s t (by simp; omega), getI_left _ B t (by simp; omega), getI_right p A t h1 (by omega)]
  · rw [getI_left _ s t (by simp; omega), getI_right _ B t (by simp; omega) (by simp; omega)]
    simp

section
variable {w0 W : World} {g n c : Nat}
set_option maxRecDepth 100000 in
set_option maxHeartbeats 2000000 in
theorem symL_any (p B s : List Pk) (x : Pk) (a m b : Nat) (hS : SR w0 g n c (p ++ [x] ++ B ++ s) W) (ha : a = p.length) (hm : m = a + 1) (hb : b = m + B.length) (hB : Srt B) (hn : n ≤ 100000) :
    Calls Try.prog 95 #[.slice (some ⟨g, 0, none⟩) n c, .int .i64 (a : Int), .int .i64 (m : Int), .int .i64 (b : Int), .func (.func 63) #[] #[]] W fun e w' =>
      e = .returned (.tuple #[]) ∧ ∃ C, SR w0 g n c (p ++ C ++ s) w' ∧ Srt C ∧ Alike ([x] ++ B) C ∧ C.length = 1 + B.length := by
  have hlen := hS.len
  simp at hlen
  have HS := Lib.hid hS
  have HH := Lib.hid (And.intro ha (And.intro hm (And.intro hb hB)))
  have hbn : b ≤ n := by omega
  have hmb : m ≤ b := by omega
  have h1 : (m : Int) - (a : Int) = 1 := by omega
  have han : a < n := by omega
  have mixed : Try.prog.follows .mixedOrders = true := by kernel_rfl
  have hxa := getI_mid p (B ++ s) x a ha
  have HXA : Hid ((p ++ [x] ++ B ++ s)[a]! = x) := by show _ = _; rw [show p ++ [x] ++ B ++ s = p ++ x :: (B ++ s) by simp]; exact hxa
  clear hS ha hb hlen hm hB hxa
  go_enter Try.func95, Try.ntmps95
  go_wp2_with fail
  go_loopg [10, 11] (b - m) (fun g1 vi vj wr => ∃ (i j : Nat), vi = .int .i64 (i : Int) ∧ vj = .int .i64 (j : Int) ∧ m ≤ i ∧ i ≤ j ∧ j ≤ b ∧ j - i ≤ g1 ∧ (∀ t, m ≤ t → t < i → (p ++ [x] ++ B ++ s)[t]!.n < x.n) ∧ (∀ t, j ≤ t → t < b → x.n ≤ (p ++ [x] ++ B ++ s)[t]!.n) ∧ SR w0 g n c (p ++ [x] ++ B ++ s) wr)
  case atStart => exact ⟨m, b, rfl, rfl, Nat.le_refl _, hmb, Nat.le_refl _, Nat.le_refl _, fun t q1 q2 => by omega, fun t q1 q2 => by omega, HS.out⟩
  case round =>
    clear HS
    obtain ⟨i, j, rfl, rfl, hmi, hij, hjb, hg, hlo, hhi, hS⟩ := hrel
    by_cases hlt : i < j
    · have hltz : (i : Int) < (j : Int) := by omega
      obtain ⟨h, hh⟩ : ∃ h, h = (i + j) / 2 := ⟨_, rfl⟩
      have hih : i ≤ h := by omega
      have hhj : h < j := by omega
      have hhz : ((i : Int) + (j : Int)) / 2 = (h : Int) := by omega
      obtain ⟨y, hy⟩ : ∃ y, (p ++ [x] ++ B ++ s)[h]! = y := ⟨_, rfl⟩
      have hc1 := hS.cellsG h (by omega)
      have hc2 := hS.cellsG a han
      rw [hy] at hc1
      rw [HXA.out] at hc2
      obtain ⟨c1, c1'⟩ := hc1
      obtain ⟨c2, c2'⟩ := hc2
      have hcg := fun q os => cmp_grown y x wr q os
      have z4 : (h : Int) < (n : Int) := by omega
      have z5 : (a : Int) < (n : Int) := by omega
      have HT := Lib.hid (And.intro hlo (And.intro hhi (And.intro hy (And.intro hg hh))))
      have HS := Lib.hid hS
      have hcl := cmpN_lt y.n x.n
      generalize cmpN y.n x.n = r at hcg hcl
      clear hS hlo hhi hy hg hh
      have HR : Hid (∀ t, m ≤ t → t < b → ∀ t', m ≤ t' → t' ≤ t → (p ++ [x] ++ B ++ s)[t']!.n ≤ (p ++ [x] ++ B ++ s)[t]!.n) := by
        intro t q1 q2 t' q3 q4
        obtain ⟨ha, hm, hb, hB⟩ := HH.out
        rw [(getI_ab (p := p) (A := [x]) (B := B) (s := s) ha (by simpa using hm) hb).2 q1 q2, (getI_ab (p := p) (A := [x]) (B := B) (s := s) ha (by simpa using hm) hb).2 q3 (by omega)]
        exact hB.get (by omega) (by omega)
      by_cases hv : y.n < x.n
      · have hr : decide (r < 0) = true := by rw [hcl]; exact decide_eq_true hv
        have hr' : r < 0 := of_decide_eq_true hr
        clear hcl
        go_wp2_with fail
        go_quiet_grown (first | (go_at_call 63; exact hcg _ _))
        have HS2 := Lib.hid (HS.out.grown nq osq)
        clear c1 c1' c2 c2' hcg HS
        generalize grow (wr.drewN nq) osq = w2 at HS2 ⊢
        clear nq osq
        go_wp2_with fail
        go_roundg (j - (h + 1))
        case measure => have := HT.out.2.2.2.1; omega
        case rel =>
          obtain ⟨hlo, hhi, hy, hg, hh⟩ := HT.out
          refine ⟨h + 1, j, by go_num, rfl, by omega, by omega, hjb, Nat.le_refl _, fun t q1 q2 => ?_, hhi, HS2.out⟩
          have := HR.out h (by omega) (by omega) t q1 (by omega)
          rw [hy] at this
          omega
      · have hr : decide (r < 0) = false := by rw [hcl]; exact decide_eq_false hv
        have hr' : ¬ r < 0 := of_decide_eq_false hr
        clear hcl
        go_wp2_with fail
        go_quiet_grown (first | (go_at_call 63; exact hcg _ _))
        have HS2 := Lib.hid (HS.out.grown nq osq)
        clear c1 c1' c2 c2' hcg HS
        generalize grow (wr.drewN nq) osq = w2 at HS2 ⊢
        clear nq osq
        go_wp2_with fail
        go_roundg (h - i)
        case measure => have := HT.out.2.2.2.1; omega
        case rel =>
          obtain ⟨hlo, hhi, hy, hg, hh⟩ := HT.out
          refine ⟨i, h, rfl, rfl, hmi, hih, by omega, Nat.le_refl _, hlo, fun t q1 q2 => ?_, HS2.out⟩
          have := HR.out t (by omega) q2 h (by omega) q1
          rw [hy] at this
          omega
    · obtain rfl : i = j := by omega
      have hltz : ¬ (i : Int) < (i : Int) := by omega
      obtain ⟨ha, hm, hb, hB⟩ := HH.out
      have hBt : B = B.take (i - m) ++ B.drop (i - m) := (List.take_append_drop _ B).symm
      have hvl : (B.take (i - m)).length = i - m := by simp; omega
      have hlv : ∀ y ∈ B.take (i - m), y.n < x.n := by
        intro y hy
        obtain ⟨t, ht, e⟩ := mem_get hy
        have := hlo (m + t) (by omega) (by omega)
        rw [(getI_ab (p := p) (A := [x]) (B := B) (s := s) ha (by simpa using hm) hb).2 (by omega) (by omega), show m + t - m = t by omega] at this
        rw [← e, getI_take _ _ _ (by omega) (by omega)]
        exact this
      have hhv : ∀ y ∈ B.drop (i - m), x.n ≤ y.n := by
        intro y hy
        obtain ⟨t, ht, e⟩ := mem_get hy
        have hl : (B.drop (i - m)).length = B.length - (i - m) := by simp
        have := hhi (i + t) (by omega) (by omega)
        rw [(getI_ab (p := p) (A := [x]) (B := B) (s := s) ha (by simpa using hm) hb).2 (by omega) (by omega)] at this
        have e2 := getI_right (B.take (i - m)) (B.drop (i - m)) (i + t - m) (by omega) (by omega)
        rw [← hBt, hvl, show i + t - m - (i - m) = t by omega] at e2
        rw [← e, ← e2]
        exact this
      generalize B.take (i - m) = v at hBt hvl hlv hhv
      generalize B.drop (i - m) = B2 at hBt hhv
      subst hBt
      have HS := Lib.hid hS
      have HT := Lib.hid (And.intro hlv (And.intro hhv (And.intro hB (And.intro ha (And.intro hvl hm)))))
      clear hlo hhi hS hlv hhv hB ha hm hb hvl hg HXA
      have hbn' : i ≤ n := by omega
      have ham : (a : Int) = (m : Int) - 1 := by omega
      have HAM := Lib.hid ham
      clear ham
      go_wp2_with fail
      go_loopg [13] (i - m) (fun g1 vk wr => ∃ (k : Nat) (v1 v2 : List Pk), vk = .int .i64 (k : Int) ∧ v = v1 ++ v2 ∧ k = a + v1.length ∧ v2.length ≤ g1 ∧ SR w0 g n c (p ++ v1 ++ [x] ++ v2 ++ B2 ++ s) wr)
      case atStart => exact ⟨a, [], v, rfl, rfl, by simp, by have := HT.out.2.2.2.2.1; omega, HS.out.cast (by simp)⟩
      case round =>
        clear HS
        obtain ⟨k, v1, v2, rfl, hv, hk, hg, hS⟩ := hrel
        have hvl := HT.out.2.2.2.2.1
        have hm := HT.out.2.2.2.2.2
        have ha := HT.out.2.2.2.1
        rw [hv] at hvl
        simp at hvl
        rcases v2 with _ | ⟨y, v2⟩
        · have hki : ¬ (k : Int) < (i : Int) - 1 := by simp at hvl; omega
          have HS2 := Lib.hid hS
          have HV := Lib.hid hv
          clear hS hv hk hg hvl hm ha
          go_wp2_with fail
          (try simp only [Exit.inBlock, Exit.then])
          refine bodyPost_ret (results_none rfl _ _ _) rfl ?_
          obtain ⟨hlv, hhv, hB, ha, hvl, hm⟩ := HT.out
          have hv := HV.out
          rw [List.append_nil] at hv
          subst hv
          refine ⟨rfl, v ++ [x] ++ B2, HS2.out.cast (by simp), ?_, ?_, by simp; omega⟩
          · refine Srt.append (Srt.append hB.left (srt_one x) fun u hu y hy => ?_) hB.right fun u hu y hy => ?_
            · rw [List.mem_singleton.1 hy]; exact Nat.le_of_lt (hlv u hu)
            · rcases List.mem_append.1 hu with q | q
              · exact hB.cross u q y hy
              · rw [List.mem_singleton.1 q]; exact hhv y hy
          · exact (Alike.turn (u := [x]) (v := v) fun u hu y hy => by rw [List.mem_singleton.1 hu]; exact hlv y hy).append (Alike.refl B2)
        · have hki : (k : Int) < (i : Int) - 1 := by simp at hvl; omega
          have hkn : k + 1 < n := by simp at hvl; omega
          have e1 : (p ++ v1 ++ [x] ++ (y :: v2) ++ B2 ++ s)[k]! = x := by
            have := getI_mid (p ++ v1) ((y :: v2) ++ B2 ++ s) x k (by simp; omega)
            simpa using this
          have e2 : (p ++ v1 ++ [x] ++ (y :: v2) ++ B2 ++ s)[k + 1]! = y := by
            have := getI_mid (p ++ v1 ++ [x]) (v2 ++ B2 ++ s) y (k + 1) (by simp; omega)
            simpa using this
          have e3 : exch (p ++ v1 ++ [x] ++ (y :: v2) ++ B2 ++ s) k (k + 1) = p ++ (v1 ++ [y]) ++ [x] ++ v2 ++ B2 ++ s := by
            have := exch_at (p ++ v1) [] (v2 ++ B2 ++ s) x y k (k + 1) (by simp; omega) (by simp; omega)
            simpa using this
          obtain ⟨⟨⟨c1, c1'⟩, f1, f1'⟩, ⟨⟨c2, c2'⟩, f2, f2'⟩, hS3⟩ := hS.two k (k + 1) (by omega) hkn e1 e2
          rw [e3] at hS3
          have z1 : ((k : Int) + 1).toNat = k + 1 := by omega
          have z2 : (0 : Int) ≤ (k : Int) + 1 := by omega
          have z3 : (k : Int) + 1 < (n : Int) := by omega
          have z4 : (k : Int) < (n : Int) := by omega
          have HS3 := Lib.hid hS3.drew
          have HV := Lib.hid (And.intro hv (And.intro hk hg))
          clear hS hS3 e1 e2 e3 hv hk hg hvl hm ha
          go_wp2_with fail
          go_big_region_o
          clear c1 c1' f1 f1' c2 c2' f2 f2'
          generalize World.drew _ = w3 at HS3 ⊢
          go_wp2_with fail
          go_roundg v2.length
          case measure => have := HV.out.2.2; simp at this; omega
          case rel => exact ⟨k + 1, v1 ++ [y], v2, by go_num, by rw [HV.out.1]; simp, by have := HV.out.2.1; simp; omega, Nat.le_refl _, HS3.out⟩
end
end Go.Proofs.Ytafdfjacfodbnaa
