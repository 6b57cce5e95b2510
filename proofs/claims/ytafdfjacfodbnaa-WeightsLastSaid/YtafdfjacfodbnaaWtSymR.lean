
/- Merging where the right part is of one element. -/
import Derived.Test.YtafdfjacfodbnaaWtSymL
namespace Go.Proofs.Ytafdfjacfodbnaa
open Go.RowKit Go.Sort

section
variable {w0 W : World} {g n c : Nat}
set_option maxRecDepth 100000 in
set_option maxHeartbeats 2000000 in
theorem symR_any (p A s : List Pk) (x : Pk) (a m b : Nat) (hS : SR w0 g n c (p ++ A ++ [x] ++ s) W) (ha : a = p.length) (hm : m = a + A.length) (hb : b = m + 1) (hA : Srt A) (hA2 : A.length ≠ 1) (hn : n ≤ 100000) :
    Calls Try.prog 95 #[.slice (some ⟨g, 0, none⟩) n c, .int .i64 (a : Int), .int .i64 (m : Int), .int .i64 (b : Int), .func (.func 63) #[] #[]] W fun e w' =>
      e = .returned (.tuple #[]) ∧ ∃ C, SR w0 g n c (p ++ C ++ s) w' ∧ Srt C ∧ Alike (A ++ [x]) C ∧ C.length = A.length + 1 := by
  have hlen := hS.len
  simp at hlen
  have HS := Lib.hid hS
  have HH := Lib.hid (And.intro ha (And.intro hm (And.intro hb hA)))
  have hbn : b ≤ n := by omega
  have ham : a ≤ m := by omega
  have h0 : ((m : Int) - (a : Int) == 1) = false := by rw [beq_eq_false_iff_ne]; omega
  have h1 : (b : Int) - (m : Int) = 1 := by omega
  have hmn : m < n := by omega
  have mixed : Try.prog.follows .mixedOrders = true := by kernel_rfl
  have hxa := getI_mid (p ++ A) s x m (by simp; omega)
  have HXA : Hid ((p ++ A ++ [x] ++ s)[m]! = x) := by show _ = _; rw [show p ++ A ++ [x] ++ s = p ++ A ++ x :: s by simp]; exact hxa
  clear hS ha hb hlen hm hA hA2 hxa
  go_enter Try.func95, Try.ntmps95
  go_wp2_with fail
  go_loopg [14, 15] (m - a) (fun g1 vi vj wr => ∃ (i j : Nat), vi = .int .i64 (i : Int) ∧ vj = .int .i64 (j : Int) ∧ a ≤ i ∧ i ≤ j ∧ j ≤ m ∧ j - i ≤ g1 ∧ (∀ t, a ≤ t → t < i → (p ++ A ++ [x] ++ s)[t]!.n ≤ x.n) ∧ (∀ t, j ≤ t → t < m → x.n < (p ++ A ++ [x] ++ s)[t]!.n) ∧ SR w0 g n c (p ++ A ++ [x] ++ s) wr)
  case atStart => exact ⟨a, m, rfl, rfl, Nat.le_refl _, ham, Nat.le_refl _, Nat.le_refl _, fun t q1 q2 => by omega, fun t q1 q2 => by omega, HS.out⟩
  case round =>
    clear HS
    obtain ⟨i, j, rfl, rfl, hai, hij, hjm, hg, hlo, hhi, hS⟩ := hrel
    by_cases hlt : i < j
    · have hltz : (i : Int) < (j : Int) := by omega
      obtain ⟨h, hh⟩ : ∃ h, h = (i + j) / 2 := ⟨_, rfl⟩
      have hih : i ≤ h := by omega
      have hhj : h < j := by omega
      have hhz : ((i : Int) + (j : Int)) / 2 = (h : Int) := by omega
      obtain ⟨y, hy⟩ : ∃ y, (p ++ A ++ [x] ++ s)[h]! = y := ⟨_, rfl⟩
      have hc1 := hS.cellsG h (by omega)
      have hc2 := hS.cellsG m hmn
      rw [hy] at hc1
      rw [HXA.out] at hc2
      obtain ⟨c1, c1'⟩ := hc1
      obtain ⟨c2, c2'⟩ := hc2
      have hcg := fun q os => cmp_grown x y wr q os
      have z4 : (h : Int) < (n : Int) := by omega
      have z5 : (m : Int) < (n : Int) := by omega
      have HT := Lib.hid (And.intro hlo (And.intro hhi (And.intro hy (And.intro hg hh))))
      have HS := Lib.hid hS
      have hcl := cmpN_lt x.n y.n
      generalize cmpN x.n y.n = r at hcg hcl
      clear hS hlo hhi hy hg hh
      have HR : Hid (∀ t, a ≤ t → t < m → ∀ t', a ≤ t' → t' ≤ t → (p ++ A ++ [x] ++ s)[t']!.n ≤ (p ++ A ++ [x] ++ s)[t]!.n) := by
        intro t q1 q2 t' q3 q4
        obtain ⟨ha, hm, hb, hA⟩ := HH.out
        rw [(getI_ab (p := p) (A := A) (B := [x]) (s := s) ha hm (by simpa using hb)).1 q1 q2, (getI_ab (p := p) (A := A) (B := [x]) (s := s) ha hm (by simpa using hb)).1 q3 (by omega)]
        exact hA.get (by omega) (by omega)
      by_cases hv : x.n < y.n
      · have hr : decide (r < 0) = true := by rw [hcl]; exact decide_eq_true hv
        have hr' : r < 0 := of_decide_eq_true hr
        clear hcl
        go_wp2_with fail
        go_quiet_grown (first | (go_at_call 63; exact hcg _ _))
        have HS2 := Lib.hid (HS.out.grown nq osq)
        clear c1 c1' c2 c2' hcg HS
        generalize grow (wr.drewN nq) osq = w2 at HS2 ⊢
        clear nq osq
        go_wp2_with fail
        go_roundg (h - i)
        case measure => have := HT.out.2.2.2.1; omega
        case rel =>
          obtain ⟨hlo, hhi, hy, hg, hh⟩ := HT.out
          refine ⟨i, h, rfl, rfl, hai, hih, by omega, Nat.le_refl _, hlo, fun t q1 q2 => ?_, HS2.out⟩
          have := HR.out t (by omega) q2 h (by omega) q1
          rw [hy] at this
          omega
      · have hr : decide (r < 0) = false := by rw [hcl]; exact decide_eq_false hv
        have hr' : ¬ r < 0 := of_decide_eq_false hr
        clear hcl
        go_wp2_with fail
        go_quiet_grown (first | (go_at_call 63; exact hcg _ _))
        have HS2 := Lib.hid (HS.out.grown nq osq)
        clear c1 c1' c2 c2' hcg HS
        generalize grow (wr.drewN nq) osq = w2 at HS2 ⊢
        clear nq osq
        go_wp2_with fail
        go_roundg (j - (h + 1))
        case measure => have := HT.out.2.2.2.1; omega
        case rel =>
          obtain ⟨hlo, hhi, hy, hg, hh⟩ := HT.out
          refine ⟨h + 1, j, by go_num, rfl, by omega, by omega, hjm, Nat.le_refl _, fun t q1 q2 => ?_, hhi, HS2.out⟩
          have := HR.out h (by omega) (by omega) t q1 (by omega)
          rw [hy] at this
          omega
    · obtain rfl : i = j := by omega
      have hltz : ¬ (i : Int) < (i : Int) := by omega
      obtain ⟨ha, hm, hb, hA⟩ := HH.out
      have hAt : A = A.take (i - a) ++ A.drop (i - a) := (List.take_append_drop _ A).symm
      have hvl : (A.take (i - a)).length = i - a := by simp; omega
      have hlv : ∀ y ∈ A.take (i - a), y.n ≤ x.n := by
        intro y hy
        obtain ⟨t, ht, e⟩ := mem_get hy
        have := hlo (a + t) (by omega) (by omega)
        rw [(getI_ab (p := p) (A := A) (B := [x]) (s := s) ha hm (by simpa using hb)).1 (by omega) (by omega), show a + t - a = t by omega] at this
        rw [← e, getI_take _ _ _ (by omega) (by omega)]
        exact this
      have hhv : ∀ y ∈ A.drop (i - a), x.n < y.n := by
        intro y hy
        obtain ⟨t, ht, e⟩ := mem_get hy
        have hl : (A.drop (i - a)).length = A.length - (i - a) := by simp
        have := hhi (i + t) (by omega) (by omega)
        rw [(getI_ab (p := p) (A := A) (B := [x]) (s := s) ha hm (by simpa using hb)).1 (by omega) (by omega)] at this
        have e2 := getI_right (A.take (i - a)) (A.drop (i - a)) (i + t - a) (by omega) (by omega)
        rw [← hAt, hvl, show i + t - a - (i - a) = t by omega] at e2
        rw [← e, ← e2]
        exact this
      have hdl : (A.drop (i - a)).length = m - i := by simp; omega
      generalize A.take (i - a) = A1 at hAt hvl hlv hhv
      generalize A.drop (i - a) = v at hAt hhv hdl
      subst hAt
      have HS := Lib.hid hS
      have HT := Lib.hid (And.intro hlv (And.intro hhv (And.intro hA (And.intro ha (And.intro hvl hdl)))))
      clear hlo hhi hS hlv hhv hA ha hm hb hvl hg HXA hdl
      go_wp2_with fail
      go_loopg [17] (m - i) (fun g1 vk wr => ∃ (k : Nat) (v1 v2 : List Pk), vk = .int .i64 (k : Int) ∧ v = v1 ++ v2 ∧ k = i + v1.length ∧ v1.length ≤ g1 ∧ SR w0 g n c (p ++ A1 ++ v1 ++ [x] ++ v2 ++ s) wr)
      case atStart => exact ⟨m, v, [], rfl, by simp, by have := HT.out.2.2.2.2.2; omega, by have := HT.out.2.2.2.2.2; omega, HS.out.cast (by simp)⟩
      case round =>
        clear HS
        obtain ⟨k, v1, v2, rfl, hv, hk, hg, hS⟩ := hrel
        have hvl := HT.out.2.2.2.2.1
        have hdl := HT.out.2.2.2.2.2
        have ha := HT.out.2.2.2.1
        rw [hv] at hdl
        simp at hdl
        rcases snoc_cases v1 with rfl | ⟨v1, y, rfl⟩
        · have hki : ¬ (i : Int) < (k : Int) := by simp at hk; omega
          have HS2 := Lib.hid hS
          have HV := Lib.hid hv
          clear hS hv hk hg hvl hdl ha
          go_wp2_with fail
          (try simp only [Exit.inBlock, Exit.then])
          refine bodyPost_ret (results_none rfl _ _ _) rfl ?_
          obtain ⟨hlv, hhv, hA, ha, hvl, hdl⟩ := HT.out
          have hv := HV.out
          rw [List.nil_append] at hv
          subst hv
          refine ⟨rfl, A1 ++ ([x] ++ v), HS2.out.cast (by simp), ?_, ?_, by simp; omega⟩
          · refine Srt.append hA.left (Srt.append (srt_one x) hA.right fun u hu y hy => ?_) fun u hu y hy => ?_
            · rw [List.mem_singleton.1 hu]; exact Nat.le_of_lt (hhv y hy)
            · rcases List.mem_append.1 hy with q | q
              · rw [List.mem_singleton.1 q]; exact hlv u hu
              · exact hA.cross u hu y q
          · exact (Alike.refl A1).append (Alike.turn (u := v) (v := [x]) fun u hu y hy => by rw [List.mem_singleton.1 hy]; exact hhv u hu)
        · have hvk : k = i + v1.length + 1 := by simp at hk; omega
          obtain ⟨q, rfl⟩ : ∃ q, k = q + 1 := ⟨k - 1, by omega⟩
          have hki : (i : Int) < (q : Int) + 1 := by omega
          have hqm : q + 1 ≤ m := by simp at hdl; omega
          have hkn : q + 1 < n := by omega
          have e1 : (p ++ A1 ++ (v1 ++ [y]) ++ [x] ++ v2 ++ s)[q + 1]! = x := by
            have := getI_mid (p ++ A1 ++ (v1 ++ [y])) (v2 ++ s) x (q + 1) (by simp; omega)
            simpa using this
          have e2 : (p ++ A1 ++ (v1 ++ [y]) ++ [x] ++ v2 ++ s)[q]! = y := by
            have := getI_mid (p ++ A1 ++ v1) ([x] ++ v2 ++ s) y q (by simp; omega)
            simpa using this
          have e3 : exch (p ++ A1 ++ (v1 ++ [y]) ++ [x] ++ v2 ++ s) (q + 1) q = p ++ A1 ++ v1 ++ [x] ++ (y :: v2) ++ s := by
            have := exch_at (p ++ A1 ++ v1) [] (v2 ++ s) y x q (q + 1) (by simp; omega) (by simp; omega)
            rw [exch_comm]
            simpa using this
          obtain ⟨⟨⟨c1, c1'⟩, f1, f1'⟩, ⟨⟨c2, c2'⟩, f2, f2'⟩, hS3⟩ := hS.two (q + 1) q hkn (by omega) e1 e2
          rw [e3] at hS3
          have z1 : ((q : Int) + 1).toNat = q + 1 := by omega
          have z2 : (0 : Int) ≤ (q : Int) + 1 := by omega
          have z3 : (q : Int) + 1 < (n : Int) := by omega
          have z4 : (q : Int) < (n : Int) := by omega
          have z5 : IntKind.i64.wrap (q : Int) = (q : Int) := by rw [IntKind.wrap_i64]; omega
          have HS3 := Lib.hid hS3.drew
          have HV := Lib.hid (And.intro hv (And.intro hvk hg))
          clear hS hS3 e1 e2 e3 hv hk hg hvl hdl ha hvk
          go_wp2_with fail
          go_big_region_o
          clear c1 c1' f1 f1' c2 c2' f2 f2'
          generalize World.drew _ = w3 at HS3 ⊢
          go_wp2_with fail
          go_roundg v1.length
          case measure => have := HV.out.2.2; simp at this; omega
          case rel => exact ⟨q, v1, y :: v2, by go_num, by rw [HV.out.1]; simp, by have := HV.out.2.1; omega, Nat.le_refl _, HS3.out⟩
end
end Go.Proofs.Ytafdfjacfodbnaa
