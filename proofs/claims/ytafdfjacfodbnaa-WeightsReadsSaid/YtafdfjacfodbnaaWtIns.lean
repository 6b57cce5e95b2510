
/- The insertion sort of a part of a row. -/
import Derived.Test.YtafdfjacfodbnaaWtSortP
import Derived.Test.YtafdfjacfodbnaaWtCmp
import Derived.BigRegion
namespace Go.Proofs.Ytafdfjacfodbnaa
open Go.RowKit Go.Sort

theorem SR.cast {w0 W : World} {g n c : Nat} {xs ys : List Pk} (h : SR w0 g n c xs W) (e : xs = ys) : SR w0 g n c ys W := e ▸ h
theorem snoc_cases {α : Type} (l : List α) : l = [] ∨ ∃ p x, l = p ++ [x] := by
  rcases List.eq_nil_or_concat l with h | ⟨p, x, h⟩
  · exact .inl h
  · exact .inr ⟨p, x, by rw [h]; simp⟩

section
variable {w0 W : World} {g n c : Nat}
set_option maxRecDepth 100000 in
set_option maxHeartbeats 2000000 in
theorem ins_any (p A s : List Pk) (a b : Nat) (hS : SR w0 g n c (p ++ A ++ s) W) (ha : a = p.length) (hb : b = a + A.length) (hn : n ≤ 100000) :
    Calls Try.prog 94 #[.slice (some ⟨g, 0, none⟩) n c, .int .i64 (a : Int), .int .i64 (b : Int), .func (.func 63) #[] #[]] W fun e w' =>
      e = .returned (.tuple #[]) ∧ ∃ A', SR w0 g n c (p ++ A' ++ s) w' ∧ Srt A' ∧ Alike A A' ∧ A'.length = A.length := by
  have hlen := hS.len
  simp at hlen
  have HS := Lib.hid hS
  have HA := Lib.hid ha
  have HB := Lib.hid hb
  have HL := Lib.hid hlen
  have hbn : b ≤ n := by omega
  have hab : a ≤ b := by omega
  have mixed : Try.prog.follows .mixedOrders = true := by kernel_rfl
  clear hS ha hb hlen
  go_enter Try.func94, Try.ntmps94
  go_wp2_with fail
  go_loopg [8] (b - a) (fun g1 vi wr => ∃ (i : Nat) (A1 A2 A' : List Pk), vi = .int .i64 (i : Int) ∧ (i = a + A1.length ∨ A = [] ∧ i = a + 1) ∧ A2.length ≤ g1 ∧ A = A1 ++ A2 ∧ SR w0 g n c (p ++ A' ++ (A2 ++ s)) wr ∧ Srt A' ∧ Alike A1 A' ∧ A'.length = A1.length)
  case atStart =>
    rcases A with _ | ⟨x0, A0⟩
    · exact ⟨a + 1, [], [], [], by go_num, .inr ⟨rfl, rfl⟩, by simp, rfl, HS.out.cast (by simp), srt_nil, Alike.refl _, rfl⟩
    · exact ⟨a + 1, [x0], A0, [x0], by go_num, .inl rfl, by have := HB.out; simp at this; omega, rfl, HS.out.cast (by simp), srt_one _, Alike.refl _, rfl⟩
  case round =>
    clear HS
    obtain ⟨i, A1, A2, A', rfl, hi, hg1, hA, hS, hSrt, hAl, hLen⟩ := hrel
    have hbl := HB.out
    by_cases hlt : i < b
    · have hltz : (i : Int) < (b : Int) := by omega
      rcases A2 with _ | ⟨x, A2⟩
      · rw [hA] at hbl
        simp at hbl
        rcases hi with hi | ⟨hi, hi'⟩
        · omega
        · rw [hA] at hi
          simp at hi
          subst hi
          simp at hbl
          omega
      · have hia : i = a + A1.length := by
          rcases hi with hi | ⟨hi, _⟩
          · exact hi
          · rw [hA] at hi
            simp at hi
        clear hi
        have HS := Lib.hid hS
        have HH := Lib.hid (And.intro hA (And.intro hSrt (And.intro hAl (And.intro hLen (And.intro hia hg1)))))
        have HIa := Lib.hid (show i = a + A'.length by omega)
        have hai : a ≤ i := by omega
        clear hS hA hSrt hAl hLen hia hg1 hbl
        go_wp2_with fail
        go_loopg [9] (i - a) (fun g2 vj wr2 => ∃ (j : Nat) (B1 B2 : List Pk), vj = .int .i64 (j : Int) ∧ j = a + B1.length ∧ B1.length ≤ g2 ∧ A' = B1 ++ B2 ∧ (∀ y ∈ B2, x.n < y.n) ∧ SR w0 g n c (p ++ (B1 ++ x :: B2) ++ (A2 ++ s)) wr2)
        case atStart => exact ⟨i, A', [], rfl, HIa.out, by have := HIa.out; omega, by simp, (fun y hy => by cases hy), HS.out.cast (by simp)⟩
        case round =>
          clear HS
          obtain ⟨j, B1, B2, rfl, hj, hg2, hA', hx, hS⟩ := hrel
          have hnb : j < n := by
            have := hS.len
            have := HA.out
            simp at *
            omega
          rcases snoc_cases B1 with rfl | ⟨B1, z, rfl⟩
          · have hja : ¬ a < j := by simp at hj; omega
            have hjaz : decide ((j : Int) > (a : Int)) = false := decide_eq_false (by omega)
            have hjaz' : ¬ (a : Int) < (j : Int) := by omega
            have HT := Lib.hid (And.intro hA' (And.intro hx hS.drew))
            clear hS hA' hx hj
            go_wp2_with fail
            go_big_region_o
            all_goals go_wp2_with fail
            go_roundg (b - (i + 1))
            case measure => have := HH.out.2.2.2.2.2; have := HH.out.2.2.2.2.1; have := HB.out; rw [HH.out.1] at this; simp at *; omega
            case rel =>
              obtain ⟨hA', hx, hS⟩ := HT.out
              obtain ⟨hA, hSrt, hAl, hLen, hia, hg1⟩ := HH.out
              simp only [List.nil_append] at hA'
              subst hA'
              refine ⟨i + 1, A1 ++ [x], A2, x :: A', by go_num, .inl (by simp; omega), by have := HB.out; rw [hA] at this; simp at this; omega, by rw [hA]; simp, hS.cast (by simp), ?_, ?_, by simp [hLen]⟩
              · exact List.pairwise_cons.2 ⟨fun y hy => Nat.le_of_lt (hx y hy), hSrt⟩
              · exact (hAl.append (Alike.refl [x])).trans (Alike.turn (u := A') (v := [x]) fun u hu v hv => by rw [List.mem_singleton.1 hv]; exact hx u hu)
          · obtain ⟨k, rfl⟩ : ∃ k, j = k + 1 := ⟨j - 1, by simp at hj; omega⟩
            have hk : k = a + B1.length := by simp at hj; omega
            have hja : (a : Int) < (k : Int) + 1 := by omega
            have hkn : k < n := by omega
            have e1 : (p ++ (B1 ++ [z] ++ x :: B2) ++ (A2 ++ s))[k + 1]! = x := by
              have := getI_mid (p ++ B1 ++ [z]) (B2 ++ (A2 ++ s)) x (k + 1) (by have := HA.out; simp; omega)
              simpa using this
            have e2 : (p ++ (B1 ++ [z] ++ x :: B2) ++ (A2 ++ s))[k]! = z := by
              have := getI_mid (p ++ B1) (x :: B2 ++ (A2 ++ s)) z k (by have := HA.out; simp; omega)
              simpa using this
            have hc1 := hS.cellsG (k + 1) hnb
            have hc2 := hS.cellsG k hkn
            rw [e1] at hc1
            rw [e2] at hc2
            obtain ⟨c1, c1'⟩ := hc1
            obtain ⟨c2, c2'⟩ := hc2
            have hcg := fun q os => cmp_grown x z wr q os
            have z1 : ((k : Int) + 1).toNat = k + 1 := by omega
            have z2 : (0 : Int) ≤ (k : Int) + 1 := by omega
            have z3 : (k : Int) + 1 < (n : Int) := by omega
            have z4 : (k : Int) < (n : Int) := by omega
            have z5 : IntKind.i64.wrap (k : Int) = (k : Int) := by rw [IntKind.wrap_i64]; omega
            have HE := Lib.hid (And.intro e1 e2)
            have HS := Lib.hid hS
            have HT := Lib.hid (And.intro hA' (And.intro hx (And.intro hk hg2)))
            have hcl := cmpN_lt x.n z.n
            generalize cmpN x.n z.n = r at hcg hcl
            clear hS hA' hx hj e1 e2 hk hg2
            by_cases hv : x.n < z.n
            · have hr : decide (r < 0) = true := by rw [hcl]; exact decide_eq_true hv
              have hr' : r < 0 := of_decide_eq_true hr
              clear hcl
              go_wp2_with fail
              go_quiet_grown (first | (go_at_call 63; exact hcg _ _))
              have hS2 := HS.out.grown nq osq
              clear c1 c1' c2 c2' hcg HS
              generalize grow (wr.drewN nq) osq = w2 at hS2 ⊢
              clear nq osq
              obtain ⟨⟨⟨c1, c1'⟩, f1, f1'⟩, ⟨⟨c2, c2'⟩, f2, f2'⟩, hS3⟩ := hS2.two (k + 1) k hnb hkn HE.out.1 HE.out.2
              have HS3 := Lib.hid hS3
              clear hS2 hS3
              go_wp2_with fail
              go_big_region_o
              clear c1 c1' f1 f1' c2 c2' f2 f2'
              have HS4 := Lib.hid HS3.out.drew
              clear HS3
              generalize World.drew _ = w3 at HS4 ⊢
              go_wp2_with fail
              go_roundg B1.length
              case measure => have := HT.out.2.2.2; simp at this; omega
              case rel =>
                obtain ⟨hA', hx, hk, hg2⟩ := HT.out
                refine ⟨k, B1, z :: B2, by go_num, hk, Nat.le_refl _, by rw [hA']; simp, fun y hy => ?_, HS4.out.cast ?_⟩
                · rcases List.mem_cons.1 hy with rfl | q
                  · exact hv
                  · exact hx y q
                · have := exch_at (p ++ B1) [] (B2 ++ (A2 ++ s)) z x k (k + 1) (by have := HA.out; simp; omega) (by have := HA.out; simp; omega)
                  rw [exch_comm]
                  simpa using this
            · have hr : decide (r < 0) = false := by rw [hcl]; exact decide_eq_false hv
              have hr' : ¬ r < 0 := of_decide_eq_false hr
              clear hcl
              go_wp2_with fail
              go_quiet_grown (first | (go_at_call 63; exact hcg _ _))
              have HS2 := Lib.hid (HS.out.grown nq osq)
              clear c1 c1' c2 c2' hcg HS
              generalize grow (wr.drewN nq) osq = w2 at HS2 ⊢
              clear nq osq
              go_wp2_with fail
              go_roundg (b - (i + 1))
              case measure => have := HH.out.2.2.2.2.2; have := HH.out.2.2.2.2.1; have := HB.out; rw [HH.out.1] at this; simp at *; omega
              case rel =>
                obtain ⟨hA', hx, hk, hg2⟩ := HT.out
                obtain ⟨hA, hSrt, hAl, hLen, hia, hg1⟩ := HH.out
                subst hA'
                refine ⟨i + 1, A1 ++ [x], A2, B1 ++ [z] ++ x :: B2, by go_num, .inl (by simp; omega), by have := HB.out; rw [hA] at this; simp at this; omega, by rw [hA]; simp, HS2.out, ?_, ?_, by simp at hLen ⊢; omega⟩
                · refine Srt.append hSrt.left (List.pairwise_cons.2 ⟨fun y hy => Nat.le_of_lt (hx y hy), hSrt.right⟩) fun u hu v hv' => ?_
                  have huz : u.n ≤ z.n := by
                    rcases List.mem_append.1 hu with q | q
                    · exact hSrt.left.cross u q z (by simp)
                    · rw [List.mem_singleton.1 q]; exact Nat.le_refl _
                  rcases List.mem_cons.1 hv' with rfl | q
                  · omega
                  · exact hSrt.cross u hu v q
                · refine (hAl.append (Alike.refl [x])).trans ?_
                  rw [List.append_assoc (B1 ++ [z])]
                  exact (Alike.refl _).append (Alike.turn (u := B2) (v := [x]) fun u hu v hv => by rw [List.mem_singleton.1 hv]; exact hx u hu)
    · have hltz : ¬ (i : Int) < (b : Int) := by omega
      have hA2 : A2 = [] := by
        rcases hi with hi | ⟨hi, hi'⟩
        · rw [hA] at hbl
          simp at hbl
          exact List.eq_nil_of_length_eq_zero (by omega)
        · rw [hA] at hi
          simp at hi
          exact hi.2
      subst hA2
      have HH := Lib.hid (And.intro hA (And.intro hSrt (And.intro hAl (And.intro hLen hS))))
      clear hS hA hSrt hAl hLen hi hg1 hbl
      go_wp2_with fail
      go_end0
      obtain ⟨hA, hSrt, hAl, hLen, hS⟩ := HH.out
      exact ⟨rfl, A', hS.cast (by simp), hSrt, by rw [hA, List.append_nil]; exact hAl, by rw [hA, List.append_nil]; exact hLen⟩
end
end Go.Proofs.Ytafdfjacfodbnaa
