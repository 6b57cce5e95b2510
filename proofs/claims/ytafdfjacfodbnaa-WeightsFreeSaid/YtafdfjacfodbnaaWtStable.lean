
/- The stable sort of a row of bundles. -/
import Derived.Test.YtafdfjacfodbnaaWtSym
namespace Go.Proofs.Ytafdfjacfodbnaa
open Go.RowKit Go.Sort

/-- A part of a list. -/
def seg (xs : List Pk) (i k : Nat) : List Pk := (xs.drop i).take k
/-- Each run of k is in order. -/
def Runs (k : Nat) (xs : List Pk) : Prop := ∀ t, Srt (seg xs (t * k) k)

theorem seg_left (p r : List Pk) (i k : Nat) (h : i + k ≤ p.length) : seg (p ++ r) i k = seg p i k := by
  unfold seg
  rw [List.drop_append_of_le_length (by omega), List.take_append_of_le_length (by simp; omega)]
theorem seg_right (p r : List Pk) (i k : Nat) (h : p.length ≤ i) : seg (p ++ r) i k = seg r (i - p.length) k := by
  unfold seg
  rw [List.drop_append, List.drop_of_length_le h, List.nil_append]
theorem seg_len (xs : List Pk) (i k : Nat) : (seg xs i k).length = min k (xs.length - i) := by simp [seg]
theorem seg_mid (p A s : List Pk) (k : Nat) (h : A.length = k ∨ A.length ≤ k ∧ s = []) : seg (p ++ A ++ s) p.length k = A := by
  rw [List.append_assoc, seg_right _ _ _ _ (Nat.le_refl _), Nat.sub_self]
  unfold seg
  rw [List.drop_zero]
  rcases h with h | ⟨h, rfl⟩
  · rw [List.take_append_of_le_length (by omega), List.take_of_length_le (by omega)]
  · rw [List.append_nil, List.take_of_length_le h]
theorem split2 (xs : List Pk) (i k : Nat) : xs = xs.take i ++ seg xs i k ++ xs.drop (i + k) := by
  unfold seg
  rw [List.append_assoc, ← List.drop_drop, List.take_append_drop, List.take_append_drop]
theorem split3 (xs : List Pk) (i k j : Nat) : xs = xs.take i ++ seg xs i k ++ seg xs (i + k) j ++ xs.drop (i + k + j) := by
  have e := split2 (xs.drop (i + k)) 0 j
  conv => lhs; rw [split2 xs i k]
  rw [List.append_assoc _ (seg xs (i + k) j)]
  congr 1
  simpa [seg] using e
theorem srt_tail {xs : List Pk} {i k j : Nat} (h : Srt (seg xs i k)) (hj : j ≤ k) (hl : xs.length ≤ i + j) : Srt (seg xs i j) := by
  have e : seg xs i j = seg xs i k := by
    unfold seg
    rw [List.take_of_length_le (by simp; omega), List.take_of_length_le (by simp; omega)]
  rw [e]
  exact h
theorem seg_nil {xs : List Pk} {i k : Nat} (h : xs.length ≤ i) : seg xs i k = [] := by
  unfold seg
  rw [List.drop_of_length_le h, List.take_nil]
/-- One more part is in order. -/
theorem blk_next {p A A' s : List Pk} {q k : Nat} (hp : p.length = q * k) (hl : A'.length = k ∨ A'.length ≤ k ∧ s = []) (hs : Srt A') (h : ∀ t, t < q → Srt (seg (p ++ A ++ s) (t * k) k)) : ∀ t, t < q + 1 → Srt (seg (p ++ A' ++ s) (t * k) k) := by
  intro t ht
  by_cases hq : t = q
  · subst hq
    rw [← hp, seg_mid p A' s k hl]
    exact hs
  · have h1 : (t + 1) * k ≤ q * k := Nat.mul_le_mul_right _ (by omega)
    rw [Nat.add_mul, Nat.one_mul] at h1
    have := h t (by omega)
    rw [List.append_assoc, seg_left _ _ _ _ (by omega)] at this ⊢
    exact this
theorem runs_of {xs : List Pk} {q k : Nat} (h : ∀ t, t < q → Srt (seg xs (t * k) k)) (hl : xs.length ≤ q * k) : Runs k xs := by
  intro t
  by_cases ht : t < q
  · exact h t ht
  · have h1 : q * k ≤ t * k := Nat.mul_le_mul_right _ (by omega)
    rw [seg_nil (by omega)]
    exact srt_nil
theorem runs_whole {xs : List Pk} {k : Nat} (h : Runs k xs) (hl : xs.length ≤ k) : Srt xs := by
  have := h 0
  unfold seg at this
  rw [Nat.zero_mul, List.drop_zero, List.take_of_length_le hl] at this
  exact this

theorem alike_mid {L A : List Pk} {i k : Nat} (h : Alike (seg L i k) A) : Alike L (L.take i ++ A ++ L.drop (i + k)) := by
  conv => lhs; rw [split2 L i k]
  exact ((Alike.refl _).append h).append (Alike.refl _)
theorem alike_two {L C : List Pk} {i k j : Nat} (h : Alike (seg L i k ++ seg L (i + k) j) C) : Alike L (L.take i ++ C ++ L.drop (i + k + j)) := by
  conv => lhs; rw [split3 L i k j, List.append_assoc (L.take i)]
  exact ((Alike.refl _).append h).append (Alike.refl _)
theorem blk_rest {p A A' s : List Pk} (h : A'.length = A.length) (i k : Nat) (hi : p.length + A.length ≤ i) : seg (p ++ A' ++ s) i k = seg (p ++ A ++ s) i k := by
  rw [seg_right _ _ _ _ (by simp; omega), seg_right _ _ _ _ (by simp; omega)]
  simp [h]

section
variable {w0 W : World} {g n c : Nat}
set_option maxRecDepth 100000 in
set_option maxHeartbeats 4000000 in
theorem stable_any (L : List Pk) (hS : SR w0 g n c L W) (hn : n ≤ 100000) :
    Calls Try.prog 83 #[.slice (some ⟨g, 0, none⟩) n c, .int .i64 (n : Int), .func (.func 63) #[] #[]] W fun e w' =>
      e = .returned (.tuple #[]) ∧ ∃ L', SR w0 g n c L' w' ∧ Srt L' ∧ Alike L L' := by
  have HS := Lib.hid hS
  clear hS
  go_enter Try.func83, Try.ntmps83
  go_wp2_with fail
  go_loopg [7, 8] n (fun g1 va vb wr => ∃ (q : Nat) (L' : List Pk), va = .int .i64 ((q * 20 : Nat) : Int) ∧ vb = .int .i64 ((q * 20 + 20 : Nat) : Int) ∧ q * 20 ≤ n ∧ n - q * 20 ≤ g1 ∧ SR w0 g n c L' wr ∧ Alike L L' ∧ ∀ t, t < q → Srt (seg L' (t * 20) 20))
  case atStart => exact ⟨0, L, by go_num, by go_num, by omega, by omega, HS.out, Alike.refl _, fun t ht => absurd ht (by omega)⟩
  case round =>
    clear HS
    obtain ⟨q, L', rfl, rfl, hq, hg, hS, hAl, hB⟩ := hrel
    have hl := hS.len
    obtain ⟨a, ha⟩ : ∃ a, a = q * 20 := ⟨_, rfl⟩
    rw [← ha] at hq hg ⊢
    have HA := Lib.hid ha
    by_cases hlt : a + 20 ≤ n
    · have hltz : ((a + 20 : Nat) : Int) ≤ (n : Int) := by omega
      have HC := Lib.hid (ins_any (L'.take a) (seg L' a 20) (L'.drop (a + 20)) a (a + 20) (hS.cast (split2 L' a 20)) (by simp; omega) (by rw [seg_len]; omega) hn)
      have HT := Lib.hid (And.intro hAl (And.intro hB (And.intro hg hl)))
      clear hS hAl hB hg hl ha
      go_wp2_with fail
      refine HC.out.mono ?_
      rintro _ w2 ⟨rfl, A', hS, h1, h2, h3⟩
      have HS := Lib.hid (And.intro hS (And.intro h1 (And.intro h2 h3)))
      clear hS h1 h2 h3 HC
      go_wp2_with fail
      go_roundg (n - (a + 20))
      case measure => have := HT.out.2.2.1; omega
      case rel =>
        obtain ⟨hAl, hB, hg, hl⟩ := HT.out
        obtain ⟨hS, h1, h2, h3⟩ := HS.out
        have ha := HA.out
        rw [seg_len] at h3
        refine ⟨q + 1, _, by rw [ha]; go_num, by rw [ha]; go_num, by omega, by omega, hS, ?_, ?_⟩
        · exact hAl.trans (alike_mid h2)
        · refine blk_next (A := seg L' a 20) (by simp; omega) (.inl (by omega)) h1 ?_
          rw [← split2]
          exact hB
    · have hltz : ¬ ((a + 20 : Nat) : Int) ≤ (n : Int) := by omega
      have HC := Lib.hid (ins_any (L'.take a) (seg L' a 20) (L'.drop (a + 20)) a n (hS.cast (split2 L' a 20)) (by simp; omega) (by rw [seg_len]; omega) hn)
      have HT := Lib.hid (And.intro hAl (And.intro hB hl))
      clear hS hAl hB hg hl ha
      go_wp2_with fail
      refine HC.out.mono ?_
      rintro _ w2 ⟨rfl, A', hS, h1, h2, h3⟩
      have HR : Hid (∃ L2, SR w0 g n c L2 w2 ∧ Alike L L2 ∧ Runs 20 L2) := by
        obtain ⟨hAl, hB, hl⟩ := HT.out
        have ha := HA.out
        rw [seg_len] at h3
        have hd : L'.drop (a + 20) = [] := List.drop_of_length_le (by omega)
        refine ⟨_, hS, hAl.trans (alike_mid h2), ?_⟩
        refine runs_of (q := q + 1) (blk_next (A := seg L' a 20) (by simp; omega) (.inr ⟨by omega, hd⟩) h1 (by rw [← split2]; exact hB)) ?_
        simp
        omega
      clear hS h1 h2 h3 HC HT HA
      go_wp2_with fail
      go_loopg [6] n (fun g1 vb wr => ∃ (bs : Nat) (L' : List Pk), vb = .int .i64 (bs : Int) ∧ 0 < bs ∧ n - bs ≤ g1 ∧ bs ≤ 200000 ∧ SR w0 g n c L' wr ∧ Alike L L' ∧ Runs bs L')
      case atStart =>
        obtain ⟨L2, h1, h2, h3⟩ := HR.out
        exact ⟨20, L2, by go_num, by omega, by omega, by omega, h1, h2, h3⟩
      case round =>
        clear HR
        obtain ⟨bs, L1, rfl, hb0, hg, hb2, hS, hAl, hR⟩ := hrel
        by_cases hlt2 : bs < n
        · have hlz : (bs : Int) < (n : Int) := by omega
          have HS := Lib.hid (And.intro hS (And.intro hAl (And.intro hR hg)))
          clear hS hAl hR hg hltz hlt
          go_wp2_with fail
          go_loopg [7, 8] n (fun g2 va vb wr => ∃ (q a : Nat) (L2 : List Pk), va = .int .i64 (a : Int) ∧ vb = .int .i64 ((a + 2 * bs : Nat) : Int) ∧ a = q * (2 * bs) ∧ a ≤ n ∧ n - a ≤ g2 ∧ SR w0 g n c L2 wr ∧ Alike L L2 ∧ (∀ t, t < q → Srt (seg L2 (t * (2 * bs)) (2 * bs))) ∧ ∀ t, a ≤ t * bs → Srt (seg L2 (t * bs) bs))
          case atStart => exact ⟨0, 0, L1, rfl, by go_num, by omega, by omega, by omega, HS.out.1, HS.out.2.1, fun t ht => absurd ht (by omega), fun t _ => HS.out.2.2.1 t⟩
          case round =>
            have HG := Lib.hid HS.out.2.2.2
            clear HS
            obtain ⟨q, a, L2, rfl, rfl, ha, hq, hg, hS, hAl, hB, hR⟩ := hrel
            have hl := hS.len
            have ea : (2 * q) * bs = a := by rw [ha, Nat.mul_comm 2 q, Nat.mul_assoc]
            have ea1 : (2 * q + 1) * bs = a + bs := by rw [Nat.add_mul, Nat.one_mul, ea]
            have r1 := hR (2 * q) (by omega)
            have r2 := hR (2 * q + 1) (by omega)
            rw [ea] at r1
            rw [ea1] at r2
            by_cases hlt3 : a + 2 * bs ≤ n
            · have hltz : (a : Int) + 2 * (bs : Int) ≤ (n : Int) := by omega
              have hsl1 : (seg L2 a bs).length = bs := by rw [seg_len]; omega
              have hsl2 : (seg L2 (a + bs) bs).length = bs := by rw [seg_len]; omega
              have hC := sym_any hn (2 * bs + 1) (L2.take a) (seg L2 a bs) (seg L2 (a + bs) bs) (L2.drop (a + bs + bs)) a (a + bs) (a + 2 * bs) wr (by omega) (hS.cast (split3 L2 a bs bs)) (by simp; omega) (by omega) (by omega) (by omega) (by omega) r1 r2
              rw [show ((a + bs : Nat) : Int) = (a : Int) + (bs : Int) by omega, show ((a + 2 * bs : Nat) : Int) = (a : Int) + 2 * (bs : Int) by omega] at hC
              have HC := Lib.hid hC
              have HT := Lib.hid (And.intro hAl (And.intro hB (And.intro hR (And.intro hg (And.intro hl (And.intro ha (And.intro hsl1 hsl2)))))))
              clear hS hAl hB hg hl ha hR r1 r2 ea ea1 hsl1 hsl2 hC
              go_wp2_with fail
              refine HC.out.mono ?_
              rintro _ w3 ⟨rfl, C, hS, h1, h2, h3⟩
              have HS := Lib.hid (And.intro hS (And.intro h1 (And.intro h2 h3)))
              clear hS h1 h2 h3 HC
              go_wp2_with fail
              go_roundg (n - (a + 2 * bs))
              case measure => have := HT.out.2.2.2.1; omega
              case rel =>
                obtain ⟨hAl, hB, hR, hg, hl, ha, hsl1, hsl2⟩ := HT.out
                obtain ⟨hS, h1, h2, h3⟩ := HS.out
                have hp : (L2.take a).length = a := by simp; omega
                refine ⟨q + 1, a + 2 * bs, _, by go_num, by go_num, by rw [Nat.add_mul, Nat.one_mul, ← ha], by omega, by omega, hS, hAl.trans (alike_two h2), ?_, ?_⟩
                · refine blk_next (A := seg L2 a bs ++ seg L2 (a + bs) bs) (by rw [hp, ha]) (.inl (by omega)) h1 ?_
                  rw [← List.append_assoc (L2.take a), ← split3]
                  exact hB
                · intro t ht
                  rw [blk_rest (A := seg L2 a bs ++ seg L2 (a + bs) bs) (by simp; omega) _ _ (by simp; omega), ← List.append_assoc (L2.take a), ← split3]
                  exact hR t (by omega)
            · have hltz : ¬ (a : Int) + 2 * (bs : Int) ≤ (n : Int) := by omega
              by_cases hm : a + bs < n
              · have hmz : (a : Int) + (bs : Int) < (n : Int) := by omega
                have hsl1 : (seg L2 a bs).length = bs := by rw [seg_len]; omega
                have hsl2 : (seg L2 (a + bs) bs).length = n - (a + bs) := by rw [seg_len]; omega
                have hC := sym_any hn (2 * bs + 1) (L2.take a) (seg L2 a bs) (seg L2 (a + bs) bs) (L2.drop (a + bs + bs)) a (a + bs) n wr (by omega) (hS.cast (split3 L2 a bs bs)) (by simp; omega) (by omega) (by omega) (by omega) (by omega) r1 r2
                rw [show ((a + bs : Nat) : Int) = (a : Int) + (bs : Int) by omega] at hC
                have HC := Lib.hid hC
                have HT := Lib.hid (And.intro hAl (And.intro hB (And.intro hl (And.intro ha (And.intro hsl1 hsl2)))))
                clear hS hAl hB hg hl ha hR r1 r2 ea ea1 hsl1 hsl2 hC
                go_wp2_with fail
                refine HC.out.mono ?_
                rintro _ w3 ⟨rfl, C, hS, h1, h2, h3⟩
                have HS := Lib.hid (And.intro hS (And.intro h1 (And.intro h2 h3)))
                clear hS h1 h2 h3 HC
                go_wp2_with fail
                go_roundg (n - bs * 2)
                case measure => have := HG.out; omega
                case rel =>
                  obtain ⟨hAl, hB, hl, ha, hsl1, hsl2⟩ := HT.out
                  obtain ⟨hS, h1, h2, h3⟩ := HS.out
                  have hp : (L2.take a).length = a := by simp; omega
                  have hd : L2.drop (a + bs + bs) = [] := List.drop_of_length_le (by omega)
                  refine ⟨bs * 2, _, by go_num, by omega, Nat.le_refl _, by omega, hS, hAl.trans (alike_two h2), ?_⟩
                  rw [Nat.mul_comm bs 2]
                  refine runs_of (q := q + 1) (blk_next (A := seg L2 a bs ++ seg L2 (a + bs) bs) (by rw [hp, ha]) (.inr ⟨by omega, hd⟩) h1 ?_) ?_
                  · rw [← List.append_assoc (L2.take a), ← split3]
                    exact hB
                  · rw [Nat.add_mul, Nat.one_mul, ← ha, hd]
                    simp
                    omega
              · have hmz : ¬ (a : Int) + (bs : Int) < (n : Int) := by omega
                have HT := Lib.hid (And.intro hS (And.intro hAl (And.intro hB (And.intro hl (And.intro ha r1)))))
                clear hS hAl hB hg hl ha hR r1 r2 ea ea1
                go_wp2_with fail
                go_roundg (n - bs * 2)
                case measure => have := HG.out; omega
                case rel =>
                  obtain ⟨hS, hAl, hB, hl, ha, r1⟩ := HT.out
                  refine ⟨bs * 2, L2, by go_num, by omega, Nat.le_refl _, by omega, hS, hAl, ?_⟩
                  rw [Nat.mul_comm bs 2]
                  refine runs_of (q := q + 1) (fun t ht => ?_) (by rw [Nat.add_mul, Nat.one_mul, ← ha]; omega)
                  by_cases htq : t < q
                  · exact hB t htq
                  · obtain rfl : t = q := by omega
                    rw [← ha]
                    have e : seg L2 a (2 * bs) = seg L2 a bs := by
                      unfold seg
                      rw [List.take_of_length_le (by simp; omega), List.take_of_length_le (by simp; omega)]
                    rw [e]
                    exact r1
        · have hlz : ¬ (bs : Int) < (n : Int) := by omega
          have HS := Lib.hid (And.intro hS (And.intro (runs_whole hR (by have := hS.len; omega)) hAl))
          clear hS hAl hR hg
          go_wp2_with fail
          go_end0
          exact ⟨rfl, _, HS.out.1, HS.out.2.1, HS.out.2.2⟩

theorem sorted_any (L : List Pk) (hS : SR w0 g n c L W) (hn : n ≤ 100000) :
    Calls Try.prog 62 #[.slice (some ⟨g, 0, none⟩) n c, .func (.func 63) #[] #[]] W fun e w' =>
      e = .returned (.tuple #[]) ∧ ∃ L', SR w0 g n c L' w' ∧ Srt L' ∧ Alike L L' := by
  have HC := Lib.hid (stable_any L hS hn)
  clear hS
  go_enter Try.func62, Try.ntmps62
  go_wp2_with fail
  refine HC.out.mono ?_
  rintro _ w2 ⟨rfl, h⟩
  have H := Lib.hid h
  clear h HC
  go_wp2_with fail
  go_end0
  exact ⟨rfl, H.out⟩
theorem rising_any (L : List Pk) (hS : SR w0 g n c L W) (hn : n ≤ 100000) :
    Calls Try.prog 49 #[.slice (some ⟨g, 0, none⟩) n c] W fun e w' =>
      e = .returned (.slice (some ⟨g, 0, none⟩) n c) ∧ ∃ L', SR w0 g n c L' w' ∧ Srt L' ∧ Alike L L' := by
  have HC := Lib.hid (sorted_any L hS hn)
  clear hS
  go_enter Try.func49, Try.ntmps49
  go_wp2_with fail
  refine HC.out.mono ?_
  rintro _ w2 ⟨rfl, h⟩
  have H := Lib.hid h
  clear h HC
  go_wp2_with fail
  go_ret
  exact ⟨rfl, H.out⟩
end
end Go.Proofs.Ytafdfjacfodbnaa
