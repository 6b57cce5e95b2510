
/- The contracts of the document's Worth, log and Depth. -/
import Derived.Test.YtafdfjacfodbnaaWtDepth
import Derived.Test.YtafdfjacfodbnaaPileC
namespace Go.Proofs.Ytafdfjacfodbnaa
open Go.RowKit

section
variable {w : World}
theorem str_nat {S : ByteArray} {bs : List UInt8} (hb : bs = S.data.toList) {k : Nat} (h : k < S.size) (h2 : k < (nat bs).length) : (S[k]).toNat = (nat bs)[k] := by
  subst hb
  simp [nat]
  rfl
set_option maxRecDepth 100000 in
theorem refWorth_any (S : ByteArray) (hs : S.size ≤ 100000) :
    Calls Try.prog 26 #[.string S] w fun e w' => w = w' ∧ (((∃ x ∈ nat S.data.toList, 11 < x) ∧ e = .returned (.int .i64 (-1))) ∨ ((∀ x ∈ nat S.data.toList, x ≤ 11) ∧ e = .returned (.int .i64 (totW (nat S.data.toList) : Nat)))) := by
  obtain ⟨L, hL⟩ : ∃ L, L = S.size := ⟨_, rfl⟩
  obtain ⟨bs, hbs⟩ : ∃ bs, bs = S.data.toList := ⟨_, rfl⟩
  have hbl : (nat bs).length = L := by rw [nat_len, hbs, hL]; simp
  have HBS := Lib.hid hbs
  have HBL := Lib.hid hbl
  have hsz := hL.symm
  rw [← hbs]
  rw [← hL] at hs
  clear hL hbs hbl
  go_enter Try.func26, Try.ntmps26
  go_wp2_with fail
  go_loopg [3, 4] L (fun g1 vs vi wx => ∃ k : Nat, vi = .int .i64 (k : Int) ∧ k + g1 = L ∧ vs = .int .i64 (totW ((nat bs).take k) : Nat) ∧ (∀ x ∈ (nat bs).take k, x ≤ 11) ∧ wx = w)
  case atStart => exact ⟨0, rfl, by omega, rfl, fun x hx => (by simp at hx), rfl⟩
  case round =>
    obtain ⟨k, rfl, hk, rfl, hall, rfl⟩ := hrel
    by_cases hlt : k < L
    · have hltz : (k : Int) < (L : Int) := by omega
      have hlS : k < S.size := by rw [hsz]; exact hlt
      have hkl : k < (nat bs).length := by rw [HBL.out]; exact hlt
      have e5 := str_nat HBS.out hlS hkl
      have htt := totW_take (nat bs) k hkl
      have htl := totW_le _ hall
      rw [List.length_take] at htl
      have hts := List.take_succ_eq_append_getElem hkl
      have hmm := List.getElem_mem hkl
      have HT := Lib.hid (And.intro hall (And.intro htt (And.intro hts hmm)))
      have hb2 : totW ((nat bs).take k) ≤ 102400000 := by omega
      have e5z : ((S[k].toNat : Nat) : Int) = (((nat bs)[k] : Nat) : Int) := by rw [e5]
      clear hall htt htl hts hmm e5
      generalize totW ((nat bs).take k) = T at *
      generalize (nat bs)[k] = x at *
      by_cases h11 : 11 < x
      · have h11z : (11 : Int) < (x : Int) := by omega
        go_wp2_with fail
        go_ret
        exact ⟨rfl, .inl ⟨⟨x, HT.out.2.2.2, h11⟩, rfl⟩⟩
      · have h11z : ¬ (11 : Int) < (x : Int) := by omega
        by_cases h0 : 0 < x
        · have h0z : (0 : Int) < (x : Int) := by omega
          have hP := fun W => refPower_any (x - 1) W (by omega)
          have ex : ((x - 1 : Nat) : Int) = (x : Int) - 1 := by omega
          have ew : wor x = 2 ^ (x - 1) := wor_pos h0
          have hp : 2 ^ (x - 1) ≤ 2 ^ 10 := Nat.pow_le_pow_right (by omega) (by omega)
          obtain ⟨P, hPP⟩ : ∃ P, P = 2 ^ (x - 1) := ⟨_, rfl⟩
          rw [ex, ← hPP] at hP
          rw [← hPP] at ew hp
          have HW := Lib.hid ew
          clear ew hPP ex
          go_wp2_with (go_at_call 27; refine (hP _).mono ?_; rintro e w' ⟨rfl, rfl⟩)
          go_roundg (L - (k + 1))
          case measure => omega
          case rel =>
            obtain ⟨hall, htt, hts, hmm⟩ := HT.out
            refine ⟨k + 1, by go_num, by omega, by rw [htt, HW.out]; go_num, fun y hy => ?_, rfl⟩
            rw [hts] at hy
            rcases List.mem_append.1 hy with q | q
            · exact hall y q
            · rw [List.mem_singleton.1 q]; omega
        · obtain rfl : x = 0 := by omega
          go_wp2_with fail
          go_roundg (L - (k + 1))
          case measure => omega
          case rel =>
            obtain ⟨hall, htt, hts, hmm⟩ := HT.out
            refine ⟨k + 1, by go_num, by omega, by rw [htt, wor_zero]; rfl, fun y hy => ?_, rfl⟩
            rw [hts] at hy
            rcases List.mem_append.1 hy with q | q
            · exact hall y q
            · rw [List.mem_singleton.1 q]; omega
    · obtain rfl : k = L := by omega
      have hltz : ¬ (k : Int) < (k : Int) := by omega
      have ht : (nat bs).take k = nat bs := List.take_of_length_le (by rw [HBL.out]; omega)
      rw [ht] at hall ⊢
      have HAll := Lib.hid hall
      clear hall ht
      go_wp2_with fail
      go_ret
      exact ⟨rfl, .inr ⟨HAll.out, rfl⟩⟩

set_option maxRecDepth 100000 in
theorem refLog_any (x : Int) :
    Calls Try.prog 28 #[.int .i64 x] w fun e w' => w = w' ∧ ((∃ d : Nat, d < 20 ∧ x = ((2 ^ d : Nat) : Int) ∧ e = .returned (.int .i64 (d : Int))) ∨ ((∀ d : Nat, d < 20 → x ≠ ((2 ^ d : Nat) : Int)) ∧ e = .returned (.int .i64 (-1)))) := by
  go_enter Try.func28, Try.ntmps28
  go_wp2_with fail
  go_loopg [3] 20 (fun g1 vi wx => ∃ k : Nat, vi = .int .i64 (k : Int) ∧ k + g1 = 20 ∧ (∀ d : Nat, d < k → x ≠ ((2 ^ d : Nat) : Int)) ∧ wx = w)
  case atStart => exact ⟨0, rfl, rfl, fun d hd => absurd hd (by omega), rfl⟩
  case round =>
    obtain ⟨k, rfl, hk, hall, rfl⟩ := hrel
    have HAll := Lib.hid hall
    clear hall
    by_cases hlt : k < 20
    · have hltz : (k : Int) < 20 := by omega
      have hP := fun W => refPower_any k W (by omega)
      obtain ⟨P, hPP⟩ : ∃ P, P = 2 ^ k := ⟨_, rfl⟩
      rw [← hPP] at hP
      have HPP := Lib.hid hPP
      clear hPP
      by_cases hq : ((P : Nat) : Int) = x
      · have hqz : (((P : Nat) : Int) == x) = true := by rw [beq_iff_eq]; exact hq
        go_wp2_with (go_at_call 27; refine (hP _).mono ?_; rintro e w' ⟨rfl, rfl⟩)
        go_ret
        exact ⟨rfl, .inl ⟨k, hlt, by rw [← hq, HPP.out], rfl⟩⟩
      · have hqz : (((P : Nat) : Int) == x) = false := by rw [beq_eq_false_iff_ne]; exact hq
        go_wp2_with (go_at_call 27; refine (hP _).mono ?_; rintro e w' ⟨rfl, rfl⟩)
        go_roundg (20 - (k + 1))
        case measure => omega
        case rel =>
          refine ⟨k + 1, by go_num, by omega, fun d hd => ?_, rfl⟩
          by_cases hdk : d = k
          · subst hdk
            rw [← HPP.out]
            exact fun e => hq e.symm
          · exact HAll.out d (by omega)
    · obtain rfl : k = 20 := by omega
      go_wp2_with fail
      go_ret
      exact ⟨rfl, .inr ⟨HAll.out, rfl⟩⟩

/-- What the document's Depth answers. -/
def RDepthPost (l : List Nat) (w : World) (e : Ending) (w' : World) : Prop :=
  w = w' ∧ ((∃ d : Nat, MayW d l ∧ e = .returned (.int .i64 (d : Int))) ∨ ((∀ d, ¬ MayW d l) ∧ e = .returned (.int .i64 0)))
set_option maxRecDepth 100000 in
set_option maxHeartbeats 1000000 in
theorem refDepth_any (S : ByteArray) (hs : S.size ≤ 100000) :
    Calls Try.prog 20 #[.string S] w (RDepthPost (nat S.data.toList) w) := by
  have HWo := fun W => Lib.hid (refWorth_any (w := W) S hs)
  obtain ⟨L, hL⟩ : ∃ L, L = S.size := ⟨_, rfl⟩
  obtain ⟨bs, hbs⟩ : ∃ bs, bs = S.data.toList := ⟨_, rfl⟩
  have hbl : (nat bs).length = L := by rw [nat_len, hbs, hL]; simp
  have HBS := Lib.hid hbs
  have HBL := Lib.hid hbl
  have hsz := hL.symm
  rw [← hbs] at HWo ⊢
  rw [← hL] at hs
  clear hL hbs
  by_cases h0 : L < 2
  · have h0z : (L : Int) < 2 := by omega
    have HN : Hid (∀ d, ¬ MayW d (nat bs)) := fun d h => by have := h.1; omega
    clear HWo hbl
    go_enter Try.func20, Try.ntmps20
    go_wp2_with fail
    go_ret
    exact ⟨rfl, .inr ⟨HN.out, rfl⟩⟩
  · have h0z : ¬ (L : Int) < 2 := by omega
    by_cases h1 : 256 < L
    · have h1z : (256 : Int) < (L : Int) := by omega
      have HN : Hid (∀ d, ¬ MayW d (nat bs)) := fun d h => by have := h.2.1; omega
      clear HWo hbl
      go_enter Try.func20, Try.ntmps20
      go_wp2_with fail
      go_ret
      exact ⟨rfl, .inr ⟨HN.out, rfl⟩⟩
    · have h1z : ¬ (256 : Int) < (L : Int) := by omega
      have hlS : L - 1 < S.size := by omega
      have hq : L - 1 < (nat bs).length := by omega
      have e5 := str_nat HBS.out hlS hq
      have hlast := last_of (l := nat bs) (by omega)
      rw [hbl, List.getD_eq_getElem?_getD, List.getElem?_eq_getElem hq, Option.getD_some] at hlast
      have e5z : ((S[L - 1].toNat : Nat) : Int) = (((nat bs)[L - 1] : Nat) : Int) := by rw [e5]
      clear e5
      generalize (nat bs)[L - 1] = y at *
      have HLa := Lib.hid hlast
      clear hlast hbl
      have z1 : ((L : Int) - 1).toNat = L - 1 := by omega
      have z2 : (0 : Int) ≤ (L : Int) - 1 := by omega
      have z2' : (1 : Int) ≤ (L : Int) := by omega
      have z3 : (L : Int) - 1 < (L : Int) := by omega
      by_cases hy0 : y = 0
      · subst hy0
        have HN : Hid (∀ d, ¬ MayW d (nat bs)) := fun d h => by
          have := HLa.out.1 h.2.2.1
          omega
        clear HWo
        go_enter Try.func20, Try.ntmps20
        go_wp2_with fail
        go_ret
        exact ⟨rfl, .inr ⟨HN.out, rfl⟩⟩
      · have hy0z : ((y : Int) == 0) = false := by rw [beq_eq_false_iff_ne]; omega
        go_enter Try.func20, Try.ntmps20
        go_wp2_with fail
        refine (HWo _).out.mono ?_
        rintro _ w1 ⟨hw1, ⟨hbig, rfl⟩ | ⟨hall, rfl⟩⟩
        · subst hw1
          obtain ⟨x, hx, hx11⟩ := hbig
          have HN : Hid (∀ d, ¬ MayW d (nat bs)) := fun d h => by
            have := h.2.2.2.2.2.2 x hx
            have := h.2.2.2.2.2.1
            omega
          have HLg := fun W => Lib.hid (refLog_any (w := W) (-1))
          clear HWo hx
          go_wp2_with fail
          refine (HLg _).out.mono ?_
          rintro _ w2 ⟨hw2, ⟨d, _, hd, rfl⟩ | ⟨_, rfl⟩⟩
          · exfalso
            have h9 : (0 : Int) ≤ ((2 ^ d : Nat) : Int) := Int.natCast_nonneg _
            rw [← hd] at h9
            omega
          · subst hw2
            go_wp2_with fail
            go_ret
            exact ⟨rfl, .inr ⟨HN.out, rfl⟩⟩
        · subst hw1
          have ht := totW_le _ hall
          rw [HBL.out] at ht
          have HLg := fun W => Lib.hid (refLog_any (w := W) ((totW (nat bs) : Nat) : Int))
          have HAll := Lib.hid hall
          clear HWo hall ht
          obtain ⟨T, hT⟩ : ∃ T, T = totW (nat bs) := ⟨_, rfl⟩
          have HT := Lib.hid hT
          rw [← hT] at HLg
          rw [← hT]
          clear hT
          go_wp2_with fail
          refine (HLg _).out.mono ?_
          rintro _ w2 ⟨hw2, ⟨D, hD20, hD, rfl⟩ | ⟨hno, rfl⟩⟩
          · subst hw2
            have hDn : T = 2 ^ D := by omega
            have HU : Hid ((∀ d, MayW d (nat bs) → d = D) ∧ T = 2 ^ D) := ⟨fun d h => may_depth h (by rw [← HT.out, hDn]), hDn⟩
            clear HLg hD hDn
            by_cases hD1 : D < 1
            · have hDz : (D : Int) < 1 := by omega
              have HN : Hid (∀ d, ¬ MayW d (nat bs)) := fun d h => by
                have := HU.out.1 d h
                have := h.2.2.2.2.1
                omega
              go_wp2_with fail
              go_ret
              exact ⟨rfl, .inr ⟨HN.out, rfl⟩⟩
            · have hDz : ¬ (D : Int) < 1 := by omega
              by_cases hD11 : 11 < D
              · have hDz1 : (11 : Int) < (D : Int) := by omega
                have HN : Hid (∀ d, ¬ MayW d (nat bs)) := fun d h => by
                  have := HU.out.1 d h
                  have := h.2.2.2.2.2.1
                  omega
                go_wp2_with fail
                go_ret
                exact ⟨rfl, .inr ⟨HN.out, rfl⟩⟩
              · have hDz1 : ¬ (11 : Int) < (D : Int) := by omega
                go_wp2_with fail
                go_loopg [4] L (fun g1 vi wx => ∃ k : Nat, vi = .int .i64 (k : Int) ∧ k + g1 = L ∧ (∀ x ∈ (nat bs).take k, x ≤ D) ∧ wx = w)
                case atStart => exact ⟨0, rfl, by omega, fun x hx => (by simp at hx), rfl⟩
                case round =>
                  obtain ⟨k, rfl, hk, hle, rfl⟩ := hrel
                  by_cases hlt : k < L
                  · have hltz : (k : Int) < (L : Int) := by omega
                    have hlS2 : k < S.size := by rw [hsz]; exact hlt
                    have hkl : k < (nat bs).length := by rw [HBL.out]; exact hlt
                    have e6 := str_nat HBS.out hlS2 hkl
                    have hts := List.take_succ_eq_append_getElem hkl
                    have hmm := List.getElem_mem hkl
                    have HTk := Lib.hid (And.intro hle (And.intro hts hmm))
                    have hx8 : (nat bs)[k] ≤ 11 := HAll.out _ hmm
                    have e6z : ((S[k].toNat : Nat) : Int) = (((nat bs)[k] : Nat) : Int) := by rw [e6]
                    clear hle hts hmm e6
                    generalize (nat bs)[k] = x at *
                    by_cases hxD : D < x
                    · have hxz : (D : Int) < (x : Int) := by omega
                      have HN : Hid (∀ d, ¬ MayW d (nat bs)) := fun d h => by
                        have := HU.out.1 d h
                        have := h.2.2.2.2.2.2 x HTk.out.2.2
                        omega
                      go_wp2_with fail
                      go_ret
                      exact ⟨rfl, .inr ⟨HN.out, rfl⟩⟩
                    · have hxz : ¬ (D : Int) < (x : Int) := by omega
                      go_wp2_with fail
                      go_roundg (L - (k + 1))
                      case measure => omega
                      case rel =>
                        obtain ⟨hle, hts, hmm⟩ := HTk.out
                        refine ⟨k + 1, by go_num, by omega, fun z hz => ?_, rfl⟩
                        rw [hts] at hz
                        rcases List.mem_append.1 hz with q | q
                        · exact hle z q
                        · rw [List.mem_singleton.1 q]; omega
                  · obtain rfl : k = L := by omega
                    have hltz : ¬ (k : Int) < (k : Int) := by omega
                    have ht : (nat bs).take k = nat bs := List.take_of_length_le (by rw [HBL.out]; omega)
                    rw [ht] at hle
                    have HLe := Lib.hid hle
                    clear hle ht
                    go_wp2_with fail
                    go_ret
                    exact ⟨rfl, .inl ⟨D, ⟨by rw [HBL.out]; omega, by rw [HBL.out]; omega, HLa.out.2 (by omega), by rw [← HT.out]; exact HU.out.2, by omega, by omega, HLe.out⟩, rfl⟩⟩
          · subst hw2
            have HN : Hid (∀ d, ¬ MayW d (nat bs)) := fun d h => by
              have h1 := hno d (by have := h.2.2.2.2.2.1; omega)
              rw [HT.out, h.2.2.2.1] at h1
              exact h1 rfl
            clear hno
            go_wp2_with fail
            go_ret
            exact ⟨rfl, .inr ⟨HN.out, rfl⟩⟩
end
end Go.Proofs.Ytafdfjacfodbnaa
