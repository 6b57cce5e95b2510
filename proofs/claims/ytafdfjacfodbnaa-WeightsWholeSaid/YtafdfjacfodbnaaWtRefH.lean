
/- The contract of the document's Whole. -/
import Derived.Test.YtafdfjacfodbnaaWtRef
import Derived.Test.YtafdfjacfodbnaaWtWhole
import Derived.Test.YtafdfjacfodbnaaPileA
namespace Go.Proofs.Ytafdfjacfodbnaa
open Go.RowKit

theorem str_sizeW (xs : List UInt8) : (str xs).size = xs.length := by simp [str, ByteArray.size]
theorem str_appendW (xs ys : List UInt8) : str xs ++ str ys = str (xs ++ ys) := by
  apply ByteArray.ext
  simp [str, ByteArray.data_append]
theorem add_strW (w : World) (xs ys : List UInt8) (hx : xs.length ≤ 100000) (hy : ys.length ≤ 100000) : (Op.stringOp .add (str xs) (str ys)).run Try.prog w = .ok (.string (str (xs ++ ys))) w := by
  rw [run_string_add_sum w _ _ (by rw [str_sizeW, str_sizeW]; omega), str_appendW]
theorem str_nilW {S : ByteArray} (h : 0 < S.size) : ¬ S.toList = [] ∧ S.toList.isEmpty = false := by
  have h1 : ¬ S.toList = [] := by
    rw [ByteArray.toList_eq S]
    intro e
    have hl : S.data.toList.length = S.size := by simp
    rw [e] at hl
    simp at hl
    omega
  exact ⟨h1, by simpa using h1⟩
/-- What the document's Whole answers. -/
def RWholePost (bs : List UInt8) (w : World) (e : Ending) (w' : World) : Prop :=
  Below w.heap.size w w' ∧ ((∃ k, WholeOk (nat bs) k ∧ e = .returned (.tuple #[.string (str (bs ++ [UInt8.ofNat (k + 1)])), .int .i64 0])) ∨ ((∀ k, ¬ WholeOk (nat bs) k) ∧ e = .returned (.tuple #[.string (str []), .int .i64 11])))

section
variable {w : World}
set_option maxRecDepth 100000 in
set_option maxHeartbeats 2000000 in
theorem refWhole_any (S : ByteArray) (hs : S.size ≤ 100000) :
    Calls Try.prog 12 #[.string S] w (RWholePost S.data.toList w) := by
  have HWo := fun W => Lib.hid (refWorth_any (w := W) S hs)
  obtain ⟨L, hL⟩ : ∃ L, L = S.size := ⟨_, rfl⟩
  obtain ⟨bs, hbs⟩ : ∃ bs, bs = S.data.toList := ⟨_, rfl⟩
  have hbl : (nat bs).length = L := by rw [nat_len, hbs, hL]; simp
  have hSb : S = str bs := by rw [hbs]; rfl
  have HBS := Lib.hid hSb
  have HBL := Lib.hid hbl
  have hsz := hL.symm
  rw [← hbs] at HWo ⊢
  rw [← hL] at hs
  clear hL hbs hSb
  by_cases h0 : L = 0
  · have e0 : S = { data := #[] } := by
      have : bs = [] := by rw [← List.length_eq_zero_iff, ← nat_len]; omega
      rw [HBS.out, this]
      rfl
    have HN : Hid (∀ k, ¬ WholeOk (nat bs) k) := fun k h => h.1 (List.eq_nil_of_length_eq_zero (by omega))
    have hw0 : ∀ W, Hid (Calls Try.prog 26 #[.string { data := #[] }] W fun e w' => W = w' ∧ ∃ x : Int, e = .returned (.int .i64 x)) := fun W => by
      have h := HWo W
      rw [e0] at h
      exact h.out.mono (by rintro e w' ⟨h, ⟨-, rfl⟩ | ⟨-, rfl⟩⟩ <;> exact ⟨h, _, rfl⟩)
    rw [e0]
    clear HWo hbl hsz HBS e0
    go_enter Try.func12, Try.ntmps12
    go_wp2_with fail
    refine (hw0 _).out.mono ?_
    rintro _ w1 ⟨hw1, x, rfl⟩
    subst hw1
    clear hw0
    go_wp2_with fail
    go_ret2
    exact ⟨Below.refl _ _, .inr ⟨HN.out, rfl⟩⟩
  · obtain ⟨hne, hne2⟩ := str_nilW (S := S) (by omega)
    by_cases h255 : 255 < L
    · have h255z : (255 : Int) < (L : Int) := by omega
      have HN : Hid (∀ k, ¬ WholeOk (nat bs) k) := fun k h => by have := h.2.1; omega
      have hw0 : ∀ W, Hid (Calls Try.prog 26 #[.string S] W fun e w' => W = w' ∧ ∃ x : Int, e = .returned (.int .i64 x)) := fun W =>
        (HWo W).out.mono (by rintro e w' ⟨h, ⟨-, rfl⟩ | ⟨-, rfl⟩⟩ <;> exact ⟨h, _, rfl⟩)
      clear HWo hbl
      go_enter Try.func12, Try.ntmps12
      go_wp2_with fail
      refine (hw0 _).out.mono ?_
      rintro _ w1 ⟨hw1, x, rfl⟩
      subst hw1
      clear hw0
      go_wp2_with fail
      go_ret2
      exact ⟨Below.refl _ _, .inr ⟨HN.out, rfl⟩⟩
    · have h255z : ¬ (255 : Int) < (L : Int) := by omega
      go_enter Try.func12, Try.ntmps12
      go_wp2_with fail
      refine (HWo _).out.mono ?_
      rintro _ w1 ⟨hw1, ⟨hbig, rfl⟩ | ⟨hall, rfl⟩⟩
      · subst hw1
        have HN : Hid (∀ k, ¬ WholeOk (nat bs) k) := fun k h => by
          obtain ⟨x, hx, h11⟩ := hbig
          have := h.2.2.1 x hx
          omega
        clear HWo hbig hbl
        go_wp2_with fail
        go_ret2
        exact ⟨Below.refl _ _, .inr ⟨HN.out, rfl⟩⟩
      · subst hw1
        have ht := totW_le _ hall
        rw [hbl] at ht
        obtain ⟨T, hT⟩ : ∃ T, T = totW (nat bs) := ⟨_, rfl⟩
        have HT := Lib.hid hT
        have HAll := Lib.hid hall
        rw [← hT] at ht ⊢
        have ht2 : T ≤ 261120 := by omega
        clear hT HWo hall hbl ht
        obtain ⟨wo, hwo⟩ : ∃ wo : World, wo = w := ⟨_, rfl⟩
        subst hwo
        by_cases hT1 : T < 1
        · have hTz : (T : Int) < 1 := by omega
          have HN : Hid (∀ k, ¬ WholeOk (nat bs) k) := fun k h => by
            have := h.2.2.2.1
            rw [← HT.out] at this
            omega
          go_wp2_with fail
          go_ret2
          exact ⟨Below.refl _ _, .inr ⟨HN.out, rfl⟩⟩
        · have hTz : ¬ (T : Int) < 1 := by omega
          go_wp2_with fail
          go_loopg [5] 20 (fun gh vi wx => ∃ k : Nat, 1 ≤ k ∧ vi = .int .i64 (k : Int) ∧ k + gh = 21 ∧ 2 ^ (k - 1) ≤ T ∧ wx = wo)
          case atStart => exact ⟨1, Nat.le_refl _, rfl, rfl, by simp; omega, rfl⟩
          case round =>
            obtain ⟨k, hk1, rfl, hk, hkT, rfl⟩ := hrel
            have hk18 : k ≤ 18 := by
              rcases Nat.lt_or_ge k 19 with h | h
              · omega
              · have : 2 ^ 18 ≤ 2 ^ (k - 1) := Nat.pow_le_pow_right (by omega) (by omega)
                omega
            have HKT := Lib.hid hkT
            have HPw := fun W => Lib.hid (refPower_any k W (by omega))
            obtain ⟨P, hP⟩ : ∃ P, P = 2 ^ k := ⟨_, rfl⟩
            have hPm : P ≤ 2 ^ 18 := by rw [hP]; exact Nat.pow_le_pow_right (by omega) hk18
            rw [← hP] at HPw
            have HP := Lib.hid hP
            clear hP hkT
            obtain ⟨gk', rfl⟩ : ∃ g', gk = g' + 1 := ⟨gk - 1, by omega⟩
            by_cases hlt : P ≤ T
            · have hltz : (P : Int) ≤ (T : Int) := by omega
              go_wp2_with (go_at_call 27; refine (HPw _).out.mono ?_; rintro e w' ⟨rfl, rfl⟩)
              go_roundg gk'
              case measure => omega
              case rel => exact ⟨k + 1, by omega, by go_num, by omega, by have := HP.out; rw [Nat.add_sub_cancel]; omega, rfl⟩
            · have hltz : ¬ (P : Int) ≤ (T : Int) := by omega
              obtain ⟨X, hX⟩ : ∃ X, X = P - T := ⟨_, rfl⟩
              have hXz : (P : Int) - (T : Int) = (X : Int) := by omega
              have HX := Lib.hid hX
              have hXm : X ≤ P := by omega
              have HLg := fun W => Lib.hid (refLog_any (w := W) (X : Int))
              have HU : Hid (∀ k' , WholeOk (nat bs) k' → k ≤ 11 ∧ X = 2 ^ k') := fun k' h => by
                obtain ⟨_, _, _, h3, d', a1, a2, a3, a4⟩ := h
                rw [← HT.out] at a3 a4
                have e1 := whole_log a1 a3 a4
                have e2 : T.log2 = k - 1 := by
                  rw [Nat.log2_eq_iff (by omega), show k - 1 + 1 = k by omega, ← HP.out]
                  have := HKT.out
                  omega
                have e3 : d' = k := by omega
                subst e3
                rw [← HP.out] at a4
                omega
              clear hX
              go_wp2_with (go_at_call 27; refine (HPw _).out.mono ?_; rintro e w' ⟨rfl, rfl⟩)
              refine (HLg _).out.mono ?_
              rintro _ w2 ⟨hw2, ⟨D, hD20, hD, rfl⟩ | ⟨hno, rfl⟩⟩
              · subst hw2
                have hDn : X = 2 ^ D := by omega
                have HDn := Lib.hid hDn
                clear hDn hD HLg
                by_cases h11 : 11 < k
                · have h11z : (11 : Int) < (k : Int) := by omega
                  have HN : Hid (∀ k, ¬ WholeOk (nat bs) k) := fun k' h => by
                    have := (HU.out k' h).1
                    omega
                  go_wp2_with fail
                  go_ret2
                  exact ⟨Below.refl _ _, .inr ⟨HN.out, rfl⟩⟩
                · have h11z : ¬ (11 : Int) < (k : Int) := by omega
                  have hok : WholeOk (nat bs) D := by
                    refine ⟨fun h => ?_, by rw [HBL.out]; omega, HAll.out, by rw [← HT.out]; omega, k, hk1, by omega, by rw [← HT.out]; exact HKT.out, ?_⟩
                    · have := HBL.out
                      rw [h] at this
                      simp at this
                      omega
                    · rw [← HT.out, ← HDn.out, ← HP.out, HX.out]
                      omega
                  have HOk := Lib.hid hok
                  have hD10 : D ≤ 10 := by obtain ⟨_, _, h⟩ := whole_may hok; exact h
                  clear hok
                  obtain ⟨y, hy⟩ : ∃ y, y = D + 1 := ⟨_, rfl⟩
                  have hyz : (D : Int) + 1 = (y : Int) := by omega
                  have wy : IntKind.u8.wrap (y : Int) = (y : Int) := by rw [IntKind.wrap_u8]; omega
                  have hcell : (.int .u8 (y : Int) : Value) = cel (UInt8.ofNat y) := by
                    unfold cel
                    rw [UInt8.toNat_ofNat']
                    congr 1
                    omega
                  have hdt : Dat true (wr.alloc (.cells #[.int .u8 (y : Int)] 5)) 0 (wr.alloc (.cells #[.int .u8 (y : Int)] 5)).heap.size (some ⟨wr.heap.size, 0, none⟩) [UInt8.ofNat y] := by
                    have hb := Box.new wr 5 (bcells [UInt8.ofNat y])
                    have e : bcells [UInt8.ofNat y] = #[.int .u8 (y : Int)] := by rw [hcell]; rfl
                    rw [e] at hb
                    have h := dat_box (bs := [UInt8.ofNat y]) (by rw [e]; exact hb) 0 1 (by simp)
                    simpa using h
                  have hcv := run_str (P := Try.prog) (wr.alloc (.cells #[.int .u8 (y : Int)] 5)) 22 Try.underlying22 Try.underlying5 (c := 1) (m := 1) hdt rfl 9 Try.underlying9
                  have hadd := fun W => add_strW W bs [UInt8.ofNat y] (by have := HBL.out; rw [nat_len] at this; omega) (by simp)
                  rw [← HBS.out] at hadd
                  have HY := Lib.hid hy
                  clear hy hdt hcell
                  go_wp2_with fail
                  go_ret2
                  exact ⟨(Below.refl _ _).alloc (Nat.le_refl _) _, .inl ⟨D, HOk.out, by rw [HY.out]; rfl⟩⟩
              · subst hw2
                have HN : Hid (∀ k, ¬ WholeOk (nat bs) k) := fun k' h => by
                  have h1 := (HU.out k' h).2
                  have h2 := (whole_may h)
                  obtain ⟨_, _, h3⟩ := h2
                  exact hno k' (by omega) (by rw [h1])
                clear hno HLg
                by_cases h11 : 11 < k
                · have h11z : (11 : Int) < (k : Int) := by omega
                  go_wp2_with fail
                  go_ret2
                  exact ⟨Below.refl _ _, .inr ⟨HN.out, rfl⟩⟩
                · have h11z : ¬ (11 : Int) < (k : Int) := by omega
                  go_wp2_with fail
                  go_ret2
                  exact ⟨Below.refl _ _, .inr ⟨HN.out, rfl⟩⟩
end
end Go.Proofs.Ytafdfjacfodbnaa
