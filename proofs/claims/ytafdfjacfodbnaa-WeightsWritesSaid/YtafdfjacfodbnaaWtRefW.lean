
/- The contract of the document's Write. -/
import Derived.Test.YtafdfjacfodbnaaWtRef
import Derived.Test.YtafdfjacfodbnaaWtHalves
import Derived.Test.YtafdfjacfodbnaaPileC
import Derived.Laws.OwnMore
namespace Go.Proofs.Ytafdfjacfodbnaa
open Go.RowKit

theorem u8cel_one (x : Nat) : (u8cel x).oneCell' = true := rfl
theorem hbs_succ (l : List Nat) (t m : Nat) : hbs l t (m + 1) = hbs l t m ++ [hb l t m] := by simp [hbs, List.range_succ]
theorem descr_lt {l : List Nat} {d : Nat} (h : MayW d l) (h9 : l.length ≤ 129) : ∀ x ∈ descr l, x < 256 := by
  intro x hx
  unfold descr at hx
  rcases List.mem_cons.1 hx with rfl | hx
  · omega
  · obtain ⟨i, _, rfl⟩ := List.mem_map.1 hx
    have := hb_le (fun y hy => by have a := h.2.2.2.2.2.2 y hy; have b := h.2.2.2.2.2.1; omega) (l.length - 1) i
    omega
/-- What the document's Write answers. -/
def RWritePost (l : List Nat) (w : World) (e : Ending) (w' : World) : Prop :=
  Below w.heap.size w w' ∧ (((∀ d, ¬ MayW d l) ∧ e = .returned (.tuple #[.string (str []), .int .i64 1])) ∨ (∃ d, MayW d l ∧ ((129 < l.length ∧ e = .returned (.tuple #[.string (str []), .int .i64 12])) ∨ (l.length ≤ 129 ∧ e = .returned (.tuple #[.string (str (byt (descr l))), .int .i64 0])))))

section
variable {w : World}
set_option maxRecDepth 100000 in
set_option maxHeartbeats 2000000 in
theorem refWriteW_any (S : ByteArray) (hs : S.size ≤ 100000) :
    Calls Try.prog 18 #[.string S] w (RWritePost (nat S.data.toList) w) := by
  have HDp := fun W => Lib.hid (refDepth_any (w := W) S hs)
  obtain ⟨L, hL⟩ : ∃ L, L = S.size := ⟨_, rfl⟩
  obtain ⟨bs, hbs⟩ : ∃ bs, bs = S.data.toList := ⟨_, rfl⟩
  have hbl : (nat bs).length = L := by rw [nat_len, hbs, hL]; simp
  have HBS := Lib.hid hbs
  have hsz := hL.symm
  rw [← hbs] at HDp ⊢
  rw [← hL] at hs
  have HBL := Lib.hid hbl
  clear hL hbs hbl
  go_enter Try.func18, Try.ntmps18
  go_wp2_with fail
  refine (HDp _).out.mono ?_
  rintro _ w1 ⟨hw1, ⟨d, hM, rfl⟩ | ⟨hno, rfl⟩⟩
  · subst hw1
    have hd0 : ((d : Int) == 0) = false := by rw [beq_eq_false_iff_ne]; have := hM.2.2.2.2.1; omega
    have hl2 := hM.1
    have hl256 := hM.2.1
    rw [HBL.out] at hl2 hl256
    have HM := Lib.hid hM
    obtain ⟨i0, hi0, hi1⟩ := Option.map_eq_some_iff.1 info_byte
    simp only [Prod.mk.injEq] at hi1
    obtain ⟨hz0, hz1, hz2⟩ := hi1
    have HI := Lib.hid (And.intro hi0 (And.intro hz0 (And.intro hz1 hz2)))
    clear hi0 hz0 hz1 hz2 hM HDp
    obtain ⟨wo, hwo⟩ : ∃ wo : World, wo = w := ⟨_, rfl⟩
    subst hwo
    by_cases h9 : 129 < L
    · have h9z : (129 : Int) < (L : Int) := by omega
      go_wp2_with fail
      go_ret2
      exact ⟨Below.refl _ _, .inr ⟨d, HM.out, .inl ⟨by rw [HBL.out]; exact h9, rfl⟩⟩⟩
    · have h9z : ¬ (129 : Int) < (L : Int) := by omega
      obtain ⟨H, hH⟩ : ∃ H, H = 126 + L := ⟨_, rfl⟩
      have hHz : (126 : Int) + (L : Int) = (H : Int) := by omega
      have wH : IntKind.u8.wrap (H : Int) = (H : Int) := by rw [IntKind.wrap_u8]; omega
      have hO1 : OwE u8cel (wo.alloc (.cells #[.int .u8 (H : Int)] 5)) 5 wo.heap.size (.slice (some ⟨wo.heap.size, 0, none⟩) 1 1) [H] :=
        World.ownsRow_lit wo #[.int .u8 (H : Int)] 1 (Nat.le_refl _) (by unfold maxLen; omega) rfl
      have HO1 := Lib.hid hO1
      have HB1 := Lib.hid ((Below.refl wo.heap.size wo).alloc (Nat.le_refl _) (.cells #[.int .u8 (H : Int)] 5))
      have HH := Lib.hid hH
      clear hO1 hH
      go_wp2_with fail
      generalize wo.alloc (.cells #[.int .u8 (H : Int)] 5) = W0 at *
      go_loopg [4, 5] (L / 2) (fun gh vl vi wx => ∃ k : Nat, vi = .int .i64 ((2 * k : Nat) : Int) ∧ k + gh = L / 2 ∧ OwE u8cel wx 5 wo.heap.size vl (H :: hbs (nat bs) (L - 1) k) ∧ Below wo.heap.size wo wx)
      case atStart => exact ⟨0, rfl, by omega, HO1.out, HB1.out⟩
      case round =>
        clear HO1 HB1
        obtain ⟨k, rfl, hk, hO, hB⟩ := hrel
        have HO := Lib.hid hO
        have HB := Lib.hid hB
        have hsB := hB.size
        have HGK := Lib.hid hk
        have hkL : k ≤ L / 2 := by omega
        clear hO hB hk
        obtain ⟨i, hi⟩ : ∃ i, i = 2 * k := ⟨_, rfl⟩
        rw [← hi]
        have hi1 : i + 2 ≤ 300 := by omega
        have HIk := Lib.hid hi
        have hx11 : ∀ x ∈ nat bs, x ≤ 11 := fun x hx => by have a := HM.out.2.2.2.2.2.2 x hx; have b := HM.out.2.2.2.2.2.1; omega
        have HX := Lib.hid hx11
        clear hx11
        by_cases hlt : i + 1 < L
        · have hltz : (i : Int) + 1 < (L : Int) := by omega
          obtain ⟨gk', rfl⟩ : ∃ g', gk = g' + 1 := ⟨gk - 1, by have := HGK.out; omega⟩
          have hlS : i < S.size := by omega
          have hli : i < (nat bs).length := by rw [HBL.out]; omega
          have e5 := str_nat HBS.out hlS hli
          have e5z : ((S[i].toNat : Nat) : Int) = (((nat bs)[i] : Nat) : Int) := by rw [e5]
          have hx1 := HX.out _ (List.getElem_mem hli)
          have hg1 : (nat bs).getD i 0 = (nat bs)[i] := getD_eq _ _ _ _
          have hhb : hb (nat bs) (L - 1) k = 16 * (nat bs).getD i 0 + (if i + 2 < L then (nat bs).getD (i + 1) 0 else 0) := by
            unfold hb
            rw [← hi, if_pos (by omega)]
            congr 1
            by_cases q : i + 2 < L
            · rw [if_pos q, if_pos (by omega)]
            · rw [if_neg q, if_neg (by omega)]
          rw [hg1] at hhb
          clear e5 hg1 hi
          generalize (nat bs)[i] = x at *
          have r1 : IntKind.u8.wrap ((x : Int) * 16) = ((16 * x : Nat) : Int) := by rw [IntKind.wrap_u8]; omega
          by_cases hlt2 : i + 2 < L
          · have hltz2 : (i : Int) + 2 < (L : Int) := by omega
            have hlS2 : i + 1 < S.size := by omega
            have hli2 : i + 1 < (nat bs).length := by rw [HBL.out]; omega
            have e6 := str_nat HBS.out hlS2 hli2
            have e6z : ((S[i + 1].toNat : Nat) : Int) = (((nat bs)[i + 1] : Nat) : Int) := by rw [e6]
            have hx2 := HX.out _ (List.getElem_mem hli2)
            have hg2 : (nat bs).getD (i + 1) 0 = (nat bs)[i + 1] := getD_eq _ _ _ _
            rw [if_pos hlt2, hg2] at hhb
            clear e6 hg2
            generalize (nat bs)[i + 1] = y at *
            obtain ⟨V, hV⟩ : ∃ V, V = 16 * x + y := ⟨_, rfl⟩
            have r2 : ((16 * x : Nat) : Int) + (y : Int) = (V : Int) := by omega
            have r3 : IntKind.u8.wrap (V : Int) = (V : Int) := by rw [IntKind.wrap_u8]; omega
            rw [← hV] at hhb
            have HHb := Lib.hid hhb
            have n1 : ((i : Int) + 1).toNat = i + 1 := by omega
            have n2 : (0 : Int) ≤ (i : Int) + 1 := by omega
            generalize 16 * x = X at *
            clear hV hhb
            have HA := Lib.hid (HO.out.alloc (.cells #[.int .u8 (V : Int)] 5))
            have HD1 := Lib.hid (datE_one u8cel wr V 5 _ rfl)
            go_wp2_with (at_builtin; refine list_appE u8cel_one _ rfl _ _ 22 rfl i0 (.int .u8 0) 1 Try.underlying22 HI.out.1 HI.out.2.1 HI.out.2.2.1 HI.out.2.2.2 rfl (by decide) rfl HA.out rfl HD1.out rfl ?_ ?_ ?_)
            · have := HIk.out; simp [hbs_len]; omega
            · first | omega | (simp; omega)
            intro v1 w4 ho1 hg1 hat1
            have HB4 := Lib.hid ((HB.out.alloc (by omega) (.cells #[.int .u8 (V : Int)] 5)).grown hg1 (by simp; omega) (fun k hk => (HO.out.block k hk).1))
            have hnx : H :: (hbs (nat bs) (L - 1) k ++ [V]) = H :: hbs (nat bs) (L - 1) (k + 1) := by rw [hbs_succ, HHb.out]
            rw [hnx] at ho1
            have HOn := Lib.hid ho1
            clear ho1 hg1 hat1 HA HD1 hnx
            go_wp2_with fail
            go_roundg gk'
            case measure => omega
            case rel => exact ⟨k + 1, by rw [show ((2 * (k + 1) : Nat) : Int) = (i : Int) + 2 by have := HIk.out; omega], by have := HGK.out; omega, HOn.out, HB4.out⟩
          · have hltz2 : ¬ (i : Int) + 2 < (L : Int) := by omega
            rw [if_neg hlt2, Nat.add_zero] at hhb
            have HHb := Lib.hid hhb
            generalize 16 * x = V at *
            clear hhb
            have HA := Lib.hid (HO.out.alloc (.cells #[.int .u8 (V : Int)] 5))
            have HD1 := Lib.hid (datE_one u8cel wr V 5 _ rfl)
            go_wp2_with (at_builtin; refine list_appE u8cel_one _ rfl _ _ 22 rfl i0 (.int .u8 0) 1 Try.underlying22 HI.out.1 HI.out.2.1 HI.out.2.2.1 HI.out.2.2.2 rfl (by decide) rfl HA.out rfl HD1.out rfl ?_ ?_ ?_)
            · have := HIk.out; simp [hbs_len]; omega
            · first | omega | (simp; omega)
            intro v1 w4 ho1 hg1 hat1
            have HB4 := Lib.hid ((HB.out.alloc (by omega) (.cells #[.int .u8 (V : Int)] 5)).grown hg1 (by simp; omega) (fun k hk => (HO.out.block k hk).1))
            have hnx : H :: (hbs (nat bs) (L - 1) k ++ [V]) = H :: hbs (nat bs) (L - 1) (k + 1) := by rw [hbs_succ, HHb.out]
            rw [hnx] at ho1
            have HOn := Lib.hid ho1
            clear ho1 hg1 hat1 HA HD1 hnx
            go_wp2_with fail
            go_roundg gk'
            case measure => omega
            case rel => exact ⟨k + 1, by rw [show ((2 * (k + 1) : Nat) : Int) = (i : Int) + 2 by have := HIk.out; omega], by have := HGK.out; omega, HOn.out, HB4.out⟩
        · have hltz : ¬ (i : Int) + 1 < (L : Int) := by omega
          clear hi
          obtain rfl : k = L / 2 := by have := HIk.out; omega
          have hde : H :: hbs (nat bs) (L - 1) (L / 2) = descr (nat bs) := by unfold descr; rw [HBL.out, HH.out]
          rw [hde] at HO
          have hlt8 := descr_lt HM.out (by rw [HBL.out]; omega)
          obtain ⟨A, c, rfl, hc, hD⟩ := HO.out.form
          have hDb := hD.bytes hlt8
          have hlb : (byt (descr (nat bs))).length = (descr (nat bs)).length := by simp [byt]
          have hcv := run_str (P := Try.prog) wr 22 Try.underlying22 Try.underlying5 (c := c) hDb hlb 9 Try.underlying9
          have HHd := Lib.hid hd0
          clear hD hDb hlb hde hlt8 HO
          go_wp2_with fail
          go_ret2
          exact ⟨HB.out, .inr ⟨d, HM.out, .inr ⟨by rw [HBL.out]; omega, rfl⟩⟩⟩
  · subst hw1
    have HN := Lib.hid hno
    clear hno HDp
    go_wp2_with fail
    go_ret2
    exact ⟨Below.refl _ _, .inl ⟨HN.out, rfl⟩⟩
end
end Go.Proofs.Ytafdfjacfodbnaa
