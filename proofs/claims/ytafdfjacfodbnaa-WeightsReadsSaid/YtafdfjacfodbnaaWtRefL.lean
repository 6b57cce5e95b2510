
/- The contract of the document's halves. -/
import Derived.Test.YtafdfjacfodbnaaWtRef
import Derived.Test.YtafdfjacfodbnaaWtHalves
import Derived.Test.YtafdfjacfodbnaaPileC
namespace Go.Proofs.Ytafdfjacfodbnaa
open Go.RowKit

theorem u8cel_one' (x : Nat) : (u8cel x).oneCell' = true := rfl
theorem str_data (S : ByteArray) : S = str S.data.toList := rfl
section
variable {w : World}
set_option maxRecDepth 100000 in
set_option maxHeartbeats 2000000 in
theorem refHalves_any (S : ByteArray) (hs : S.size ≤ 100000) (n : Nat) (hn : n ≤ 1000) :
    Calls Try.prog 32 #[.string S, .int .i64 (n : Int)] w fun e w' => Below w.heap.size w w' ∧ ((2 * S.size < n ∧ e = .returned (.tuple #[.string (str []), .int .i64 10])) ∨ (n ≤ 2 * S.size ∧ e = .returned (.tuple #[.string (str (byt (halvesL (nat S.data.toList) n))), .int .i64 0]))) := by
  obtain ⟨L, hL⟩ : ∃ L, L = S.size := ⟨_, rfl⟩
  obtain ⟨bs, hbs⟩ : ∃ bs, bs = S.data.toList := ⟨_, rfl⟩
  have hbl : (nat bs).length = L := by rw [nat_len, hbs, hL]; simp
  have HBS := Lib.hid hbs
  have hsz := hL.symm
  rw [← hbs, ← hL]
  rw [← hL] at hs
  have HBL := Lib.hid hbl
  clear hL hbs hbl
  by_cases hlt : 2 * L < n
  · have hltz : 2 * (L : Int) < (n : Int) := by omega
    go_enter Try.func32, Try.ntmps32
    go_wp2_with fail
    go_ret2
    exact ⟨Below.refl _ _, .inl ⟨hlt, rfl⟩⟩
  · have hltz : ¬ 2 * (L : Int) < (n : Int) := by omega
    obtain ⟨i0, hi0, hi1⟩ := Option.map_eq_some_iff.1 info_byte
    simp only [Prod.mk.injEq] at hi1
    obtain ⟨hz0, hz1, hz2⟩ := hi1
    have HI := Lib.hid (And.intro hi0 (And.intro hz0 (And.intro hz1 hz2)))
    clear hi0 hz0 hz1 hz2
    go_enter Try.func32, Try.ntmps32
    go_wp2_with fail
    go_loopg [6, 7] n (fun gh vl vi wx => ∃ i : Nat, vi = .int .i64 (i : Int) ∧ i + gh = n ∧ OwE u8cel wx 5 w.heap.size vl (halvesL (nat bs) i) ∧ Below w.heap.size w wx)
    case atStart => exact ⟨0, rfl, by omega, OwE.nil _ _ _ _, Below.refl _ _⟩
    case round =>
      obtain ⟨i, rfl, hi, hO, hB⟩ := hrel
      have HO := Lib.hid hO
      have HB := Lib.hid hB
      have hsB := hB.size
      have HGK := Lib.hid hi
      have hin : i ≤ n := by omega
      clear hO hB hi
      by_cases hlt2 : i < n
      · have hltz2 : (i : Int) < (n : Int) := by omega
        obtain ⟨gk', rfl⟩ : ∃ g', gk = g' + 1 := ⟨gk - 1, by have := HGK.out; omega⟩
        obtain ⟨k, hk⟩ : ∃ k, k = i / 2 := ⟨_, rfl⟩
        have hkS : k < S.size := by omega
        have hkl : k < (nat bs).length := by rw [HBL.out]; omega
        have e5 := str_nat HBS.out hkS hkl
        have e5z : ((S[k].toNat : Nat) : Int) = (((nat bs)[k] : Nat) : Int) := by rw [e5]
        have hx8 : (nat bs)[k] ≤ 255 := by rw [← e5]; have := (S[k]).toNat_lt; omega
        have hgk : (nat bs).getD k 0 = (nat bs)[k] := getD_eq _ _ _ _
        have hfe : hfW (nat bs) i = (nat bs)[k] / 2 ^ (4 * (1 - i % 2)) % 16 := by unfold hfW; rw [← hk, hgk]
        have hnx : halvesL (nat bs) (i + 1) = halvesL (nat bs) i ++ [hfW (nat bs) i] := by simp [halvesL, List.range_succ]
        have k1 : (i : Int) / 2 = (k : Int) := by omega
        have k2 : IntKind.i64.wrap (k : Int) = (k : Int) := IntWalk.i64_in _ (by omega)
        have hkL : (k : Int) < (L : Int) := by omega
        generalize (nat bs)[k] = x at *
        have hll : (halvesL (nat bs) i).length ≤ 1000 := by rw [halves_len]; omega
        have HK := Lib.hid hk
        clear hk e5 hgk
        rcases Nat.mod_two_eq_zero_or_one i with e | e
        · have m1 : (i : Int) % 2 = 0 := by omega
          obtain ⟨V, hV⟩ : ∃ V, V = x / 16 := ⟨_, rfl⟩
          have v1 : (x : Int) / 16 = (V : Int) := by omega
          have hfe2 : hfW (nat bs) i = V := by rw [hfe, e, hV]; simp only [Nat.sub_zero, Nat.mul_one, Nat.reducePow]; omega
          rw [hfe2] at hnx
          have HNx := Lib.hid hnx
          have hV8 : V ≤ 255 := by omega
          have HM := Lib.hid e
          clear hV hfe hfe2 hnx e
          have HA := Lib.hid (HO.out.alloc (.cells #[.int .u8 (V : Int)] 5))
          have HD1 := Lib.hid (datE_one u8cel wr V 5 _ rfl)
          go_wp2_with (at_builtin; refine list_appE u8cel_one' _ rfl _ _ 22 rfl i0 (.int .u8 0) 1 Try.underlying22 HI.out.1 HI.out.2.1 HI.out.2.2.1 HI.out.2.2.2 rfl (by decide) rfl HA.out rfl HD1.out rfl ?_ ?_ ?_)
          · first | omega | (simp; omega)
          · first | omega | (simp; omega)
          intro v1' w4 ho1 hg1 hat1
          have HB4 := Lib.hid ((HB.out.alloc (by omega) (.cells #[.int .u8 (V : Int)] 5)).grown hg1 (by simp; omega) (fun k hk => (HO.out.block k hk).1))
          rw [← HNx.out] at ho1
          have HOn := Lib.hid ho1
          clear ho1 hg1 hat1 HA HD1
          go_wp2_with fail
          go_roundg gk'
          case measure => omega
          case rel => exact ⟨i + 1, by go_num, by have := HGK.out; omega, HOn.out, HB4.out⟩
        · have m1 : ((i : Int) % 2 == 0) = false := by rw [beq_eq_false_iff_ne]; omega
          have m2 : (i : Int) % 2 = 1 := by omega
          obtain ⟨V, hV⟩ : ∃ V, V = x % 16 := ⟨_, rfl⟩
          have v1 : (x : Int) % 16 = (V : Int) := by omega
          have hfe2 : hfW (nat bs) i = V := by rw [hfe, e, hV]; simp only [Nat.sub_self, Nat.mul_zero, Nat.pow_zero, Nat.div_one]
          rw [hfe2] at hnx
          have HNx := Lib.hid hnx
          have hV8 : V ≤ 255 := by omega
          have HM := Lib.hid e
          clear hV hfe hfe2 hnx e
          have HA := Lib.hid (HO.out.alloc (.cells #[.int .u8 (V : Int)] 5))
          have HD1 := Lib.hid (datE_one u8cel wr V 5 _ rfl)
          go_wp2_with (at_builtin; refine list_appE u8cel_one' _ rfl _ _ 22 rfl i0 (.int .u8 0) 1 Try.underlying22 HI.out.1 HI.out.2.1 HI.out.2.2.1 HI.out.2.2.2 rfl (by decide) rfl HA.out rfl HD1.out rfl ?_ ?_ ?_)
          · first | omega | (simp; omega)
          · first | omega | (simp; omega)
          intro v1' w4 ho1 hg1 hat1
          have HB4 := Lib.hid ((HB.out.alloc (by omega) (.cells #[.int .u8 (V : Int)] 5)).grown hg1 (by simp; omega) (fun k hk => (HO.out.block k hk).1))
          rw [← HNx.out] at ho1
          have HOn := Lib.hid ho1
          clear ho1 hg1 hat1 HA HD1
          go_wp2_with fail
          go_roundg gk'
          case measure => omega
          case rel => exact ⟨i + 1, by go_num, by have := HGK.out; omega, HOn.out, HB4.out⟩
      · obtain rfl : i = n := by omega
        have hltz2 : ¬ (i : Int) < (i : Int) := by omega
        obtain ⟨A, c, rfl, hc, hD⟩ := HO.out.form
        have hDb := hD.bytes (fun x hx => by have := halves_lt x hx; omega)
        have hlb : (byt (halvesL (nat bs) i)).length = (halvesL (nat bs) i).length := by simp [byt]
        have hcv := run_str (P := Try.prog) wr 22 Try.underlying22 Try.underlying5 (c := c) hDb hlb 9 Try.underlying9
        clear hD hDb hlb HO
        go_wp2_with fail
        go_ret2
        exact ⟨HB.out, by omega, rfl⟩
end
end Go.Proofs.Ytafdfjacfodbnaa
