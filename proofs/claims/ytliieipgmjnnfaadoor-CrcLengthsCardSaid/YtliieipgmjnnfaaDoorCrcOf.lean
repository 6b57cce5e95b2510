/- The contract of the document's Of: CRC-32C of any bytes. -/
import Derived.Test.YtliieipgmjnnfaaDoorCrcPlain
import Derived.Test.YtliieipgmjnnfaaDoorRows
import Derived.WalkLawsBesides
import Derived.Lib.Hide
import Derived.Outline
import Derived.Deep.LoopGhost
import Derived.Deep.CutRange
import Derived.Deep.DeepCutAuto
namespace Go.Proofs.YtliieipgmjnnfaaDoor
open Go.RowKit

theorem w_xpoly (a : UInt32) : bits .xor .u32 (a.toNat : Int) 2197175160 = ((wX a poly).toNat : Int) := by
  rw [← w_xor]; rfl
theorem w_xall (a : UInt32) : bits .xor .u32 (a.toNat : Int) 4294967295 = ((wC a).toNat : Int) := by
  have h : (4294967295 : Int) = (((4294967295 : UInt32).toNat : Nat) : Int) := by decide
  rw [h, w_xor, wX, wC]
  have e : ~~~a = a ^^^ 4294967295 := by
    apply UInt32.toBitVec_inj.1
    simp only [UInt32.toBitVec_not, UInt32.toBitVec_xor]
    exact (BitVec.xor_allOnes).symm
  rw [e]
theorem w_half (a : UInt32) : (a.toNat : Int) / 2 = ((down a 1).toNat : Int) := by rw [down_nat]; rfl
attribute [local go_sem high] w_xor w_xpoly w_xall w_half

set_option maxRecDepth 100000 in
set_option maxHeartbeats 1000000 in
theorem of_same (S : ByteArray) (w : World) (hs : S.size ≤ 1000000000000) :
    Calls Tryd.prog 11 #[.string S] w fun e w' => e = .returned (.int .u32 ((crcOf S.data.toList).toNat : Int)) ∧ w = w' := by
  obtain ⟨L, hL⟩ : ∃ L, L = S.size := ⟨_, rfl⟩
  obtain ⟨bs, hbs⟩ : ∃ bs, bs = S.data.toList := ⟨_, rfl⟩
  have hbl : bs.length = L := by rw [hbs, hL]; simp
  have HBS := Lib.hid hbs
  have HBL := Lib.hid hbl
  have hsz := hL.symm
  rw [← hbs]
  rw [← hL] at hs
  clear hL hbs hbl
  go_enter Tryd.func11, Tryd.ntmps11
  go_wp2_with fail
  go_loopg [3, 4] L (fun gh x i wx => ∃ k : Nat, w = wx ∧ k + gh = L ∧ i = .int .i64 k ∧ x = .int .u32 ((reg 4294967295 (bs.take k)).toNat : Int))
  case atStart => exact ⟨0, rfl, by omega, rfl, rfl⟩
  case round =>
    obtain ⟨k, rfl, hk, rfl, rfl⟩ := hrel
    have HK := Lib.hid hk
    have hkL : k ≤ L := by omega
    clear hk
    obtain ⟨y, hy⟩ : ∃ y, y = reg 4294967295 (bs.take k) := ⟨_, rfl⟩
    rw [← hy]
    have HY := Lib.hid hy
    clear hy
    by_cases hlt : k < L
    · have hlS : k < S.size := by rw [hsz]; exact hlt
      have hkl : k < bs.length := by rw [HBL.out]; exact hlt
      obtain ⟨b, hbb⟩ : ∃ b, b = bs.getD k 0 := ⟨_, rfl⟩
      have HS : Hid (reg 4294967295 (bs.take (k + 1)) = hvs 8 (wX y (w8 b))) := by unfold Hid; rw [reg_snoc _ bs k hkl, ← HY.out, ← hbb]; rfl
      have hst : S[k] = b := by
        rw [hbb, HBS.out, List.getD_eq_getElem?_getD, List.getElem?_eq_getElem (by simpa using hlS)]
        rfl
      have h8t : ((S[k]).toNat : Int) = ((w8 b).toNat : Int) := by rw [hst, w8_nat]
      have hwr : IntKind.u32.wrap ((w8 b).toNat : Int) = ((w8 b).toNat : Int) := by rw [IntKind.wrap_u32']; have := (w8 b).toNat_lt; omega
      clear hbb hst hkl
      obtain ⟨x0, hx0⟩ : ∃ x0, x0 = wX y (w8 b) := ⟨_, rfl⟩
      have HX0 := Lib.hid hx0
      rw [← hx0] at HS
      clear hx0
      go_wp2_with fail
      go_loopg [3, 5] 8 (fun gh x i wx => ∃ j : Nat, w = wx ∧ j + gh = 8 ∧ i = .int .i64 j ∧ x = .int .u32 ((hvs j x0).toNat : Int))
      case atStart => exact ⟨0, rfl, by omega, rfl, by rw [HX0.out]; rfl⟩
      case round =>
        obtain ⟨j, rfl, hj, rfl, rfl⟩ := hrel
        have HJ := Lib.hid hj
        have hj8 : j ≤ 8 := by omega
        clear hj
        obtain ⟨z, hz⟩ : ∃ z, z = hvs j x0 := ⟨_, rfl⟩
        have HN : Hid (hvs (j + 1) x0 = hv z) := by rw [hz]; rfl
        have hmd : ((down z 1).toNat : Int) % 4294967296 = ((down z 1).toNat : Int) := by have := (down z 1).toNat_lt; omega
        rw [← hz]
        have HZ := Lib.hid hz
        clear hz
        by_cases hjl : j < 8
        · have hji : (j : Int) < 8 := by omega
          by_cases ho : z.toNat % 2 = 1
          · have hoi : (z.toNat : Int) % 2 = 1 := by omega
            have hot : (z.toNat : Int).tmod 2 = 1 := by rw [Int.tmod_eq_emod_of_nonneg (by omega)]; exact hoi
            have HV : Hid (hv z = wX (down z 1) poly) := by unfold Hid hv; rw [if_pos ho]
            go_wp2_with fail
            go_roundg (8 - (j + 1))
            case measure => have := HJ.out; omega
            case rel => exact ⟨j + 1, rfl, by omega, by go_num, by rw [HN.out, HV.out]⟩
          · have hoi : (z.toNat : Int) % 2 = 0 := by omega
            have hot : (z.toNat : Int).tmod 2 = 0 := by rw [Int.tmod_eq_emod_of_nonneg (by omega)]; exact hoi
            have HV : Hid (hv z = down z 1) := by unfold Hid hv; rw [if_neg ho]
            go_wp2_with fail
            go_roundg (8 - (j + 1))
            case measure => have := HJ.out; omega
            case rel => exact ⟨j + 1, rfl, by omega, by go_num, by rw [HN.out, HV.out]⟩
        · have hj8 : j = 8 := by omega
          subst hj8
          go_wp2_with fail
          go_roundg (L - (k + 1))
          case measure => have := HK.out; omega
          case rel => exact ⟨k + 1, rfl, by omega, by go_num, by rw [HS.out, HZ.out]⟩
    · have hkn : k = L := by omega
      have hti : ¬ (k : Int) < (L : Int) := by omega
      go_wp2_with fail
      go_ret
      exact ⟨by rw [crcOf, ← List.take_of_length_le (l := bs) (i := k) (by rw [HBL.out]; omega), ← HY.out]; rfl, rfl⟩
theorem of_any (S : ByteArray) (w : World) (hs : S.size ≤ 1000000000000) :
    Calls Tryd.prog 11 #[.string S] w fun e w' => e = .returned (.int .u32 ((crcOf S.data.toList).toNat : Int)) ∧ Below w.heap.size w w' :=
  (of_same S w hs).mono fun _ _ ⟨he, hw⟩ => ⟨he, hw ▸ Below.refl _ _⟩
end Go.Proofs.YtliieipgmjnnfaaDoor
