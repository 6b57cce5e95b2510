
/- The contracts of the document's Number (all cases) and Put. -/
import Derived.Test.YtieepdhajjibpaaDoorCurRef
namespace Go.Proofs.YtieepdhajjibpaaDoor
open Go.RowKit

/-- One round of the document's reading of a number. -/
theorem sum_step (xs : List UInt8) (k : Nat) (hk : k < xs.length) (h8 : xs.length ≤ 8) :
    IntKind.u64.wrap ((le (xs.take k) : Int) + IntKind.u64.wrap (IntKind.u64.wrap (xs[k].toNat : Int) * IntKind.u64.wrap ((256 ^ k : Nat) : Int))) = (le (xs.take (k + 1)) : Nat) := by
  have hl : (xs.take k).length = k := by simp; omega
  have hx := le_lt (xs.take k)
  rw [hl] at hx
  have hP : 256 ^ k ≤ 256 ^ 7 := Nat.pow_le_pow_right (by omega) (by omega)
  have hc := xs[k].toNat_lt
  have hcp : xs[k].toNat * 256 ^ k ≤ 255 * 256 ^ 7 := Nat.mul_le_mul (by omega) hP
  rw [List.take_succ_eq_append_getElem hk, le_snoc, hl]
  have h1 : IntKind.u64.wrap (xs[k].toNat : Int) = (xs[k].toNat : Int) := by rw [IntKind.wrap_u64]; omega
  have h2 : IntKind.u64.wrap ((256 ^ k : Nat) : Int) = ((256 ^ k : Nat) : Int) := by rw [IntKind.wrap_u64]; omega
  rw [h1, h2, ← Int.natCast_mul]
  have h3 : IntKind.u64.wrap ((xs[k].toNat * 256 ^ k : Nat) : Int) = ((xs[k].toNat * 256 ^ k : Nat) : Int) := by rw [IntKind.wrap_u64]; omega
  rw [h3, IntKind.wrap_u64]
  omega
theorem pow_step (k : Nat) : IntKind.u64.wrap (IntKind.u64.wrap ((256 ^ k : Nat) : Int) * 256) = IntKind.u64.wrap ((256 ^ (k + 1) : Nat) : Int) := by
  rw [IntKind.wrap_u64, IntKind.wrap_u64, IntKind.wrap_u64, Nat.pow_succ]
  omega

theorem sum_round (S : ByteArray) (k : Nat) (hk : k < S.size) (h8 : S.size ≤ 8) :
    Value.int .u64 (IntKind.u64.wrap ((le (S.data.toList.take k) : Int) + IntKind.u64.wrap (IntKind.u64.wrap (S[k].toNat : Int) * IntKind.u64.wrap (256 ^ k)))) = .int .u64 (le (S.data.toList.take (k + 1)) : Nat) := by
  have h := sum_step S.data.toList k (by simpa using hk) (by simpa using h8)
  have e : ((256 ^ k : Nat) : Int) = (256 : Int) ^ k := by simp
  rw [e] at h
  exact congrArg _ h
theorem pow_round (k : Nat) : Value.int .u64 (IntKind.u64.wrap (IntKind.u64.wrap (256 ^ k) * 256)) = .int .u64 (IntKind.u64.wrap ((256 ^ (k + 1) : Nat) : Int)) := by
  have h := pow_step k
  have e : ((256 ^ k : Nat) : Int) = (256 : Int) ^ k := by simp
  rw [e] at h
  exact congrArg _ h

theorem put_high (x m : Int) (w : World) (hm : 8 < m) :
    Calls Tryd.prog 38 #[.int .u64 x, .int .i64 m] w fun e w' => e = .returned (.string ⟨#[]⟩) ∧ w = w' := by
  go_enter Tryd.func38, Tryd.ntmps38
  go_wp2
  go_ret
  exact ⟨rfl, rfl⟩

set_option maxRecDepth 20000 in
set_option maxHeartbeats 400000 in
theorem put_go (x : Nat) (m : Int) (w : World) (hm : m ≤ 8) (hx : x < 18446744073709551616) :
    Calls Tryd.prog 38 #[.int .u64 (x : Int), .int .i64 m] w fun e w' => e = .returned (.string (str (put x m.toNat))) ∧ Below w.heap.size w w' := by
  obtain ⟨i0, hi0, hz0, hz1, hz2⟩ := info_parts u8_info
  have HX := Lib.hid hx
  clear hx
  go_enter Tryd.func38, Tryd.ntmps38
  go_wp2
  go_loopw [0, 5, 6] (fun y v i wr => ∃ k Y : Nat, k ≤ m.toNat ∧ i = .int .i64 k ∧ y = .int .u64 (Y : Int) ∧ Hid (Y = x / 256 ^ k) ∧ OwB wr 5 w.heap.size v (put x k) ∧ Below w.heap.size w wr) (fun _ _ i _ => m.toNat - (intOf i).toNat)
  case atStart => exact ⟨0, x, Nat.zero_le _, rfl, rfl, by unfold Hid; simp, OwB.nil _ _ _, Below.refl _ _⟩
  case round =>
    obtain ⟨k, Y, hk, rfl, rfl, HY, ho, hB⟩ := hrel
    have HB := Lib.hid hB
    have hsz := hB.size
    obtain ⟨A, c, hv, _, _⟩ := ho.form
    obtain ⟨n, hn⟩ : ∃ n, n = (put x k).length := ⟨_, rfl⟩
    rw [← hn] at hv
    subst hv
    clear hn
    have HO := Lib.hid ho
    clear hB ho
    have hY : Y < 18446744073709551616 := by
      rw [HY.out]
      exact Nat.lt_of_le_of_lt (Nat.div_le_self _ _) HX.out
    have HYb := Lib.hid hY
    clear hY
    by_cases hlt : (k : Int) < m
    · have HD : Hid (Dat true (wr.alloc (.cells #[.int .u8 ((Y : Int) % 256)] 5)) wr.heap.size (wr.heap.size + 1) (some ⟨wr.heap.size, 0, none⟩) [UInt8.ofNat (x / 256 ^ k % 256)]) := by
        have e : (Y : Int) % 256 = ((UInt8.ofNat (x / 256 ^ k % 256)).toNat : Nat) := by rw [HY.out]; simp
        rw [e]
        exact dat_one wr _ _
      go_wp2_with (at_builtin; refine list_app _ rfl _ _ 23 rfl i0 Tryd.underlying23 hi0 hz0 hz1 hz2 rfl (OwB.alloc HO.out _) rfl HD.out rfl ?_ ?_ ?_)
      · rw [put_length]; omega
      · simp only [World.size_alloc]; omega
      intro v' w1 ho hgr hat
      have HO' := Lib.hid ho
      have hb : Below w.heap.size w w1 := (HB.out.alloc hsz _).grown hgr (by simp only [World.size_alloc]; omega) (fun j hj => (HO.out.block j hj).1)
      have HB' := Lib.hid hb
      clear ho hgr hat hb
      go_wp2
      go_roundw
      case rel =>
        refine ⟨k + 1, Y / 256, by omega, by go_num, (by have := HYb.out; simp; rw [IntKind.wrap_u64]; omega), ?_, ?_, HB'.out⟩
        · unfold Hid
          rw [HY.out, Nat.div_div_eq_div_mul, Nat.pow_succ]
        · rw [put_snoc]
          exact HO'.out
      case measure => simp [intOf]; omega
    · have hkm : k = m.toNat := by omega
      obtain ⟨A', c', hv', _, hd'⟩ := HO.out.form
      have hkk : Hid (k = m.toNat) := hkm
      clear hkm
      injection hv' with e1 e2 e3
      subst e1
      have hcv := run_str (P := Tryd.prog) wr 23 Tryd.underlying23 Tryd.underlying5 (c := c) hd' e2.symm 9 Tryd.underlying9
      clear e2 e3 hd'
      go_wp2
      go_ret
      exact ⟨by rw [← hkk.out]; rfl, HB.out⟩

theorem put_any (x : Nat) (m : Int) (w : World) (hx : x < 18446744073709551616) :
    Calls Tryd.prog 38 #[.int .u64 (x : Int), .int .i64 m] w fun e w' => e = .returned (.string (str (putw x m))) ∧ Below w.heap.size w w' := by
  by_cases h8 : m ≤ 8
  · have he : putw x m = put x m.toNat := by
      unfold putw wid
      by_cases h1 : 1 ≤ m
      · simp [h1, h8]
      · have : m.toNat = 0 := by omega
        simp [h1, this, put]
    rw [he]
    exact put_go x m w h8 hx
  · have he : putw x m = [] := by unfold putw wid; simp [h8]
    rw [he]
    refine (put_high x m w (by omega)).mono fun e w' ⟨h1, h2⟩ => ?_
    subst h2
    exact ⟨h1, Below.refl _ _⟩
end Go.Proofs.YtieepdhajjibpaaDoor
