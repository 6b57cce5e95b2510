/- The contracts of the document's Take and Number where there are bytes enough: of any string. -/
import Derived.Test.YtlcbopjadjbmoaaCurPlain
import Derived.Test.YtlcbopjadjbmoaaCurApp
import Derived.Test.YtlcbopjadjbmoaaRows
import Derived.WalkKit
import Derived.WalkSpells
import Derived.WalkLawsBesides
import Derived.Lib.Hide
import Derived.Deep.LoopGhost
namespace Go.Proofs.Ytlcbopjadjbmoaa
open Go.RowKit

theorem str_size (xs : List UInt8) : (str xs).size = xs.length := by simp [str, ByteArray.size]
theorem str_take (xs : List UInt8) (k : Nat) : (str xs).extract 0 k = str (xs.take k) := by
  apply ByteArray.ext
  simp [str, ByteArray.data_extract]
theorem str_from (xs : List UInt8) (k n : Nat) (hn : n = xs.length) : (str xs).extract k n = str (xs.drop k) := by
  subst hn
  apply ByteArray.ext
  simp only [str, ByteArray.data_extract]
  apply Array.ext'
  simp only [List.extract_toArray, List.extract_eq_take_drop]
  exact List.take_of_length_le (by simp)
theorem refTake_ok (s : ByteArray) (k : Nat) (hk : k ≤ s.size) (w : World) :
    Calls Try.prog 26 #[.agg #[.string s, .int .i64 0], .int .i64 (k : Int)] w fun e w' => e = .returned (.tuple #[.agg #[.string (s.extract k s.size), .int .i64 0], .string (s.extract 0 k)]) ∧ Below w.heap.size w w' := by
  go_enter Try.func26, Try.ntmps26
  go_wp2
  exact bodyPost_ret (v := .tuple #[.agg #[.string (s.extract k s.size), .int .i64 0], .string (s.extract 0 k)]) (by simp [results, Try.results26, go_sem]) rfl ⟨rfl, by repeat (first | exact Below.refl _ _ | refine Below.alloc ?_ (by simp) _ | refine Below.setCell ?_ (by simp) _)⟩

/-- Two new blocks, read behind a call that leaves what was there. -/
theorem two_boxes {w w1 : World} {c1 c2 : Array Value} {t1 t2 : TypeId} (hB : Below ((w.alloc (.cells c1 t1)).alloc (.cells c2 t2)).heap.size ((w.alloc (.cells c1 t1)).alloc (.cells c2 t2)) w1) :
    Box w1 w.heap.size t1 c1 ∧ Box w1 (w.heap.size + 1) t2 c2 ∧ w.heap.size + 2 ≤ w1.heap.size ∧ Below w.heap.size w w1 := by
  have hs := hB.size
  simp only [World.size_alloc] at hs
  have h1 := ((Box.new w t1 c1).alloc (.cells c2 t2)).below hB (by simp only [World.size_alloc]; omega)
  have h2 := Box.new (w.alloc (.cells c1 t1)) t2 c2
  have h2' := h2.below hB (by simp only [World.size_alloc]; omega)
  simp only [World.size_alloc] at h2'
  exact ⟨h1, h2', by omega, (((Below.refl _ _).alloc (Nat.le_refl _) _).alloc (by simp) _).trans (hB.mono (by simp only [World.size_alloc]; omega))⟩

/-- One round of the document's reading of a number. -/
theorem sum_step (xs : List UInt8) (k : Nat) (hk : k < xs.length) (h8 : xs.length ≤ 8) :
    IntKind.u64.wrap ((le (xs.take k) : Int) + IntKind.u64.wrap (IntKind.u64.wrap (xs[k].toNat : Int) * IntKind.u64.wrap ((256 ^ k : Nat) : Int))) = (le (xs.take (k + 1)) : Nat) := by
  have hl : (xs.take k).length = k := by simp; omega
  have hx := le_lt (xs.take k)
  rw [hl] at hx
  have hP : 256 ^ k ≤ 256 ^ 7 := Nat.pow_le_pow_right (by omega) (by omega)
  have hc := xs[k].toNat_lt
  have hcp : xs[k].toNat * 256 ^ k ≤ 255 * 256 ^ 7 := Nat.mul_le_mul (by omega) hP
  rw [List.take_succ_eq_append_getElem hk, le_snoc, hl]
  have h1 : IntKind.u64.wrap (xs[k].toNat : Int) = (xs[k].toNat : Int) := by rw [IntKind.wrap_u64]; omega
  have h2 : IntKind.u64.wrap ((256 ^ k : Nat) : Int) = ((256 ^ k : Nat) : Int) := by rw [IntKind.wrap_u64]; omega
  rw [h1, h2, ← Int.natCast_mul]
  have h3 : IntKind.u64.wrap ((xs[k].toNat * 256 ^ k : Nat) : Int) = ((xs[k].toNat * 256 ^ k : Nat) : Int) := by rw [IntKind.wrap_u64]; omega
  rw [h3, IntKind.wrap_u64]
  omega
theorem pow_step (k : Nat) : IntKind.u64.wrap (IntKind.u64.wrap ((256 ^ k : Nat) : Int) * 256) = IntKind.u64.wrap ((256 ^ (k + 1) : Nat) : Int) := by
  rw [IntKind.wrap_u64, IntKind.wrap_u64, IntKind.wrap_u64, Nat.pow_succ]
  omega

theorem sum_round (S : ByteArray) (k : Nat) (hk : k < S.size) (h8 : S.size ≤ 8) :
    Value.int .u64 (IntKind.u64.wrap ((le (S.data.toList.take k) : Int) + IntKind.u64.wrap (IntKind.u64.wrap (S[k].toNat : Int) * IntKind.u64.wrap (256 ^ k)))) = .int .u64 (le (S.data.toList.take (k + 1)) : Nat) := by
  have h := sum_step S.data.toList k (by simpa using hk) (by simpa using h8)
  have e : ((256 ^ k : Nat) : Int) = (256 : Int) ^ k := by simp
  rw [e] at h
  exact congrArg _ h
theorem pow_round (k : Nat) : Value.int .u64 (IntKind.u64.wrap (IntKind.u64.wrap (256 ^ k) * 256)) = .int .u64 (IntKind.u64.wrap ((256 ^ (k + 1) : Nat) : Int)) := by
  have h := pow_step k
  have e : ((256 ^ k : Nat) : Int) = (256 : Int) ^ k := by simp
  rw [e] at h
  exact congrArg _ h

theorem extract_from (S : ByteArray) (k : Nat) : (S.extract k S.size).data.toList = S.data.toList.drop k := by
  rw [ByteArray.data_extract, Array.toList_extract, List.extract_eq_take_drop]
  exact List.take_of_length_le (by simp)
theorem extract_upto (S : ByteArray) (k : Nat) : (S.extract 0 k).data.toList = S.data.toList.take k := by
  rw [ByteArray.data_extract, Array.toList_extract, List.extract_eq_take_drop]
  simp

set_option maxHeartbeats 400000 in
theorem refNumber_ok (S0 : ByteArray) (m : Nat) (h1 : 1 ≤ m) (h8 : m ≤ 8) (hm : m ≤ S0.size) (w : World) :
    Calls Try.prog 24 #[.agg #[.string S0, .int .i64 0], .int .i64 (m : Int)] w fun e w' =>
      e = .returned (.tuple #[.agg #[.string (S0.extract m S0.size), .int .i64 0], .int .u64 (le (S0.data.toList.take m) : Nat)]) ∧ Below w.heap.size w w' := by
  have HT := Lib.hid (fun W => refTake_ok S0 m hm W)
  have hd : decide (8 < m) = false := decide_eq_false (by omega)
  have hd2 : decide ((8 : Int) < (m : Int)) = false := decide_eq_false (by omega)
  have h1i : ¬ (m : Int) < 1 := by omega
  have h8i : ¬ (8 : Int) < (m : Int) := by omega
  obtain ⟨S, hS⟩ : ∃ S, S = S0.extract 0 m := ⟨_, rfl⟩
  have hl : S.data.toList = S0.data.toList.take m := by rw [hS, extract_upto]
  have hsz : S.size = m := by
    have : S.data.toList.length = m := by rw [hl, List.length_take]; simp; omega
    simpa using this
  have HL := Lib.hid hl
  have HS := Lib.hid hsz
  obtain ⟨S1, hS1⟩ : ∃ S1, S1 = S0.extract m S0.size := ⟨_, rfl⟩
  rw [← hS, ← hS1] at HT
  rw [← hS1, ← HL.out]
  have hS8 : S.size ≤ 8 := by omega
  clear hl hsz hS hS1
  go_enter Try.func24, Try.ntmps24
  go_wp2_with (go_at_call 26; refine (HT.out _).mono ?_; rintro e w1 ⟨rfl, hB⟩; obtain ⟨hb1, hb2, hs1, hb3⟩ := two_boxes hB; have hc0 : w1.cell? ⟨w.heap.size, 0, none⟩ = some (.string S0) := hb1.cell 0; have hc1 : w1.cell? ⟨w.heap.size, 1, none⟩ = some (.int .i64 0) := hb1.cell 1; have hd0 : w1.cell? ⟨w.heap.size + 1, 0, none⟩ = some (.string ⟨#[]⟩) := hb2.cell 0; have hd1 : w1.cell? ⟨w.heap.size + 1, 1, none⟩ = some (.int .i64 0) := hb2.cell 1; have hf0 := hb1.free 0; have hf1 := hb1.free 1; have hg0 := hb2.free 0; have hg1 := hb2.free 1; have HB := Lib.hid hb3; clear hB hb1 hb2 hb3)
  go_loop [7, 8, 9] (fun x m i => ∃ k : Nat, k ≤ S.size ∧ i = .int .i64 k ∧ x = .int .u64 (le (S.data.toList.take k) : Nat) ∧ m = .int .u64 (IntKind.u64.wrap ((256 ^ k : Nat) : Int))) (fun _ _ i => S.size - (intOf i).toNat)
  case atStart => exact ⟨0, Nat.zero_le _, rfl, rfl, rfl⟩
  case round =>
    obtain ⟨k, hk, rfl, rfl, rfl⟩ := hrel
    by_cases hlt : k < S.size
    · go_wp2
      go_round
      case rel => exact ⟨k + 1, by omega, by go_num, sum_round S k hlt hS8, pow_round k⟩
      case measure => simp [intOf]; omega
    · have hkk : Hid (S.data.toList.take k = S.data.toList) := List.take_of_length_le (by simp; omega)
      go_wp2
      exact bodyPost_ret (v := .tuple #[.agg #[.string S1, .int .i64 0], .int .u64 (le (S.data.toList.take k) : Nat)]) (by simp [results, Try.results24, go_sem, *]) rfl ⟨by rw [hkk.out], by repeat (first | exact HB.out | refine Below.setCell ?_ (by simp) _)⟩
end Go.Proofs.Ytlcbopjadjbmoaa
