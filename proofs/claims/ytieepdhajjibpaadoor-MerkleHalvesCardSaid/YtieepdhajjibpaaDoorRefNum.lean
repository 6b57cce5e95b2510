
/- The contracts of the document's Take and Number where there are bytes enough: of any string. -/
import Derived.Test.YtieepdhajjibpaaDoorCurPlain
import Derived.Test.YtieepdhajjibpaaDoorCurApp
import Derived.Test.YtieepdhajjibpaaDoorRows
import Derived.WalkKit
import Derived.WalkSpells
import Derived.WalkLawsBesides
import Derived.Lib.Hide
import Derived.Deep.LoopGhost
namespace Go.Proofs.YtieepdhajjibpaaDoor
open Go.RowKit

theorem str_size (xs : List UInt8) : (str xs).size = xs.length := by simp [str, ByteArray.size]
theorem str_take (xs : List UInt8) (k : Nat) : (str xs).extract 0 k = str (xs.take k) := by
  apply ByteArray.ext
  simp [str, ByteArray.data_extract]
theorem str_from (xs : List UInt8) (k n : Nat) (hn : n = xs.length) : (str xs).extract k n = str (xs.drop k) := by
  subst hn
  apply ByteArray.ext
  simp only [str, ByteArray.data_extract]
  apply Array.ext'
  simp only [List.extract_toArray, List.extract_eq_take_drop]
  exact List.take_of_length_le (by simp)
/-- Two new blocks, read behind a call that leaves what was there. -/
theorem two_boxes {w w1 : World} {c1 c2 : Array Value} {t1 t2 : TypeId} (hB : Below ((w.alloc (.cells c1 t1)).alloc (.cells c2 t2)).heap.size ((w.alloc (.cells c1 t1)).alloc (.cells c2 t2)) w1) :
    Box w1 w.heap.size t1 c1 ∧ Box w1 (w.heap.size + 1) t2 c2 ∧ w.heap.size + 2 ≤ w1.heap.size ∧ Below w.heap.size w w1 := by
  have hs := hB.size
  simp only [World.size_alloc] at hs
  have h1 := ((Box.new w t1 c1).alloc (.cells c2 t2)).below hB (by simp only [World.size_alloc]; omega)
  have h2 := Box.new (w.alloc (.cells c1 t1)) t2 c2
  have h2' := h2.below hB (by simp only [World.size_alloc]; omega)
  simp only [World.size_alloc] at h2'
  exact ⟨h1, h2', by omega, (((Below.refl _ _).alloc (Nat.le_refl _) _).alloc (by simp) _).trans (hB.mono (by simp only [World.size_alloc]; omega))⟩

/-- One round of the document's reading of a number. -/
theorem sum_step (xs : List UInt8) (k : Nat) (hk : k < xs.length) (h8 : xs.length ≤ 8) :
    IntKind.u64.wrap ((le (xs.take k) : Int) + IntKind.u64.wrap (IntKind.u64.wrap (xs[k].toNat : Int) * IntKind.u64.wrap ((256 ^ k : Nat) : Int))) = (le (xs.take (k + 1)) : Nat) := by
  have hl : (xs.take k).length = k := by simp; omega
  have hx := le_lt (xs.take k)
  rw [hl] at hx
  have hP : 256 ^ k ≤ 256 ^ 7 := Nat.pow_le_pow_right (by omega) (by omega)
  have hc := xs[k].toNat_lt
  have hcp : xs[k].toNat * 256 ^ k ≤ 255 * 256 ^ 7 := Nat.mul_le_mul (by omega) hP
  rw [List.take_succ_eq_append_getElem hk, le_snoc, hl]
  have h1 : IntKind.u64.wrap (xs[k].toNat : Int) = (xs[k].toNat : Int) := by rw [IntKind.wrap_u64]; omega
  have h2 : IntKind.u64.wrap ((256 ^ k : Nat) : Int) = ((256 ^ k : Nat) : Int) := by rw [IntKind.wrap_u64]; omega
  rw [h1, h2, ← Int.natCast_mul]
  have h3 : IntKind.u64.wrap ((xs[k].toNat * 256 ^ k : Nat) : Int) = ((xs[k].toNat * 256 ^ k : Nat) : Int) := by rw [IntKind.wrap_u64]; omega
  rw [h3, IntKind.wrap_u64]
  omega
theorem pow_step (k : Nat) : IntKind.u64.wrap (IntKind.u64.wrap ((256 ^ k : Nat) : Int) * 256) = IntKind.u64.wrap ((256 ^ (k + 1) : Nat) : Int) := by
  rw [IntKind.wrap_u64, IntKind.wrap_u64, IntKind.wrap_u64, Nat.pow_succ]
  omega

theorem sum_round (S : ByteArray) (k : Nat) (hk : k < S.size) (h8 : S.size ≤ 8) :
    Value.int .u64 (IntKind.u64.wrap ((le (S.data.toList.take k) : Int) + IntKind.u64.wrap (IntKind.u64.wrap (S[k].toNat : Int) * IntKind.u64.wrap (256 ^ k)))) = .int .u64 (le (S.data.toList.take (k + 1)) : Nat) := by
  have h := sum_step S.data.toList k (by simpa using hk) (by simpa using h8)
  have e : ((256 ^ k : Nat) : Int) = (256 : Int) ^ k := by simp
  rw [e] at h
  exact congrArg _ h
theorem pow_round (k : Nat) : Value.int .u64 (IntKind.u64.wrap (IntKind.u64.wrap (256 ^ k) * 256)) = .int .u64 (IntKind.u64.wrap ((256 ^ (k + 1) : Nat) : Int)) := by
  have h := pow_step k
  have e : ((256 ^ k : Nat) : Int) = (256 : Int) ^ k := by simp
  rw [e] at h
  exact congrArg _ h

theorem extract_from (S : ByteArray) (k : Nat) : (S.extract k S.size).data.toList = S.data.toList.drop k := by
  rw [ByteArray.data_extract, Array.toList_extract, List.extract_eq_take_drop]
  exact List.take_of_length_le (by simp)
theorem extract_upto (S : ByteArray) (k : Nat) : (S.extract 0 k).data.toList = S.data.toList.take k := by
  rw [ByteArray.data_extract, Array.toList_extract, List.extract_eq_take_drop]
  simp

end Go.Proofs.YtieepdhajjibpaaDoor
