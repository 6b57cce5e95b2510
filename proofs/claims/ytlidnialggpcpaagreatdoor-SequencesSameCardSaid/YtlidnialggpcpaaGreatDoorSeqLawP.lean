
/- Plain lemmas for the laws of layer 13: sequences within their bounds have codes. -/
import Derived.Test.YtlidnialggpcpaaGreatDoorSeqEncP
namespace Go.Proofs.YtlidnialggpcpaaGreatDoor

theorem scan_in {k v : Nat} : ∀ n c, cd.beginN k c ≤ v → v < cd.beginN k (c + n) → (cd.scan k v n c).2.2 = 0
  | 0, c, h1, h2 => absurd h2 (by simp; omega)
  | n + 1, c, h1, h2 => by
    by_cases h : v - cd.beginN k c < 2 ^ cd.addN k c
    · rw [cd.scan_hit h1 h]
    · rw [cd.scan_miss (fun q => h q.2)]
      refine scan_in n (c + 1) ?_ (by rw [show c + 1 + n = c + (n + 1) by omega]; exact h2)
      show cd.beginN k c + 2 ^ cd.addN k c ≤ v
      omega
theorem ends0 : cd.beginN 0 (cd.lastN 0 + 1) = 131072 := by decide +kernel
theorem ends1 : cd.beginN 1 (cd.lastN 1 + 1) = 4294967296 := by decide +kernel
theorem ends2 : cd.beginN 2 (cd.lastN 2 + 1) = 131075 := by decide +kernel
theorem of_in {k v : Nat} (hk : k < 3) (h1 : cd.firstN k ≤ v) (h2 : v < cd.beginN k (cd.lastN k + 1)) : (cd.ofN (k : Int) v).2.2 = 0 := by
  unfold cd.ofN
  rw [if_neg (by omega), show ((k : Nat) : Int).toNat = k by omega]
  exact scan_in _ 0 h1 (by rw [Nat.zero_add]; exact h2)
/-- Each number within its bounds. -/
def sqm (q : Sq) : Sq := ⟨q.l % 131072, 3 + q.m % 131072, 1 + q.o % 2147483648⟩
theorem sqm_ok (q : Sq) : okQ (sqm q) = true := by
  unfold okQ sqm
  refine decide_eq_true ⟨?_, ?_, ?_⟩
  · exact of_in (k := 0) (v := q.l % 131072) (by decide) (by show 0 ≤ _; omega) (by rw [ends0]; omega)
  · exact of_in (k := 1) (v := 1 + q.o % 2147483648) (by decide) (by show 1 ≤ _; omega) (by rw [ends1]; omega)
  · exact of_in (k := 2) (v := 3 + q.m % 131072) (by decide) (by show 3 ≤ _; omega) (by rw [ends2]; omega)
theorem sqm_all (qs : List Sq) : ∀ q ∈ qs.map sqm, okQ q = true := fun q hq => by
  obtain ⟨p, _, rfl⟩ := List.mem_map.1 hq
  exact sqm_ok p
end Go.Proofs.YtlidnialggpcpaaGreatDoor
