
/- Four streams on lists: how many symbols each has, how bytes are parted, what they tell, what is written. -/
import Derived.Test.YtjpjbbbpmhcgnaaHufP
import Derived.Test.YtjpjbbbpmhcgnaaPileA
import Derived.Test.YtjpjbbbpmhcgnaaHufCode
namespace Go.Proofs.Ytjpjbbbpmhcgnaa

/-- How many symbols the first three streams have each. -/
def kF (n : Nat) : Nat := (n + 3) / 4
/-- How many stream i has. -/
def cntF (n i : Nat) : Nat := if i < 3 then kF n else n - 3 * kF n
/-- The number i of two bytes. -/
def szF (xs : List UInt8) (i : Nat) : Nat := le ((xs.drop (2 * i)).take 2)
/-- Where stream i begins behind the numbers. -/
def offF (xs : List UInt8) : Nat → Nat
  | 0 => 0
  | i + 1 => offF xs i + szF xs i
/-- The bytes of stream i. -/
def ptF (xs : List UInt8) (i : Nat) : List UInt8 := if i < 3 then ((xs.drop 6).drop (offF xs i)).take (szF xs i) else (xs.drop 6).drop (offF xs 3)
/-- The four are there. -/
def SplitOk (xs : List UInt8) : Prop := 6 + offF xs 3 ≤ xs.length
instance (xs : List UInt8) : Decidable (SplitOk xs) := by unfold SplitOk; infer_instance
/-- What the first i streams tell. -/
def manyD (d : Nat) (L : List Nat) (xs : List UInt8) (n : Nat) : Nat → List UInt8 × Int
  | 0 => ([], 0)
  | i + 1 => if (manyD d L xs n i).2 ≠ 0 then ([], (manyD d L xs n i).2) else if (strm d L (ptF xs i) (cntF n i)).2 ≠ 0 then ([], (strm d L (ptF xs i) (cntF n i)).2) else ((manyD d L xs n i).1 ++ (strm d L (ptF xs i) (cntF n i)).1, 0)
def four (d : Nat) (L : List Nat) (xs : List UInt8) (n : Nat) : List UInt8 × Int := if n < 3 * kF n then ([], 11) else if SplitOk xs then manyD d L xs n 4 else ([], 10)
/-- What Decode4 tells. -/
def D4Res (ws xs : List UInt8) (n : Int) (r : List UInt8 × Int) : Prop := (∃ d, MayW d (nat ws) ∧ CountOk n ∧ r = four d (nat ws) xs n.toNat) ∨ ((∀ d, MayW d (nat ws) → ¬ CountOk n) ∧ r = ([], 1))
theorem D4Res.uni {ws xs : List UInt8} {n : Int} {r r' : List UInt8 × Int} (h : D4Res ws xs n r) (h' : D4Res ws xs n r') : r = r' := by
  rcases h with ⟨d, h1, h2, rfl⟩ | ⟨h1, rfl⟩ <;> rcases h' with ⟨d', k1, k2, rfl⟩ | ⟨k1, rfl⟩
  · rw [may_uni h1 k1]
  · exact absurd h2 (k1 d h1)
  · exact absurd k2 (h1 d' k1)
  · rfl

section
variable {d n : Nat} {L : List Nat} {xs : List UInt8}
theorem manyD_err {i : Nat} {e : Int} (h : manyD d L xs n i = ([], e)) (he : e ≠ 0) : ∀ k, manyD d L xs n (i + k) = ([], e)
  | 0 => h
  | k + 1 => by rw [← Nat.add_assoc, manyD, manyD_err h he k, if_pos he]
theorem manyD_bad {i : Nat} (hi : i < 4) (h : (manyD d L xs n i).2 = 0) (he : (strm d L (ptF xs i) (cntF n i)).2 ≠ 0) : manyD d L xs n 4 = ([], (strm d L (ptF xs i) (cntF n i)).2) := by
  have h1 : manyD d L xs n (i + 1) = ([], (strm d L (ptF xs i) (cntF n i)).2) := by rw [manyD, if_neg (by rw [h]; simp), if_pos he]
  have h2 := manyD_err h1 he (4 - (i + 1))
  rw [show i + 1 + (4 - (i + 1)) = 4 by omega] at h2
  exact h2
theorem manyD_good {i : Nat} (h : (manyD d L xs n i).2 = 0) (he : (strm d L (ptF xs i) (cntF n i)).2 = 0) : manyD d L xs n (i + 1) = ((manyD d L xs n i).1 ++ (strm d L (ptF xs i) (cntF n i)).1, 0) := by
  rw [manyD, if_neg (by rw [h]; simp), if_neg (by rw [he]; simp)]
theorem manyD_len (i : Nat) : (manyD d L xs n i).1.length ≤ i * (n + 1) := by
  induction i with
  | zero => simp [manyD]
  | succ i ih =>
    rw [manyD]
    split
    · simp
    · split
      · simp
      · have h1 := strm_len (d := d) (l := L) (xs := ptF xs i) (cntF n i)
        have h2 : cntF n i ≤ n + 1 := by unfold cntF kF; split <;> omega
        simp only [List.length_append]
        rw [Nat.succ_mul]
        omega
theorem szF_lt (i : Nat) : szF xs i < 65536 := by
  have h := le_lt ((xs.drop (2 * i)).take 2)
  have h2 : ((xs.drop (2 * i)).take 2).length ≤ 2 := by rw [List.length_take]; omega
  have h3 : 256 ^ ((xs.drop (2 * i)).take 2).length ≤ 256 ^ 2 := Nat.pow_le_pow_right (by omega) h2
  unfold szF
  omega
end

open cu in
theorem tk_ok (xs : List UInt8) (m : Nat) (h : m ≤ xs.length) : tk xs 0 m true = (xs.drop m, 0, xs.take m) := by
  unfold tk
  rw [if_neg (by simp), if_neg (by simp), if_neg (by omega)]
  simp
open cu in
theorem tk_short (xs : List UInt8) (m : Nat) (h : xs.length < m) : tk xs 0 m true = (xs, 10, []) := by
  unfold tk
  rw [if_neg (by simp), if_neg (by simp), if_pos (by omega)]
open cu in
theorem tk_err (xs : List UInt8) (m : Int) (may : Bool) : tk xs 10 m may = (xs, 10, []) := by
  unfold tk
  rw [if_pos (by simp)]

/-- What is left, and the error, when i numbers have been read. -/
def numS (xs : List UInt8) : Nat → List UInt8 × Int
  | 0 => (xs, 0)
  | i + 1 => ((cu.tk (numS xs i).1 (numS xs i).2 2 true).1, (cu.tk (numS xs i).1 (numS xs i).2 2 true).2.1)
/-- The number i, as it is read. -/
def numV (xs : List UInt8) (i : Nat) : Nat := le (cu.tk (numS xs i).1 (numS xs i).2 2 true).2.2
/-- What is left, and the error, when the bytes of i streams have been read. -/
def ptS (xs : List UInt8) : Nat → List UInt8 × Int
  | 0 => numS xs 3
  | i + 1 => ((cu.tk (ptS xs i).1 (ptS xs i).2 (numV xs i : Nat) true).1, (cu.tk (ptS xs i).1 (ptS xs i).2 (numV xs i : Nat) true).2.1)
/-- The bytes of stream i, as they are read. -/
def ptV (xs : List UInt8) (i : Nat) : List UInt8 := (cu.tk (ptS xs i).1 (ptS xs i).2 (numV xs i : Nat) true).2.2
section
variable {xs : List UInt8}
theorem numS_ok (h : 6 ≤ xs.length) : ∀ i, i ≤ 3 → numS xs i = (xs.drop (2 * i), 0)
  | 0, _ => rfl
  | i + 1, hi => by
    have e : cu.tk (xs.drop (2 * i)) 0 2 true = ((xs.drop (2 * i)).drop 2, 0, (xs.drop (2 * i)).take 2) := tk_ok _ 2 (by rw [List.length_drop]; omega)
    rw [numS, numS_ok h i (by omega), e, List.drop_drop, show 2 * i + 2 = 2 * (i + 1) by omega]
theorem numV_ok (h : 6 ≤ xs.length) (i : Nat) (hi : i < 3) : numV xs i = szF xs i := by
  have e : cu.tk (xs.drop (2 * i)) 0 2 true = ((xs.drop (2 * i)).drop 2, 0, (xs.drop (2 * i)).take 2) := tk_ok _ 2 (by rw [List.length_drop]; omega)
  unfold numV szF
  rw [numS_ok h i (by omega), e]
theorem numS_bad (h : xs.length < 6) : (numS xs 3).2 = 10 := by
  have go : ∀ i, i ≤ 3 → numS xs i = (xs.drop (2 * i), 0) ∧ 2 * i ≤ xs.length ∨ (numS xs i).2 = 10 := by
    intro i
    induction i with
    | zero => intro _; exact .inl ⟨rfl, by omega⟩
    | succ i ih =>
      intro hi
      rcases ih (by omega) with ⟨h1, h2⟩ | h1
      · by_cases h3 : 2 * i + 2 ≤ xs.length
        · have e : cu.tk (xs.drop (2 * i)) 0 2 true = ((xs.drop (2 * i)).drop 2, 0, (xs.drop (2 * i)).take 2) := tk_ok _ 2 (by rw [List.length_drop]; omega)
          exact .inl ⟨by rw [numS, h1, e, List.drop_drop, show 2 * i + 2 = 2 * (i + 1) by omega], by omega⟩
        · have e : cu.tk (xs.drop (2 * i)) 0 2 true = (xs.drop (2 * i), 10, []) := tk_short _ 2 (by rw [List.length_drop]; omega)
          exact .inr (by rw [numS, h1, e])
      · exact .inr (by rw [numS, h1, tk_err])
  rcases go 3 (by omega) with ⟨_, h2⟩ | h1
  · omega
  · exact h1
theorem ptS_err {i : Nat} (h : (ptS xs i).2 = 10) : ∀ k, (ptS xs (i + k)).2 = 10
  | 0 => h
  | k + 1 => by rw [← Nat.add_assoc, ptS, ptS_err h k, tk_err]
theorem offF_add (i : Nat) : ∀ k, offF xs i ≤ offF xs (i + k)
  | 0 => Nat.le_refl _
  | k + 1 => by have := offF_add i k; rw [← Nat.add_assoc, offF]; omega
theorem offF_le {i j : Nat} (h : i ≤ j) : offF xs i ≤ offF xs j := by
  have := offF_add (xs := xs) i (j - i)
  rw [show i + (j - i) = j by omega] at this
  exact this
theorem ptS_ok (h : SplitOk xs) : ∀ i, i ≤ 3 → ptS xs i = ((xs.drop 6).drop (offF xs i), 0)
  | 0, _ => by
    have h6 : 6 ≤ xs.length := by unfold SplitOk at h; omega
    rw [ptS, numS_ok h6 3 (by omega)]
    rfl
  | i + 1, hi => by
    have h6 : 6 ≤ xs.length := by unfold SplitOk at h; omega
    have hoff : offF xs (i + 1) ≤ offF xs 3 := offF_le hi
    have e := tk_ok ((xs.drop 6).drop (offF xs i)) (szF xs i) (by unfold SplitOk at h; rw [offF] at hoff; rw [List.length_drop, List.length_drop]; omega)
    rw [ptS, ptS_ok h i (by omega), numV_ok h6 i (by omega), e, List.drop_drop (i := szF xs i), offF]
theorem ptV_ok (h : SplitOk xs) (i : Nat) (hi : i < 3) : ptV xs i = ptF xs i := by
  have h6 : 6 ≤ xs.length := by unfold SplitOk at h; omega
  have hoff : offF xs (i + 1) ≤ offF xs 3 := offF_le hi
  have e := tk_ok ((xs.drop 6).drop (offF xs i)) (szF xs i) (by unfold SplitOk at h; rw [offF] at hoff; rw [List.length_drop, List.length_drop]; omega)
  unfold ptV ptF
  rw [ptS_ok h i (by omega), numV_ok h6 i hi, e, if_pos hi]
theorem ptS_bad (h : ¬ SplitOk xs) : (ptS xs 3).2 = 10 := by
  by_cases h6 : xs.length < 6
  · exact ptS_err (i := 0) (numS_bad h6) 3
  · have h6' : 6 ≤ xs.length := by omega
    have go : ∀ i, i ≤ 3 → ptS xs i = ((xs.drop 6).drop (offF xs i), 0) ∧ 6 + offF xs i ≤ xs.length ∨ (ptS xs i).2 = 10 := by
      intro i
      induction i with
      | zero => intro _; exact .inl ⟨by rw [ptS, numS_ok h6' 3 (by omega)]; rfl, by rw [offF]; omega⟩
      | succ i ih =>
        intro hi
        rcases ih (by omega) with ⟨h1, h2⟩ | h1
        · by_cases h3 : 6 + offF xs (i + 1) ≤ xs.length
          · have e := tk_ok ((xs.drop 6).drop (offF xs i)) (szF xs i) (by rw [offF] at h3; rw [List.length_drop, List.length_drop]; omega)
            exact .inl ⟨by rw [ptS, h1, numV_ok h6' i (by omega), e, List.drop_drop (i := szF xs i), offF], h3⟩
          · have e := tk_short ((xs.drop 6).drop (offF xs i)) (szF xs i) (by rw [offF] at h3; rw [List.length_drop, List.length_drop]; omega)
            exact .inr (by rw [ptS, h1, numV_ok h6' i (by omega), e])
        · exact .inr (by rw [ptS, h1, tk_err])
    rcases go 3 (by omega) with ⟨_, h2⟩ | h1
    · exact absurd h2 h
    · exact h1
theorem numV_lt (i : Nat) : numV xs i < 65536 := by
  have h := le_lt (cu.tk (numS xs i).1 (numS xs i).2 2 true).2.2
  have h2 : (cu.tk (numS xs i).1 (numS xs i).2 2 true).2.2.length ≤ 2 := by
    unfold cu.tk
    split
    · simp
    · split
      · simp
      · split
        · simp
        · simp only [List.length_take]
          omega
  have h3 : 256 ^ (cu.tk (numS xs i).1 (numS xs i).2 2 true).2.2.length ≤ 256 ^ 2 := Nat.pow_le_pow_right (by omega) h2
  unfold numV
  omega
end
end Go.Proofs.Ytjpjbbbpmhcgnaa
