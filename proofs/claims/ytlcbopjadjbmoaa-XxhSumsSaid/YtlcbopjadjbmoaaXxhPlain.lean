/- Words of 64 bits as Lean's UInt64: what the operations on them come to, as rules for a walk. XXH64 on lists of bytes. Nothing of the program is named here. -/
import Derived.Test.YtlcbopjadjbmoaaCurPlain
namespace Go.Proofs.Ytlcbopjadjbmoaa
open Go.RowKit

/- The operations under names of their own, so that a walk leaves them as they are. -/
def qX (a b : UInt64) : UInt64 := a ^^^ b
def qO (a b : UInt64) : UInt64 := a ||| b
def qA (a b : UInt64) : UInt64 := a + b
def qM (a b : UInt64) : UInt64 := a * b
def p1 : UInt64 := 11400714785074694791
def p2 : UInt64 := 14029467366897019727
def p3 : UInt64 := 1609587929392839161
def p4 : UInt64 := 9650029242287828579
def p5 : UInt64 := 2870177450012600261

theorem q_xor (a b : UInt64) : bits .xor .u64 (a.toNat : Int) (b.toNat : Int) = ((qX a b).toNat : Int) := by
  rw [u64_xor_nat _ _ a.toNat_lt b.toNat_lt, qX, UInt64.toNat_xor]
theorem q_or (a b : UInt64) : bits .or .u64 (a.toNat : Int) (b.toNat : Int) = ((qO a b).toNat : Int) := by
  rw [u64_or_nat _ _ a.toNat_lt b.toNat_lt, qO, UInt64.toNat_or]
theorem q_add (a b : UInt64) : IntKind.u64.wrap ((a.toNat : Int) + (b.toNat : Int)) = ((qA a b).toNat : Int) := by
  rw [IntKind.wrap_u64, qA, UInt64.toNat_add]
  omega
theorem q_mul (a b : UInt64) : IntKind.u64.wrap ((a.toNat : Int) * (b.toNat : Int)) = ((qM a b).toNat : Int) := by
  rw [IntKind.wrap_u64, qM, UInt64.toNat_mul, ← Int.natCast_mul]
  omega
theorem q_mul1 (a : UInt64) : IntKind.u64.wrap ((a.toNat : Int) * 11400714785074694791) = ((qM a p1).toNat : Int) := by
  rw [← q_mul]; rfl
theorem q_mul2 (a : UInt64) : IntKind.u64.wrap ((a.toNat : Int) * 14029467366897019727) = ((qM a p2).toNat : Int) := by
  rw [← q_mul]; rfl
theorem q_mul3 (a : UInt64) : IntKind.u64.wrap ((a.toNat : Int) * 1609587929392839161) = ((qM a p3).toNat : Int) := by
  rw [← q_mul]; rfl
theorem q_mul5 (a : UInt64) : IntKind.u64.wrap ((a.toNat : Int) * 2870177450012600261) = ((qM a p5).toNat : Int) := by
  rw [← q_mul]; rfl
theorem q_add3 (a : UInt64) : IntKind.u64.wrap ((a.toNat : Int) + 1609587929392839161) = ((qA a p3).toNat : Int) := by
  rw [← q_add]; rfl
theorem q_add4 (a : UInt64) : IntKind.u64.wrap ((a.toNat : Int) + 9650029242287828579) = ((qA a p4).toNat : Int) := by
  rw [← q_add]; rfl

/-- x up by n: the highest n bits become the lowest. -/
def rotl (x : UInt64) (n : Nat) : UInt64 := qO (UInt64.ofNat (x.toNat * 2 ^ n)) (UInt64.ofNat (x.toNat / 2 ^ (64 - n)))
/-- x down by n. -/
def shr (x : UInt64) (n : Nat) : UInt64 := UInt64.ofNat (x.toNat / 2 ^ n)
theorem shr_nat (x : UInt64) (n : Nat) : ((shr x n).toNat : Int) = (x.toNat : Int) / 2 ^ n := by
  have h : x.toNat / 2 ^ n < 18446744073709551616 := Nat.lt_of_le_of_lt (Nat.div_le_self _ _) x.toNat_lt
  unfold shr
  rw [UInt64.toNat_ofNat_of_lt' h]
  simp
theorem shl_nat (x : UInt64) (n : Nat) : IntKind.u64.wrap ((x.toNat : Int) * 2 ^ n) = ((UInt64.ofNat (x.toNat * 2 ^ n)).toNat : Int) := by
  rw [IntKind.wrap_u64]
  simp
theorem rotl_nat (x : UInt64) (n : Nat) : bits .or .u64 (IntKind.u64.wrap ((x.toNat : Int) * 2 ^ n)) ((x.toNat : Int) / 2 ^ (64 - n)) = ((rotl x n).toNat : Int) := by
  rw [shl_nat, ← shr_nat, q_or]
  rfl
theorem and63 (n : Nat) (h1 : n < 64) : bits .and .u64 (n : Int) 63 = (n : Int) := by
  have h := u64_and_nat n 63 (by omega) (by omega)
  have e : n &&& 63 = n := by
    rw [show (63 : Nat) = 2 ^ 6 - 1 by rfl, Nat.and_two_pow_sub_one_eq_mod]
    omega
  rw [e] at h
  exact h

/-- A round of v and x. -/
def rnd (v x : UInt64) : UInt64 := qM (rotl (qA v (qM x p2)) 31) p1
/-- The number of bytes. -/
def qn (bs : List UInt8) : UInt64 := UInt64.ofNat (le bs)
/-- The number of n bytes from p on. -/
def num (bs : List UInt8) (p n : Nat) : UInt64 := qn ((bs.drop p).take n)

/-- The four numbers. -/
structure V4 where
  (a b c d : UInt64)
def V4.cells (v : V4) : Array Value := #[.int .u64 (v.a.toNat : Int), .int .u64 (v.b.toNat : Int), .int .u64 (v.c.toNat : Int), .int .u64 (v.d.toNat : Int)]
theorem V4.cells_one (v : V4) : v.cells.all (·.oneCell') = true := by
  unfold V4.cells
  rw [← Array.all_toList]
  rfl
def V4.get (v : V4) : Nat → UInt64
  | 0 => v.a
  | 1 => v.b
  | 2 => v.c
  | _ => v.d
theorem V4.cells_get (v : V4) (i : Nat) (h : i < 4) : v.cells[i]? = some (.int .u64 ((v.get i).toNat : Int)) := by
  match i, h with
  | 0, _ => rfl
  | 1, _ => rfl
  | 2, _ => rfl
  | 3, _ => rfl
def v0 : V4 := ⟨qA p1 p2, p2, 0, 0 - p1⟩
/-- A stripe goes in. -/
def stripe (v : V4) (bs : List UInt8) (p : Nat) : V4 := ⟨rnd v.a (num bs p 8), rnd v.b (num bs (p + 8) 8), rnd v.c (num bs (p + 16) 8), rnd v.d (num bs (p + 24) 8)⟩
/-- The numbers with the first i of a stripe's rounds done. -/
def V4.part (v u : V4) (i : Nat) : V4 := ⟨if 0 < i then u.a else v.a, if 1 < i then u.b else v.b, if 2 < i then u.c else v.c, if 3 < i then u.d else v.d⟩
theorem V4.part_zero (v u : V4) : v.part u 0 = v := rfl
theorem V4.part_four (v u : V4) : v.part u 4 = u := rfl
theorem V4.part_set (v u : V4) (i : Nat) (h : i < 4) : (v.part u i).cells.setIfInBounds i (.int .u64 ((u.get i).toNat : Int)) = (v.part u (i + 1)).cells := by
  match i, h with
  | 0, _ => rfl
  | 1, _ => rfl
  | 2, _ => rfl
  | 3, _ => rfl
theorem V4.part_get (v u : V4) (i : Nat) (h : i < 4) : (v.part u i).get i = v.get i := by
  match i, h with
  | 0, _ => rfl
  | 1, _ => rfl
  | 2, _ => rfl
  | 3, _ => rfl
theorem stripe_get (v : V4) (bs : List UInt8) (p i : Nat) (h : i < 4) : (stripe v bs p).get i = rnd (v.get i) (num bs (p + 8 * i) 8) := by
  match i, h with
  | 0, _ => rfl
  | 1, _ => rfl
  | 2, _ => rfl
  | 3, _ => rfl
/-- The first n stripes. -/
def stripes (bs : List UInt8) : Nat → V4
  | 0 => v0
  | n + 1 => stripe (stripes bs n) bs (32 * n)
/-- One of the four numbers goes into the sum. -/
def merge (h v : UInt64) : UInt64 := qA (qM (qX h (rnd 0 v)) p1) p4
def joinN (v : V4) : Nat → UInt64
  | 0 => qA (qA (qA (rotl v.a 1) (rotl v.b 7)) (rotl v.c 12)) (rotl v.d 18)
  | n + 1 => merge (joinN v n) (v.get n)
/-- Eight bytes that are left go in. -/
def eight (h x : UInt64) : UInt64 := qA (qM (rotl (qX h (rnd 0 x)) 27) p1) p4
def eights (bs : List UInt8) (h : UInt64) : Nat → UInt64
  | 0 => h
  | n + 1 => eight (eights bs h n) (num bs (8 * n) 8)
/-- Four of them. -/
def four (h x : UInt64) : UInt64 := qA (qM (rotl (qX h (qM x p1)) 23) p2) p3
/-- One of them. -/
def q8 (x : UInt8) : UInt64 := UInt64.ofNat x.toNat
def one1 (h : UInt64) (x : UInt8) : UInt64 := qM (rotl (qX h (qM (q8 x) p5)) 11) p1
def ones (bs : List UInt8) (h : UInt64) : UInt64 := bs.foldl one1 h
def fours (h : UInt64) (bs : List UInt8) : UInt64 := if 4 ≤ bs.length then four h (num bs 0 4) else h
def aft (bs : List UInt8) : List UInt8 := if 4 ≤ bs.length then bs.drop 4 else bs
/-- What is left of the bytes goes in. -/
def rests (h : UInt64) (bs : List UInt8) : UInt64 :=
  ones (aft (bs.drop (8 * (bs.length / 8)))) (fours (eights bs h (bs.length / 8)) (bs.drop (8 * (bs.length / 8))))
/-- The end. -/
def fin1 (x : UInt64) : UInt64 := qM (qX x (shr x 33)) p2
def fin2 (x : UInt64) : UInt64 := qM (qX x (shr x 29)) p3
def fin3 (x : UInt64) : UInt64 := qX x (shr x 32)
def fins (x : UInt64) : UInt64 := fin3 (fin2 (fin1 x))
/-- The state of the bytes so far. -/
def stOf (xs : List UInt8) : V4 := stripes xs (xs.length / 32)
def head (xs : List UInt8) : UInt64 := if 32 ≤ xs.length then joinN (stOf xs) 4 else p5
def xxhOf (xs : List UInt8) : UInt64 := fins (rests (qA (head xs) (UInt64.ofNat xs.length)) (xs.drop (32 * (xs.length / 32))))

theorem num_drop (bs : List UInt8) (p q n : Nat) : num bs (p + q) n = num (bs.drop p) q n := by
  unfold num
  rw [List.drop_drop]
theorem ones_snoc (bs : List UInt8) (h : UInt64) (k : Nat) (hk : k < bs.length) : ones (bs.take (k + 1)) h = one1 (ones (bs.take k) h) (bs.getD k 0) := by
  rw [List.take_succ_eq_append_getElem hk]
  unfold ones
  rw [List.foldl_append]
  simp [List.getD, hk]
theorem xxh_nil : ((xxhOf []).toNat : Int) = 17241709254077376921 := by decide +kernel
theorem qn_nat (bs : List UInt8) (h : bs.length ≤ 8) : (le bs : Int) = ((qn bs).toNat : Int) := by
  have hl := le_lt bs
  have h2 : (256 : Nat) ^ bs.length ≤ 256 ^ 8 := Nat.pow_le_pow_right (by omega) h
  have h3 : le bs < 18446744073709551616 := Nat.lt_of_lt_of_le hl (Nat.le_trans h2 (by decide))
  unfold qn
  rw [UInt64.toNat_ofNat_of_lt' h3]
theorem q8_nat (x : UInt8) : (x.toNat : Int) = ((q8 x).toNat : Int) := by
  unfold q8
  rw [UInt64.toNat_ofNat_of_lt' (Nat.lt_trans x.toNat_lt (by decide))]
end Go.Proofs.Ytlcbopjadjbmoaa
