
/- SHA-256 by definition, on lists of bytes and words: the padding, the schedule, the rounds. Nothing of the program is named here. -/
import Derived.Test.YtieepdhajjibpaaDoorShaRef
namespace Go.Proofs.YtieepdhajjibpaaDoor
open Go.RowKit

/-- How many noughts stand behind the byte 128. -/
def padz (n : Nat) : Nat := (64 - (n + 9) % 64) % 64
/-- The first k of the eight bytes of a number, the highest first. -/
def be8 (x : Nat) : Nat → List UInt8
  | 0 => []
  | k + 1 => be8 x k ++ [UInt8.ofNat (x / 2 ^ (56 - 8 * k) % 256)]
theorem be8_length (x k : Nat) : (be8 x k).length = k := by
  induction k with
  | zero => rfl
  | succ k ih => simp [be8, ih]
def padded (s : List UInt8) : List UInt8 := s ++ [128] ++ List.replicate (padz s.length) 0 ++ be8 (8 * s.length) 8
theorem padded_length (s : List UInt8) : (padded s).length = s.length + 9 + padz s.length := by
  simp only [padded, List.length_append, List.length_singleton, List.length_replicate, be8_length]
  omega
theorem padded_blocks (s : List UInt8) : (padded s).length % 64 = 0 := by
  rw [padded_length]
  unfold padz
  omega

/-- The eight words of the state. -/
structure V8 where
  a : UInt32
  b : UInt32
  c : UInt32
  d : UInt32
  e : UInt32
  f : UInt32
  g : UInt32
  h : UInt32
def rnd (v : V8) (k w : UInt32) : V8 := ⟨wA (t1 v.e v.f v.g v.h k w) (t2 v.a v.b v.c), v.a, v.b, v.c, wA v.d (t1 v.e v.f v.g v.h k w), v.e, v.f, v.g⟩
def addv (x y : V8) : V8 := ⟨wA x.a y.a, wA x.b y.b, wA x.c y.c, wA x.d y.d, wA x.e y.e, wA x.f y.f, wA x.g y.g, wA x.h y.h⟩
def iv : V8 := ⟨0x6a09e667, 0xbb67ae85, 0x3c6ef372, 0xa54ff53a, 0x510e527f, 0x9b05688c, 0x1f83d9ab, 0x5be0cd19⟩
def V8.list (v : V8) : List UInt32 := [v.a, v.b, v.c, v.d, v.e, v.f, v.g, v.h]

/-- A byte as a word; a word moved up. -/
def w8 (x : UInt8) : UInt32 := UInt32.ofNat x.toNat
def upw (a : UInt32) (n : Nat) : UInt32 := UInt32.ofNat (a.toNat * 2 ^ n)
theorem w_u8 (x : UInt8) : IntKind.u32.wrap (x.toNat : Int) = ((w8 x).toNat : Int) := by
  have := x.toNat_lt
  rw [IntKind.wrap_u32', w8, UInt32.toNat_ofNat_of_lt' (show x.toNat < 4294967296 by omega)]
  omega
theorem w_up24 (a : UInt32) : IntKind.u32.wrap ((a.toNat : Int) * 16777216) = ((upw a 24).toNat : Int) := up_nat a 24
theorem w_up16 (a : UInt32) : IntKind.u32.wrap ((a.toNat : Int) * 65536) = ((upw a 16).toNat : Int) := up_nat a 16
theorem w_up8 (a : UInt32) : IntKind.u32.wrap ((a.toNat : Int) * 256) = ((upw a 8).toNat : Int) := up_nat a 8
theorem w_dn3 (x : UInt32) : (x.toNat : Int) / 8 = ((down x 3).toNat : Int) := (down_nat x 3).symm
theorem w_dn10 (x : UInt32) : (x.toNat : Int) / 1024 = ((down x 10).toNat : Int) := (down_nat x 10).symm
def wd4 (a b c d : UInt8) : UInt32 := wO (wO (wO (upw (w8 a) 24) (upw (w8 b) 16)) (upw (w8 c) 8)) (w8 d)
def wd (bs : List UInt8) (p : Nat) : UInt32 := wd4 (bs.getD p 0) (bs.getD (p + 1) 0) (bs.getD (p + 2) 0) (bs.getD (p + 3) 0)
/-- The schedule: the word t out of those ahead. -/
def nxt (bs : List UInt8) (p : Nat) (ws : List UInt32) (t : Nat) : UInt32 :=
  if t < 16 then wd bs (p + 4 * t)
  else wA (wA (wA (ws.getD (t - 16) 0) (wX (wX (rot (ws.getD (t - 15) 0) 7) (rot (ws.getD (t - 15) 0) 18)) (down (ws.getD (t - 15) 0) 3))) (ws.getD (t - 7) 0)) (wX (wX (rot (ws.getD (t - 2) 0) 17) (rot (ws.getD (t - 2) 0) 19)) (down (ws.getD (t - 2) 0) 10))
def sch (bs : List UInt8) (p : Nat) : Nat → List UInt32
  | 0 => []
  | t + 1 => sch bs p t ++ [nxt bs p (sch bs p t) t]
theorem sch_length (bs : List UInt8) (p t : Nat) : (sch bs p t).length = t := by
  induction t with
  | zero => rfl
  | succ t ih => simp [sch, ih]
/-- The rounds of one block. -/
def rounds (ks ws : List UInt32) (v : V8) : Nat → V8
  | 0 => v
  | t + 1 => rnd (rounds ks ws v t) (ks.getD t 0) (ws.getD t 0)
def block (ks : List UInt32) (bs : List UInt8) (p : Nat) (v : V8) : V8 := addv v (rounds ks (sch bs p 64) v 64)
/-- The state behind the first n blocks. -/
def blocks (ks : List UInt32) (bs : List UInt8) : Nat → V8
  | 0 => iv
  | n + 1 => block ks bs (64 * n) (blocks ks bs n)
/-- The state's bytes, the highest of each word first. -/
def bytesOf (v : V8) : List UInt8 := (List.range 32).map fun i => UInt8.ofNat ((v.list.getD (i / 4) 0).toNat / 2 ^ (24 - 8 * (i % 4)))
def shaOf (ks : List UInt32) (s : List UInt8) : List UInt8 := bytesOf (blocks ks (padded s) ((padded s).length / 64))
end Go.Proofs.YtieepdhajjibpaaDoor
