
/- What stands already, on lists of bytes: four bytes as a key of a map; the places that lead back (Bk); a copy (Cp); sequences that make a part of bytes (MkP). No condition but those that each theorem states. -/
import Derived.Test.YtfaonmggiffemaaDoorCurPlain
import Derived.Test.YtfaonmggiffemaaDoorRows
import Derived.Maps.OwnSet
import Derived.WideKeyArr
import Derived.Lib.Hide
namespace Go.Proofs.YtfaonmggiffemaaDoor
open Go.RowKit Go.Maps

/-- The four bytes from a place on. -/
structure MSt where
  a : UInt8
  b : UInt8
  c : UInt8
  d : UInt8
def st (xs : List UInt8) (p : Nat) : MSt := ⟨xs.getD p 0, xs.getD (p + 1) 0, xs.getD (p + 2) 0, xs.getD (p + 3) 0⟩
theorem st_eq {xs : List UInt8} {p q : Nat} (h : st xs p = st xs q) (i : Nat) (hi : i < 4) : xs.getD (p + i) 0 = xs.getD (q + i) 0 := by
  unfold st at h
  injection h with h0 h1 h2 h3
  match i, hi with
  | 0, _ => exact h0
  | 1, _ => exact h1
  | 2, _ => exact h2
  | 3, _ => exact h3
theorem st_of {xs : List UInt8} {p q : Nat} (h : ∀ i, i < 4 → xs.getD (p + i) 0 = xs.getD (q + i) 0) : st xs p = st xs q := by
  have h0 := h 0 (by omega)
  have h1 := h 1 (by omega)
  have h2 := h 2 (by omega)
  have h3 := h 3 (by omega)
  simp only [Nat.add_zero] at h0
  unfold st
  rw [h0, h1, h2, h3]
/-- As a value, and as a key. -/
def stv (s : MSt) : Value := .agg #[cel s.a, cel s.b, cel s.c, cel s.d]
def kl (s : MSt) : Lit := .string (keyBytes [.int .u8 (s.a.toNat : Int), .int .u8 (s.b.toNat : Int), .int .u8 (s.c.toNat : Int), .int .u8 (s.d.toNat : Int)])

theorem arrK : WideMaps.ArrKey Tryd.prog 48 5 4 := ⟨Tryd.underlying48, by kernel_rfl, by kernel_rfl, by kernel_rfl⟩
theorem klaw : Keyed Tryd.prog 48 := Keyed.of_law arrK.law
theorem byte_fits (x : UInt8) : (Lit.int .u8 (x.toNat : Int)).wf = true := by
  have := x.toNat_lt
  simp [Lit.wf, IntKind.min, IntKind.max, IntKind.signed, IntKind.bits]
  omega
theorem keyOf_st (s : MSt) : keyOf Tryd.prog 48 (stv s) = some (kl s) := by
  have hsz : ∃ m, Tryd.prog.types.size = m + 1 := ⟨Tryd.prog.types.size - 1, by kernel_rfl⟩
  have hkt := arrK.keyType hsz
  have ha := byte_fits s.a
  have hb := byte_fits s.b
  have hc := byte_fits s.c
  have hd := byte_fits s.d
  obtain ⟨m, hm⟩ := hsz
  unfold stv kl keyOf cel
  simp only [arrK.hu]
  rw [if_pos (by simp [hkt, Value.formed, arrK.hu, arrK.size]), hm]
  unfold Program.keyLits
  simp only [arrK.hu, Value.cells]
  rw [if_pos (by rw [arrK.size]; rfl), show List.range 4 = [0, 1, 2, 3] from rfl, List.mapM_cons, List.mapM_cons, List.mapM_cons, List.mapM_cons, List.mapM_nil]
  simp [arrK.one, Program.keyLits, Tryd.underlying5, ha, hb, hc, hd]
theorem byte_back {x y : UInt8} (h : cel x = cel y) : x = y := by
  unfold cel at h
  injection h with _ h
  exact UInt8.toNat_inj.1 (by omega)
theorem kl_ne {s t : MSt} (h : s ≠ t) : kl s ≠ kl t := fun e => h (by
  have h1 := klaw.inj (keyOf_st s) ((keyOf_st t).trans (by rw [e]))
  unfold stv at h1
  injection h1 with h1
  have h2 : [cel s.a, cel s.b, cel s.c, cel s.d] = [cel t.a, cel t.b, cel t.c, cel t.d] := congrArg Array.toList h1
  simp only [List.cons.injEq, and_true] at h2
  have e1 := byte_back h2.1
  have e2 := byte_back h2.2.1
  have e3 := byte_back h2.2.2.1
  have e4 := byte_back h2.2.2.2
  cases s
  cases t
  simp_all)
theorem kl_key (s : MSt) : WideAt.IsKeyLit (kl s) := klaw.key (keyOf_st s)

/-- What each place says: how far ahead its start stood; nought, if nowhere. -/
structure Bk (xs : List UInt8) (fr : Nat) (B : List Nat) : Prop where
  len : B.length = xs.length
  back : ∀ p, p < xs.length → B.getD p 0 ≠ 0 → B.getD p 0 ≤ p ∧ p + 4 ≤ xs.length ∧ st xs (p - B.getD p 0) = st xs p
  some : ∀ p q, fr ≤ p → p + 4 ≤ xs.length → q < p → st xs q = st xs p → B.getD p 0 ≠ 0

/-- A copy at a place: of m bytes, from o ahead. -/
structure Cp (xs : List UInt8) (p m o : Nat) : Prop where
  least : 4 ≤ m
  most : m ≤ 131074
  room : p + m ≤ xs.length
  off : 1 ≤ o
  ahead : o ≤ p
  same : ∀ i, i < m → xs.getD (p + i) 0 = xs.getD (p - o + i) 0

/-- A sequence: literals, match, offset. -/
structure MSq where
  l : Nat
  m : Nat
  o : Nat
def MSq.cells (s : MSq) : List Value := [.int .u32 (s.l : Int), .int .u32 (s.m : Int), .int .u32 (s.o : Int)]
/-- It may stand at a place of the bytes below n. -/
structure Fits (xs : List UInt8) (n a : Nat) (s : MSq) : Prop where
  room : a + s.l + s.m ≤ n
  least : 3 ≤ s.m
  most : s.m ≤ 131074
  off : 1 ≤ s.o
  ahead : s.o ≤ a + s.l
  same : ∀ i, i < s.m → xs.getD (a + s.l + i) 0 = xs.getD (a + s.l - s.o + i) 0
/-- Sequences make the bytes from a on, below b. -/
def MkP (xs : List UInt8) (n : Nat) : Nat → List MSq → Nat → Prop
  | a, [], b => a = b
  | a, s :: r, b => Fits xs n a s ∧ MkP xs n (a + s.l + s.m) r b
theorem MkP.snoc {xs : List UInt8} {n : Nat} : ∀ {a : Nat} {l : List MSq} {b : Nat} {s : MSq}, MkP xs n a l b → Fits xs n b s → MkP xs n a (l ++ [s]) (b + s.l + s.m)
  | a, [], b, s, h, hs => by
    have h : a = b := h
    subst h
    exact ⟨hs, rfl⟩
  | a, t :: r, b, s, h, hs => ⟨h.1, MkP.snoc h.2 hs⟩
theorem MkP.le {xs : List UInt8} {n : Nat} : ∀ {a : Nat} {l : List MSq} {b : Nat}, MkP xs n a l b → a ≤ b
  | a, [], b, h => by
    have h : a = b := h
    omega
  | a, t :: r, b, h => by have := MkP.le h.2; omega
theorem MkP.below {xs : List UInt8} {n : Nat} : ∀ {a : Nat} {l : List MSq} {b : Nat}, a ≤ n → MkP xs n a l b → b ≤ n
  | a, [], b, h1, h => by
    have h : a = b := h
    omega
  | a, t :: r, b, h1, h => MkP.below h.1.room h.2
theorem MkP.congr {xs ys : List UInt8} {n : Nat} (he : ∀ i, i < n → xs.getD i 0 = ys.getD i 0) : ∀ {a : Nat} {l : List MSq} {b : Nat}, MkP xs n a l b → MkP ys n a l b
  | a, [], b, h => h
  | a, t :: r, b, h => by
    have hr := h.1.room
    have ho := h.1.ahead
    exact ⟨⟨h.1.room, h.1.least, h.1.most, h.1.off, h.1.ahead, fun i hi => by rw [← he _ (by omega), ← he _ (by omega)]; exact h.1.same i hi⟩, MkP.congr he h.2⟩
/-- Each sequence has numbers that fit, and there are few. -/
theorem MkP.all {xs : List UInt8} {n : Nat} : ∀ {a : Nat} {l : List MSq} {b : Nat}, MkP xs n a l b → a + l.length ≤ b
  | a, [], b, h => by
    have h : a = b := h
    simp
    omega
  | a, t :: r, b, h => by
    have h1 := MkP.all h.2
    have h2 := h.1.least
    simp
    omega
/-- A copy as a sequence. -/
theorem Cp.fits {xs : List UInt8} {n a p m o : Nat} (h : Cp xs p m o) (hn : xs.length = n) (ha : a ≤ p) : Fits xs n a ⟨p - a, m, o⟩ := by
  have e : a + (p - a) = p := by omega
  have h1 := h.least
  have h2 := h.room
  refine ⟨by show a + (p - a) + m ≤ n; omega, by show 3 ≤ m; omega, h.most, h.off, by show o ≤ a + (p - a); rw [e]; exact h.ahead, fun i hi => ?_⟩
  show xs.getD (a + (p - a) + i) 0 = xs.getD (a + (p - a) - o + i) 0
  rw [e]
  exact h.same i hi
end Go.Proofs.YtfaonmggiffemaaDoor
