
/- What is written of sequences is read as it was: plain lemmas. Nothing of the program's code is named here. -/
import Derived.Test.YtlidnialggpcpaaGreatDoorSeqPlain
import Derived.Test.YtlidnialggpcpaaGreatDoorPileC
import Derived.Test.YtlidnialggpcpaaGreatDoorPileF
import Derived.Test.YtlidnialggpcpaaGreatDoorPileD
namespace Go.Proofs.YtlidnialggpcpaaGreatDoor

/-- The last bits that were written are those that are read first; up to 56 of them. -/
theorem bread_back {xs : List UInt8} {bits bits' : List Bool} {x b : Nat} (h : (bitsOf xs).take bits.length = bits) (hb : bits = bits' ++ low x b) (hx : x < 2 ^ b) (h56 : b ≤ 56) :
    bread xs (bits.length : Int) (b : Int) = (x, (bits'.length : Int)) ∧ (bitsOf xs).take bits'.length = bits' := by
  have hl : bits.length = bits'.length + b := by rw [hb, List.length_append, low_length]
  refine ⟨?_, ?_⟩
  · unfold bread
    by_cases h0 : b = 0
    · subst h0
      rw [if_neg (by simp [wid])]
      have : x = 0 := by simp at hx; exact hx
      rw [this, hl]
      simp
    · rw [if_pos (by simp [wid]; omega)]
      have ht : there (bits.length : Int) (b : Int) = b := by unfold there; omega
      rw [ht, show ((bits.length : Int)).toNat - b = bits'.length by omega]
      have e : ((bitsOf xs).drop bits'.length).take b = low x b := by
        have h2 : ((bitsOf xs).take bits.length).drop bits'.length = low x b := by rw [h, hb, List.drop_left]
        rw [List.drop_take, hl, Nat.add_sub_cancel_left] at h2
        exact h2
      rw [e, num_low, Nat.mod_eq_of_lt hx, show ((b : Int)).toNat - b = 0 by omega, Nat.pow_zero, Nat.mul_one]
      congr 1
      omega
  · have h2 := congrArg (List.take bits'.length) h
    rw [List.take_take, Nat.min_eq_left (by omega), hb, List.take_left] at h2
    exact h2
theorem lows_back (x b : Nat) (hb : b ≤ 56) : lows x (b : Int) = low x b := by
  unfold lows
  by_cases h : b = 0
  · subst h
    rw [if_neg (by simp [wid])]
    simp [low]
  · rw [if_pos (by simp [wid]; omega)]
    rfl

/-- A value as it is written: its code, what is added, by how many bits. -/
structure Cv where
  c : Nat
  x : Nat
  b : Nat
structure CvOk (n : Nat) (v : Cv) : Prop where
  c : v.c ≤ lastN n
  b : v.b = cd.addN n v.c
  x : v.x < 2 ^ v.b
structure Cq where
  l : Cv
  o : Cv
  m : Cv
structure CqOk (q : Cq) : Prop where
  l : CvOk 0 q.l
  o : CvOk 1 q.o
  m : CvOk 2 q.m
def valOf (n : Nat) (v : Cv) : Nat := cd.beginN n v.c + v.x
def sqOf (q : Cq) : Sq := ⟨valOf 0 q.l, valOf 2 q.m, valOf 1 q.o⟩
theorem add_56 {n c : Nat} (hn : n < 3) (hc : c ≤ lastN n) : cd.addN n c ≤ 31 := cd.add_le n hn c (by have := last_le n hn; omega)
def valBits (q : Cq) : List Bool := low q.l.x q.l.b ++ low q.m.x q.m.b ++ low q.o.x q.o.b
/-- The states are of these codes. -/
structure AtQ (T : T3) (s : St) (q : Cq) : Prop where
  ok : StOk T s
  l : (entAt T.t0.es s.l).1 = q.l.c
  o : (entAt T.t1.es s.o).1 = q.o.c
  m : (entAt T.t2.es s.m).1 = q.m.c
/-- What is written when one sequence's states lead to others. -/
def goBits (T : T3) (s : St) (xl xo xm : Nat) : List Bool := low xo (entAt T.t1.es s.o).2.1 ++ low xm (entAt T.t2.es s.m).2.1 ++ low xl (entAt T.t0.es s.l).2.1
structure GoOk (T : T3) (s : St) (xl xo xm : Nat) : Prop where
  l : xl < 2 ^ (entAt T.t0.es s.l).2.1
  o : xo < 2 ^ (entAt T.t1.es s.o).2.1
  m : xm < 2 ^ (entAt T.t2.es s.m).2.1
def goSt (T : T3) (s : St) (xl xo xm : Nat) : St := ⟨(entAt T.t0.es s.l).2.2 + xl, (entAt T.t1.es s.o).2.2 + xo, (entAt T.t2.es s.m).2.2 + xm⟩
/-- From these states on, these bits, read from the back, tell these sequences. -/
def Tells (T : T3) : List Cq → St → List Bool → Prop
  | [], _, _ => False
  | [q], s, L => AtQ T s q ∧ L = valBits q
  | q :: q2 :: r, s, L => AtQ T s q ∧ ∃ xl xo xm L', GoOk T s xl xo xm ∧ L = L' ++ goBits T s xl xo xm ++ valBits q ∧ Tells T (q2 :: r) (goSt T s xl xo xm) L'
theorem Tells.at {T : T3} {q : Cq} {r : List Cq} {s : St} {L : List Bool} (h : Tells T (q :: r) s L) : AtQ T s q := by
  cases r with
  | nil => exact h.1
  | cons q2 r => exact h.1
theorem TOk.bits {n s : Nat} {t : Tb} (h : TOk n t) (hs : s < t.es.length) : (entAt t.es s).2.1 ≤ 15 := by
  obtain ⟨sy, b, e, hx, _, h2, _⟩ := h.ent s hs
  rw [entAt_get hs hx]
  exact h2

section
variable {xs : List UInt8} {T : T3} {s : St} {q : Cq} {L L' : List Bool}
theorem seqv_back (ha : AtQ T s q) (hq : CqOk q) (hL : L = L' ++ valBits q) (ht : (bitsOf xs).take L.length = L) :
    seqv xs T s (L.length : Int) = (sqOf q, (L'.length : Int)) ∧ (bitsOf xs).take L'.length = L' := by
  obtain ⟨h1, t1⟩ := bread_back (bits' := L' ++ low q.l.x q.l.b ++ low q.m.x q.m.b) ht (by rw [hL]; unfold valBits; simp [List.append_assoc]) hq.o.x (by rw [hq.o.b]; have := add_56 (n := 1) (by decide) hq.o.c; omega)
  obtain ⟨h2, t2⟩ := bread_back (bits' := L' ++ low q.l.x q.l.b) t1 rfl hq.m.x (by rw [hq.m.b]; have := add_56 (n := 2) (by decide) hq.m.c; omega)
  obtain ⟨h3, t3⟩ := bread_back (bits' := L') t2 rfl hq.l.x (by rw [hq.l.b]; have := add_56 (n := 0) (by decide) hq.l.c; omega)
  have e1 : cdv xs 1 T.t1.es s.o (L.length : Int) = (valOf 1 q.o, ((L' ++ low q.l.x q.l.b ++ low q.m.x q.m.b).length : Int)) := by
    unfold cdv
    rw [ha.o, ← hq.o.b, h1]
    rfl
  have e2 : cdv xs 2 T.t2.es s.m ((L' ++ low q.l.x q.l.b ++ low q.m.x q.m.b).length : Int) = (valOf 2 q.m, ((L' ++ low q.l.x q.l.b).length : Int)) := by
    unfold cdv
    rw [ha.m, ← hq.m.b, h2]
    rfl
  have e3 : cdv xs 0 T.t0.es s.l ((L' ++ low q.l.x q.l.b).length : Int) = (valOf 0 q.l, (L'.length : Int)) := by
    unfold cdv
    rw [ha.l, ← hq.l.b, h3]
    rfl
  refine ⟨?_, t3⟩
  unfold seqv
  rw [e1]
  dsimp only
  rw [e2]
  dsimp only
  rw [e3]
  rfl
theorem nextv_back {xl xo xm : Nat} (hT : T3Ok T) (hs : StOk T s) (hg : GoOk T s xl xo xm) (hL : L = L' ++ goBits T s xl xo xm) (ht : (bitsOf xs).take L.length = L) :
    nextv xs T s (L.length : Int) = (goSt T s xl xo xm, (L'.length : Int)) ∧ (bitsOf xs).take L'.length = L' := by
  have b0 := hT.o0.bits hs.l
  have b1 := hT.o1.bits hs.o
  have b2 := hT.o2.bits hs.m
  obtain ⟨h1, t1⟩ := bread_back (bits' := L' ++ low xo (entAt T.t1.es s.o).2.1 ++ low xm (entAt T.t2.es s.m).2.1) ht (by rw [hL]; unfold goBits; simp [List.append_assoc]) hg.l (by omega)
  obtain ⟨h2, t2⟩ := bread_back (bits' := L' ++ low xo (entAt T.t1.es s.o).2.1) t1 rfl hg.m (by omega)
  obtain ⟨h3, t3⟩ := bread_back (bits' := L') t2 rfl hg.o (by omega)
  have e1 : nxv xs T.t0.es s.l (L.length : Int) = ((entAt T.t0.es s.l).2.2 + xl, ((L' ++ low xo (entAt T.t1.es s.o).2.1 ++ low xm (entAt T.t2.es s.m).2.1).length : Int)) := by
    unfold nxv
    rw [h1]
  have e2 : nxv xs T.t2.es s.m ((L' ++ low xo (entAt T.t1.es s.o).2.1 ++ low xm (entAt T.t2.es s.m).2.1).length : Int) = ((entAt T.t2.es s.m).2.2 + xm, ((L' ++ low xo (entAt T.t1.es s.o).2.1).length : Int)) := by
    unfold nxv
    rw [h2]
  have e3 : nxv xs T.t1.es s.o ((L' ++ low xo (entAt T.t1.es s.o).2.1).length : Int) = ((entAt T.t1.es s.o).2.2 + xo, (L'.length : Int)) := by
    unfold nxv
    rw [h3]
  refine ⟨?_, t3⟩
  unfold nextv
  rw [e1]
  dsimp only
  rw [e2]
  dsimp only
  rw [e3]
  rfl
end

theorem run_back {xs : List UInt8} {T : T3} {p : St × Int} (hT : T3Ok T) : ∀ (cs : List Cq) (k : Nat) (s : St) (L : List Bool),
    preS xs T k (runS xs T p k) = (s, (L.length : Int)) → Tells T cs s L → (∀ q ∈ cs, CqOk q) → (bitsOf xs).take L.length = L →
    (runS xs T p (k + cs.length)).q = (runS xs T p k).q ++ cs.map sqOf ∧ (runS xs T p (k + cs.length)).left = 0
  | [], _, _, _, _, h, _, _ => h.elim
  | [q], k, s, L, hp, h, hq, ht => by
    obtain ⟨ha, hL⟩ := h
    obtain ⟨h1, _⟩ := seqv_back (L' := []) ha (hq q (by simp)) (by rw [hL]; rfl) ht
    show (runS xs T p (k + 1)).q = _ ∧ (runS xs T p (k + 1)).left = 0
    rw [runS, hp]
    dsimp only
    rw [h1]
    exact ⟨rfl, rfl⟩
  | q :: q2 :: r, k, s, L, hp, h, hq, ht => by
    obtain ⟨ha, xl, xo, xm, L', hg, hL, hr⟩ := h
    obtain ⟨h1, t1⟩ := seqv_back (L' := L' ++ goBits T s xl xo xm) ha (hq q (by simp)) hL ht
    obtain ⟨h2, t2⟩ := nextv_back (L := L' ++ goBits T s xl xo xm) hT ha.ok hg rfl t1
    have e : runS xs T p (k + 1) = ⟨(runS xs T p k).q ++ [sqOf q], s, ((L' ++ goBits T s xl xo xm).length : Int)⟩ := by
      rw [runS, hp]
      dsimp only
      rw [h1]
    have hp2 : preS xs T (k + 1) (runS xs T p (k + 1)) = (goSt T s xl xo xm, (L'.length : Int)) := by
      unfold preS
      rw [if_neg (by omega), e]
      exact h2
    obtain ⟨h3, h4⟩ := run_back hT (q2 :: r) (k + 1) _ L' hp2 hr (fun x hx => hq x (by simp [hx])) t2
    rw [show k + (q :: q2 :: r).length = k + 1 + (q2 :: r).length by simp; omega]
    refine ⟨?_, h4⟩
    rw [h3, e]
    simp

/-- The bits of sequences whole: behind them the states of the first one. -/
def endBits (T : T3) (s : St) : List Bool := low s.m T.t2.lg ++ low s.o T.t1.lg ++ low s.l T.t0.lg
theorem TOk.state {n s : Nat} {t : Tb} (h : TOk n t) (hs : s < t.es.length) : s < 2 ^ t.lg := by rw [← h.len]; exact hs
theorem body_back {T : T3} {cs : List Cq} {s : St} {L : List Bool} (hT : T3Ok T) (h : Tells T cs s L) (hq : ∀ q ∈ cs, CqOk q) :
    bodyS (bytesOf (L ++ endBits T s ++ [true])) T cs.length = .ok (cs.map sqOf) := by
  have hs : StOk T s := by
    cases cs with
    | nil => exact h.elim
    | cons q r => exact h.at.ok
  have hno := closed_back' (L ++ endBits T s)
  have htop := top_closed (L ++ endBits T s)
  have htk := take_closed' (L ++ endBits T s)
  have l0 := hT.o0.lg
  have l1 := hT.o1.lg
  have l2 := hT.o2.lg
  generalize bytesOf (L ++ endBits T s ++ [true]) = xs at *
  obtain ⟨h1, t1⟩ := bread_back (xs := xs) (bits' := L ++ low s.m T.t2.lg ++ low s.o T.t1.lg) (x := s.l) (b := T.t0.lg) htk (by unfold endBits; simp [List.append_assoc]) (hT.o0.state hs.l) (by omega)
  obtain ⟨h2, t2⟩ := bread_back (bits' := L ++ low s.m T.t2.lg) t1 rfl (hT.o1.state hs.o) (by omega)
  obtain ⟨h3, t3⟩ := bread_back (bits' := L) t2 rfl (hT.o2.state hs.m) (by omega)
  have e : startv xs T (top xs : Int) = (s, (L.length : Int)) := by
    unfold startv
    rw [htop, h1]
    dsimp only
    rw [h2]
    dsimp only
    rw [h3]
  have hp : preS xs T 0 (runS xs T (startv xs T (top xs : Int)) 0) = (s, (L.length : Int)) := by
    rw [e]
    rfl
  obtain ⟨h4, h5⟩ := run_back hT cs 0 s L hp h hq t3
  rw [Nat.zero_add] at h4 h5
  unfold bodyS
  rw [if_neg (by rw [hno]; simp), if_neg (by omega), if_neg (by omega), h4]
  rfl

/-! A section whole. -/
/-- What is written of the number of sequences. -/
def cntB (n : Nat) : List UInt8 := if n < 128 then put n 1 else put (128 + n / 256) 1 ++ put n 1
theorem put_one (x : Nat) : put x 1 = [UInt8.ofNat x] := by
  have e : UInt8.ofNat (x % 256) = UInt8.ofNat x := by
    apply UInt8.toNat_inj.1
    rw [UInt8.toNat_ofNat', UInt8.toNat_ofNat']
    omega
  simp [put, e]
theorem count_cnt {n : Nat} (h : n < 32512) (rest : List UInt8) : countS (cntB n ++ rest) = .ok (n, rest) := by
  unfold cntB
  split
  · next h1 =>
    rw [put_one]
    show countS (UInt8.ofNat n :: rest) = _
    have e : (UInt8.ofNat n).toNat = n := by rw [UInt8.toNat_ofNat']; omega
    unfold countS
    dsimp only
    rw [e, if_pos h1]
  · next h1 =>
    rw [put_one, put_one]
    show countS (UInt8.ofNat (128 + n / 256) :: UInt8.ofNat n :: rest) = _
    have e : (UInt8.ofNat (128 + n / 256)).toNat = 128 + n / 256 := by rw [UInt8.toNat_ofNat']; omega
    have e2 : (UInt8.ofNat n).toNat = n % 256 := by rw [UInt8.toNat_ofNat']
    unfold countS
    dsimp only
    rw [e, if_neg (by omega), if_pos (by omega), e2]
    congr 2
    omega
/-- A way of telling a table, in front of whatever bytes. -/
def WayT (n mode : Nat) (told : List UInt8) (t : Tb) : Prop := mode ≤ 2 ∧ ∀ rest, readT n mode (told ++ rest) = .ok (t, told.length)
theorem way_one {n s : Nat} (hn : n < 3) (h : s ≤ lastN n) : WayT n 1 [UInt8.ofNat s] ⟨0, [⟨(s : Int), 0, 0⟩]⟩ := ⟨by omega, fun rest => by
  have e : (UInt8.ofNat s).toNat = s := by rw [UInt8.toNat_ofNat']; have := last_le n hn; omega
  show readT n 1 (UInt8.ofNat s :: rest) = _
  unfold readT
  rw [if_neg (by omega), if_pos rfl]
  dsimp only
  rw [e, if_neg (by omega)]
  rfl⟩
theorem way_given (n : Nat) : WayT n 0 [] ⟨logN n, tabG n⟩ := ⟨by omega, fun rest => by
  unfold readT
  rw [if_pos rfl]
  rfl⟩
theorem way_told {n l : Nat} {ps : List Int} (hm : mayB (l : Int) ps = true) (hl : l ≤ mostN n) (hp : ps.length ≤ lastN n + 1) : WayT n 2 (bytesOf (wrC l ps)) ⟨l, tab l ps⟩ := ⟨by omega, fun rest => by
  have h := rdC_back (most := (mostN n : Int)) (sy := ((lastN n + 1 : Nat) : Int)) hm (by omega) (by omega) (bitsOf rest)
  rw [show ((l : Nat) : Int).toNat = l by omega] at h
  unfold readT
  rw [if_neg (by omega), if_neg (by omega), if_pos rfl, bitsOf_append, h]
  dsimp only
  rw [bytesOf_length]⟩
theorem readTs_back {T : T3} {m0 m1 m2 : Nat} {a b c rest : List UInt8} (h0 : WayT 0 m0 a T.t0) (h1 : WayT 1 m1 b T.t1) (h2 : WayT 2 m2 c T.t2) :
    readTs (m0 * 64 + m1 * 16 + m2 * 4) (a ++ b ++ c ++ rest) = .ok (T, rest) := by
  have q0 := h0.1
  have q1 := h1.1
  have q2 := h2.1
  unfold readTs
  rw [show (m0 * 64 + m1 * 16 + m2 * 4) / 64 = m0 by omega, show (m0 * 64 + m1 * 16 + m2 * 4) / 16 % 4 = m1 by omega, show (m0 * 64 + m1 * 16 + m2 * 4) / 4 % 4 = m2 by omega]
  rw [show a ++ b ++ c ++ rest = a ++ (b ++ (c ++ rest)) by simp [List.append_assoc], h0.2]
  dsimp only
  rw [List.drop_left, h1.2]
  dsimp only
  rw [List.drop_left, h2.2]
  dsimp only
  rw [List.drop_left]
/-- A section that is written is read as it was. -/
theorem readS_back {T : T3} {m0 m1 m2 : Nat} {a b c : List UInt8} {cs : List Cq} {s : St} {L : List Bool} (hn : cs.length < 32512) (hT : T3Ok T) (h0 : WayT 0 m0 a T.t0) (h1 : WayT 1 m1 b T.t1) (h2 : WayT 2 m2 c T.t2)
    (h : Tells T cs s L) (hq : ∀ q ∈ cs, CqOk q) :
    readS (cntB cs.length ++ (put (m0 * 64 + m1 * 16 + m2 * 4) 1 ++ (a ++ b ++ c) ++ bytesOf (L ++ endBits T s ++ [true]))) = .ok (cs.map sqOf, some T) := by
  have q0 := h0.1
  have q1 := h1.1
  have q2 := h2.1
  have hpos : cs.length ≠ 0 := by
    cases cs with
    | nil => exact h.elim
    | cons q r => simp
  have e : (UInt8.ofNat (m0 * 64 + m1 * 16 + m2 * 4)).toNat = m0 * 64 + m1 * 16 + m2 * 4 := by rw [UInt8.toNat_ofNat']; omega
  have e3 : put (m0 * 64 + m1 * 16 + m2 * 4) 1 ++ (a ++ b ++ c) ++ bytesOf (L ++ endBits T s ++ [true]) = UInt8.ofNat (m0 * 64 + m1 * 16 + m2 * 4) :: (a ++ b ++ c ++ bytesOf (L ++ endBits T s ++ [true])) := by rw [put_one]; simp
  rw [e3]
  unfold readS
  rw [count_cnt hn]
  dsimp only
  rw [if_neg hpos]
  rw [e, if_neg (by omega), readTs_back h0 h1 h2]
  dsimp only
  rw [body_back hT h hq]
theorem count_free {m0 m1 m2 n : Nat} {r : List UInt8} (hn : n < 32512) (h0 : m0 ≤ 2) (h1 : m1 ≤ 2) (h2 : m2 ≤ 2) : aheadFree (cntB n ++ (put (m0 * 64 + m1 * 16 + m2 * 4) 1 ++ r)) := by
  intro n' r' m r2 h hr
  rw [count_cnt hn, put_one] at h
  injection h with h
  injection h with _ h3
  rw [← h3] at hr
  injection hr with h4 _
  subst h4
  have e : (UInt8.ofNat (m0 * 64 + m1 * 16 + m2 * 4)).toNat = m0 * 64 + m1 * 16 + m2 * 4 := by rw [UInt8.toNat_ofNat']; omega
  rw [e]
  omega

/-! Each state is reached from one of each code that a table has. -/
def Rea (es : List En) (y : Nat) : Prop := ∀ st, st < es.length → ∃ i, ∃ h : i < es.length, matB es[i] (y : Int) (st : Int) = true
theorem thr_pos {es : List En} {y st : Int} : ∀ m, m ≤ es.length → 0 < thr es y st m → ∃ i, ∃ h : i < es.length, matB es[i] y st = true
  | 0, _, h => by simp [thr] at h
  | m + 1, hm, h => by
    rw [thr_succ _ _ _ _ (by omega)] at h
    split at h
    · next hb => exact ⟨m, by omega, hb⟩
    · exact thr_pos m (by omega) (by omega)
theorem rea_tab {l : Nat} {ps : List Int} (h : MayF l ps) {y : Nat} (hy : ∃ i, ∃ hi : i < (tab l ps).length, (tab l ps)[i].s = (y : Int)) : Rea (tab l ps) y := fun st hst => by
  rw [tab_length h] at hst
  have hw : 1 ≤ (wi (ps.getD y 0)).toNat := by
    rcases Nat.lt_or_ge 0 (wi (ps.getD y 0)).toNat with q | q
    · exact q
    · obtain ⟨i, hi, e⟩ := hy
      exact absurd e (tab_hasnt h y (by omega) i hi)
  have h1 := thr_one h y st hst
  rw [if_pos hw] at h1
  exact thr_pos (2 ^ l) (by rw [tab_length h]; exact Nat.le_refl _) (by omega)
theorem rea_one (s : Nat) : Rea [⟨(s : Int), 0, 0⟩] s := fun st hst => by
  obtain rfl : st = 0 := by simpa using hst
  exact ⟨0, by simp, by simp [matB]⟩
theorem stF_at {es : List En} {s : Nat} : ∀ j, j ≤ es.length → 0 < stF es j s → ∃ i, ∃ h : i < es.length, es[i].s = (s : Int)
  | 0, _, h => by simp [stF] at h
  | j + 1, hj, h => by
    rw [stF] at h
    split at h
    · next hb =>
      refine ⟨j, by omega, ?_⟩
      rw [List.getD_eq_getElem?_getD, List.getElem?_eq_getElem (by omega)] at hb
      exact hb
    · exact stF_at j (by omega) (by omega)
end Go.Proofs.YtlidnialggpcpaaGreatDoor
