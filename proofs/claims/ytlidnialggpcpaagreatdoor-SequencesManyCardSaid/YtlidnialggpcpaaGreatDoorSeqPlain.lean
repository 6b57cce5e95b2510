
/- The sequences of a block, on lists: how many there are, the tables, the states and values that bits tell. Nothing of the program's code is named here. -/
import Derived.Test.YtlidnialggpcpaaGreatDoorPileF
import Derived.Test.YtlidnialggpcpaaGreatDoorPileD
namespace Go.Proofs.YtlidnialggpcpaaGreatDoor

/-- What a table tells: its power, its entries. -/
structure Tb where
  lg : Nat
  es : List En
/-- A table of a kind: as many entries as its power says, each a code of the kind, and all that it leads to are states. -/
structure TOk (n : Nat) (t : Tb) : Prop where
  len : t.es.length = 2 ^ t.lg
  lg : t.lg ≤ 9
  ent : ∀ i (h : i < t.es.length), ∃ s b e : Nat, t.es[i] = ⟨s, b, e⟩ ∧ s ≤ lastN n ∧ b ≤ 15 ∧ e + 2 ^ b ≤ t.es.length

theorem tok_tab {n l : Nat} {ps : List Int} (h : MayF l ps) (hl : l ≤ 9) (hp : ps.length ≤ lastN n + 1) : TOk n ⟨l, tab l ps⟩ :=
  ⟨tab_length h, hl, fun i hi => by
    obtain ⟨s, b, e, h1, h2, h3, h4, h5⟩ := tab_bd h i hi
    have hi' : i < 2 ^ l := by
      have := tab_length h
      show i < 2 ^ l
      rw [← this]
      exact hi
    have hm : s < ps.length := by
      rw [h3]
      refine h.syms_lt _ ?_
      rw [List.getD_eq_getElem?_getD, List.getElem?_eq_getElem (by rw [h.syms_len]; exact hi')]
      exact List.getElem_mem _
    exact ⟨s, b, e, h1, by omega, by have := h.l15; omega, by show e + 2 ^ b ≤ (tab l ps).length; rw [tab_length h]; exact h5⟩⟩
theorem tok_one {n s : Nat} (h : s ≤ lastN n) : TOk n ⟨0, [⟨(s : Int), 0, 0⟩]⟩ :=
  ⟨rfl, Nat.zero_le _, fun i hi => by
    obtain rfl : i = 0 := by simpa using hi
    exact ⟨s, 0, 0, rfl, h, by omega, by simp⟩⟩
theorem tok_given {n : Nat} (h : n < 3) : TOk n ⟨logN n, tabG n⟩ :=
  tok_tab (givenF h) (by have := log_le n h; omega) (by have := parts_len n h; have := has_le n h; omega)

/-- The table that a mode tells in front of bytes, and how many bytes it has; where none is ahead. -/
def readT (n mode : Nat) (xs : List UInt8) : Except Int (Tb × Nat) :=
  if mode = 0 then .ok (⟨logN n, tabG n⟩, 0)
  else if mode = 1 then (match xs with
    | [] => .error 10
    | z :: _ => if lastN n < z.toNat then .error 11 else .ok (⟨0, [⟨(z.toNat : Int), 0, 0⟩]⟩, 1))
  else if mode = 2 then (match rdC (bitsOf xs) (mostN n : Int) ((lastN n + 1 : Nat) : Int) with
    | .error e => .error e
    | .ok (l, ps, a) => .ok (⟨l, tab l ps⟩, (a + 7) / 8))
  else .error 11

theorem rdC_le {L : List Bool} {most sy : Int} {log a : Nat} {ps : List Int} (h : rdC L most sy = .ok (log, ps, a)) : a ≤ L.length := by
  unfold rdC at h
  split at h
  · cases h
  · next x hx =>
    have h4 := (rd_lt hx).2
    split at h
    · cases h
    · split at h
      · cases h
      · next q a' hq =>
        simp only [Except.ok.injEq, Prod.mk.injEq] at h
        obtain ⟨_, _, h3⟩ := h
        subst h3
        exact (rdP_le _ hq).2 (by omega)
theorem readT_ok {n mode u : Nat} {xs : List UInt8} {t : Tb} (hn : n < 3) (h : readT n mode xs = .ok (t, u)) : TOk n t ∧ u ≤ xs.length := by
  unfold readT at h
  split at h
  · injection h with h
    injection h with h1 h2
    subst h1 h2
    exact ⟨tok_given hn, Nat.zero_le _⟩
  · split at h
    · split at h
      · cases h
      · split at h
        · cases h
        · injection h with h
          injection h with h1 h2
          subst h1 h2
          exact ⟨tok_one (by omega), by simp⟩
    · split at h
      · split at h
        · cases h
        · next l ps a hr =>
          injection h with h
          injection h with h1 h2
          subst h1 h2
          have hm := rdC_may hr (by have := last_le n hn; omega)
          have hle := rdC_le hr
          rw [bitsOf_length] at hle
          exact ⟨tok_tab (mayF hm.1) (by have := most_le n hn; omega) (by omega), by omega⟩
      · cases h
theorem rdC_err {L : List Bool} {most sy er : Int} (hr : rdC L most sy = .error er) : er ≠ 0 := by
  unfold rdC at hr
  split at hr
  · injection hr with hr; omega
  · split at hr
    · injection hr with hr; omega
    · split at hr
      · next e' hq =>
        injection hr with hr
        have := rdP_err _ hq
        omega
      · cases hr
/-- What is told may be read: its error is none of those that are none. -/
theorem readT_err {n mode : Nat} {xs : List UInt8} {er : Int} (h : readT n mode xs = .error er) : er ≠ 0 := by
  unfold readT at h
  split at h
  · cases h
  · split at h
    · split at h
      · injection h with h; omega
      · split at h
        · injection h with h; omega
        · cases h
    · split at h
      · split at h
        · next e hr =>
          injection h with h
          subst h
          exact rdC_err hr
        · cases h
      · injection h with h; omega

/-- The three tables: of Literals, Offsets, Matches. -/
structure T3 where
  t0 : Tb
  t1 : Tb
  t2 : Tb
structure T3Ok (T : T3) : Prop where
  o0 : TOk 0 T.t0
  o1 : TOk 1 T.t1
  o2 : TOk 2 T.t2
def readTs (m : Nat) (xs : List UInt8) : Except Int (T3 × List UInt8) :=
  match readT 0 (m / 64) xs with
  | .error e => .error e
  | .ok (t0, u0) => match readT 1 (m / 16 % 4) (xs.drop u0) with
    | .error e => .error e
    | .ok (t1, u1) => match readT 2 (m / 4 % 4) ((xs.drop u0).drop u1) with
      | .error e => .error e
      | .ok (t2, u2) => .ok (⟨t0, t1, t2⟩, ((xs.drop u0).drop u1).drop u2)
theorem readTs_ok {m : Nat} {xs r : List UInt8} {T : T3} (h : readTs m xs = .ok (T, r)) : T3Ok T ∧ r.length ≤ xs.length := by
  unfold readTs at h
  split at h
  · cases h
  · next t0 u0 h0 =>
    split at h
    · cases h
    · next t1 u1 h1 =>
      split at h
      · cases h
      · next t2 u2 h2 =>
        injection h with h
        injection h with e1 e2
        subst e1 e2
        exact ⟨⟨(readT_ok (by decide) h0).1, (readT_ok (by decide) h1).1, (readT_ok (by decide) h2).1⟩, by simp only [List.length_drop]; omega⟩

/-! States, and what they tell. -/
/-- A sequence's values: literals, match, offset. -/
structure Sq where
  l : Nat
  m : Nat
  o : Nat
/-- The states of the three tables, in their order. -/
structure St where
  l : Nat
  o : Nat
  m : Nat
/-- An entry's numbers. -/
def entAt (es : List En) (s : Nat) : Nat × Nat × Nat := match es[s]? with
  | some x => (x.s.toNat, x.b.toNat, x.e.toNat)
  | none => (0, 0, 0)
theorem entAt_get {es : List En} {s sy b e : Nat} (h : s < es.length) (hx : es[s] = ⟨sy, b, e⟩) : entAt es s = (sy, b, e) := by
  unfold entAt
  rw [List.getElem?_eq_getElem h, hx]
  rfl
/-- The value that a state tells, and how many bits are left. -/
def cdv (xs : List UInt8) (n : Nat) (es : List En) (s : Nat) (left : Int) : Nat × Int :=
  (cd.beginN n (entAt es s).1 + (bread xs left (cd.addN n (entAt es s).1 : Int)).1, (bread xs left (cd.addN n (entAt es s).1 : Int)).2)
/-- The state that follows. -/
def nxv (xs : List UInt8) (es : List En) (s : Nat) (left : Int) : Nat × Int :=
  ((entAt es s).2.2 + (bread xs left ((entAt es s).2.1 : Int)).1, (bread xs left ((entAt es s).2.1 : Int)).2)
def seqv (xs : List UInt8) (T : T3) (s : St) (left : Int) : Sq × Int :=
  (⟨(cdv xs 0 T.t0.es s.l (cdv xs 2 T.t2.es s.m (cdv xs 1 T.t1.es s.o left).2).2).1, (cdv xs 2 T.t2.es s.m (cdv xs 1 T.t1.es s.o left).2).1, (cdv xs 1 T.t1.es s.o left).1⟩,
   (cdv xs 0 T.t0.es s.l (cdv xs 2 T.t2.es s.m (cdv xs 1 T.t1.es s.o left).2).2).2)
def nextv (xs : List UInt8) (T : T3) (s : St) (left : Int) : St × Int :=
  (⟨(nxv xs T.t0.es s.l left).1, (nxv xs T.t1.es s.o (nxv xs T.t2.es s.m (nxv xs T.t0.es s.l left).2).2).1, (nxv xs T.t2.es s.m (nxv xs T.t0.es s.l left).2).1⟩,
   (nxv xs T.t1.es s.o (nxv xs T.t2.es s.m (nxv xs T.t0.es s.l left).2).2).2)
def startv (xs : List UInt8) (T : T3) (left : Int) : St × Int :=
  (⟨(bread xs left (T.t0.lg : Int)).1, (bread xs (bread xs left (T.t0.lg : Int)).2 (T.t1.lg : Int)).1, (bread xs (bread xs (bread xs left (T.t0.lg : Int)).2 (T.t1.lg : Int)).2 (T.t2.lg : Int)).1⟩,
   (bread xs (bread xs (bread xs left (T.t0.lg : Int)).2 (T.t1.lg : Int)).2 (T.t2.lg : Int)).2)
/-- States that the tables have. -/
structure StOk (T : T3) (s : St) : Prop where
  l : s.l < T.t0.es.length
  o : s.o < T.t1.es.length
  m : s.m < T.t2.es.length
theorem bread_ltN (xs : List UInt8) (left : Int) (n : Nat) : (bread xs left (n : Int)).1 < 2 ^ n := bread_lt xs left n
theorem TOk.start {n : Nat} {t : Tb} (h : TOk n t) (xs : List UInt8) (left : Int) : (bread xs left (t.lg : Int)).1 < t.es.length := by
  rw [h.len]
  exact bread_ltN xs left t.lg
theorem TOk.next {n s : Nat} {t : Tb} (h : TOk n t) (hs : s < t.es.length) (xs : List UInt8) (left : Int) : (nxv xs t.es s left).1 < t.es.length := by
  obtain ⟨sy, b, e, hx, _, _, h3⟩ := h.ent s hs
  unfold nxv
  rw [entAt_get hs hx]
  have := bread_ltN xs left b
  show e + (bread xs left (b : Int)).1 < _
  omega
theorem TOk.pos {n : Nat} {t : Tb} (h : TOk n t) : 0 < t.es.length := by rw [h.len]; exact Nat.two_pow_pos _
theorem TOk.small {n : Nat} {t : Tb} (h : TOk n t) : t.es.length ≤ 512 := by
  rw [h.len]
  have h2 := h.lg
  exact Nat.le_trans (Nat.pow_le_pow_right (by decide) h2) (by decide)
theorem T3Ok.start {T : T3} (h : T3Ok T) (xs : List UInt8) (left : Int) : StOk T (startv xs T left).1 := ⟨h.o0.start xs _, h.o1.start xs _, h.o2.start xs _⟩
theorem T3Ok.next {T : T3} (h : T3Ok T) {s : St} (hs : StOk T s) (xs : List UInt8) (left : Int) : StOk T (nextv xs T s left).1 := ⟨h.o0.next hs.l xs _, h.o1.next hs.o xs _, h.o2.next hs.m xs _⟩

/-- What stands when some sequences have been read: those, the states of the last one (or the first), the bits left. -/
structure Rn where
  q : List Sq
  s : St
  left : Int
/-- The states of the next sequence. -/
def preS (xs : List UInt8) (T : T3) (k : Nat) (r : Rn) : St × Int := if k = 0 then (r.s, r.left) else nextv xs T r.s r.left
def runS (xs : List UInt8) (T : T3) (p : St × Int) : Nat → Rn
  | 0 => ⟨[], p.1, p.2⟩
  | k + 1 => ⟨(runS xs T p k).q ++ [(seqv xs T (preS xs T k (runS xs T p k)).1 (preS xs T k (runS xs T p k)).2).1], (preS xs T k (runS xs T p k)).1, (seqv xs T (preS xs T k (runS xs T p k)).1 (preS xs T k (runS xs T p k)).2).2⟩
theorem cdv_le (xs : List UInt8) (n : Nat) (es : List En) (s : Nat) (left : Int) : (cdv xs n es s left).2 ≤ left ∧ left - 56 ≤ (cdv xs n es s left).2 := bread_le' xs left _
theorem nxv_le (xs : List UInt8) (es : List En) (s : Nat) (left : Int) : (nxv xs es s left).2 ≤ left ∧ left - 56 ≤ (nxv xs es s left).2 := bread_le' xs left _
theorem seqv_le (xs : List UInt8) (T : T3) (s : St) (left : Int) : (seqv xs T s left).2 ≤ left ∧ left - 168 ≤ (seqv xs T s left).2 := by
  have h1 := cdv_le xs 1 T.t1.es s.o left
  have h2 := cdv_le xs 2 T.t2.es s.m (cdv xs 1 T.t1.es s.o left).2
  have h3 := cdv_le xs 0 T.t0.es s.l (cdv xs 2 T.t2.es s.m (cdv xs 1 T.t1.es s.o left).2).2
  unfold seqv
  dsimp only
  omega
theorem nextv_le (xs : List UInt8) (T : T3) (s : St) (left : Int) : (nextv xs T s left).2 ≤ left ∧ left - 168 ≤ (nextv xs T s left).2 := by
  have h1 := nxv_le xs T.t0.es s.l left
  have h2 := nxv_le xs T.t2.es s.m (nxv xs T.t0.es s.l left).2
  have h3 := nxv_le xs T.t1.es s.o (nxv xs T.t2.es s.m (nxv xs T.t0.es s.l left).2).2
  unfold nextv
  dsimp only
  omega
theorem pre_le (xs : List UInt8) (T : T3) (k : Nat) (r : Rn) : (preS xs T k r).2 ≤ r.left ∧ r.left - 168 ≤ (preS xs T k r).2 := by
  unfold preS
  split
  · show r.left ≤ r.left ∧ r.left - 168 ≤ r.left
    omega
  · exact nextv_le xs T r.s r.left
theorem run_le (xs : List UInt8) (T : T3) (p : St × Int) : ∀ k, (runS xs T p k).left ≤ p.2 ∧ p.2 - 336 * k ≤ (runS xs T p k).left
  | 0 => by show p.2 ≤ p.2 ∧ p.2 - 336 * (0 : Nat) ≤ p.2; omega
  | k + 1 => by
    have h1 := run_le xs T p k
    have h2 := pre_le xs T k (runS xs T p k)
    have h3 := seqv_le xs T (preS xs T k (runS xs T p k)).1 (preS xs T k (runS xs T p k)).2
    rw [runS]
    dsimp only
    omega
theorem run_len (xs : List UInt8) (T : T3) (p : St × Int) : ∀ k, (runS xs T p k).q.length = k
  | 0 => rfl
  | k + 1 => by rw [runS]; simp [run_len xs T p k]
theorem pre_ok {xs : List UInt8} {T : T3} (h : T3Ok T) {k : Nat} {r : Rn} (hs : StOk T r.s) : StOk T (preS xs T k r).1 := by
  unfold preS
  split
  · exact hs
  · exact h.next hs xs _
theorem run_ok {xs : List UInt8} {T : T3} (h : T3Ok T) {p : St × Int} (hp : StOk T p.1) : ∀ k, StOk T (runS xs T p k).s
  | 0 => hp
  | k + 1 => by rw [runS]; exact pre_ok h (run_ok h hp k)

/-- How many sequences there are, and what stands behind. -/
def countS : List UInt8 → Except Int (Nat × List UInt8)
  | [] => .error 10
  | f :: r => if f.toNat < 128 then .ok (f.toNat, r) else if f.toNat < 255 then (match r with
      | [] => .error 10
      | x :: r2 => .ok ((f.toNat - 128) * 256 + x.toNat, r2)) else (match r with
      | x :: y :: r2 => .ok (32512 + (x.toNat + 256 * y.toNat), r2)
      | _ => .error 10)
theorem count_le {xs r : List UInt8} {n : Nat} (h : countS xs = .ok (n, r)) : n ≤ 98047 ∧ r.length < xs.length := by
  unfold countS at h
  split at h
  · cases h
  · next f r' =>
    have hf := f.toNat_lt
    split at h
    · injection h with h
      injection h with h1 h2
      subst h1 h2
      exact ⟨by omega, by simp only [List.length_cons]; omega⟩
    · split at h
      · split at h
        · cases h
        · next x r2 =>
          have hx := x.toNat_lt
          injection h with h
          injection h with h1 h2
          subst h1 h2
          exact ⟨by omega, by simp only [List.length_cons]; omega⟩
      · split at h
        · next x y r2 =>
          have hx := x.toNat_lt
          have hy := y.toNat_lt
          injection h with h
          injection h with h1 h2
          subst h1 h2
          exact ⟨by omega, by simp only [List.length_cons]; omega⟩
        · cases h
/-- The sequences that bits tell by tables. -/
def bodyS (xs : List UInt8) (T : T3) (n : Nat) : Except Int (List Sq) :=
  if noBack xs = true then .error 11 else
  if (runS xs T (startv xs T (top xs : Int)) n).left < 0 then .error 11 else
  if 0 < (runS xs T (startv xs T (top xs : Int)) n).left then .error 15 else .ok (runS xs T (startv xs T (top xs : Int)) n).q
/-- The sequences of a section, and the tables (none: those ahead). -/
def readS (xs : List UInt8) : Except Int (List Sq × Option T3) :=
  match countS xs with
  | .error e => .error e
  | .ok (n, r) => if n = 0 then (if 0 < r.length then .error 15 else .ok ([], none)) else
    match r with
    | [] => .error 10
    | m :: r2 => if m.toNat % 4 ≠ 0 then .error 11 else
      match readTs m.toNat r2 with
      | .error e => .error e
      | .ok (T, r3) => match bodyS r3 T n with
        | .error e => .error e
        | .ok q => .ok (q, some T)
/-- The kinds whose table is that ahead. -/
def aheadFree (xs : List UInt8) : Prop := ∀ n r m r2, countS xs = .ok (n, r) → r = m :: r2 → m.toNat / 64 ≠ 3 ∧ m.toNat / 16 % 4 ≠ 3 ∧ m.toNat / 4 % 4 ≠ 3
end Go.Proofs.YtlidnialggpcpaaGreatDoor
