
/- The contract of the program's readTables. -/
import Derived.Test.YtlidnialggpcpaaGreatDoorSeqCount
import Derived.Test.YtlidnialggpcpaaGreatDoorSeqOne
namespace Go.Proofs.YtlidnialggpcpaaGreatDoor
open Go.RowKit

/-- The mode of a kind. -/
def md (m k : Nat) : Nat := m / 2 ^ (2 * (3 - k)) % 4
theorem md_lt (m k : Nat) : md m k < 4 := Nat.mod_lt _ (by decide)
theorem md_eq {m : Nat} (h : m < 256) : md m 0 = m / 64 ∧ md m 1 = m / 16 % 4 ∧ md m 2 = m / 4 % 4 := by
  refine ⟨?_, rfl, rfl⟩
  show m / 64 % 4 = m / 64
  omega
/-- The tables, one by one. -/
def rts (m : Nat) (xs : List UInt8) : Nat → Except Int (List Tb × List UInt8)
  | 0 => .ok ([], xs)
  | k + 1 => match rts m xs k with
    | .error e => .error e
    | .ok (l, r) => match readT k (md m k) r with
      | .error e => .error e
      | .ok (t, u) => .ok (l ++ [t], r.drop u)
theorem rts_all {m : Nat} (h : m < 256) (xs : List UInt8) : (∃ e, rts m xs 3 = .error e ∧ readTs m xs = .error e) ∨ ∃ t0 t1 t2 r, rts m xs 3 = .ok ([t0, t1, t2], r) ∧ readTs m xs = .ok (⟨t0, t1, t2⟩, r) := by
  obtain ⟨h0, h1, h2⟩ := md_eq h
  unfold readTs rts rts rts rts
  dsimp only
  rw [h0, h1, h2]
  cases readT 0 (m / 64) xs with
  | error e => exact .inl ⟨e, rfl, rfl⟩
  | ok p =>
    obtain ⟨t0, u0⟩ := p
    dsimp only
    cases readT 1 (m / 16 % 4) (xs.drop u0) with
    | error e => exact .inl ⟨e, rfl, rfl⟩
    | ok p =>
      obtain ⟨t1, u1⟩ := p
      dsimp only
      cases readT 2 (m / 4 % 4) ((xs.drop u0).drop u1) with
      | error e => exact .inl ⟨e, rfl, rfl⟩
      | ok p =>
        obtain ⟨t2, u2⟩ := p
        exact .inr ⟨t0, t1, t2, _, rfl, rfl⟩
theorem rts_len {m : Nat} {xs r : List UInt8} : ∀ {k : Nat} {l : List Tb}, rts m xs k = .ok (l, r) → l.length = k
  | 0, l, h => by
    injection h with h
    injection h with h1 _
    subst h1
    rfl
  | k + 1, l, h => by
    rw [rts] at h
    split at h
    · cases h
    · next l' r' hl =>
      split at h
      · cases h
      · injection h with h
        injection h with h1 _
        subst h1
        simp [rts_len hl]
theorem rts_err {m : Nat} {xs : List UInt8} {e : Int} : ∀ {k j : Nat}, rts m xs k = .error e → rts m xs (k + j) = .error e
  | _, 0, h => h
  | k, j + 1, h => by
    rw [← Nat.add_assoc, rts, rts_err h]
def zeroTs : Value := .agg #[.int .i64 0, .slice none 0 0, .int .i64 0, .slice none 0 0, .int .i64 0, .slice none 0 0]
/-- The first k of three tables' values in their box. -/
def Ts.part (x : Ts) (k : Nat) : Array Value := #[if 0 < k then .int .i64 (x.l 0 : Int) else .int .i64 0, if 0 < k then .slice (x.A 0) (x.n 0) (x.c 0) else .slice none 0 0, if 1 < k then .int .i64 (x.l 1 : Int) else .int .i64 0, if 1 < k then .slice (x.A 1) (x.n 1) (x.c 1) else .slice none 0 0, if 2 < k then .int .i64 (x.l 2 : Int) else .int .i64 0, if 2 < k then .slice (x.A 2) (x.n 2) (x.c 2) else .slice none 0 0]
theorem Ts.part_all (x : Ts) : x.part 3 = x.cells := rfl
theorem Ts.part_at (x : Ts) {k : Nat} (h : k < 3) : (x.part k)[k * 2]? = some (.int .i64 0) ∧ (x.part k)[k * 2 + 1]? = some (.slice none 0 0) := by
  rcases (show k = 0 ∨ k = 1 ∨ k = 2 by omega) with rfl | rfl | rfl <;> exact ⟨rfl, rfl⟩
/-- With a k-th table. -/
def Ts.with (x : Ts) (k l : Nat) (A : Option Addr) (n c : Nat) : Ts := ⟨fun j => if j = k then l else x.l j, fun j => if j = k then A else x.A j, fun j => if j = k then n else x.n j, fun j => if j = k then c else x.c j⟩
theorem Ts.part_with (x : Ts) {k : Nat} (h : k < 3) (l : Nat) (A : Option Addr) (n c : Nat) : ((x.part k).setIfInBounds (k * 2) (.int .i64 (l : Int))).setIfInBounds (k * 2 + 1) (.slice A n c) = (x.with k l A n c).part (k + 1) := by
  rcases (show k = 0 ∨ k = 1 ∨ k = 2 by omega) with rfl | rfl | rfl <;> rfl
/-- The first tables lie there. -/
def PartIn (w : World) (b : Nat) (x : Ts) (ts : List Tb) : Prop := ∀ j (h : j < ts.length), x.l j = ts[j].lg ∧ x.n j = ts[j].es.length ∧ DatR 3 ecell w b w.heap.size (x.A j) ts[j].es
theorem PartIn.grow {w w' : World} {b : Nat} {x : Ts} {ts : List Tb} (h : PartIn w b x ts) (hb : ∀ j, b ≤ j → j < w.heap.size → w'.heap[j]? = w.heap[j]?) (hs : w.heap.size ≤ w'.heap.size) : PartIn w' b x ts := fun j hj =>
  ⟨(h j hj).1, (h j hj).2.1, ((h j hj).2.2.keep fun i h0 hi => hb i h0 hi).mono (Nat.le_refl _) hs⟩
theorem PartIn.low {w : World} {b b' : Nat} {x : Ts} {ts : List Tb} (h : PartIn w b x ts) (hb : b' ≤ b) : PartIn w b' x ts := fun j hj => ⟨(h j hj).1, (h j hj).2.1, (h j hj).2.2.mono hb (Nat.le_refl _)⟩
theorem PartIn.snoc {w : World} {b : Nat} {x : Ts} {ts : List Tb} {t : Tb} {A : Option Addr} {c : Nat} (h : PartIn w b x ts) (hd : DatR 3 ecell w b w.heap.size A t.es) : PartIn w b (x.with ts.length t.lg A t.es.length c) (ts ++ [t]) := fun j hj => by
  rcases Nat.lt_or_ge j ts.length with q | q
  · have e : (ts ++ [t])[j] = ts[j] := List.getElem_append_left q
    rw [e]
    unfold Ts.with
    dsimp only
    rw [if_neg (by omega), if_neg (by omega), if_neg (by omega)]
    exact h j q
  · have hl : j = ts.length := by simp at hj; omega
    subst hl
    have e : (ts ++ [t])[ts.length] = t := by simp
    rw [e]
    unfold Ts.with
    dsimp only
    rw [if_pos rfl, if_pos rfl, if_pos rfl]
    exact ⟨rfl, rfl, hd⟩
theorem PartIn.all {w : World} {b : Nat} {x : Ts} {t0 t1 t2 : Tb} (h : PartIn w b x [t0, t1, t2]) : TsIn w w.heap.size x ⟨t0, t1, t2⟩ := by
  refine ⟨fun k hk => ?_, fun k hk => ?_, fun k hk => ?_⟩ <;> rcases (show k = 0 ∨ k = 1 ∨ k = 2 by omega) with rfl | rfl | rfl
  · exact (h 0 (by simp)).1
  · exact (h 1 (by simp)).1
  · exact (h 2 (by simp)).1
  · exact (h 0 (by simp)).2.1
  · exact (h 1 (by simp)).2.1
  · exact (h 2 (by simp)).2.1
  · exact (h 0 (by simp)).2.2.mono (Nat.zero_le _) (Nat.le_refl _)
  · exact (h 1 (by simp)).2.2.mono (Nat.zero_le _) (Nat.le_refl _)
  · exact (h 2 (by simp)).2.2.mono (Nat.zero_le _) (Nat.le_refl _)

/-- The tables, and what stands behind them, of the bytes behind the count. -/
def readM : List UInt8 → Except Int (T3 × List UInt8)
  | [] => .error 10
  | m :: r => if m.toNat % 4 ≠ 0 then .error 11 else readTs m.toNat r
/-- What readTables answers. -/
def TbsPost (own : Bool) (R : Except Int (T3 × List UInt8)) (w : World) (lo g : Nat) (e : Ending) (w' : World) : Prop :=
  w.grownBy w' (some g) ∧ match R with
    | .error er => e = .returned (.tuple #[zeroTs, .slice none 0 0, .int .i64 er])
    | .ok (T, r) => ∃ x A c, e = .returned (.tuple #[x.val, .slice A r.length c, .int .i64 0]) ∧ PartIn w' w.heap.size x [T.t0, T.t1, T.t2] ∧ r.length ≤ c ∧ Dat own w' lo g A r
theorem mode_place {m k : Nat} (hk : k < 3) : ((m : Int) / 2 ^ (2 * (3 - k))) % 4 = (md m k : Int) := by
  rcases (show k = 0 ∨ k = 1 ∨ k = 2 by omega) with rfl | rfl | rfl
  · show ((m : Int) / 64) % 4 = ((m / 64 % 4 : Nat) : Int); omega
  · show ((m : Int) / 16) % 4 = ((m / 16 % 4 : Nat) : Int); omega
  · show ((m : Int) / 4) % 4 = ((m / 4 % 4 : Nat) : Int); omega
theorem place_any (k : Nat) (w : World) (hk : k < 3) : Calls Tryz.prog 47 #[.int .i64 (k : Int)] w fun e w' => e = .returned (.int .i64 ((2 * (3 - k) : Nat) : Int)) ∧ w = w' := by
  have hw : (2 : Int) * (3 - (k : Int)) = ((2 * (3 - k) : Nat) : Int) := by omega
  go_enter Tryz.func47, Tryz.ntmps47
  go_wp2_with fail
  go_ret
  exact ⟨by first | rfl | (congr 2), rfl⟩
end Go.Proofs.YtlidnialggpcpaaGreatDoor
