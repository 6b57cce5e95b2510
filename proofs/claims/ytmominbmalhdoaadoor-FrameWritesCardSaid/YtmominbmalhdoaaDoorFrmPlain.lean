
/- A frame's head on lists of bytes: what is read one behind the other (chain), what a head tells (hdr), that bytes beyond the fourteenth don't count, what a head of one segment tells; the package's two tables as they are laid. No condition but those that each theorem states. -/
import Derived.Test.YtmominbmalhdoaaDoorCurNum
import Derived.Lib.LaidTab
namespace Go.Proofs.YtmominbmalhdoaaDoor
open Go.RowKit

/-- The dictionary's number of bytes, by the lowest two bits. -/
def dwN (k : Nat) : Nat := [0, 1, 2, 4].getD k 0
/-- The size's number of bytes, by form, and what is added. -/
def swN (k : Nat) : Nat := [1, 2, 4, 8].getD k 0
def frN (k : Nat) : Nat := [0, 256, 0, 0].getD k 0
/-- The window that a byte tells. -/
def winN (x : Nat) : Nat := 2 ^ (10 + x / 8) + 2 ^ (10 + x / 8) / 8 * (x % 8)

/-- The next number of m bytes (of none: 0): what is left, the error, the number. -/
def rdn (s : List UInt8 × Int) (m : Nat) : (List UInt8 × Int) × Nat :=
  if m = 0 then (s, 0) else (((tk s.1 s.2 m true).1, (tk s.1 s.2 m true).2.1), le (tk s.1 s.2 m true).2.2)

/-- What a head tells: window, size, known, sum; how many bytes; the error. -/
abbrev HR := (Nat × Nat × Bool × Bool) × Nat × Int
def hNone (e : Int) : HR := ((0, 0, false, false), 0, e)
def oneB (d : Nat) : Bool := decide (d / 32 % 2 = 1)
def knB (d : Nat) : Bool := oneB d || decide (0 < d / 64)
/-- The window's byte. -/
def stW (s : List UInt8 × Int) (d : Nat) : (List UInt8 × Int) × Nat := if oneB d then (s, 0) else rdn s 1
/-- The size. -/
def stZ (s : List UInt8 × Int) (d : Nat) : (List UInt8 × Int) × Nat := if knB d then ((rdn s (swN (d / 64))).1, ((rdn s (swN (d / 64))).2 + frN (d / 64)) % 18446744073709551616) else (s, 0)
/-- What is told at the end. -/
def hFin (n : Nat) (d w dict : Nat) (s : (List UInt8 × Int) × Nat) : HR :=
  if s.1.2 ≠ 0 then hNone s.1.2 else if dict ≠ 0 then hNone 14 else ((if oneB d then s.2 else winN w, s.2, knB d, decide (d / 4 % 2 = 1)), n - s.1.1.length, 0)
def hdr (b : List UInt8) : HR :=
  let s1 := rdn (b, 0) 1
  if s1.2 / 8 % 2 = 1 then hNone 11 else
    let s2 := stW s1.1 s1.2
    let s3 := rdn s2.1 (dwN (s1.2 % 4))
    hFin b.length s1.2 s2.2 s3.2 (stZ s3.1 s1.2)

theorem rdn_lt (s : List UInt8 × Int) (m : Nat) : (rdn s m).2 < 256 ^ m := by
  unfold rdn tk
  by_cases hm : m = 0
  · rw [if_pos hm]; subst hm; exact Nat.one_pos
  · rw [if_neg hm]
    have hp : 0 < 256 ^ m := Nat.pow_pos (by decide)
    dsimp only
    split
    · simpa [le] using hp
    · split
      · simpa [le] using hp
      · split
        · simpa [le] using hp
        · have h := le_lt (s.1.take (m : Int).toNat)
          have h2 : (s.1.take (m : Int).toNat).length ≤ m := by simp; omega
          exact Nat.lt_of_lt_of_le h (Nat.pow_le_pow_right (by decide) h2)

theorem rdn_short {xs : List UInt8} {m : Nat} (hm : m ≠ 0) (h : xs.length < m) : rdn (xs, 0) m = ((xs, 10), 0) := by
  unfold rdn tk
  rw [if_neg hm]
  simp [h, le]
theorem rdn_ok {xs : List UInt8} {m : Nat} (h : m ≤ xs.length) : rdn (xs, 0) m = ((xs.drop m, 0), le (xs.take m)) := by
  unfold rdn tk
  by_cases hm : m = 0
  · subst hm
    rfl
  · rw [if_neg hm]
    have h' : ¬ ((xs.length : Int) < (m : Int)) := by omega
    simp [h']
theorem rdn_err {xs : List UInt8} {m : Nat} {e : Int} (he : e ≠ 0) : rdn (xs, e) m = ((xs, e), 0) := by
  unfold rdn tk
  by_cases hm : m = 0
  · rw [if_pos hm]
  · rw [if_neg hm]
    simp [he, le]

/-- A number read where only the first k bytes are seen, k at least m, is the same. -/
theorem rdn_cut {k m : Nat} {s t : List UInt8 × Int} (h : s.2 = t.2) (h2 : s.2 = 0 → s.1 = t.1.take k) (hm : m ≤ k) :
    (rdn s m).2 = (rdn t m).2 ∧ (rdn s m).1.2 = (rdn t m).1.2 ∧ ((rdn s m).1.2 = 0 → (rdn s m).1.1 = (rdn t m).1.1.take (k - m)) := by
  obtain ⟨xs, e⟩ := s
  obtain ⟨ys, e'⟩ := t
  dsimp only at h h2
  subst h
  by_cases he : e = 0
  · subst he
    obtain rfl := h2 rfl
    have hl : (ys.take k).length = min k ys.length := List.length_take
    by_cases hs : ys.length < m
    · rw [rdn_short (by omega) (by omega), rdn_short (by omega) hs]
      exact ⟨rfl, rfl, fun e => by simp at e⟩
    · rw [rdn_ok (by omega), rdn_ok (by omega)]
      refine ⟨?_, rfl, fun _ => ?_⟩
      · show le ((ys.take k).take m) = _
        rw [List.take_take, Nat.min_eq_left hm]
      · show (ys.take k).drop m = _
        rw [List.drop_take]
  · rw [rdn_err he, rdn_err he]
    exact ⟨rfl, rfl, fun e' => absurd e' he⟩

theorem stW_cut {k d : Nat} {s t : List UInt8 × Int} (h : s.2 = t.2) (h2 : s.2 = 0 → s.1 = t.1.take (k + 1)) :
    (stW s d).2 = (stW t d).2 ∧ (stW s d).1.2 = (stW t d).1.2 ∧ ((stW s d).1.2 = 0 → ∃ j, k ≤ j ∧ (stW s d).1.1 = (stW t d).1.1.take j) := by
  unfold stW
  cases oneB d with
  | true => exact ⟨rfl, h, fun e => ⟨k + 1, by omega, h2 e⟩⟩
  | false =>
    have := rdn_cut (m := 1) h h2 (by omega)
    exact ⟨this.1, this.2.1, fun e => ⟨k, by omega, this.2.2 e⟩⟩
theorem dw_le : ∀ k, k < 4 → dwN k ≤ 4 := by decide
theorem sw_le : ∀ k, k < 4 → swN k ≤ 8 := by decide
theorem sw_pos : ∀ k, k < 4 → 1 ≤ swN k := by decide
theorem fr_le : ∀ k, k < 4 → frN k ≤ 256 := by decide
theorem stZ_cut {k d : Nat} {s t : List UInt8 × Int} (h : s.2 = t.2) (h2 : s.2 = 0 → s.1 = t.1.take k) (hk : 8 ≤ k) (hd : d < 256) :
    (stZ s d).2 = (stZ t d).2 ∧ (stZ s d).1.2 = (stZ t d).1.2 := by
  unfold stZ
  cases knB d with
  | false => exact ⟨rfl, h⟩
  | true =>
    have := rdn_cut (m := swN (d / 64)) h h2 (Nat.le_trans (sw_le _ (by omega)) hk)
    exact ⟨by rw [if_pos rfl, if_pos rfl]; dsimp only; rw [this.1], this.2.1⟩

/-- How many bytes have been read, where nothing lacked. -/
theorem rdn_used {m : Nat} {s : List UInt8 × Int} (h : (rdn s m).1.2 = 0) : s.2 = 0 ∧ (rdn s m).1.1.length + m = s.1.length := by
  obtain ⟨xs, e⟩ := s
  by_cases he : e = 0
  · subst he
    by_cases hs : xs.length < m
    · rw [rdn_short (by omega) hs] at h
      simp at h
    · rw [rdn_ok (by omega)]
      refine ⟨rfl, ?_⟩
      show (xs.drop m).length + m = xs.length
      rw [List.length_drop]
      omega
  · rw [rdn_err he] at h
    exact absurd h he
theorem stW_used {d : Nat} {s : List UInt8 × Int} (h : (stW s d).1.2 = 0) : s.2 = 0 ∧ (stW s d).1.1.length + (if oneB d then 0 else 1) = s.1.length := by
  unfold stW at h ⊢
  cases hb : oneB d with
  | true =>
    rw [hb, if_pos rfl] at h
    exact ⟨h, rfl⟩
  | false =>
    rw [hb, if_neg (by decide)] at h
    exact rdn_used h
theorem stZ_used {d : Nat} {s : List UInt8 × Int} (h : (stZ s d).1.2 = 0) : s.2 = 0 ∧ (stZ s d).1.1.length + (if knB d then swN (d / 64) else 0) = s.1.length := by
  unfold stZ at h ⊢
  cases hb : knB d with
  | false =>
    rw [hb, if_neg (by decide)] at h
    exact ⟨h, rfl⟩
  | true =>
    rw [hb, if_pos rfl] at h
    exact rdn_used h

theorem rdn_len (s : List UInt8 × Int) (m : Nat) : (rdn s m).1.1.length ≤ s.1.length := by
  obtain ⟨xs, e⟩ := s
  by_cases he : e = 0
  · subst he
    by_cases hs : xs.length < m
    · rw [rdn_short (by omega) hs]
      exact Nat.le_refl _
    · rw [rdn_ok (by omega)]
      show (xs.drop m).length ≤ xs.length
      rw [List.length_drop]
      omega
  · rw [rdn_err he]
    exact Nat.le_refl _
theorem chain_len (s : List UInt8 × Int) (d m : Nat) : (stZ (rdn (stW s d).1 m).1 d).1.1.length ≤ s.1.length := by
  refine Nat.le_trans (Nat.le_trans ?_ (rdn_len (stW s d).1 m)) ?_
  · unfold stZ
    split
    · exact rdn_len _ _
    · exact Nat.le_refl _
  · unfold stW
    split
    · exact Nat.le_refl _
    · exact rdn_len _ _

/-- Only the first fourteen bytes count. -/
theorem hdr_take (b : List UInt8) : hdr (b.take 14) = hdr b := by
  unfold hdr
  have h1 := rdn_cut (k := 14) (m := 1) (s := (b.take 14, 0)) (t := (b, 0)) rfl (fun _ => rfl) (by decide)
  have hd := rdn_lt (b, 0) 1
  dsimp only
  rw [h1.1]
  generalize hD : (rdn (b, 0) 1).2 = d at *
  by_cases hf : d / 8 % 2 = 1
  · rw [if_pos hf, if_pos hf]
  rw [if_neg hf, if_neg hf]
  have h2 := stW_cut (k := 12) (d := d) h1.2.1 h1.2.2
  have hu1 := @rdn_used 1 (b.take 14, 0)
  have hv1 := @rdn_used 1 (b, 0)
  generalize (rdn (b.take 14, 0) 1).1 = s1 at *
  generalize (rdn (b, 0) 1).1 = t1 at *
  have hu2 := @stW_used d s1
  have hv2 := @stW_used d t1
  rw [h2.1]
  generalize (stW t1 d).2 = W at *
  generalize (stW s1 d).1 = s2 at *
  generalize (stW t1 d).1 = t2 at *
  obtain ⟨_, e2, h2⟩ := h2
  have h3 : (rdn s2 (dwN (d % 4))).2 = (rdn t2 (dwN (d % 4))).2 ∧ (rdn s2 (dwN (d % 4))).1.2 = (rdn t2 (dwN (d % 4))).1.2 ∧ ((rdn s2 (dwN (d % 4))).1.2 = 0 → ∃ j, 8 ≤ j ∧ (rdn s2 (dwN (d % 4))).1.1 = (rdn t2 (dwN (d % 4))).1.1.take j) := by
    have hdl := dw_le (d % 4) (by omega)
    by_cases hz : s2.2 = 0
    · obtain ⟨j, hj, hjj⟩ := h2 hz
      have := rdn_cut (m := dwN (d % 4)) e2 (fun _ => hjj) (by omega)
      exact ⟨this.1, this.2.1, fun e => ⟨_, by omega, this.2.2 e⟩⟩
    · have := rdn_cut (k := 14) (m := dwN (d % 4)) e2 (fun e => absurd e hz) (by omega)
      exact ⟨this.1, this.2.1, fun e => absurd (rdn_used e).1 hz⟩
  have hu3 := @rdn_used (dwN (d % 4)) s2
  have hv3 := @rdn_used (dwN (d % 4)) t2
  rw [h3.1]
  generalize (rdn t2 (dwN (d % 4))).2 = D at *
  generalize (rdn s2 (dwN (d % 4))).1 = s3 at *
  generalize (rdn t2 (dwN (d % 4))).1 = t3 at *
  obtain ⟨_, e3, h3⟩ := h3
  have h4 : (stZ s3 d).2 = (stZ t3 d).2 ∧ (stZ s3 d).1.2 = (stZ t3 d).1.2 := by
    by_cases hz : s3.2 = 0
    · obtain ⟨j, hj, hjj⟩ := h3 hz
      exact stZ_cut e3 (fun _ => hjj) hj (by simpa using hd)
    · exact stZ_cut (k := 8) e3 (fun e => absurd e hz) (by decide) (by simpa using hd)
  have hu4 := @stZ_used d s3
  have hv4 := @stZ_used d t3
  unfold hFin
  rw [h4.1, h4.2]
  generalize (stZ t3 d).2 = Z at *
  generalize (stZ s3 d).1 = s4 at *
  generalize (stZ t3 d).1 = t4 at *
  by_cases hz : t4.2 = 0
  · have hz' : s4.2 = 0 := by rw [h4.2]; exact hz
    have a4 := hu4 hz'
    have b4 := hv4 hz
    have a3 := hu3 a4.1
    have b3 := hv3 b4.1
    have a2 := hu2 a3.1
    have b2 := hv2 b3.1
    have a1 := (hu1 a2.1).2
    have b1 := (hv1 b2.1).2
    dsimp only at a1 b1
    generalize (if oneB d = true then 0 else 1) = x1 at *
    generalize (if knB d = true then swN (d / 64) else 0) = x2 at *
    have hn : ¬ t4.2 ≠ 0 := by simp [hz]
    rw [if_neg hn, if_neg hn]
    have : (b.take 14).length - s4.1.length = b.length - t4.1.length := by omega
    rw [this]
  · have hp : t4.2 ≠ 0 := hz
    rw [if_pos hp, if_pos hp]
end Go.Proofs.YtmominbmalhdoaaDoor
