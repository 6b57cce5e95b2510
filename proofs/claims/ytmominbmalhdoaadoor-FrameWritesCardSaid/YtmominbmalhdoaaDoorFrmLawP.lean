
/- What the laws of heads ask of hdr and blk, on lists: what was written is read; a head with a window; heads whose bits differ. -/
import Derived.Test.YtmominbmalhdoaaDoorFrmWrite
namespace Go.Proofs.YtmominbmalhdoaaDoor
open Go.RowKit

theorem rdn_put (x m : Nat) (more : List UInt8) (hx : x < 256 ^ m) : rdn (put x m ++ more, 0) m = ((more, 0), x) := by
  have hl : (put x m).length = m := put_length x m
  rw [rdn_ok (by rw [List.length_append, hl]; omega)]
  rw [List.drop_left' hl, List.take_left' hl, le_put, Nat.mod_eq_of_lt hx]

theorem rdn_zero (s : List UInt8 × Int) : rdn s 0 = (s, 0) := by unfold rdn; rw [if_pos rfl]

/-- A head that was written is read as that size, with its bytes and no more. -/
theorem hdr_wr (x : Nat) (sum : Bool) (more : List UInt8) (hx : x < 18446744073709551616) :
    hdr ((wr15 x sum ++ more).drop 4) = ((x, x, true, sum), (wr15 x sum).length - 4, 0) := by
  have hn := form_lt x
  have hf := fr_form x
  have hh := holds_form x hx
  have hlen : (wr15 x sum).length = 5 + swN (formN x) := by unfold wr15; rw [List.length_append, List.length_append, put_length, put_length, put_length]
  have hd : (wr15 x sum ++ more).drop 4 = put (fbN (formN x) sum) 1 ++ (put (x - frN (formN x)) (swN (formN x)) ++ more) := by
    unfold wr15
    rw [List.append_assoc, List.append_assoc]
    rw [List.drop_left' (put_length _ _)]
  rw [hd, hlen]
  generalize formN x = n at *
  unfold holdsB at hh
  have hh' := (of_decide_eq_true hh).2
  have hfb : fbN n sum < 256 ∧ fbN n sum / 8 % 2 ≠ 1 ∧ fbN n sum % 4 = 0 ∧ fbN n sum / 64 = n ∧ fbN n sum / 32 % 2 = 1 ∧ decide (fbN n sum / 4 % 2 = 1) = sum := by
    unfold fbN
    cases sum with
    | true =>
      refine ⟨?_, ?_, ?_, ?_, ?_, ?_⟩
      all_goals simp
      all_goals omega
    | false =>
      refine ⟨?_, ?_, ?_, ?_, ?_, ?_⟩
      all_goals simp
      all_goals omega
  obtain ⟨b1, b2, b3, b4, b5, b6⟩ := hfb
  generalize fbN n sum = fb at *
  have ho : oneB fb = true := by unfold oneB; simp [b5]
  have hk : knB fb = true := by unfold knB; rw [ho]; rfl
  unfold hdr
  rw [rdn_put fb 1 _ (by simpa using b1)]
  dsimp only
  rw [if_neg b2, b3]
  unfold stW
  rw [ho, if_pos rfl]
  dsimp only
  rw [show dwN 0 = 0 from rfl, rdn_zero]
  dsimp only
  unfold stZ
  rw [hk, if_pos rfl, b4, rdn_put _ _ _ hh']
  unfold hFin
  dsimp only
  rw [if_neg (by simp), if_neg (by simp), ho, hk, if_pos rfl]
  have hv : (x - frN n + frN n) % 18446744073709551616 = x := by rw [Nat.sub_add_cancel hf, Nat.mod_eq_of_lt hx]
  rw [hv, b6]
  have hl2 : (put fb 1 ++ (put (x - frN n) (swN n) ++ more)).length - more.length = 5 + swN n - 4 := by
    rw [List.length_append, List.length_append, put_length, put_length]
    omega
  rw [hl2]

theorem rdn_cons (x : UInt8) (r : List UInt8) : rdn (x :: r, 0) 1 = ((r, 0), x.toNat) := by
  rw [rdn_ok (by simp)]
  simp [le]

/-- A head that isn't one segment, without a dictionary, of a size of four or eight bytes that are there. -/
theorem hdr_win (x y : UInt8) (r : List UInt8) (h8 : x.toNat / 8 % 2 ≠ 1) (h32 : x.toNat / 32 % 2 = 0) (h4 : x.toNat % 4 = 0) (h64 : 2 ≤ x.toNat / 64) (hr : 8 ≤ r.length) :
    ∃ z n, hdr (x :: y :: r) = ((winN y.toNat, z, true, decide (x.toNat / 4 % 2 = 1)), n, 0) := by
  have hx := x.toNat_lt
  have ho : oneB x.toNat = false := by unfold oneB; simp [h32]
  have hk : knB x.toNat = true := by unfold knB; rw [ho]; simp; omega
  have hs : swN (x.toNat / 64) ≤ r.length := Nat.le_trans (sw_le _ (by omega)) hr
  unfold hdr
  rw [rdn_cons]
  dsimp only
  rw [if_neg h8, h4]
  unfold stW
  rw [ho, if_neg (by decide), rdn_cons]
  dsimp only
  rw [show dwN 0 = 0 from rfl, rdn_zero]
  dsimp only
  unfold stZ
  rw [hk, if_pos rfl, rdn_ok hs]
  unfold hFin
  dsimp only
  rw [if_neg (by simp), if_neg (by simp), ho, hk, if_neg (by decide)]
  exact ⟨_, _, rfl⟩
theorem winN_ge (x : Nat) : 1024 ≤ winN x := by
  unfold winN
  have : 2 ^ 10 ≤ 2 ^ (10 + x / 8) := Nat.pow_le_pow_right (by decide) (by omega)
  omega

/-- Heads that differ in the bit that says nothing are the same. -/
theorem hdr_same (x y : UInt8) (r : List UInt8) (h1 : x.toNat % 16 = y.toNat % 16) (h2 : x.toNat / 32 = y.toNat / 32) : hdr (x :: r) = hdr (y :: r) := by
  have e8 : x.toNat / 8 % 2 = y.toNat / 8 % 2 := by omega
  have e4 : x.toNat / 4 % 2 = y.toNat / 4 % 2 := by omega
  have e3 : x.toNat % 4 = y.toNat % 4 := by omega
  have e64 : x.toNat / 64 = y.toNat / 64 := by omega
  have eo : oneB x.toNat = oneB y.toNat := by unfold oneB; rw [h2]
  have ek : knB x.toNat = knB y.toNat := by unfold knB; rw [eo, e64]
  unfold hdr
  rw [rdn_cons, rdn_cons]
  dsimp only
  unfold hFin stZ stW
  rw [eo, ek, e8, e4, e3, e64]
  rfl
/-- The bit that may not be set. -/
theorem hdr_bad (x : UInt8) (r : List UInt8) (h : x.toNat / 8 % 2 = 1) : hdr (x :: r) = hNone 11 := by
  unfold hdr
  rw [rdn_cons]
  dsimp only
  rw [if_pos h]
/-- A dictionary's number of one byte. -/
theorem hdr_dict (y : UInt8) (r : List UInt8) (hr : 1 ≤ r.length) : (y = 0 → (hdr (33 :: y :: r)).2.2 = 0) ∧ (y ≠ 0 → (hdr (33 :: y :: r)).2.2 = 14) := by
  have h : (hdr (33 :: y :: r)).2.2 = if y.toNat ≠ 0 then 14 else 0 := by
    unfold hdr
    rw [rdn_cons]
    dsimp only
    rw [if_neg (by decide)]
    unfold stW
    rw [if_pos (by decide)]
    dsimp only
    rw [show dwN ((33 : UInt8).toNat % 4) = 1 from rfl, rdn_cons]
    dsimp only
    unfold stZ
    rw [if_pos (by decide), show swN ((33 : UInt8).toNat / 64) = 1 from rfl, rdn_ok hr]
    unfold hFin
    dsimp only
    rw [if_neg (by simp)]
    split <;> rfl
  rw [h]
  refine ⟨fun e => ?_, fun e => ?_⟩
  · subst e; rfl
  · rw [if_pos]
    intro h0
    exact e (UInt8.toNat.inj h0)

/-! A slice of bytes of the call's own, cell for cell. -/
theorem OwB.cellAt {w : World} {u base d n c : Nat} {xs : List UInt8} (h : OwB w u base (.slice (some ⟨d, 0, none⟩) n c) xs) (i : Nat) (hi : i < xs.length) :
    w.cell? ⟨d, i, none⟩ = some (cel xs[i]) ∧ w.frozen? ⟨d, i, none⟩ = false := by
  have hc := World.ownsRow.cells h (g := d) rfl i (cel xs[i]) (by simp [hi])
  have ha : (⟨d, 0, none⟩ : Addr).add i = ⟨d, i, none⟩ := by unfold Addr.add; split <;> simp_all
  rw [ha] at hc
  refine ⟨hc, ?_⟩
  rcases h.2 with ⟨e, _⟩ | ⟨g', cap, cur, e, _, hh, _⟩
  · cases e
  · injection e with e
    injection e with e
    injection e with e
    subst e
    simp [World.frozen?, hh]
theorem OwB.put8 {w : World} {u base d n c : Nat} {xs : List UInt8} (h : OwB w u base (.slice (some ⟨d, 0, none⟩) n c) xs) (i : Nat) (y : UInt8) :
    OwB (w.setCell ⟨d, i, none⟩ (cel y)) u base (.slice (some ⟨d, 0, none⟩) n c) (xs.set i y) := by
  rcases h.2 with ⟨e, _⟩ | ⟨g', cap, cur, e, hb, hh, hnc, hcm, hcs, ht⟩
  · cases e
  · injection e with e1 e2 e3
    injection e1 with e1
    injection e1 with e1
    subst e1
    subst e3
    refine ⟨by simp, .inr ⟨d, c, cur.setIfInBounds i (cel y), by rw [List.length_set, ← e2], hb, Box.put hh i _, by simpa using hnc, hcm, by simpa using hcs, ?_⟩⟩
    rw [Array.toList_setIfInBounds, List.take_set, List.length_set, ht, List.map_set]
theorem OwB.place {w : World} {u base : Nat} {v : Value} {xs : List UInt8} (h : OwB w u base v xs) (hx : 0 < xs.length) : ∃ d c, v = .slice (some ⟨d, 0, none⟩) xs.length c ∧ base ≤ d ∧ d < w.heap.size ∧ xs.length ≤ c := by
  rcases h.2 with ⟨_, h0⟩ | ⟨g, cap, cur, rfl, hb, hh, hnc, _⟩
  · omega
  · exact ⟨g, cap, rfl, hb, (Array.getElem?_eq_some_iff.1 hh).1, hnc⟩
theorem OwB.kept {w w' : World} {u base : Nat} {v : Value} {xs : List UInt8} (h : OwB w u base v xs) (hb : Below w.heap.size w w') : OwB w' u base v xs :=
  h.grown (grown_of_below hb none) (by cases hh : v.ownBlock with
    | none => exact .inl rfl
    | some k => exact .inr (by simp))
theorem OwB.dat {w : World} {u base d n c : Nat} {xs : List UInt8} (h : OwB w u base (.slice (some ⟨d, 0, none⟩) n c) xs) : Dat true w base w.heap.size (some ⟨d, 0, none⟩) xs := by
  obtain ⟨A, c', hv, _, hd⟩ := h.form
  injection hv with h1 _ _
  rw [h1]
  exact hd
theorem cel_of (n : Nat) (h : n < 256) : cel (UInt8.ofNat n) = .int .u8 (n : Int) := by
  unfold cel
  rw [UInt8.toNat_ofNat', Nat.mod_eq_of_lt h]

/-- A block's head that was written is read as it was. -/
theorem blk_put (last : Bool) (k s : Nat) (hk : k ≤ 2) (hs : s ≤ 2097151) : blk (put (bnum last k s) 3) = ((last, k, s), 0) := by
  have hl : (put (bnum last k s) 3).length = 3 := put_length _ _
  have hN : bnum last k s < 16777216 ∧ bnum last k s / 2 % 4 = k ∧ bnum last k s / 8 = s ∧ decide (bnum last k s % 2 = 1) = last := by
    unfold bnum
    cases last with
    | true =>
      refine ⟨?_, ?_, ?_, ?_⟩
      all_goals simp
      all_goals omega
    | false =>
      refine ⟨?_, ?_, ?_, ?_⟩
      all_goals simp
      all_goals omega
  have hle : le ((put (bnum last k s) 3).take 3) = bnum last k s := by
    rw [List.take_of_length_le (by omega), le_put]
    exact Nat.mod_eq_of_lt hN.1
  unfold blk
  rw [if_neg (by omega), hle, hN.2.1, if_neg (by omega), hN.2.2.1, hN.2.2.2]
end Go.Proofs.YtmominbmalhdoaaDoor
