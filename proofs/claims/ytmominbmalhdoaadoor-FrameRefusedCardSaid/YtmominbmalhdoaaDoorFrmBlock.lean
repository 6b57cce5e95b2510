
/- The contracts of the program's ReadBlock and WriteBlock. -/
import Derived.Test.YtmominbmalhdoaaDoorFrmProg
namespace Go.Proofs.YtmominbmalhdoaaDoor
open Go.RowKit

/-- What a block's head tells: last, kind, size; the error. -/
def blk (xs : List UInt8) : (Bool × Nat × Nat) × Int :=
  if xs.length < 3 then ((false, 0, 0), 10) else if le (xs.take 3) / 2 % 4 = 3 then ((false, 0, 0), 11) else ((decide (le (xs.take 3) % 2 = 1), le (xs.take 3) / 2 % 4, le (xs.take 3) / 8), 0)
def bv (r : Bool × Nat × Nat) : Value := .agg #[.bool r.1, .int .i64 (r.2.1 : Int), .int .i64 (r.2.2 : Int)]
def ansB (r : (Bool × Nat × Nat) × Int) : Value := .tuple #[bv r.1, .int .i64 r.2]
/-- The number that a block's head is. -/
def bnum (last : Bool) (kind size : Nat) : Nat := 8 * size + 2 * kind + (if last then 1 else 0)

theorem mask3 (x : Nat) (h : x < 18446744073709551616) : bits .and .u64 (x : Int) 3 = ((x % 4 : Nat) : Int) := by
  have := u64_and_nat x 3 h (by decide)
  rw [show (3 : Nat) = 2 ^ 2 - 1 by rfl, Nat.and_two_pow_sub_one_eq_mod] at this
  exact this
theorem mask1 (x : Nat) (h : x < 18446744073709551616) : bits .and .u64 (x : Int) 1 = ((x % 2 : Nat) : Int) := by
  have := u64_and_nat x 1 h (by decide)
  rw [show (1 : Nat) = 2 ^ 1 - 1 by rfl, Nat.and_two_pow_sub_one_eq_mod] at this
  exact this

set_option maxRecDepth 100000 in
set_option maxHeartbeats 1000000 in
theorem readBlock_any {own : Bool} {w : World} {lo hi : Nat} {A : Option Addr} {n c : Nat} {xs : List UInt8} (hd : Dat own w lo hi A xs) (hn : xs.length = n) (hc : n ≤ c) (hb : xs.length ≤ 1099511627776) (hhi : hi ≤ w.heap.size) :
    Calls Tryd.prog 13 #[.slice A n c] w fun e w' => e = .returned (ansB (blk xs)) ∧ Below w.heap.size w w' := by
  obtain ⟨k, hk⟩ : ∃ k, k = min n 3 := ⟨_, rfl⟩
  have hl : (xs.take 3).length = k := by rw [List.length_take, hn, hk]; omega
  have hkn : k ≤ n := by omega
  have hkc : k ≤ c := by omega
  have hnb : n ≤ 1099511627776 := by omega
  have hK := Lib.hid hk
  have HB : Hid (Below w.heap.size w (w.alloc (.cells #[.bool false, .int .i64 0, .int .i64 0] 38))) := (Below.refl w.heap.size w).alloc (Nat.le_refl _) _
  have HX : Hid (Box (w.alloc (.cells #[.bool false, .int .i64 0, .int .i64 0] 38)) w.heap.size 38 #[.bool false, .int .i64 0, .int .i64 0]) := Box.new _ _ _
  have HD : Hid (Dat own (w.alloc (.cells #[.bool false, .int .i64 0, .int .i64 0] 38)) lo hi A (xs.take 3)) := (hd.take 3).alloc hhi _
  have hR := Lib.hid (reader_any (n := k) (c := c) HD.out hl (by rw [hl]; omega) (by simp only [World.size_alloc]; omega))
  have hcut := rdn_cut (k := 3) (m := 3) (s := (xs.take 3, 0)) (t := (xs, 0)) rfl (fun _ => rfl) (by decide)
  have HZ : Hid (blk xs = if (rdn (xs.take 3, 0) 3).1.2 ≠ 0 then ((false, 0, 0), (rdn (xs.take 3, 0) 3).1.2) else if (rdn (xs.take 3, 0) 3).2 / 2 % 4 = 3 then ((false, 0, 0), 11) else ((decide ((rdn (xs.take 3, 0) 3).2 % 2 = 1), (rdn (xs.take 3, 0) 3).2 / 2 % 4, (rdn (xs.take 3, 0) 3).2 / 8), 0)) := by
    unfold Hid blk
    rw [hcut.1, hcut.2.1]
    by_cases h : xs.length < 3
    · rw [rdn_short (by decide) h, if_pos h]
      rfl
    · rw [rdn_ok (by omega), if_neg h]
      rfl
  have hlt := rdn_lt (xs.take 3, 0) 3
  have hx24 : (rdn (xs.take 3, 0) 3).2 < 16777216 := hlt
  clear hcut hlt hd hn hk
  generalize xs.take 3 = ys at *
  go_enter Tryd.func13, Tryd.ntmps13
  go_upto_region 1 with fail
  generalize w.alloc (.cells #[.bool false, .int .i64 0, .int .i64 0] 38) = W0 at *
  have hsz := HB.out.size
  have hpl := HX.out.lt
  go_cut [4] (fun b wx => ∃ g, b = .pointer (some ⟨g, 0, none⟩) ∧ W0.heap.size ≤ g ∧ RD true wx W0.heap.size g ys 0 ∧ Below W0.heap.size W0 wx)
  case first =>
    by_cases h3 : n ≤ 3
    · obtain rfl : k = n := by have := hK.out; omega
      go_wp2_with (go_at_call 17; refine hR.out.mono ?_; rintro e' W1 ⟨g, rfl, hq⟩; have HQ := Lib.hid hq; clear hq)
      go_meet
      exact ⟨_, rfl, HQ.out⟩
    · obtain rfl : k = 3 := by have := hK.out; omega
      have h3i : ¬ (n : Int) ≤ 3 := by omega
      go_wp2_with (go_at_call 17; refine hR.out.mono ?_; rintro e' W1 ⟨g, rfl, hq⟩; have HQ := Lib.hid hq; clear hq)
      go_meet
      exact ⟨_, rfl, HQ.out⟩
  case rest =>
    obtain ⟨g, rfl, hg, hrd, hB⟩ := hcut
    have hN := Lib.hid (rnum_any (s := (ys, 0)) 3 (by decide) (by decide) hrd)
    have HX1 := Lib.hid (HX.out.below hB hpl)
    have HB1 := Lib.hid (HB.out.trans (hB.mono hsz))
    have hg1 := hrd.lt
    clear hB hrd
    generalize rdn (ys, 0) 3 = T at *
    obtain ⟨⟨ys2, e2⟩, x⟩ := T
    dsimp only at *
    have m3 := mask3 (x / 2) (by omega)
    have m1 := mask1 x (by omega)
    go_upto_region 3 with (go_at_call 18; refine hN.out.mono ?_; rintro e' W2 ⟨rfl, hr, hs⟩; have HR2 := Lib.hid hr; have HX2 := Lib.hid (HX1.out.grown hs.1 (by intro h; injection h; omega)); have HB2 := Lib.hid (HB1.out.grown hs.1 HB1.out.size (by intro k hk; injection hk with hk; subst hk; omega)); clear hr hs)
    have hE := Lib.hid (rd_err HR2.out)
    have c0 := HX2.out.cell 0
    have c1 := HX2.out.cell 1
    have c2 := HX2.out.cell 2
    simp at c0 c1 c2
    have f0 := HX2.out.free 0
    have f1 := HX2.out.free 1
    have f2 := HX2.out.free 2
    generalize hp : w.heap.size = p at *
    by_cases he : e2 = 0
    · subst he
      have hz : Hid (blk xs = if x / 2 % 4 = 3 then ((false, 0, 0), 11) else ((decide (x % 2 = 1), x / 2 % 4, x / 8), 0)) := by have := HZ.out; rwa [if_neg (by simp)] at this
      clear HZ
      obtain ⟨kd, hkd⟩ : ∃ kd, kd = x / 2 % 4 := ⟨_, rfl⟩
      obtain ⟨h2, hh2⟩ : ∃ h2, h2 = x / 2 := ⟨_, rfl⟩
      obtain ⟨sz, hszz⟩ : ∃ h2, h2 = x / 8 := ⟨_, rfl⟩
      have hki : kd < 4 := by omega
      have hx2 : (x : Int) / 2 = (h2 : Int) := by omega
      have hx8 : (x : Int) / 8 = (sz : Int) := by omega
      rw [← hkd, ← hszz] at hz
      rw [← hh2] at hkd m3
      rw [← hkd] at m3
      have hszl : sz < 16777216 := by omega
      have hh2l : h2 < 16777216 := by omega
      obtain ⟨x2, hx2'⟩ : ∃ x2, x2 = x % 2 := ⟨_, rfl⟩
      rw [← hx2'] at m1 hz
      obtain ⟨lb, hlb⟩ : ∃ b, b = decide (x2 = 1) := ⟨_, rfl⟩
      rw [← hlb] at hz
      have hlb2 : ((x2 : Int) != 0) = lb := by
        rw [hlb]
        obtain h | h : x2 = 0 ∨ x2 = 1 := by omega
        · subst h; rfl
        · subst h; rfl
      clear hkd hh2 hszz hx2' hlb
      by_cases h3 : kd = 3
      · subst h3
        have hz' : Hid (blk xs = ((false, 0, 0), 11)) := hz.out
        have hIK := Lib.hid (fun W => isKind_any 3 W)
        rw [show decide ((0 : Int) ≤ 3 ∧ (3 : Int) ≤ 2) = false by decide] at hIK
        go_wp2_with (first
          | (go_at_call 22; refine hE.out.mono ?_; rintro e' w' ⟨rfl, rfl⟩)
          | (go_at_call 31; refine (hIK.out _).mono ?_; rintro e' w' ⟨rfl, rfl⟩))
        exact bodyPost_ret (v := ansB ((false, 0, 0), 11)) (by simp [results, Tryd.results13, go_sem, ansB, bv, *]) rfl ⟨by rw [hz'.out], by rw [hp]; repeat (first | exact HB2.out | refine Below.setCell ?_ (by simp) _)⟩
      · have hz' : Hid (blk xs = ((lb, kd, sz), 0)) := by have := hz.out; rwa [if_neg h3] at this
        have hIK := Lib.hid (fun W => isKind_any (kd : Int) W)
        rw [show decide ((0 : Int) ≤ (kd : Int) ∧ (kd : Int) ≤ 2) = true by simp; omega] at hIK
        go_wp2_with (first
          | (go_at_call 22; refine hE.out.mono ?_; rintro e' w' ⟨rfl, rfl⟩)
          | (go_at_call 31; refine (hIK.out _).mono ?_; rintro e' w' ⟨rfl, rfl⟩))
        exact bodyPost_ret (v := ansB ((lb, kd, sz), 0)) (by simp [results, Tryd.results13, go_sem, ansB, bv, *]) rfl ⟨by rw [hz'.out], by rw [hp]; repeat (first | exact HB2.out | refine Below.setCell ?_ (by simp) _)⟩
    · have hz : Hid (blk xs = ((false, 0, 0), e2)) := by have := HZ.out; rwa [if_pos (by simpa using he)] at this
      have heb : (e2 != 0) = true := by simpa using he
      clear HZ
      go_wp2_with (go_at_call 22; refine hE.out.mono ?_; rintro e' w' ⟨rfl, rfl⟩)
      exact bodyPost_ret (v := ansB ((false, 0, 0), e2)) (by simp [results, Tryd.results13, go_sem, ansB, bv, *]) rfl ⟨by rw [hz.out], by rw [hp]; repeat (first | exact HB2.out | refine Below.setCell ?_ (by simp) _)⟩

/-- A block's head may be written. -/
def blkOk (kind size : Int) : Bool := decide (0 ≤ kind ∧ kind ≤ 2 ∧ 0 ≤ size ∧ size ≤ 2097151)

set_option maxRecDepth 100000 in
set_option maxHeartbeats 1000000 in
theorem writeBlock_no (last : Bool) (kind size : Int) (w : World) (h : blkOk kind size = false) :
    Calls Tryd.prog 15 #[.agg #[.bool last, .int .i64 kind, .int .i64 size]] w fun e w' => e = .returned (.tuple #[.slice none 0 0, .int .i64 1]) ∧ Below w.heap.size w w' := by
  have hIK := Lib.hid (fun W => isKind_any kind W)
  obtain ⟨kb, hkb⟩ : ∃ b, b = decide (0 ≤ kind ∧ kind ≤ 2) := ⟨_, rfl⟩
  rw [← hkb] at hIK
  cases kb with
  | false =>
    clear hkb h
    go_enter Tryd.func15, Tryd.ntmps15
    go_wp2_with (go_at_call 31; refine (hIK.out _).mono ?_; rintro e' w' ⟨rfl, rfl⟩)
    go_ret2
    exact ⟨rfl, (Below.refl _ _).alloc (Nat.le_refl _) _⟩
  | true =>
    have hk : 0 ≤ kind ∧ kind ≤ 2 := of_decide_eq_true hkb.symm
    have hs : size < 0 ∨ 2097152 ≤ size := by unfold blkOk at h; simp at h; omega
    clear h hkb
    by_cases h0 : size < 0
    · clear hs hk
      go_enter Tryd.func15, Tryd.ntmps15
      go_wp2_with (go_at_call 31; refine (hIK.out _).mono ?_; rintro e' w' ⟨rfl, rfl⟩)
      go_ret2
      exact ⟨rfl, (Below.refl _ _).alloc (Nat.le_refl _) _⟩
    · have h1 : 2097152 ≤ size := by omega
      have hd0 : decide (size < 0) = false := by simp; omega
      clear hs hk
      go_enter Tryd.func15, Tryd.ntmps15
      go_wp2_with (go_at_call 31; refine (hIK.out _).mono ?_; rintro e' w' ⟨rfl, rfl⟩)
      go_ret2
      exact ⟨rfl, (Below.refl _ _).alloc (Nat.le_refl _) _⟩

theorem OwB.mono {w : World} {u : TypeId} {base b : Nat} {v : Value} {xs : List UInt8} (h : OwB w u base v xs) (hb : b ≤ base) : OwB w u b v xs := by
  obtain ⟨h1, h2⟩ := h
  refine ⟨h1, ?_⟩
  rcases h2 with h | ⟨g, cap, cur, hv, hg, r⟩
  · exact .inl h
  · exact .inr ⟨g, cap, cur, hv, by omega, r⟩

set_option maxRecDepth 100000 in
set_option maxHeartbeats 1000000 in
theorem writeBlock_yes (last : Bool) (k s : Nat) (w : World) (hk : k ≤ 2) (hs : s ≤ 2097151) :
    Calls Tryd.prog 15 #[.agg #[.bool last, .int .i64 (k : Int), .int .i64 (s : Int)]] w fun e w' =>
      ∃ A n c, e = .returned (.tuple #[.slice A n c, .int .i64 0]) ∧ OwB w' 5 w.heap.size (.slice A n c) (put (bnum last k s) 3) ∧ Below w.heap.size w w' := by
  have hIK := Lib.hid (fun W => isKind_any (k : Int) W)
  rw [show decide ((0 : Int) ≤ (k : Int) ∧ (k : Int) ≤ 2) = true by simp; omega] at hIK
  have hd0 : decide ((s : Int) < 0) = false := by simp
  have hd1 : decide (2097152 ≤ (s : Int)) = false := by simp; omega
  obtain ⟨y, hy⟩ : ∃ y, y = 8 * s + 2 * k := ⟨_, rfl⟩
  have e1 : bits .or .u64 ((k : Int) * 2) ((s : Int) * 8) = (y : Int) := by
    have h := u64_or_nat (2 * k) (8 * s) (by omega) (by omega)
    rw [Nat.or_comm, nat_join 3 (8 * s) (2 * k) (by omega) (by omega), ← hy] at h
    rw [← h]
    congr 1 <;> omega
  have e2 : bits .or .u64 (y : Int) 1 = ((y + 1 : Nat) : Int) := by
    have h := u64_or_nat y 1 (by omega) (by omega)
    rw [nat_join 1 y 1 (by omega) (by omega)] at h
    exact h
  have hyl : y < 18446744073709551616 := by omega
  have HF : Hid (bnum last k s = if last then y + 1 else y) := by unfold Hid bnum; cases last <;> simp <;> omega
  obtain ⟨z, hz⟩ : ∃ z, z = y + 1 := ⟨_, rfl⟩
  rw [← hz] at e2 HF
  have HB : Hid (Below w.heap.size w (w.alloc (.cells #[.bool last, .int .i64 (k : Int), .int .i64 (s : Int)] 38))) := (Below.refl w.heap.size w).alloc (Nat.le_refl _) _
  obtain ⟨N, hN⟩ : ∃ N, N = bnum last k s := ⟨_, rfl⟩
  rw [← hN] at HF ⊢
  clear hy hz hN
  go_enter Tryd.func15, Tryd.ntmps15
  go_upto_if 30 with (go_at_call 31; refine (hIK.out _).mono ?_; rintro e' w' ⟨rfl, rfl⟩)
  generalize w.alloc (.cells #[.bool last, .int .i64 (k : Int), .int .i64 (s : Int)] 38) = w1 at *
  go_cut [4] (fun f wx => f = .int .u64 (N : Int) ∧ w1 = wx)
  case first =>
    cases last with
    | true =>
      obtain rfl : N = z := HF.out
      go_wp2_with fail
      go_meet
      exact ⟨rfl, rfl⟩
    | false =>
      obtain rfl : N = y := HF.out
      go_wp2_with fail
      go_meet
      exact ⟨rfl, rfl⟩
  case rest =>
    obtain ⟨rfl, rfl⟩ := hcut
    have hs1 := HB.out.size
    have hNW := Lib.hid (newWriter_any w1)
    go_upto_region 7 with (go_at_call 27; refine hNW.out.mono ?_; rintro e' w2 ⟨rfl, hw, hB⟩; have HW2 := Lib.hid hw; have HB2 := Lib.hid hB; clear hw hB)
    have hN1 := Lib.hid (wnumber_yes N 3 HW2.out (by decide) (by decide) (by simp))
    generalize hg : w1.heap.size = g at *
    go_upto_region 8 with (go_at_call 28; refine hN1.out.mono ?_; rintro e' w3 ⟨rfl, hw, hB⟩; have HW3 := Lib.hid hw; have HB3 := Lib.hid (HB2.out.trans hB); clear hw hB)
    have hOu := Lib.hid (out_any HW3.out (by simp [put_length]))
    go_wp2_with (go_at_call 30; refine hOu.out.mono ?_; rintro e' w6 ⟨v, rfl, ho, hB⟩; have HO6 := Lib.hid ho; have HB6 := Lib.hid hB; clear ho hB)
    obtain ⟨A, c, hv, _, _⟩ := HO6.out.form
    subst hv
    go_ret2
    have h5 := HB3.out.size
    refine ⟨_, _, _, rfl, ?_, HB.out.trans ((HB3.out.mono hs1).trans (HB6.out.mono (by omega)))⟩
    have h := OwB.mono HO6.out (b := w.heap.size) (by omega)
    rwa [List.nil_append] at h
end Go.Proofs.YtmominbmalhdoaaDoor
