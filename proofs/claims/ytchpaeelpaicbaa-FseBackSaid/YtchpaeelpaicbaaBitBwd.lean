
/- The contracts of the program's Backward: each method at any one, and of nil. -/
import Derived.Test.YtchpaeelpaicbaaBitFwd
import Derived.Deep.RegionHeld3
namespace Go.Proofs.Ytchpaeelpaicbaa
open Go.RowKit

/-- How many of n bits there are. -/
def there (left n : Int) : Nat := min n.toNat left.toNat
/-- What a Backward with so many bits left of the bytes xs reads: the number, and how many are left then. -/
def bread (xs : List UInt8) (left n : Int) : Nat × Int :=
  if wid n then (num (((bitsOf xs).drop (left.toNat - there left n)).take (there left n)) * 2 ^ (n.toNat - there left n), left - n) else (0, left)

/-- Block g is a Backward of the bytes xs, which lie from block lo on and below g, with so many bits left. -/
def BW (w : World) (lo g : Nat) (xs : List UInt8) (left : Int) : Prop :=
  lo ≤ g ∧ left ≤ 8 * xs.length ∧ xs.length ≤ 1099511627776 ∧ ∃ A c, Box w g 88 #[.slice A xs.length c, .int .i64 left] ∧ xs.length ≤ c ∧ Dat true w lo g A xs

section
variable {w w' : World} {lo g : Nat} {left : Int} {xs : List UInt8}
theorem BW.lt (h : BW w lo g xs left) : g < w.heap.size := by
  obtain ⟨_, _, _, A, c, h1, _⟩ := h
  exact Box.lt h1
theorem BW.keep (h : BW w lo g xs left) (he : ∀ k, lo ≤ k → k ≤ g → w'.heap[k]? = w.heap[k]?) : BW w' lo g xs left := by
  obtain ⟨h0, h1, hb, A, c, h2, h3, h4⟩ := h
  exact ⟨h0, h1, hb, A, c, Box.keep h2 (he g h0 (Nat.le_refl _)), h3, h4.keep fun k hl hg => he k hl (by omega)⟩
theorem BW.below {B : Nat} (h : BW w lo g xs left) (hb : Below B w w') (hg : g < B) : BW w' lo g xs left := h.keep fun k _ hk => hb.block k (by omega)
theorem BW.stp {k : Nat} (h : BW w lo g xs left) (hs : Stp w w' k) (hk : k < lo ∨ g < k) : BW w' lo g xs left := by
  have hg := h.lt
  exact h.keep fun j h1 h2 => hs.1.block j (by omega) (by intro e; injection e with e; omega)
theorem BW.put (h : BW w lo g xs left) (b : Int) (hb : b ≤ 8 * xs.length) : BW (w.setCell ⟨g, 1, none⟩ (.int .i64 b)) lo g xs b := by
  obtain ⟨h0, h1, hb', A, c, h2, h3, h4⟩ := h
  exact ⟨h0, hb, hb', A, c, Box.put h2 1 _, h3, h4.far (by simp) _⟩
theorem BW.drawn (h : BW w lo g xs left) (n : Nat) : BW (w.drewN n) lo g xs left := h
end

theorem left_nil (w : World) : Calls Try.prog 19 #[.pointer none] w fun e w' => e = .returned (.int .i64 0) ∧ w = w' := by
  go_enter Try.func19, Try.ntmps19
  go_wp2
  go_ret
  exact ⟨rfl, rfl⟩
theorem left_any {w : World} {lo g : Nat} {left : Int} {xs : List UInt8} (h : BW w lo g xs left) :
    Calls Try.prog 19 #[.pointer (some ⟨g, 0, none⟩)] w fun e w' => e = .returned (.int .i64 left) ∧ w = w' := by
  obtain ⟨_, ha, hb, A, c, h1, _⟩ := h
  have c1 : w.cell? ⟨g, 1, none⟩ = some (.int .i64 left) := Box.cell h1 1
  clear h1
  go_enter Try.func19, Try.ntmps19
  go_wp2
  go_ret
  exact ⟨rfl, rfl⟩

theorem bread_nil (n : Int) (w : World) : Calls Try.prog 37 #[.pointer none, .int .i64 n] w fun e w' => e = .returned (.int .u64 0) ∧ w = w' := by
  go_enter Try.func37, Try.ntmps37
  go_wp2
  go_ret
  exact ⟨rfl, rfl⟩

theorem shl_in (X k m : Nat) (hX : X < 2 ^ k) (h : k + m ≤ 56) : IntKind.u64.wrap ((X : Int) * 2 ^ m) = ((X * 2 ^ m : Nat) : Int) := by
  have h1 : X * 2 ^ m < 2 ^ (k + m) := by rw [Nat.pow_add]; exact Nat.mul_lt_mul_of_pos_right hX (Nat.two_pow_pos m)
  have h2 : 2 ^ (k + m) ≤ 2 ^ 56 := Nat.pow_le_pow_right (by omega) h
  have h3 : (X : Int) * 2 ^ m = ((X * 2 ^ m : Nat) : Int) := by simp
  rw [h3, IntKind.wrap_u64]
  omega

theorem number_none (A : Option Addr) (n c : Nat) (a : Int) (w : World) :
    Calls Try.prog 46 #[.slice A n c, .int .i64 a, .int .i64 0] w fun e w' => e = .returned (.int .u64 0) ∧ w = w' := by
  go_enter Try.func46, Try.ntmps46
  go_wp2
  go_loop [7, 12] (fun x i => i = .int .i64 0 ∧ x = .int .u64 0) (fun _ i => 0)
  case atStart => exact ⟨rfl, rfl⟩
  case round =>
    obtain ⟨rfl, rfl⟩ := hrel
    go_wp2
    go_ret
    exact ⟨rfl, rfl⟩
theorem number_int {own : Bool} {w : World} {lo hi : Nat} {A : Option Addr} {n c : Nat} {xs : List UInt8} (a k : Int) (h0 : 0 ≤ a) (h1 : 0 ≤ k) (hd : Dat own w lo hi A xs) (hn : xs.length = n) (h : a + k ≤ 8 * n) (hk : k ≤ 56) (hb : n ≤ 1099511627776) :
    Calls Try.prog 46 #[.slice A n c, .int .i64 a, .int .i64 k] w fun e w' => e = .returned (.int .u64 (num (((bitsOf xs).drop a.toNat).take k.toNat) : Nat)) ∧ w = w' := by
  obtain ⟨a, rfl⟩ := Int.eq_ofNat_of_zero_le h0
  obtain ⟨k, rfl⟩ := Int.eq_ofNat_of_zero_le h1
  exact number_any a k hd hn (by omega) (by omega) hb

theorem quiet_one {P : Program} {f : FuncId} {args : Array Value} {w : World} {n : Nat} {v : Value}
    (h : Calls P f args (w.drewN n) fun e w' => e = .returned v ∧ w.drewN n = w') : Calls P f args (w.drewN n) fun e w'' => e = .returned v ∧ ∃ m, w'' = w.drewN m :=
  h.mono fun _ _ ⟨he, hm⟩ => ⟨he, n, hm.symm⟩

/-- Where nothing is left. -/
theorem bread_none {w : World} {lo g : Nat} {left : Int} {xs : List UInt8} (n : Int) (h : BW w lo g xs left) (hl : -1000000000000 ≤ left) (hw1 : 1 ≤ n) (hw2 : n ≤ 56) (h0 : left < 0) :
    Calls Try.prog 37 #[.pointer (some ⟨g, 0, none⟩), .int .i64 n] w fun e w' => e = .returned (.int .u64 0) ∧ BW w' lo g xs (left - n) ∧ Stp w w' g := by
  have H := Lib.hid h
  obtain ⟨hlg, ha, hb, A, c, h1, hc, hd⟩ := h
  have c0 : w.cell? ⟨g, 0, none⟩ = some (.slice A xs.length c) := Box.cell h1 0
  have c1 : w.cell? ⟨g, 1, none⟩ = some (.int .i64 left) := Box.cell h1 1
  have f1 := Box.free h1 1
  clear h1 hd
  have e1 : IntKind.i64.wrap left = left := IntWalk.i64_in _ (by omega)
  go_enter Try.func37, Try.ntmps37
  go_wp2_with (go_at_call 41; refine (isWidth_yes _ _ hw1 hw2).mono ?_; rintro e w' ⟨rfl, rfl⟩)
  go_quiet ((go_at_call 46; exact quiet_one (number_none _ _ _ _ _)))
  go_wp2
  go_ret
  exact ⟨rfl, (H.out.drawn _).put _ (by omega), (Stp.set _ _ _ _).drawn _⟩

/-- Where there are enough. -/
theorem bread_full {w : World} {lo g : Nat} {left : Int} {xs : List UInt8} (n : Int) (h : BW w lo g xs left) (hw1 : 1 ≤ n) (hw2 : n ≤ 56) (h0 : n ≤ left) :
    Calls Try.prog 37 #[.pointer (some ⟨g, 0, none⟩), .int .i64 n] w fun e w' =>
      e = .returned (.int .u64 (num (((bitsOf xs).drop (left - n).toNat).take n.toNat) : Nat)) ∧ BW w' lo g xs (left - n) ∧ Stp w w' g := by
  have H := Lib.hid h
  obtain ⟨hlg, ha, hb, A, c, h1, hc, hd⟩ := h
  have c0 : w.cell? ⟨g, 0, none⟩ = some (.slice A xs.length c) := Box.cell h1 0
  have c1 : w.cell? ⟨g, 1, none⟩ = some (.int .i64 left) := Box.cell h1 1
  have f1 := Box.free h1 1
  have HD := Lib.hid hd
  clear h1 hd
  have hpos : 0 < left := by omega
  have hfit : num (((bitsOf xs).drop (left - n).toNat).take n.toNat) < 2 ^ 56 :=
    Nat.lt_of_lt_of_le (num_lt _) (Nat.pow_le_pow_right (by omega) (by simp; omega))
  have HF := Lib.hid (shl_in _ 56 0 hfit (by omega))
  clear hfit
  have e1 : IntKind.i64.wrap (left - n) = left - n := IntWalk.i64_in _ (by omega)
  go_enter Try.func37, Try.ntmps37
  go_wp2_with (go_at_call 41; refine (isWidth_yes _ _ hw1 hw2).mono ?_; rintro e w' ⟨rfl, rfl⟩)
  go_quiet ((go_at_call 46; exact quiet_one (number_int _ _ (by omega) (by omega) (show Dat true (w.drewN _) lo g A xs from HD.out) rfl (by omega) hw2 hb)))
  go_wp2
  go_ret
  refine ⟨?_, (H.out.drawn _).put _ (by omega), (Stp.set _ _ _ _).drawn _⟩
  have hf := HF.out
  simp only [Int.pow_zero, Nat.pow_zero, Int.mul_one, Nat.mul_one] at hf
  show Ending.returned (.int .u64 (IntKind.u64.wrap _)) = _
  rw [hf]

/-- Where there are some, and some lack. -/
theorem bread_part {w : World} {lo g : Nat} {left : Int} {xs : List UInt8} (n : Int) (h : BW w lo g xs left) (hw1 : 1 ≤ n) (hw2 : n ≤ 56) (h0 : 0 ≤ left) (hn : left < n) :
    Calls Try.prog 37 #[.pointer (some ⟨g, 0, none⟩), .int .i64 n] w fun e w' =>
      e = .returned (.int .u64 (num (((bitsOf xs).drop (0 : Int).toNat).take left.toNat) * 2 ^ (n - left).toNat : Nat)) ∧ BW w' lo g xs (left - n) ∧ Stp w w' g := by
  have H := Lib.hid h
  obtain ⟨hlg, ha, hb, A, c, h1, hc, hd⟩ := h
  have c0 : w.cell? ⟨g, 0, none⟩ = some (.slice A xs.length c) := Box.cell h1 0
  have c1 : w.cell? ⟨g, 1, none⟩ = some (.int .i64 left) := Box.cell h1 1
  have f1 := Box.free h1 1
  have HD := Lib.hid hd
  clear h1 hd
  have hfit : num (((bitsOf xs).drop (0 : Int).toNat).take left.toNat) < 2 ^ left.toNat :=
    Nat.lt_of_lt_of_le (num_lt _) (Nat.pow_le_pow_right (by omega) (by simp; omega))
  have HF := Lib.hid (shl_in _ _ (n - left).toNat hfit (by omega))
  clear hfit
  go_enter Try.func37, Try.ntmps37
  go_wp2_with (go_at_call 41; refine (isWidth_yes _ _ hw1 hw2).mono ?_; rintro e w' ⟨rfl, rfl⟩)
  go_quiet ((go_at_call 46; exact quiet_one (number_int _ _ (by omega) (by omega) (show Dat true (w.drewN _) lo g A xs from HD.out) rfl (by omega) (by omega) hb)))
  go_wp2
  go_ret
  exact ⟨by rw [← HF.out]; rfl, (H.out.drawn _).put _ (by omega), (Stp.set _ _ _ _).drawn _⟩

theorem bread_any {w : World} {lo g : Nat} {left : Int} {xs : List UInt8} (n : Int) (h : BW w lo g xs left) (hl : -1000000000000 ≤ left) :
    Calls Try.prog 37 #[.pointer (some ⟨g, 0, none⟩), .int .i64 n] w fun e w' =>
      e = .returned (.int .u64 ((bread xs left n).1 : Int)) ∧ BW w' lo g xs (bread xs left n).2 ∧ Stp w w' g := by
  by_cases hw : 1 ≤ n ∧ n ≤ 56
  · obtain ⟨hw1, hw2⟩ := hw
    have hf : bread xs left n = (num (((bitsOf xs).drop (left.toNat - there left n)).take (there left n)) * 2 ^ (n.toNat - there left n), left - n) := by
      rw [bread, if_pos (by simp [wid, hw1, hw2])]
    rw [hf]
    by_cases h0 : left < 0
    · have ht : there left n = 0 := by unfold there; omega
      rw [ht, List.take_zero, num, Nat.zero_mul]
      exact bread_none n h hl hw1 hw2 h0
    · by_cases h1 : n ≤ left
      · have ht : there left n = n.toNat := by unfold there; omega
        rw [ht, Nat.sub_self, Nat.pow_zero, Nat.mul_one, show left.toNat - n.toNat = (left - n).toNat by omega]
        exact bread_full n h hw1 hw2 h1
      · have ht : there left n = left.toNat := by unfold there; omega
        rw [ht, show left.toNat - left.toNat = (0 : Int).toNat by simp, show n.toNat - left.toNat = (n - left).toNat by omega]
        exact bread_part n h hw1 hw2 (by omega) (by omega)
  · have hf : bread xs left n = (0, left) := by rw [bread, if_neg (by simp only [wid, decide_eq_true_eq]; exact hw)]
    rw [hf]
    have H := Lib.hid h
    clear hf h
    go_enter Try.func37, Try.ntmps37
    go_wp2_with (go_at_call 41; refine (isWidth_no _ _ (by omega)).mono ?_; rintro e w' ⟨rfl, rfl⟩)
    go_ret
    exact ⟨rfl, H.out, Stp.refl _ _⟩

/-- Bytes that have no back. -/
def noBack (xs : List UInt8) : Bool := decide (xs.length = 0) || decide (xs.getD (xs.length - 1) 0 = 0)

theorem newBack_no {own : Bool} {w : World} {lo hi : Nat} {A : Option Addr} {n c : Nat} {xs : List UInt8} (hd : Dat own w lo hi A xs) (hn : xs.length = n) (hb : xs.length ≤ 1099511627776) (hx : noBack xs = true) :
    Calls Try.prog 15 #[.slice A n c] w fun e w' => e = .returned (.tuple #[.pointer none, .int .i64 11]) ∧ w = w' := by
  have HD := Lib.hid hd
  clear hd
  subst hn
  by_cases h0 : xs.length = 0
  · have hq : Hid (xs.length = 0) := h0
    have hl : ((xs.length : Int) == 0) = true := by simp [h0]
    clear hx h0
    go_enter Try.func15, Try.ntmps15
    go_wp2
    go_ret2
    exact ⟨rfl, rfl⟩
  · have hz : xs.getD (xs.length - 1) 0 = 0 := by simpa [noBack, h0] using hx
    have hpos : 0 < xs.length := by omega
    obtain ⟨d, o, rfl, _, _, hc, _⟩ := HD.out hpos
    have hk := hc (xs.length - 1) (by omega)
    rw [hz] at hk
    unfold cel at hk
    have e1 : ((xs.length : Int) - 1).toNat = xs.length - 1 := by omega
    have hlf : ((xs.length : Int) == 0) = false := by simpa using List.ne_nil_of_length_pos hpos
    have hne : xs ≠ [] := List.ne_nil_of_length_pos hpos
    clear hx h0 hz hc
    go_enter Try.func15, Try.ntmps15
    go_wp2
    go_ret2
    exact ⟨rfl, rfl⟩

set_option maxHeartbeats 400000 in
theorem newBack_yes {own : Bool} {w : World} {lo hi : Nat} {A : Option Addr} {n c : Nat} {xs : List UInt8} (hd : Dat own w lo hi A xs) (hn : xs.length = n) (hb : xs.length ≤ 1099511627776) (hhi : hi ≤ w.heap.size) (hx : noBack xs = false) :
    Calls Try.prog 15 #[.slice A n c] w fun e w' => ∃ g, e = .returned (.tuple #[.pointer (some ⟨g, 0, none⟩), .int .i64 0]) ∧ BW w' w.heap.size g xs (top xs : Nat) ∧ Below w.heap.size w w' := by
  have hC := Lib.hid (clone_any (w := w.drew) (c := c) (hd : Dat own w.drew lo hi A xs) rfl hb hhi)
  subst hn
  have hpos : 0 < xs.length := by
    rcases xs with _ | ⟨y, r⟩
    · simp [noBack] at hx
    · simp
  have hz : xs.getD (xs.length - 1) 0 ≠ 0 := by
    intro e
    unfold noBack at hx
    rw [e] at hx
    simp at hx
  obtain ⟨d, o, rfl, _, hdh, hc, _⟩ := hd hpos
  have hk := hc (xs.length - 1) (by omega)
  unfold cel at hk
  have hzz : (((xs.getD (xs.length - 1) 0).toNat : Int) == 0) = false := by
    have : (xs.getD (xs.length - 1) 0).toNat ≠ 0 := fun e => hz (UInt8.toNat_inj.1 (by simpa using e))
    simpa using this
  have e1 : ((xs.length : Int) - 1).toNat = xs.length - 1 := by omega
  have hL := Lib.hid (fun W => len8_any (xs.getD (xs.length - 1) 0) W)
  have h8 : len8 (xs.getD (xs.length - 1) 0).toNat ≤ 8 := by
    have := log2_lt8 (xs.getD (xs.length - 1) 0)
    unfold len8
    split <;> omega
  have hLp : 1 ≤ len8 (xs.getD (xs.length - 1) 0).toNat := by
    have : (xs.getD (xs.length - 1) 0).toNat ≠ 0 := fun e => hz (UInt8.toNat_inj.1 (by simpa using e))
    unfold len8
    rw [if_neg this]
    omega
  have ht : Hid (top xs = 8 * (xs.length - 1) + len8 (xs.getD (xs.length - 1) 0).toNat - 1) := by
    have : (xs.getD (xs.length - 1) 0).toNat ≠ 0 := fun e => hz (UInt8.toNat_inj.1 (by simpa using e))
    unfold Hid top len8
    rw [if_neg this]
    omega
  obtain ⟨Z, hZ⟩ : ∃ Z, Z = xs.getD (xs.length - 1) 0 := ⟨_, rfl⟩
  rw [← hZ] at hk hzz hL ht h8 hLp
  generalize len8 Z.toNat = m at *
  have hlf : ((xs.length : Int) == 0) = false := by simpa using List.ne_nil_of_length_pos hpos
  have hne : xs ≠ [] := List.ne_nil_of_length_pos hpos
  have hle1 : (1 : Int) ≤ (xs.length : Int) := by omega
  have hlt1 : (xs.length : Int) - 1 < (xs.length : Int) := by omega
  have e2 : IntKind.i64.wrap (8 * ((xs.length : Int) - 1)) = 8 * ((xs.length : Int) - 1) := IntWalk.i64_in _ (by omega)
  have e3 : IntKind.i64.wrap (8 * ((xs.length : Int) - 1) + (m : Int)) = 8 * ((xs.length : Int) - 1) + (m : Int) := IntWalk.i64_in _ (by omega)
  have e4 : IntKind.i64.wrap (8 * ((xs.length : Int) - 1) + (m : Int) - 1) = 8 * ((xs.length : Int) - 1) + (m : Int) - 1 := IntWalk.i64_in _ (by omega)
  clear hx hz hc hZ hd
  go_enter Try.func15, Try.ntmps15
  go_wp2
  go_region_held3 (fun w' => w'.cell? ⟨d, o + (xs.length - 1), none⟩ = some (.int .u8 (Z.toNat : Int))) (go_keep) (first | (go_at_call 35; refine (hL.out _).mono ?_; rintro e' w' ⟨rfl, rfl⟩) | (go_at_call 34; refine hC.out.mono ?_; rintro e' w1 ⟨v, rfl, ho, hB⟩; have hk1 : w1.cell? ⟨d, o + (xs.length - 1), none⟩ = some (.int .u8 (Z.toNat : Int)) := (hB.cell (p := ⟨d, o + (xs.length - 1), none⟩) (by exact Nat.lt_of_lt_of_le hdh hhi)).trans hk; obtain ⟨A', c', rfl, hc', hD⟩ := ho.form; clear ho; have HB := Lib.hid hB; have HD := Lib.hid hD; clear hB hD))
  all_goals
    go_wp2
    go_ret2
    have hz := HB.out.size
    refine ⟨w1.heap.size, rfl, ⟨hz, by rw [ht.out]; omega, hb, A', c', ?_, hc', HD.out.alloc (Nat.le_refl _) _⟩, (((Below.refl _ _).drew).trans HB.out).alloc hz _⟩
    rw [ht.out, show ((8 * (xs.length - 1) + m - 1 : Nat) : Int) = 8 * ((xs.length : Int) - 1) + (m : Int) - 1 by omega]
    exact Box.new _ _ _
end Go.Proofs.Ytchpaeelpaicbaa
