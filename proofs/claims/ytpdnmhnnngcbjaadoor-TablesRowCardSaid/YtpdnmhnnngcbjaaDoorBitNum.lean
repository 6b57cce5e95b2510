
/- The contracts of the program's number, isWidth, Len8 and Clone. -/
import Derived.Test.YtpdnmhnnngcbjaaDoorBitPlain
import Derived.Test.YtpdnmhnnngcbjaaDoorCurApp
import Derived.Test.YtpdnmhnnngcbjaaDoorRows
import Derived.WalkKit
import Derived.WalkSpells
import Derived.WalkLawsBesides
import Derived.Laws.BitsAllLaws
import Derived.Lib.Tables
import Derived.Lib.Hide
namespace Go.Proofs.YtpdnmhnnngcbjaaDoor
open Go.RowKit

/-- Whether so many bits may be. -/
def wid (m : Int) : Bool := decide (1 ≤ m ∧ m ≤ 56)

theorem isWidth_yes (n : Int) (w : World) (h1 : 1 ≤ n) (h2 : n ≤ 56) :
    Calls Tryd.prog 78 #[.int .i64 n] w fun e w' => e = .returned (.bool true) ∧ w = w' := by
  go_enter Tryd.func78, Tryd.ntmps78
  go_wp2
  go_ret
  exact ⟨rfl, rfl⟩
theorem isWidth_no (n : Int) (w : World) (h : n < 1 ∨ 56 < n) :
    Calls Tryd.prog 78 #[.int .i64 n] w fun e w' => e = .returned (.bool false) ∧ w = w' := by
  rcases h with h | h
  · go_enter Tryd.func78, Tryd.ntmps78
    go_wp2
    go_ret
    exact ⟨rfl, rfl⟩
  · have h1 : 1 ≤ n := by omega
    have hd : decide (n ≤ 56) = false := by simp; omega
    go_enter Tryd.func78, Tryd.ntmps78
    go_wp2
    go_ret
    exact ⟨rfl, rfl⟩
theorem isWidth_any (n : Int) (w : World) :
    Calls Tryd.prog 78 #[.int .i64 n] w fun e w' => e = .returned (.bool (wid n)) ∧ w = w' := by
  by_cases h : 1 ≤ n ∧ n ≤ 56
  · rw [show wid n = true by simp [wid, h]]
    exact isWidth_yes n w h.1 h.2
  · rw [show wid n = false by simp only [wid, decide_eq_false_iff_not]; exact h]
    exact isWidth_no n w (by omega)

theorem u8_info : (Tryd.prog.info? 5).map (fun i => (i.zero, i.size, i.bytes)) = some (some (.int .u8 0), 1, 1) := by kernel_rfl

/-- The new row that 'buildSlice' of no elements makes is the call's own. -/
theorem own_empty (w : World) (u base : Nat) (h : base ≤ w.heap.size) : OwB (w.alloc (.cells #[] u)) u base (.slice (some ⟨w.heap.size, 0, none⟩) 0 0) [] :=
  World.ownsRow_made (base := base) (e := u) (size := 1) w #[] 0 h (by simp [maxLen]) (by simp)

theorem clone_some {own : Bool} {w : World} {lo hi : Nat} {a : Addr} {n c : Nat} {xs : List UInt8} (hd : Dat own w lo hi (some a) xs) (hn : xs.length = n) (hb : xs.length ≤ 1099511627776) (hhi : hi ≤ w.heap.size) :
    Calls Tryd.prog 80 #[.slice (some a) n c] w fun e w' => ∃ v, e = .returned v ∧ OwB w' 5 w.heap.size v xs ∧ Below w.heap.size w w' := by
  obtain ⟨i0, hi0, hz0, hz1, hz2⟩ := info_parts u8_info
  have hq := Lib.run_eql_slice_nil (P := Tryd.prog) w 27 5 (some a) n c 0 0 Tryd.underlying27
  have hO := Lib.hid (own_empty w 5 w.heap.size (Nat.le_refl _))
  have hD := Lib.hid (hd.alloc hhi (.cells #[] 5))
  clear hd
  have HN := Lib.hid hn
  clear hn
  go_enter Tryd.func80, Tryd.ntmps80
  go_wp2_with (at_builtin; refine list_app _ rfl _ _ 27 rfl i0 Tryd.underlying27 hi0 hz0 hz1 hz2 rfl hO.out rfl hD.out HN.out ?_ ?_ ?_)
  · simp only [List.length_nil]; have := HN.out; omega
  · simp
  intro v' w1 ho hg _
  have HO := Lib.hid ho
  have HG := Lib.hid hg
  clear ho hg hO hD
  go_wp2
  go_ret
  exact ⟨_, rfl, HO.out, ((Below.refl _ _).alloc (Nat.le_refl _) _).grown HG.out (by simp) (by intro k hk; simp [Value.ownBlock] at hk; omega)⟩

theorem clone_nil (w : World) (n c : Nat) :
    Calls Tryd.prog 80 #[.slice none n c] w fun e w' => e = .returned (.slice none 0 0) ∧ w = w' := by
  have hq := Lib.run_eql_slice_nil (P := Tryd.prog) w 27 5 none n c 0 0 Tryd.underlying27
  go_enter Tryd.func80, Tryd.ntmps80
  go_wp2
  go_ret
  exact ⟨rfl, rfl⟩

theorem clone_any {own : Bool} {w : World} {lo hi : Nat} {A : Option Addr} {n c : Nat} {xs : List UInt8} (hd : Dat own w lo hi A xs) (hn : xs.length = n) (hb : xs.length ≤ 1099511627776) (hhi : hi ≤ w.heap.size) :
    Calls Tryd.prog 80 #[.slice A n c] w fun e w' => ∃ v, e = .returned v ∧ OwB w' 5 w.heap.size v xs ∧ Below w.heap.size w w' := by
  rcases A with _ | a
  · refine (clone_nil w n c).mono fun e w' ⟨he, hw⟩ => ?_
    subst hw
    have hx : xs = [] := by
      rcases xs with _ | ⟨y, r⟩
      · rfl
      · obtain ⟨_, _, h', _⟩ := hd (by simp)
        cases h'
    subst hx
    exact ⟨_, he, OwB.nil _ _ _, Below.refl _ _⟩
  · exact clone_some hd hn hb hhi

/-- One bit of a byte. -/
theorem bit_one (c k : Nat) (hc : c < 256) : bits .and .u8 ((c : Int) / 2 ^ k) 1 = ((c.testBit k).toNat : Int) := by
  have h1 : (c : Int) / 2 ^ k = ((c / 2 ^ k : Nat) : Int) := by simp
  have h2 : c / 2 ^ k < 256 := Nat.lt_of_le_of_lt (Nat.div_le_self _ _) hc
  rw [h1, show (1 : Int) = ((1 : Nat) : Int) by rfl, u8_and_nat _ _ h2 (by decide), Nat.and_one_is_mod, testBit_toNat]
/-- A bit is laid above those that are there. -/
theorem number_step (X c k j : Nat) (hX : X < 2 ^ j) (hc : c < 256) (hj : j < 56) :
    bits .or .u64 (X : Int) (IntKind.u64.wrap (IntKind.u64.wrap (bits .and .u8 ((c : Int) / 2 ^ k) 1) * 2 ^ j)) = ((X + (c.testBit k).toNat * 2 ^ j : Nat) : Int) := by
  rw [bit_one c k hc]
  generalize hb : (c.testBit k).toNat = b
  have hb2 : b < 2 := by rw [← hb]; exact toNat_lt2 _
  have hp : 2 ^ j ≤ 2 ^ 55 := Nat.pow_le_pow_right (by omega) (by omega)
  have hm : b * 2 ^ j ≤ 1 * 2 ^ 55 := Nat.mul_le_mul (by omega) hp
  have h1 : IntKind.u64.wrap (b : Int) = (b : Int) := by rw [IntKind.wrap_u64]; omega
  have h2 : (b : Int) * 2 ^ j = ((b * 2 ^ j : Nat) : Int) := by simp
  have h3 : IntKind.u64.wrap ((b * 2 ^ j : Nat) : Int) = ((b * 2 ^ j : Nat) : Int) := by rw [IntKind.wrap_u64]; omega
  rw [h1, h2, h3, u64_or_nat _ _ (by omega) (by omega), or_above X b j hX]

theorem number_any {own : Bool} {w : World} {lo hi : Nat} {A : Option Addr} {n c : Nat} {xs : List UInt8} (a k : Nat) (hd : Dat own w lo hi A xs) (hn : xs.length = n) (h : a + k ≤ 8 * n) (hk : k ≤ 56) (hb : n ≤ 1099511627776) :
    Calls Tryd.prog 88 #[.slice A n c, .int .i64 a, .int .i64 k] w fun e w' => e = .returned (.int .u64 (num (((bitsOf xs).drop a).take k) : Nat)) ∧ w = w' := by
  have HD := Lib.hid hd
  have HN := Lib.hid hn
  clear hd hn
  go_enter Tryd.func88, Tryd.ntmps88
  go_wp2
  go_loop [7, 12] (fun x i => ∃ j : Nat, j ≤ k ∧ i = .int .i64 j ∧ x = .int .u64 (num (((bitsOf xs).drop a).take j) : Nat)) (fun _ i => k - (intOf i).toNat)
  case atStart => exact ⟨0, Nat.zero_le _, rfl, by simp [num]⟩
  case round =>
    obtain ⟨j, hj, rfl, rfl⟩ := hrel
    by_cases hlt : j < k
    · have hnl := HN.out
      have hlt8 : (a + j) / 8 < n := by omega
      obtain ⟨d, o, rfl, _, _, hc, _⟩ := HD.out (by omega)
      have hck := hc ((a + j) / 8) (by omega)
      have hb := (xs.getD ((a + j) / 8) 0).toNat_lt
      unfold cel at hck
      clear hc HD hnl
      go_wp2
      go_round
      case rel =>
        have hX := num_lt (((bitsOf xs).drop a).take j)
        rw [show (((bitsOf xs).drop a).take j).length = j by rw [List.length_take, List.length_drop, bitsOf_length, HN.out]; omega] at hX
        refine ⟨j + 1, by omega, by go_num, ?_⟩
        rw [num_more _ _ _ (by rw [HN.out]; omega), ← List.getD_eq_getElem?_getD, number_step _ _ _ _ hX (by simpa using hb) (by omega)]
        rfl
      case measure => simp [intOf]; omega
    · go_wp2
      go_ret
      obtain rfl : j = k := by omega
      exact ⟨rfl, rfl⟩
theorem len8_tab : ∀ x : Fin 256, Lib.len8 (x.val : Int) = (len8 x.val : Nat) := by decide +kernel
/-- The new row of one byte. -/
theorem dat_one (w : World) (x : UInt8) (u : TypeId) : Dat true (w.alloc (.cells #[cel x] u)) w.heap.size (w.heap.size + 1) (some ⟨w.heap.size, 0, none⟩) [x] := fun _ =>
  ⟨w.heap.size, 0, rfl, Nat.le_refl _, by omega, fun j hj => by
    have h := (Box.new w u #[cel x]).cell (0 + j)
    have hj0 : j = 0 := by simp at hj; omega
    subst hj0
    exact h, fun _ j => (Box.new w u #[cel x]).free j⟩

end Go.Proofs.YtpdnmhnnngcbjaaDoor
