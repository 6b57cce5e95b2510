
/- The contracts of bytes.Clone and NewReader: the bytes in new memory; nil too. -/
import Derived.Test.YtieepdhajjibpaaDoorCurNum
import Derived.Test.YtieepdhajjibpaaDoorCurApp
namespace Go.Proofs.YtieepdhajjibpaaDoor
open Go.RowKit

theorem u8_info : (Tryd.prog.info? 5).map (fun i => (i.zero, i.size, i.bytes)) = some (some (.int .u8 0), 1, 1) := by kernel_rfl

/-- The new row that 'buildSlice' of no elements makes is the call's own. -/
theorem own_empty (w : World) (u base : Nat) (h : base ≤ w.heap.size) : OwB (w.alloc (.cells #[] u)) u base (.slice (some ⟨w.heap.size, 0, none⟩) 0 0) [] :=
  World.ownsRow_made (base := base) (e := u) (size := 1) w #[] 0 h (by simp [maxLen]) (by simp)

theorem clone_some {own : Bool} {w : World} {lo hi : Nat} {a : Addr} {n c : Nat} {xs : List UInt8} (hd : Dat own w lo hi (some a) xs) (hn : xs.length = n) (hb : xs.length ≤ 1099511627776) (hhi : hi ≤ w.heap.size) :
    Calls Tryd.prog 49 #[.slice (some a) n c] w fun e w' => ∃ v, e = .returned v ∧ OwB w' 5 w.heap.size v xs ∧ Below w.heap.size w w' := by
  obtain ⟨i0, hi0, hz0, hz1, hz2⟩ := info_parts u8_info
  have hq := Lib.run_eql_slice_nil (P := Tryd.prog) w 23 5 (some a) n c 0 0 Tryd.underlying23
  have hO := Lib.hid (own_empty w 5 w.heap.size (Nat.le_refl _))
  have hD := Lib.hid (hd.alloc hhi (.cells #[] 5))
  clear hd
  have HN := Lib.hid hn
  clear hn
  go_enter Tryd.func49, Tryd.ntmps49
  go_wp2_with (at_builtin; refine list_app _ rfl _ _ 23 rfl i0 Tryd.underlying23 hi0 hz0 hz1 hz2 rfl hO.out rfl hD.out HN.out ?_ ?_ ?_)
  · simp only [List.length_nil]; have := HN.out; omega
  · simp
  intro v' w1 ho hg _
  have HO := Lib.hid ho
  have HG := Lib.hid hg
  clear ho hg hO hD
  go_wp2
  go_ret
  exact ⟨_, rfl, HO.out, ((Below.refl _ _).alloc (Nat.le_refl _) _).grown HG.out (by simp) (by intro k hk; simp [Value.ownBlock] at hk; omega)⟩

theorem clone_nil (w : World) (n c : Nat) :
    Calls Tryd.prog 49 #[.slice none n c] w fun e w' => e = .returned (.slice none 0 0) ∧ w = w' := by
  have hq := Lib.run_eql_slice_nil (P := Tryd.prog) w 23 5 none n c 0 0 Tryd.underlying23
  go_enter Tryd.func49, Tryd.ntmps49
  go_wp2
  go_ret
  exact ⟨rfl, rfl⟩

theorem clone_any {own : Bool} {w : World} {lo hi : Nat} {A : Option Addr} {n c : Nat} {xs : List UInt8} (hd : Dat own w lo hi A xs) (hn : xs.length = n) (hb : xs.length ≤ 1099511627776) (hhi : hi ≤ w.heap.size) :
    Calls Tryd.prog 49 #[.slice A n c] w fun e w' => ∃ v, e = .returned v ∧ OwB w' 5 w.heap.size v xs ∧ Below w.heap.size w w' := by
  rcases A with _ | a
  · refine (clone_nil w n c).mono fun e w' ⟨he, hw⟩ => ?_
    subst hw
    have hx : xs = [] := by
      rcases xs with _ | ⟨y, r⟩
      · rfl
      · obtain ⟨_, _, h', _⟩ := hd (by simp)
        cases h'
    subst hx
    exact ⟨_, he, OwB.nil _ _ _, Below.refl _ _⟩
  · exact clone_some hd hn hb hhi

end Go.Proofs.YtieepdhajjibpaaDoor
