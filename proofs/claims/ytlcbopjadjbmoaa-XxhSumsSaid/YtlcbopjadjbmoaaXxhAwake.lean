/- The contract of the document's example: a sum that grows in two pieces is that of the whole; that of nothing is as it is told. -/
import Derived.Test.YtlcbopjadjbmoaaXxhSum
import Derived.Lib.SlBytesConst
namespace Go.Proofs.Ytlcbopjadjbmoaa
open Go.RowKit

theorem dat_mark (w : World) (ys : List UInt8) (u : TypeId) (fr : Nat × Nat) : Dat false (w.alloc (.cells (bcells ys) u fr)) w.heap.size (w.heap.size + 1) (some ⟨w.heap.size, 0, none⟩) ys := fun _ =>
  ⟨w.heap.size, 0, rfl, Nat.le_refl _, by omega, fun j hj => by
    rw [Nat.zero_add, cell_of_row _ _ j _ u fr (heap_alloc_new w _), bcells_get ys j hj]
    rfl, fun ho => by cases ho⟩

set_option maxRecDepth 100000 in
set_option maxHeartbeats 2000000 in
theorem awake_any (w : World) :
    Calls Try.prog 7 #[] w fun e w' => e = .returned (.bool true) ∧ Below w.heap.size w w' := by
  go_enter Try.func7, Try.ntmps7
  go_upto_region 1 with fail
  go_cut [1] (fun p wx => p = .pointer (some ⟨w.heap.size, 0, none⟩) ∧ Hsh wx w.heap.size [] ∧ Below w.heap.size w wx)
  case first =>
    go_wp2_with (go_at_call 8; refine (new_any _).mono ?_; rintro e' w5 ⟨rfl, hh5, hB5⟩; have HH5 := Lib.hid hh5; have HB5 := Lib.hid hB5; clear hh5 hB5)
    go_meet
    exact ⟨rfl, HH5.out, HB5.out⟩
  case rest =>
    obtain ⟨rfl, hh, hB⟩ := hcut
    have HX := Lib.hid hh
    have HB := Lib.hid hB
    have hlt := hh.lt
    clear hh hB
    go_upto_region 2 with fail
    go_cut [] (fun wx => Hsh wx w.heap.size [97] ∧ Below w.heap.size w wx)
    case first =>
      have HD := Lib.hid (dat_mark wc [97] 5 (1, 2))
      have HA := Lib.hid ((Below.refl wc.heap.size wc).alloc (Nat.le_refl _) (.cells (bcells [97]) 5 (1, 2)))
      have kc : (convert 26 26 (.slice (some ⟨wc.heap.size, 0, none⟩) 1 1)).run Try.prog (wc.alloc (.cells (bcells [97]) 5)) = .ok (.slice (some ⟨wc.heap.size, 0, none⟩) 1 1) (wc.alloc (.cells (bcells [97]) 5 (1, 2))) := Lib.run_convert_bytes_const (P := Try.prog) wc 26 5 (bcells [97]) 1 1 Try.underlying26 Try.underlying5
      rw [show bcells [97] = #[.int .u8 97] from rfl] at kc HD HA
      go_wp2_with (go_at_call 9; refine (write_any (HX.out.keep (HA.out.block _ hlt)) HD.out rfl (Nat.le_refl _) (.inl hlt) (by rw [World.size_alloc]; omega) (by decide)).mono ?_; rintro e' w6 ⟨rfl, hh6, hg6⟩; have HH6 := Lib.hid hh6; have HB6 : Hid (Below w.heap.size wc w6) := (HA.out.mono (by omega)).trans (wide_to_below hg6 (by rw [World.size_alloc]; omega) (Nat.le_refl _)); clear hh6 hg6)
      go_meet
      exact ⟨HH6.out, HB.out.trans HB6.out⟩
    case rest =>
      obtain ⟨hh, hB⟩ := hcut
      clear HX HB hlt
      have HX := Lib.hid hh
      have HB := Lib.hid hB
      have hlt := hh.lt
      clear hh hB
      go_upto_region 3 with fail
      go_cut [] (fun wx => Hsh wx w.heap.size [97, 98, 99] ∧ Below w.heap.size w wx)
      case first =>
        have HD := Lib.hid (dat_mark wc [98, 99] 5 (2, 3))
        have HA := Lib.hid ((Below.refl wc.heap.size wc).alloc (Nat.le_refl _) (.cells (bcells [98, 99]) 5 (2, 3)))
        have kc : (convert 26 26 (.slice (some ⟨wc.heap.size, 0, none⟩) 2 2)).run Try.prog (wc.alloc (.cells (bcells [98, 99]) 5)) = .ok (.slice (some ⟨wc.heap.size, 0, none⟩) 2 2) (wc.alloc (.cells (bcells [98, 99]) 5 (2, 3))) := Lib.run_convert_bytes_const (P := Try.prog) wc 26 5 (bcells [98, 99]) 2 2 Try.underlying26 Try.underlying5
        rw [show bcells [98, 99] = #[.int .u8 98, .int .u8 99] from rfl] at kc HD HA
        go_wp2_with (go_at_call 9; refine (write_any (HX.out.keep (HA.out.block _ hlt)) HD.out rfl (Nat.le_refl _) (.inl hlt) (by rw [World.size_alloc]; omega) (by decide)).mono ?_; rintro e' w6 ⟨rfl, hh6, hg6⟩; have HH6 := Lib.hid hh6; have HB6 : Hid (Below w.heap.size wc w6) := (HA.out.mono (by omega)).trans (wide_to_below hg6 (by rw [World.size_alloc]; omega) (Nat.le_refl _)); clear hh6 hg6)
        go_meet
        exact ⟨HH6.out, HB.out.trans HB6.out⟩
      case rest =>
        obtain ⟨hh, hB⟩ := hcut
        clear HX HB hlt
        have HX := Lib.hid hh
        have HB := Lib.hid hB
        have hlt := hh.lt
        clear hh hB
        obtain ⟨Z, hZ⟩ : ∃ Z, Z = ((xxhOf [97, 98, 99]).toNat : Int) := ⟨_, rfl⟩
        have HSUM := Lib.hid (fun (W : World) (h2 : Hsh W w.heap.size [97, 98, 99]) => sum_any h2 (by decide))
        have HOF : Hid (∀ (W : World) (lo hi : Nat) (A : Option Addr), Dat false W lo hi A [97, 98, 99] → hi ≤ W.heap.size → Calls Try.prog 12 #[.slice A 3 3] W fun e w' => e = .returned (.int .u64 Z) ∧ Below W.heap.size W w') := fun W lo hi A h2 h3 => by rw [hZ]; exact pof_any h2 rfl (Nat.le_refl _) h3 (by decide)
        have HON : Hid (∀ (W : World), Calls Try.prog 12 #[.slice none 0 0] W fun e w' => e = .returned (.int .u64 17241709254077376921) ∧ Below W.heap.size W w') := fun W => by rw [← xxh_nil]; exact pof_any (own := false) (Dat.nil false W 0 0 none) rfl (Nat.le_refl _) (Nat.zero_le _) (Nat.zero_le _)
        rw [← hZ] at HSUM
        clear hZ
        go_upto_region 4 with fail
        go_cut [2] (fun p wx => p = .int .u64 Z ∧ Hsh wx w.heap.size [97, 98, 99] ∧ Below w.heap.size w wx)
        case first =>
          have HD := Lib.hid (dat_mark wc [97, 98, 99] 5 (3, 4))
          have HA := Lib.hid ((Below.refl wc.heap.size wc).alloc (Nat.le_refl _) (.cells (bcells [97, 98, 99]) 5 (3, 4)))
          have kc : (convert 26 26 (.slice (some ⟨wc.heap.size, 0, none⟩) 3 3)).run Try.prog (wc.alloc (.cells (bcells [97, 98, 99]) 5)) = .ok (.slice (some ⟨wc.heap.size, 0, none⟩) 3 3) (wc.alloc (.cells (bcells [97, 98, 99]) 5 (3, 4))) := Lib.run_convert_bytes_const (P := Try.prog) wc 26 5 (bcells [97, 98, 99]) 3 3 Try.underlying26 Try.underlying5
          rw [show bcells [97, 98, 99] = #[.int .u8 97, .int .u8 98, .int .u8 99] from rfl] at kc HD HA
          go_wp2_with (go_at_call 12; refine (HOF.out _ _ _ _ HD.out (by rw [World.size_alloc]; omega)).mono ?_; rintro e' w6 ⟨rfl, hB6⟩; have HB6 : Hid (Below wc.heap.size wc w6) := HA.out.trans (hB6.mono (by rw [World.size_alloc]; omega)); clear hB6)
          go_meet
          exact ⟨rfl, HX.out.keep (HB6.out.block _ hlt), HB.out.trans (HB6.out.mono (by omega))⟩
        case rest =>
          obtain ⟨rfl, hh, hB⟩ := hcut
          clear HX HB hlt
          have HX := Lib.hid hh
          have HB := Lib.hid hB
          clear hh hB
          go_wp2_with (first
            | (go_at_call 10; refine (HSUM.out _ HX.out).mono ?_; rintro e' w7 ⟨rfl, hB7⟩; have HB7 := Lib.hid hB7; clear hB7)
            | (go_at_call 12; refine (HON.out _).mono ?_; rintro e' w8 ⟨rfl, hB8⟩; have HB8 := Lib.hid hB8; clear hB8))
          go_ret
          exact ⟨rfl, HB.out.trans ((HB7.out.mono HB.out.size).trans (HB8.out.mono (Nat.le_trans HB.out.size HB7.out.size)))⟩
end Go.Proofs.Ytlcbopjadjbmoaa
