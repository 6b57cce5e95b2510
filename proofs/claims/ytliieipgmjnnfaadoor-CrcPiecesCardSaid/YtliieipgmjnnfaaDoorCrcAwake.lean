/- The contract of the document's example: a sum that grows in two pieces is that of the whole, and the number that is told. -/
import Derived.Test.YtliieipgmjnnfaaDoorCrcHash
import Derived.Lib.SlBytesConst
namespace Go.Proofs.YtliieipgmjnnfaaDoor
open Go.RowKit

theorem dat_mark (w : World) (ys : List UInt8) (u : TypeId) (fr : Nat × Nat) : Dat false (w.alloc (.cells (bcells ys) u fr)) w.heap.size (w.heap.size + 1) (some ⟨w.heap.size, 0, none⟩) ys := fun _ =>
  ⟨w.heap.size, 0, rfl, Nat.le_refl _, by omega, fun j hj => by
    rw [Nat.zero_add, cell_of_row _ _ j _ u fr (heap_alloc_new w _), bcells_get ys j hj]
    rfl, fun ho => by cases ho⟩

theorem crc_told : crcOf [49, 50, 51, 52, 53, 54, 55, 56, 57] = 3808858755 := by decide +kernel

set_option maxRecDepth 100000 in
set_option maxHeartbeats 2000000 in
theorem awake_any (w : World) (hgl : Glob w) :
    Calls Tryd.prog 7 #[] w fun e w' => e = .returned (.bool true) ∧ Below w.heap.size w w' := by
  have HG := Lib.hid hgl
  have hw1 := hgl.2
  clear hgl
  go_enter Tryd.func7, Tryd.ntmps7
  go_upto_region 1 with fail
  go_cut [1] (fun p wx => p = .pointer (some ⟨w.heap.size, 0, none⟩) ∧ Hsh wx w.heap.size [] ∧ Below w.heap.size w wx)
  case first =>
    go_wp2_with (go_at_call 8; refine (new_any _).mono ?_; rintro e' w5 ⟨rfl, hh5, hB5⟩; have HH5 := Lib.hid hh5; have HB5 := Lib.hid hB5; clear hh5 hB5)
    go_meet
    exact ⟨rfl, HH5.out, HB5.out⟩
  case rest =>
    obtain ⟨rfl, hh, hB⟩ := hcut
    have HX := Lib.hid hh
    have HB := Lib.hid hB
    have hlt := hh.lt
    have hc1 : 1 ≤ wc.heap.size := by omega
    clear hh hB
    go_upto_region 2 with fail
    go_cut [] (fun wx => Hsh wx w.heap.size [49, 50, 51, 52] ∧ Below w.heap.size w wx)
    case first =>
        have HD := Lib.hid (dat_mark wc [49, 50, 51, 52] 5 (4, 5))
        have HA := Lib.hid ((Below.refl wc.heap.size wc).alloc (Nat.le_refl _) (.cells (bcells [49, 50, 51, 52]) 5 (4, 5)))
        have kc : (convert 26 26 (.slice (some ⟨wc.heap.size, 0, none⟩) 4 4)).run Tryd.prog (wc.alloc (.cells (bcells [49, 50, 51, 52]) 5)) = .ok (.slice (some ⟨wc.heap.size, 0, none⟩) 4 4) (wc.alloc (.cells (bcells [49, 50, 51, 52]) 5 (4, 5))) := Lib.run_convert_bytes_const (P := Tryd.prog) wc 26 5 (bcells [49, 50, 51, 52]) 4 4 Tryd.underlying26 Tryd.underlying5
        rw [show bcells [49, 50, 51, 52] = #[.int .u8 49, .int .u8 50, .int .u8 51, .int .u8 52] from rfl] at kc HD HA
        go_wp2_with (go_at_call 9; refine (write_any ((HG.out.below HB.out hw1).below HA.out hc1) (HX.out.keep (HA.out.block _ hlt)) HD.out rfl (by decide)).mono ?_; rintro e' w6 ⟨rfl, hh6, hg6⟩; have HH6 := Lib.hid hh6; have HB6 : Hid (Below w.heap.size wc w6) := (HA.out.mono (by omega)).trans (wide_to_below hg6 (by rw [World.size_alloc]; omega) (Nat.le_refl _)); clear hh6 hg6)
        go_meet
        exact ⟨HH6.out, HB.out.trans HB6.out⟩
    case rest =>
      obtain ⟨hh, hB⟩ := hcut
      clear HX HB hlt
      have HX := Lib.hid hh
      have HB := Lib.hid hB
      have hlt := hh.lt
      have hc1 : 1 ≤ wc.heap.size := by omega
      clear hh hB
      go_upto_region 3 with fail
      go_cut [] (fun wx => Hsh wx w.heap.size [49, 50, 51, 52, 53, 54, 55, 56, 57] ∧ Below w.heap.size w wx)
      case first =>
        have HD := Lib.hid (dat_mark wc [53, 54, 55, 56, 57] 5 (5, 6))
        have HA := Lib.hid ((Below.refl wc.heap.size wc).alloc (Nat.le_refl _) (.cells (bcells [53, 54, 55, 56, 57]) 5 (5, 6)))
        have kc : (convert 26 26 (.slice (some ⟨wc.heap.size, 0, none⟩) 5 5)).run Tryd.prog (wc.alloc (.cells (bcells [53, 54, 55, 56, 57]) 5)) = .ok (.slice (some ⟨wc.heap.size, 0, none⟩) 5 5) (wc.alloc (.cells (bcells [53, 54, 55, 56, 57]) 5 (5, 6))) := Lib.run_convert_bytes_const (P := Tryd.prog) wc 26 5 (bcells [53, 54, 55, 56, 57]) 5 5 Tryd.underlying26 Tryd.underlying5
        rw [show bcells [53, 54, 55, 56, 57] = #[.int .u8 53, .int .u8 54, .int .u8 55, .int .u8 56, .int .u8 57] from rfl] at kc HD HA
        go_wp2_with (go_at_call 9; refine (write_any ((HG.out.below HB.out hw1).below HA.out hc1) (HX.out.keep (HA.out.block _ hlt)) HD.out rfl (by decide)).mono ?_; rintro e' w6 ⟨rfl, hh6, hg6⟩; have HH6 := Lib.hid hh6; have HB6 : Hid (Below w.heap.size wc w6) := (HA.out.mono (by omega)).trans (wide_to_below hg6 (by rw [World.size_alloc]; omega) (Nat.le_refl _)); clear hh6 hg6)
        go_meet
        exact ⟨HH6.out, HB.out.trans HB6.out⟩
      case rest =>
        obtain ⟨hh, hB⟩ := hcut
        clear HX HB hlt
        have HX := Lib.hid hh
        have HB := Lib.hid hB
        have hlt := hh.lt
        have hc1 : 1 ≤ wc.heap.size := by omega
        clear hh hB
        have HSUM : Hid (∀ (W : World), Hsh W w.heap.size [49, 50, 51, 52, 53, 54, 55, 56, 57] → Calls Tryd.prog 10 #[.pointer (some ⟨w.heap.size, 0, none⟩)] W fun e w' => e = .returned (.int .u32 3808858755) ∧ Below W.heap.size W w') := fun W h2 => by have h := sum_any h2; rw [crc_told] at h; exact h
        have HOF : Hid (∀ (W : World) (lo hi : Nat) (A : Option Addr), Glob W → Dat false W lo hi A [49, 50, 51, 52, 53, 54, 55, 56, 57] → hi ≤ W.heap.size → Calls Tryd.prog 12 #[.slice A 9 9] W fun e w' => e = .returned (.int .u32 3808858755) ∧ Below W.heap.size W w') := fun W lo hi A hG h2 h3 => by have h := pof_any (m := 9) (c := 9) hG h2 rfl h3 (by decide); rw [crc_told] at h; exact h
        go_upto_region 4 with fail
        go_cut [2] (fun p wx => p = .int .u32 3808858755 ∧ Hsh wx w.heap.size [49, 50, 51, 52, 53, 54, 55, 56, 57] ∧ Below w.heap.size w wx)
        case first =>
          have HD := Lib.hid (dat_mark wc [49, 50, 51, 52, 53, 54, 55, 56, 57] 5 (9, 10))
          have HA := Lib.hid ((Below.refl wc.heap.size wc).alloc (Nat.le_refl _) (.cells (bcells [49, 50, 51, 52, 53, 54, 55, 56, 57]) 5 (9, 10)))
          have kc : (convert 26 26 (.slice (some ⟨wc.heap.size, 0, none⟩) 9 9)).run Tryd.prog (wc.alloc (.cells (bcells [49, 50, 51, 52, 53, 54, 55, 56, 57]) 5)) = .ok (.slice (some ⟨wc.heap.size, 0, none⟩) 9 9) (wc.alloc (.cells (bcells [49, 50, 51, 52, 53, 54, 55, 56, 57]) 5 (9, 10))) := Lib.run_convert_bytes_const (P := Tryd.prog) wc 26 5 (bcells [49, 50, 51, 52, 53, 54, 55, 56, 57]) 9 9 Tryd.underlying26 Tryd.underlying5
          rw [show bcells [49, 50, 51, 52, 53, 54, 55, 56, 57] = #[.int .u8 49, .int .u8 50, .int .u8 51, .int .u8 52, .int .u8 53, .int .u8 54, .int .u8 55, .int .u8 56, .int .u8 57] from rfl] at kc HD HA
          go_wp2_with (go_at_call 12; refine (HOF.out _ _ _ _ ((HG.out.below HB.out hw1).below HA.out hc1) HD.out (by rw [World.size_alloc]; omega)).mono ?_; rintro e' w6 ⟨rfl, hB6⟩; have HB6 : Hid (Below wc.heap.size wc w6) := HA.out.trans (hB6.mono (by rw [World.size_alloc]; omega)); clear hB6)
          go_meet
          exact ⟨rfl, HX.out.keep (HB6.out.block _ hlt), HB.out.trans (HB6.out.mono (by omega))⟩
        case rest =>
          obtain ⟨rfl, hh, hB⟩ := hcut
          clear HX HB hlt
          have HX := Lib.hid hh
          have HB := Lib.hid hB
          clear hh hB
          go_wp2_with (go_at_call 10; refine (HSUM.out _ HX.out).mono ?_; rintro e' w7 ⟨rfl, hB7⟩; have HB7 := Lib.hid hB7; clear hB7)
          go_ret
          exact ⟨rfl, HB.out.trans (HB7.out.mono HB.out.size)⟩
end Go.Proofs.YtliieipgmjnnfaaDoor
