/- The contract of the document's example: a digest that grows in two pieces is that of the whole, and begins and ends as it is told. -/
import Derived.Test.YtemeholiaeffkaaDoorShaSum
import Derived.Test.YtemeholiaeffkaaDoorShaAbc
import Derived.Stop.BytesEq
import Derived.Lib.SlBytesConst
namespace Go.Proofs.YtemeholiaeffkaaDoor
open Go.RowKit

theorem dat_mark (w : World) (ys : List UInt8) (u : TypeId) (fr : Nat × Nat) : Dat false (w.alloc (.cells (bcells ys) u fr)) w.heap.size (w.heap.size + 1) (some ⟨w.heap.size, 0, none⟩) ys := fun _ =>
  ⟨w.heap.size, 0, rfl, Nat.le_refl _, by omega, fun j hj => by
    rw [Nat.zero_add, cell_of_row _ _ j _ u fr (heap_alloc_new w _), bcells_get ys j hj]
    rfl, fun ho => by cases ho⟩

theorem range_all {w : World} {g : Nat} {t : TypeId} {Z : Array Value} (hb : Box w g t Z) : w.rangeAt g 0 Z.toList := by
  intro j v hv
  rw [Nat.zero_add, hb.cell]
  simpa using hv

theorem bytesOf_sha (xs : List UInt8) : (shaOf kw xs).length = 32 := by rw [← stOf_padded, bytesOf_length]
/-- Two digests of the same bytes are equal. -/
theorem eq32 (xs : List UInt8) (W : World) : (Op.equalIn 10000 29 (.agg (bcells (shaOf kw xs))) (.agg (bcells (shaOf kw xs)))).run Tryd.prog W = .ok true W := by
  have hsz : ∀ w, (sizeOf 5).run Tryd.prog w = .ok 1 w := by
    intro w
    obtain ⟨i0, hi0, _, hz1, _⟩ := info_parts u8_info
    simp [sizeOf, typeInfo, hi0, hz1]
  have h := run_equalIn_bytes (P := Tryd.prog) W 9998 29 5 32 Tryd.underlying29 Tryd.underlying5 hsz (shaOf kw xs) (shaOf kw xs) (bytesOf_sha xs) (bytesOf_sha xs)
  rw [beq_self_eq_true] at h
  exact h

set_option maxRecDepth 100000 in
set_option maxHeartbeats 2000000 in
theorem awake_any (w : World) (hgl : Glob w) :
    Calls Tryd.prog 7 #[] w fun e w' => e = .returned (.bool true) ∧ Below w.heap.size w w' := by
  have HG := Lib.hid hgl
  have hw2 := hgl.2.2
  clear hgl
  go_enter Tryd.func7, Tryd.ntmps7
  go_upto_region 1 with fail
  go_cut [1] (fun p wx => p = .pointer (some ⟨w.heap.size, 0, none⟩) ∧ Hsh wx w.heap.size [] ∧ Below w.heap.size w wx)
  case first =>
    go_wp2_with (go_at_call 8; refine (new_any _ HG.out).mono ?_; rintro e' w5 ⟨rfl, hh5, hB5⟩; have HH5 := Lib.hid hh5; have HB5 := Lib.hid hB5; clear hh5 hB5)
    go_meet
    exact ⟨rfl, HH5.out, HB5.out⟩
  case rest =>
    obtain ⟨rfl, hh, hB⟩ := hcut
    have HX := Lib.hid hh
    have HB := Lib.hid hB
    have hlt := hh.lt
    clear hh hB
    go_upto_region 2 with fail
    go_cut [] (fun wx => Hsh wx w.heap.size [97] ∧ Below w.heap.size w wx)
    case first =>
      have HD := Lib.hid (dat_mark wc [97] 5 (1, 2))
      have HA := Lib.hid ((Below.refl wc.heap.size wc).alloc (Nat.le_refl _) (.cells (bcells [97]) 5 (1, 2)))
      have kc : (convert 26 26 (.slice (some ⟨wc.heap.size, 0, none⟩) 1 1)).run Tryd.prog (wc.alloc (.cells (bcells [97]) 5)) = .ok (.slice (some ⟨wc.heap.size, 0, none⟩) 1 1) (wc.alloc (.cells (bcells [97]) 5 (1, 2))) := Lib.run_convert_bytes_const (P := Tryd.prog) wc 26 5 (bcells [97]) 1 1 Tryd.underlying26 Tryd.underlying5
      rw [show bcells [97] = #[.int .u8 97] from rfl] at kc HD HA
      go_wp2_with (go_at_call 9; refine (write_any ((HG.out.below HB.out hw2).below HA.out (by omega)) (HX.out.keep (HA.out.block _ hlt)) HD.out rfl (Nat.le_refl _) (.inl hlt) (by rw [World.size_alloc]; omega) hw2 (by decide)).mono ?_; rintro e' w6 ⟨rfl, hh6, hg6⟩; have HH6 := Lib.hid hh6; have HB6 : Hid (Below w.heap.size wc w6) := (HA.out.mono (by omega)).trans (wide_to_below hg6 (by rw [World.size_alloc]; omega) (Nat.le_refl _)); clear hh6 hg6)
      go_meet
      exact ⟨HH6.out, HB.out.trans HB6.out⟩
    case rest =>
      obtain ⟨hh, hB⟩ := hcut
      clear HX HB hlt
      have HX := Lib.hid hh
      have HB := Lib.hid hB
      have hlt := hh.lt
      clear hh hB
      go_upto_region 3 with fail
      go_cut [] (fun wx => Hsh wx w.heap.size [97, 98, 99] ∧ Below w.heap.size w wx)
      case first =>
        have HD := Lib.hid (dat_mark wc [98, 99] 5 (2, 3))
        have HA := Lib.hid ((Below.refl wc.heap.size wc).alloc (Nat.le_refl _) (.cells (bcells [98, 99]) 5 (2, 3)))
        have kc : (convert 26 26 (.slice (some ⟨wc.heap.size, 0, none⟩) 2 2)).run Tryd.prog (wc.alloc (.cells (bcells [98, 99]) 5)) = .ok (.slice (some ⟨wc.heap.size, 0, none⟩) 2 2) (wc.alloc (.cells (bcells [98, 99]) 5 (2, 3))) := Lib.run_convert_bytes_const (P := Tryd.prog) wc 26 5 (bcells [98, 99]) 2 2 Tryd.underlying26 Tryd.underlying5
        rw [show bcells [98, 99] = #[.int .u8 98, .int .u8 99] from rfl] at kc HD HA
        go_wp2_with (go_at_call 9; refine (write_any ((HG.out.below HB.out hw2).below HA.out (by omega)) (HX.out.keep (HA.out.block _ hlt)) HD.out rfl (Nat.le_refl _) (.inl hlt) (by rw [World.size_alloc]; omega) hw2 (by decide)).mono ?_; rintro e' w6 ⟨rfl, hh6, hg6⟩; have HH6 := Lib.hid hh6; have HB6 : Hid (Below w.heap.size wc w6) := (HA.out.mono (by omega)).trans (wide_to_below hg6 (by rw [World.size_alloc]; omega) (Nat.le_refl _)); clear hh6 hg6)
        go_meet
        exact ⟨HH6.out, HB.out.trans HB6.out⟩
      case rest =>
        obtain ⟨hh, hB⟩ := hcut
        clear HX HB hlt
        have HX := Lib.hid hh
        have HB := Lib.hid hB
        have hlt := hh.lt
        clear hh hB
        obtain ⟨Z, hZ⟩ : ∃ Z, Z = bcells (shaOf kw [97, 98, 99]) := ⟨_, rfl⟩
        have hZs : Z.size = 32 := by rw [hZ]; simp [bcells, bytesOf_sha]
        have hZo : Z.all (·.oneCell') = true := by rw [hZ]; exact bcells_one _
        have hZ0 : Z[0]? = some (.int .u8 186) := by rw [hZ, bcells_get _ 0 (by rw [bytesOf_sha]; decide), abc0]; rfl
        have hZ31 : Z[31]? = some (.int .u8 173) := by rw [hZ, bcells_get _ 31 (by rw [bytesOf_sha]; decide), abc31]; rfl
        have heq : ∀ W, (Op.equalIn 10000 29 (.agg Z) (.agg Z)).run Tryd.prog W = .ok true W := by rw [hZ]; exact eq32 _
        have HSUM := Lib.hid (fun (W : World) (h1 : Glob W) (h2 : Hsh W w.heap.size [97, 98, 99]) => sum_any h1 h2 (by decide))
        have HOF : Hid (∀ (W : World) (lo hi : Nat) (A : Option Addr), Glob W → Dat false W lo hi A [97, 98, 99] → hi ≤ W.heap.size → Calls Tryd.prog 12 #[.slice A 3 3] W fun e w' => e = .returned (.agg Z) ∧ Below W.heap.size W w') := fun W lo hi A h1 h2 h3 => by rw [hZ]; exact pof_any h1 h2 rfl (Nat.le_refl _) h3 (by decide)
        rw [← hZ] at HSUM
        clear hZ
        go_upto_region 4 with fail
        go_cut [2] (fun p wx => ∃ g, p = .pointer (some ⟨g, 0, none⟩) ∧ w.heap.size < g ∧ Box wx g 29 Z ∧ Hsh wx w.heap.size [97, 98, 99] ∧ Below w.heap.size w wx)
        case first =>
          have HD := Lib.hid (dat_mark wc [97, 98, 99] 5 (3, 4))
          have HA := Lib.hid ((Below.refl wc.heap.size wc).alloc (Nat.le_refl _) (.cells (bcells [97, 98, 99]) 5 (3, 4)))
          have kc : (convert 26 26 (.slice (some ⟨wc.heap.size, 0, none⟩) 3 3)).run Tryd.prog (wc.alloc (.cells (bcells [97, 98, 99]) 5)) = .ok (.slice (some ⟨wc.heap.size, 0, none⟩) 3 3) (wc.alloc (.cells (bcells [97, 98, 99]) 5 (3, 4))) := Lib.run_convert_bytes_const (P := Tryd.prog) wc 26 5 (bcells [97, 98, 99]) 3 3 Tryd.underlying26 Tryd.underlying5
          rw [show bcells [97, 98, 99] = #[.int .u8 97, .int .u8 98, .int .u8 99] from rfl] at kc HD HA
          go_wp2_with (first
            | (go_at_call 12; refine (HOF.out _ _ _ _ ((HG.out.below HB.out hw2).below HA.out (by omega)) HD.out (by rw [World.size_alloc]; omega)).mono ?_; rintro e' w6 ⟨rfl, hB6⟩; have HB6 : Hid (Below wc.heap.size wc w6) := HA.out.trans (hB6.mono (by rw [World.size_alloc]; omega)); clear hB6)
            | (refine wpList_store_row rfl 29 _ _ rfl w6.heap.size Z rfl rfl 29 _ (heap_alloc_new w6 _) (by rw [hZs]; kernel_rfl) (by rw [hZs]; rfl) hZo ?_))
          go_meet
          have h7 : Below wc.heap.size wc ((w6.alloc (.cells z32 29)).setRow w6.heap.size Z) := below_row (HB6.out.alloc HB6.out.size _) HB6.out.size _
          exact ⟨_, rfl, by have := HB6.out.size; omega, setRow_heap _ _ _ _ _ _ (heap_alloc_new w6 _), HX.out.keep (h7.block _ hlt), HB.out.trans (h7.mono (by omega))⟩
        case rest =>
          obtain ⟨gs, rfl, hgs, hbz, hh, hB⟩ := hcut
          clear HX HB hlt
          have HX := Lib.hid hh
          have HB := Lib.hid hB
          have r0 : wc.rangeAt gs 0 Z.toList := range_all hbz
          have c0 : wc.cell? ⟨gs, 0, none⟩ = some (.int .u8 186) := (hbz.cell 0).trans hZ0
          have c31 : wc.cell? ⟨gs, 31, none⟩ = some (.int .u8 173) := (hbz.cell 31).trans hZ31
          have hu29 := Tryd.underlying29
          have hi29 : (Tryd.prog.info? 29).map (·.size) = some Z.toList.length := by rw [Array.length_toList, hZs]; kernel_rfl
          have hbl := hbz.lt
          have HGc := Lib.hid (HG.out.below HB.out hw2)
          have HZb := Lib.hid hbz
          clear hh hB hbz
          go_upto_region 5 with fail
          go_region_held3 (fun w' => w'.rangeAt gs 0 Z.toList ∧ w'.cell? ⟨gs, 0, none⟩ = some (.int .u8 186) ∧ w'.cell? ⟨gs, 31, none⟩ = some (.int .u8 173))
            (first | exact ⟨r0, c0, c31⟩ | exact ⟨r7, c7, d7⟩ | go_keep)
            (first | (go_at_call 10; refine (HSUM.out _ (by exact HGc.out) (by exact HX.out)).mono ?_; rintro e' w7 ⟨rfl, hB7⟩; have HB7 : Hid (Below wc.heap.size wc w7) := (⟨hB7.os, hB7.tape, hB7.output, hB7.size, hB7.block⟩ : Below wc.heap.size wc w7); have hb7 := HZb.out.below HB7.out hbl; have r7 := range_all hb7; have c7 : w7.cell? ⟨gs, 0, none⟩ = some (.int .u8 186) := (hb7.cell 0).trans hZ0; have d7 : w7.cell? ⟨gs, 31, none⟩ = some (.int .u8 173) := (hb7.cell 31).trans hZ31; clear hB7 hb7))
          go_wp2_with fail
          go_ret
          exact ⟨rfl, HB.out.trans (HB7.out.mono (by have := HB.out.size; omega))⟩
end Go.Proofs.YtemeholiaeffkaaDoor
