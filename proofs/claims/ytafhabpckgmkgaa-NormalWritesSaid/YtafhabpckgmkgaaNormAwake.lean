
/- The document's example for counts answers true, in whatever world, and nothing that was there has turned. -/
import Derived.Test.YtafhabpckgmkgaaNormWrite
import Derived.Test.YtafhabpckgmkgaaNormMake
namespace Go.Proofs.Ytafhabpckgmkgaa
open Go.RowKit

/-- A new row of elements. -/
theorem datE_row {α : Type} (f : α → Value) (w : World) (xs : List α) (u : TypeId) (cs : Array Value) (hcs : cs.toList = xs.map f) : DatE f (w.alloc (.cells cs u)) w.heap.size (w.heap.size + 1) (some ⟨w.heap.size, 0, none⟩) xs := fun _ =>
  ⟨w.heap.size, 0, rfl, Nat.le_refl _, by omega, fun j hj => by
    have h := (Box.new w u cs).cell (0 + j)
    rw [h, Nat.zero_add, ← Array.getElem?_toList, hcs, List.getElem?_map, List.getElem?_eq_getElem hj]
    rfl⟩
theorem bits_back (l : List Bool) : ∃ rest, bitsOf (bytesOf l) = l ++ rest := ⟨(bitsOf (bytesOf l)).drop l.length, by
  have h := List.take_append_drop l.length (bitsOf (bytesOf l))
  rw [take_bits] at h
  exact h.symm⟩
/-- What is written is read. -/
theorem rdC_back {log : Int} {ps : List Int} (hm : mayB log ps = true) {most sy : Int} (h1 : log ≤ most) (h2 : (ps.length : Int) ≤ sy) (more : List Bool) :
    rdC (bitsOf (bytesOf (wrC log.toNat ps)) ++ more) most sy = .ok (log.toNat, ps, (wrC log.toNat ps).length) := by
  obtain ⟨rest, hr⟩ := bits_back (wrC log.toNat ps)
  exact rdC_wrC (rest := rest ++ more) hm (by rw [hr, List.append_assoc]) h1 h2

set_option maxRecDepth 100000 in
set_option maxHeartbeats 2000000 in
theorem awake_any (w : World) :
    Calls Try.prog 8 #[] w fun e w' => e = .returned (.bool true) ∧ Below w.heap.size w w' := by
  have HD1 := Lib.hid (datE_row icel w [16, 16] 3 #[.int .i64 16, .int .i64 16] rfl)
  go_enter Try.func8, Try.ntmps8
  go_wp2_with fail
  refine (check_any (c := 2) 5 9 HD1.out rfl (Nat.le_refl _) (by decide) (by simp) (by decide)).mono ?_
  rintro e w1 ⟨rfl, hB⟩
  rw [show chk 5 [16, 16] 9 = 0 by decide]
  have HB1 := Lib.hid (((Below.refl _ _).alloc (Nat.le_refl _) (.cells #[.int .i64 16, .int .i64 16] 3)).trans (hB.mono (by simp)))
  have hs1 := HB1.out.size
  clear hB HD1
  have HD2 := Lib.hid (datE_row icel w1 [20, 0, 0, -1, 11] 3 #[.int .i64 20, .int .i64 0, .int .i64 0, .int .i64 (-1), .int .i64 11] rfl)
  go_wp2_with fail
  refine (write_told (c := 5) 5 (by decide) HD2.out rfl (Nat.le_refl _) (by decide) (by simp) (by decide)).mono ?_
  rintro e w2 ⟨v2, rfl, ho, hB⟩
  obtain ⟨A2, c2, rfl, hc2, hd2⟩ := ho.form
  have HD2b := Lib.hid hd2
  have HB2 := Lib.hid (HB1.out.trans ((((Below.refl _ _).alloc (Nat.le_refl _) (.cells #[.int .i64 20, .int .i64 0, .int .i64 0, .int .i64 (-1), .int .i64 11] 3)).trans (hB.mono (by simp))).mono hs1))
  have hs2 := HB2.out.size
  have hR := rdC_back (log := 5) (ps := [20, 0, 0, -1, 11]) (by decide) (most := 9) (sy := 9) (by decide) (by decide) []
  rw [List.append_nil] at hR
  have hl2 : (bytesOf (wrC 5 [20, 0, 0, -1, 11])).length ≤ 1000000000 := by decide +kernel
  have hlp : 0 < (bytesOf (wrC 5 [20, 0, 0, -1, 11])).length := by decide +kernel
  have HR := Lib.hid (read_any (c := c2) 9 9 hd2 rfl hl2 (Nat.le_refl _) hR)
  have HE : Hid (((wrC 5 [20, 0, 0, -1, 11]).length + 7) / 8 = (bytesOf (wrC 5 [20, 0, 0, -1, 11])).length) := by unfold Hid; rw [bytesOf_length]
  clear ho hB hd2 HD2 hR hc2
  generalize (bytesOf (wrC 5 [20, 0, 0, -1, 11])).length = L at *
  go_wp2_with fail
  refine HR.out.mono ?_
  rintro e w3 ⟨hB, v3, rfl, ho⟩
  rw [show (Int.toNat 5) = 5 from rfl, HE.out]
  obtain ⟨d3, c3, rfl, _, hd3⟩ := ho.place (by decide)
  obtain ⟨k0, _⟩ := ho.cellAt 0 (by decide)
  obtain ⟨k3, _⟩ := ho.cellAt 3 (by decide)
  have k0' : w3.cell? ⟨d3, 0, none⟩ = some (.int .i64 20) := k0
  have k3' : w3.cell? ⟨d3, 3, none⟩ = some (.int .i64 (-1)) := k3
  have HB3 := Lib.hid (HB2.out.trans (hB.mono hs2))
  have hs3 := HB3.out.size
  have HK := Lib.hid (And.intro k0' k3')
  clear hB ho k0 k3 k0' k3' HD2b HR
  have hz3 : ([20, 0, 0, -1, 11] : List Int).length = 5 := rfl
  rw [hz3]
  have hd4 := (datE_row ucel (w3.alloc (.cells #[.int .i64 5, .slice (some ⟨d3, 0, none⟩) 5 c3] 26)) [3, 0, 1] 44 #[.int .u32 3, .int .u32 0, .int .u32 1] rfl)
  simp only [World.size_alloc] at hd4
  have HD4 := Lib.hid hd4
  clear hz3 hd4
  have hbx := ((Box.new w3 26 #[.int .i64 5, .slice (some ⟨d3, 0, none⟩) 5 c3]).alloc (.cells #[.int .u32 3, .int .u32 0, .int .u32 1] 44))
  have HBx := Lib.hid hbx
  clear hbx
  go_wp2_with fail
  have hq : ∀ o ∈ [3, 0, 1], o ≤ 4294967295 := by intro o ho; simp at ho; omega
  refine (of_any (c := 3) 5 HD4.out (by simp) rfl (by decide) hq (Nat.le_refl _)).mono ?_
  trace "A"
  rintro e w4 ⟨hB, hor⟩
  obtain ⟨ps, v, rfl, ho, hlen⟩ : ∃ ps v, e = .returned (.tuple #[.agg #[.int .i64 5, v], .int .i64 0]) ∧ OwE icel w4 3 ((w3.alloc (.cells #[.int .i64 5, .slice (some ⟨d3, 0, none⟩) 5 c3] 26)).alloc (.cells #[.int .u32 3, .int .u32 0, .int .u32 1] 44)).heap.size v ps ∧ ps.length = 3 := by
    rcases hor with ⟨_, ps, v, h1, h2, _, h4, _⟩ | ⟨h1, _⟩
    · exact ⟨ps, v, h1, h2, h4.trans (by decide)⟩
    · exact absurd h1 (by decide)
  trace "B"
  obtain ⟨A5, c5, rfl, _, _⟩ := ho.form
  rw [hlen]
  obtain ⟨x0, x1, _, _⟩ := box2 (HBx.out.below hB (by simp; omega))
  have k0 : w4.cell? ⟨d3, 0, none⟩ = some (.int .i64 20) := by
    rw [hB.cell (p := ⟨d3, 0, none⟩) (by simp; omega), World.cell?_of_block (Below.heap_alloc _ _ d3 (by simp; omega)), World.cell?_of_block (Below.heap_alloc _ _ d3 hd3)]
    exact HK.out.1
  have k3 : w4.cell? ⟨d3, 3, none⟩ = some (.int .i64 (-1)) := by
    rw [hB.cell (p := ⟨d3, 3, none⟩) (by simp; omega), World.cell?_of_block (Below.heap_alloc _ _ d3 (by simp; omega)), World.cell?_of_block (Below.heap_alloc _ _ d3 hd3)]
    exact HK.out.2
  trace "C"
  have HB4 : Hid (Below w.heap.size w w4) := HB3.out.trans ((((Below.refl _ _).alloc hs3 _).alloc (by simp; omega) _).trans (hB.mono (by simp; omega)))
  have hs4 := HB4.out.size
  have hs4' := hB.size
  simp only [World.size_alloc] at hs4'
  clear hB hor ho hlen
  have n1 : w3.heap.size < w4.heap.size := by omega
  have n2 : d3 < w4.heap.size := by omega
  have hl0 : ((L : Int) == 0) = false := by simp; omega
  go_wp2_with fail
  go_ret
  exact ⟨rfl, HB4.out.alloc hs4 _⟩
end Go.Proofs.Ytafhabpckgmkgaa
