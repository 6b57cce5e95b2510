/- The document's example for bits answers true, in whatever world, and nothing that was there has turned. -/
import Derived.Test.YtomimpapdighhaaBitBwd
import Derived.Test.YtomimpapdighhaaBitWr
namespace Go.Proofs.Ytomimpapdighhaa
open Go.RowKit

set_option maxHeartbeats 1000000 in
theorem awake_any (w : World) :
    Calls Try.prog 10 #[] w fun e w' => e = .returned (.bool true) ∧ Below w.heap.size w w' := by
  have HD1 := Lib.hid (dat_one w 13 5)
  go_enter Try.func10, Try.ntmps10
  go_wp2_with fail
  refine (newBack_yes (c := 1) HD1.out rfl (by decide) (by simp) (by decide +kernel)).mono ?_
  rintro e w1 ⟨g, rfl, hr, hB⟩
  rw [show top [13] = 3 by decide +kernel] at hr
  simp only [World.size_alloc] at hr hB
  have hB1 : Below w.heap.size w w1 := ((Below.refl _ _).alloc (Nat.le_refl _) _).trans (hB.mono (by omega))
  have HB1 := Lib.hid hB1
  have HR1 := Lib.hid hr
  have hg1 := hr.lt
  have hg0 := hr.1
  clear hB hB1 hr HD1
  go_wp2_with fail
  refine (bread_any 2 HR1.out (by omega)).mono ?_
  rintro e w2 ⟨rfl, hr, hs⟩
  rw [show bread [13] ((3 : Nat) : Int) 2 = (2, 1) by decide +kernel] at hr ⊢
  have HB2 := Lib.hid (HB1.out.trans (hs.below HB1.out.size (by omega)))
  have HR2 := Lib.hid hr
  clear hr hs
  go_wp2_with fail
  refine (left_any HR2.out).mono ?_
  rintro e w' ⟨he, rfl⟩
  obtain rfl : e = .returned (.int .i64 1) := he
  go_wp2_with fail
  refine (newWriter_any _).mono ?_
  rintro e w3 ⟨rfl, hw, hB⟩
  have HW3 := Lib.hid hw
  have HB3 := Lib.hid (HB2.out.trans (hB.mono HB2.out.size))
  have hz2 := HB2.out.size
  clear hw hB
  go_wp2_with fail
  refine (write_any (x := 5) 3 HW3.out (by decide) (by decide)).mono ?_
  rintro e w4 ⟨rfl, v4, hw, hF, _⟩
  rw [show [] ++ lows 5 3 = [true, false, true] by decide +kernel] at hw
  have HW4 := Lib.hid hw
  have HB4 := Lib.hid (HB3.out.trans (hF.below HB3.out.size hz2 (by intro k hk; simp [Value.ownBlock] at hk)))
  clear hw hF
  go_wp2_with fail
  refine (closed_any HW4.out (by decide)).mono ?_
  rintro e w5 ⟨v5, rfl, ho, hB⟩
  rw [show bytesOf ([true, false, true] ++ [true]) = [13] by decide +kernel] at ho
  obtain ⟨A5, c5, rfl, hc5, hd5⟩ := ho.form
  have HB5 := Lib.hid (HB4.out.trans (hB.mono HB4.out.size))
  have hz4 := HB4.out.size
  obtain ⟨d, o, rfl, _, hdh, hc, _⟩ := id hd5 (by decide)
  have hc0 : w5.cell? ⟨d, o + 0, none⟩ = some (.int .u8 13) := hc 0 (by decide)
  have HD5 := Lib.hid hd5
  have HC0 := Lib.hid hc0
  clear ho hB hd5 hc hc0
  go_wp2_with fail
  refine (newForward_any HD5.out rfl (by decide) (Nat.le_refl _)).mono ?_
  rintro e w6 ⟨f, rfl, hf, hB⟩
  have HF6 := Lib.hid hf
  have HC6 := Lib.hid ((hB.cell (p := ⟨d, o + 0, none⟩) hdh).trans HC0.out)
  have HB6 := Lib.hid (HB5.out.trans (hB.mono HB5.out.size))
  have hz5 := HB5.out.size
  have hz6 := hB.size
  have hf0 := hf.1
  clear hf hB
  go_wp2_with fail
  refine (fread_any 3 HF6.out).mono ?_
  rintro e w7 ⟨rfl, hf, hs⟩
  rw [show fread [13] 0 3 = (5, 0, 3) by decide +kernel] at hf ⊢
  have HF7 := Lib.hid hf
  have hc7 : w7.cell? ⟨d, o, none⟩ = some (.int .u8 13) := (World.cell?_of_block (a := ⟨d, o, none⟩) (hs.1.block d (by omega) (by intro e; injection e with e; omega))).trans HC6.out
  have HB7 := Lib.hid (HB6.out.trans (hs.below HB6.out.size (by omega)))
  clear hf hs
  go_wp2_with fail
  refine (used_any HF7.out).mono ?_
  rintro e w' ⟨he, rfl⟩
  obtain rfl : e = .returned (.int .i64 1) := he
  go_wp2_with fail
  go_ret
  exact ⟨rfl, HB7.out⟩
end Go.Proofs.Ytomimpapdighhaa
