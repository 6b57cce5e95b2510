
/- The document's examples for tables answer true, in whatever world, and nothing that was there has turned. -/
import Derived.Test.YtchpaeelpaicbaaFseFirst
import Derived.Test.YtchpaeelpaicbaaNormAwake
namespace Go.Proofs.Ytchpaeelpaicbaa
open Go.RowKit

section
variable {l : Nat} {ps : List Int}
theorem tab_fine (h : MayF l ps) : Fine (tab l ps) := fun i hi => by
  obtain ⟨s, b, e, h1, h2, _, h4, h5⟩ := tab_bd h i hi
  have hl := h.l15
  have hp : 2 ^ l ≤ 2 ^ 15 := Nat.pow_le_pow_right (by omega) hl
  exact ⟨s, b, e, h1, h2, by omega, by omega⟩
theorem tab_sym (h : MayF l ps) (i : Nat) (hi : i < (tab l ps).length) : (tab l ps)[i].s = (((syms l ps).getD i 0 : Nat) : Int) := by
  rw [tab_get h i hi]
  rfl
theorem tab_has (h : MayF l ps) (y : Nat) (hy : 1 ≤ (wi (ps.getD y 0)).toNat) : ∃ i, ∃ hi : i < (tab l ps).length, (tab l ps)[i].s = (y : Int) := by
  rw [← h.count y] at hy
  have hm : y ∈ syms l ps := List.count_pos_iff.1 hy
  obtain ⟨i, hi, e⟩ := List.getElem_of_mem hm
  have hl : i < (tab l ps).length := by rw [tab_length h, ← h.syms_len]; exact hi
  refine ⟨i, hl, ?_⟩
  rw [tab_sym h i hl, getD_of _ _ _ hi, e]
theorem tab_hasnt (h : MayF l ps) (y : Nat) (hy : ¬ 1 ≤ (wi (ps.getD y 0)).toNat) : ∀ i (hi : i < (tab l ps).length), (tab l ps)[i].s ≠ (y : Int) := by
  intro i hi e
  rw [← h.count y] at hy
  apply hy
  rw [tab_sym h i hi] at e
  have hl : i < (syms l ps).length := by rw [tab_length h, ← h.syms_len] at hi; exact hi
  have hm : y ∈ syms l ps := by
    rw [getD_of _ _ _ hl] at e
    have := List.getElem_mem hl
    have e2 : (syms l ps)[i] = y := by omega
    rw [e2] at this
    exact this
  exact List.count_pos_iff.2 hm
end

set_option maxRecDepth 100000 in
set_option maxHeartbeats 2000000 in
theorem fse_awake (w : World) :
    Calls Try.prog 8 #[] w fun e w' => e = .returned (.bool true) ∧ Below w.heap.size w w' := by
  have hM : mayB ((5 : Nat) : Int) [16, 16] = true := by decide
  have HMy := Lib.hid hM
  have HF := Lib.hid (mayF hM)
  clear hM
  go_enter Try.func8, Try.ntmps8
  go_wp2_with fail
  refine (one_any 7 _).mono ?_
  rintro e w1 ⟨v1, rfl, ho1, hB⟩
  obtain ⟨d1, e1, rfl, hd1, hd1w, _⟩ := ho1.place (by decide)
  have HB1 := Lib.hid hB
  have hs1 := hB.size
  have HO1 := Lib.hid ho1
  have hlen1 : ([(⟨7, 0, 0⟩ : En)] : List En).length = 1 := rfl
  rw [hlen1]
  clear hB ho1 hlen1
  go_wp2_with fail
  have hx1 := (Box.new w1 28 #[.int .i64 0, .slice (some ⟨d1, 0, none⟩) 1 e1]).alloc (.cells #[.int .i64 16, .int .i64 16] 3)
  have hd2 := datE_row icel (w1.alloc (.cells #[.int .i64 0, .slice (some ⟨d1, 0, none⟩) 1 e1] 28)) [16, 16] 3 #[.int .i64 16, .int .i64 16] rfl
  rw [World.size_alloc] at hd2
  have HX1 := Lib.hid hx1
  have HD2 := Lib.hid hd2
  have HO2 := Lib.hid ((HO1.out.alloc (.cells #[.int .i64 0, .slice (some ⟨d1, 0, none⟩) 1 e1] 28)).alloc (.cells #[.int .i64 16, .int .i64 16] 3))
  have HB2 : Hid (Below w.heap.size w ((w1.alloc (.cells #[.int .i64 0, .slice (some ⟨d1, 0, none⟩) 1 e1] 28)).alloc (.cells #[.int .i64 16, .int .i64 16] 3))) := (HB1.out.alloc hs1 _).alloc (by simp; omega) _
  have hs2 : ((w1.alloc (.cells #[.int .i64 0, .slice (some ⟨d1, 0, none⟩) 1 e1] 28)).alloc (.cells #[.int .i64 16, .int .i64 16] 3)).heap.size = w1.heap.size + 2 := by simp
  clear hx1 hd2 HO1 HB1
  generalize (w1.alloc (.cells #[.int .i64 0, .slice (some ⟨d1, 0, none⟩) 1 e1] 28)).alloc (.cells #[.int .i64 16, .int .i64 16] 3) = W2 at *
  have hs2a : w1.heap.size + 2 ≤ W2.heap.size := by omega
  have hs2b : W2.heap.size ≤ w1.heap.size + 2 := by omega
  clear hs2
  refine (build_yes (cp := 2) 5 HMy.out HD2.out rfl (Nat.le_refl _) (by decide) hs2a (by decide)).mono ?_
  rintro e w3 ⟨v3, rfl, ho3, hB⟩
  obtain ⟨d3, e3, rfl, hd3, hd3w, he3⟩ := ho3.place (by rw [tab_length HF.out]; decide)
  have hlen3 : (tab 5 [16, 16]).length = 32 := tab_length HF.out
  rw [hlen3] at he3 ho3 ⊢
  have HL3 := Lib.hid hlen3
  have HB3 := Lib.hid (HB2.out.trans (hB.mono (by omega)))
  have HO3 := Lib.hid ho3
  have HX3 := Lib.hid (HX1.out.below hB (by omega))
  have HOo := Lib.hid (HO2.out.below hB (Nat.le_refl _))
  have hs3 := hB.size
  clear hB ho3 hlen3 HX1 HD2 HO2 HB2
  go_wp2_with fail
  have hx4 := Box.new w3 28 #[.int .i64 5, .slice (some ⟨d3, 0, none⟩) 32 e3]
  have HX4 := Lib.hid hx4
  have HX3a := Lib.hid (HX3.out.alloc (.cells #[.int .i64 5, .slice (some ⟨d3, 0, none⟩) 32 e3] 28))
  have HO3a := Lib.hid (HO3.out.alloc (.cells #[.int .i64 5, .slice (some ⟨d3, 0, none⟩) 32 e3] 28))
  have HOoa := Lib.hid (HOo.out.alloc (.cells #[.int .i64 5, .slice (some ⟨d3, 0, none⟩) 32 e3] 28))
  have HB4 := Lib.hid (HB3.out.alloc (by omega) (.cells #[.int .i64 5, .slice (some ⟨d3, 0, none⟩) 32 e3] 28))
  have hs4 : w3.heap.size + 1 ≤ (w3.alloc (.cells #[.int .i64 5, .slice (some ⟨d3, 0, none⟩) 32 e3] 28)).heap.size := by simp
  clear hx4 HX3 HO3 HOo HB3
  generalize w3.alloc (.cells #[.int .i64 5, .slice (some ⟨d3, 0, none⟩) 32 e3] 28) = W4 at *
  refine (build_no (cp := 0) (m := 0) (ps := []) (lo := 0) (hi := 0) 0 (by decide) (DatE.nil _ _ _ _ _) rfl (Nat.le_refl _) (by decide) (Nat.zero_le _) (by simp)).mono ?_
  rintro e w5 ⟨rfl, hB⟩
  have HX5 := Lib.hid (HX4.out.below hB (by omega))
  have HX5o := Lib.hid (HX3a.out.below hB (by omega))
  have HO5 := Lib.hid (HO3a.out.below hB (Nat.le_refl _))
  have HO5o := Lib.hid (HOoa.out.below hB (Nat.le_refl _))
  have HB5 := Lib.hid (HB4.out.trans (hB.mono (by omega)))
  have hs5 := hB.size
  obtain ⟨t0, t1, _, _⟩ := box2 (HX5.out.alloc (.cells #[.int .i64 0, .slice none 0 0] 28))
  clear hB HX4 HX3a HO3a HOoa HB4
  go_wp2_with fail
  have hd9 := HO5.out.dat ecell_len
  have HDa := Lib.hid ((hd9.mono (Nat.zero_le _) (Nat.le_refl _)).alloc (Nat.le_refl _) (.cells #[.int .i64 0, .slice none 0 0] 28))
  refine (first_any (c := e3) 5 1 HDa.out HL3.out (by decide) (Nat.le_of_lt (by simp))).mono ?_
  rintro e w6 ⟨hB, hor⟩
  obtain ⟨i, hi, rfl, hi1⟩ : ∃ i, ∃ hi : i < (tab 5 [16, 16]).length, e = .returned (.tuple #[.int .i64 (i : Int), .int .i64 0]) ∧ (tab 5 [16, 16])[i].s = 1 := by
    rcases hor with ⟨i, hi, h1, h2, _⟩ | ⟨h1, _⟩
    · exact ⟨i, hi, h1, h2⟩
    · obtain ⟨i, hi, h2⟩ := tab_has HF.out 1 (by decide)
      exact absurd h2 (h1 i hi)
  have HX6 := Lib.hid ((HX5.out.alloc (.cells #[.int .i64 0, .slice none 0 0] 28)).below hB (by simp; omega))
  have HX6o := Lib.hid ((HX5o.out.alloc (.cells #[.int .i64 0, .slice none 0 0] 28)).below hB (by simp; omega))
  have HO6 := Lib.hid ((HO5.out.alloc (.cells #[.int .i64 0, .slice none 0 0] 28)).below hB (Nat.le_refl _))
  have HO6o := Lib.hid ((HO5o.out.alloc (.cells #[.int .i64 0, .slice none 0 0] 28)).below hB (Nat.le_refl _))
  have HB6 := Lib.hid ((HB5.out.alloc (by omega) (.cells #[.int .i64 0, .slice none 0 0] 28)).trans (hB.mono (by simp; omega)))
  have hi32 : i < 32 := by have := HL3.out; omega
  clear hB hor HDa hd9 t0 t1
  obtain ⟨x0, x1, _, _⟩ := box2 HX6.out
  obtain ⟨z0, z1, _, _⟩ := box2 HX6o.out
  have q0 := (HO6.out.cells3 i hi).1.1
  rw [hi1] at q0
  have q1 := (HO6o.out.cells3 0 (by decide)).1.1
  have q1' : w6.cell? ⟨d1, 0, none⟩ = some (.int .u8 7) := q1
  have hii : (i : Int) < 32 := by omega
  clear q1 hi1
  go_wp2_with fail
  go_ret
  exact ⟨rfl, HB6.out⟩
end Go.Proofs.Ytchpaeelpaicbaa
