
/- The document's example, and a copy. -/
import Derived.Test.YtfaonmggiffemaaDoorMatFind
import Derived.Test.YtfaonmggiffemaaDoorMatRef
import Derived.Test.YtfaonmggiffemaaDoorElsOwn
import Derived.Laws.IdiomStrings
import Derived.Lib.SlBytesConst
namespace Go.Proofs.YtfaonmggiffemaaDoor
open Go.RowKit

theorem u8_row : (Tryd.prog.info? 5).map (fun i => (i.zero, i.size, i.bytes)) = some (some (.int .u8 0), 1, 1) := by kernel_rfl
def abc : List UInt8 := [97, 98, 99, 100, 101, 102, 103, 104, 97, 98, 99, 100, 101, 102, 103, 104]

theorem abc_cells : (abc.map cel).toArray = #[.int .u8 97, .int .u8 98, .int .u8 99, .int .u8 100, .int .u8 101, .int .u8 102, .int .u8 103, .int .u8 104, .int .u8 97, .int .u8 98, .int .u8 99, .int .u8 100, .int .u8 101, .int .u8 102, .int .u8 103, .int .u8 104] := by kernel_rfl
/-- Bytes in a block of their own. -/
theorem dat_new (w : World) (xs : List UInt8) (u : TypeId) (fr : Nat × Nat) : Dat false (w.alloc (.cells (xs.map cel).toArray u fr)) w.heap.size (w.heap.size + 1) (some ⟨w.heap.size, 0, none⟩) xs := fun _ =>
  ⟨w.heap.size, 0, rfl, Nat.le_refl _, Nat.lt_succ_self _, fun j hj => by
    rw [Nat.zero_add, World.cell?_alloc_mark, List.getD_eq_getElem?_getD, List.getElem?_eq_getElem hj]
    simp [hj], fun h => by cases h⟩

set_option maxRecDepth 100000 in
set_option maxHeartbeats 4000000 in
theorem awake_any (w : World) (hgl : Glob w) :
    Calls Tryd.prog 7 #[] w fun e w' => e = .returned (.bool true) ∧ Below w.heap.size w w' := by
  have HG := Lib.hid hgl
  have hw2 := hgl.2
  obtain ⟨i0, hi0, hz0, hz1, hz2⟩ := info_parts u8_row
  have HI := Lib.hid (And.intro hi0 (And.intro hz0 (And.intro hz1 hz2)))
  clear hgl hi0 hz0 hz1 hz2
  have HF1 : Hid (∀ (W : World) (A : Option Addr) (c : Nat), Calls Tryd.prog 8 #[.slice A 9 c, .int .i64 0, .int .i64 9, .int .i64 0] W (FPost (List.replicate 9 0) 0 9 0 W)) := fun W A c => find_nil A (List.replicate 9 0) 9 c 0 9 W (by decide) (by decide) (by decide)
  have HF3 : Hid (∀ (W : World), Calls Tryd.prog 8 #[.slice none 0 0, .int .i64 0, .int .i64 1, .int .i64 0] W fun e w' => e = .returned (.tuple #[.slice none 0 0, .int .i64 0, .int .i64 1]) ∧ Below W.heap.size W w') := fun W => find_no none 0 0 0 1 0 W (.inr (.inr (.inl (by decide))))
  go_enter Tryd.func7, Tryd.ntmps7
  go_upto_region 2 with (first
    | (at_make; refine wpList_make_full _ rfl _ _ 22 rfl w.heap.size 5 i0 (.int .u8 0) 1 Tryd.underlying22 HI.out.1 HI.out.2.1 HI.out.2.2.1 .i64 .i64 _ _ 9 rfl rfl rfl rfl ?_ ?_ ?_ ?_)
    | fail)
  · rw [HI.out.2.2.2]; omega
  · unfold maxLen; omega
  · exact Nat.le_refl _
  intro w0 ho0 hg0
  have HB0 : Hid (Below w.heap.size w w0) := (Below.refl _ _).grown hg0 (Nat.le_refl _) (fun j hj => by cases hj)
  clear ho0 hg0
  go_upto_region 2 with (go_at_call 8; refine (HF1.out _ _ _).mono ?_; rintro e' w1 ⟨⟨v, L, b, rfl, q, hq, ho, hm, hl, _⟩, hB⟩; have hL := hl rfl; subst hL; obtain ⟨A1, n1, c1, rfl⟩ := ho.slice; have hn1 := ho.len; have HB1 := Lib.hid (HB0.out.trans (hB.mono HB0.out.size)); clear ho hB hl)
  have hq0 : 0 = q := hm
  subst hq0
  obtain rfl : b = 9 := by omega
  obtain rfl : n1 = 0 := by simpa using hn1.symm
  have HB2 : Hid (Below w.heap.size w (w1.alloc (.cells #[.int .u8 97, .int .u8 98, .int .u8 99, .int .u8 100, .int .u8 101, .int .u8 102, .int .u8 103, .int .u8 104, .int .u8 97, .int .u8 98, .int .u8 99, .int .u8 100, .int .u8 101, .int .u8 102, .int .u8 103, .int .u8 104] 5 (16, 17)))) := HB1.out.alloc HB1.out.size _
  have hD2 : Dat false (w1.alloc (.cells #[.int .u8 97, .int .u8 98, .int .u8 99, .int .u8 100, .int .u8 101, .int .u8 102, .int .u8 103, .int .u8 104, .int .u8 97, .int .u8 98, .int .u8 99, .int .u8 100, .int .u8 101, .int .u8 102, .int .u8 103, .int .u8 104] 5 (16, 17))) w1.heap.size (w1.heap.size + 1) (some ⟨w1.heap.size, 0, none⟩) abc := by
    rw [← abc_cells]
    exact dat_new w1 abc 5 (16, 17)
  have HF2 : Hid (Calls Tryd.prog 8 #[.slice (some ⟨w1.heap.size, 0, none⟩) 16 16, .int .i64 0, .int .i64 16, .int .i64 5] (w1.alloc (.cells #[.int .u8 97, .int .u8 98, .int .u8 99, .int .u8 100, .int .u8 101, .int .u8 102, .int .u8 103, .int .u8 104, .int .u8 97, .int .u8 98, .int .u8 99, .int .u8 100, .int .u8 101, .int .u8 102, .int .u8 103, .int .u8 104] 5 (16, 17))) (FPost abc 0 16 5 (w1.alloc (.cells #[.int .u8 97, .int .u8 98, .int .u8 99, .int .u8 100, .int .u8 101, .int .u8 102, .int .u8 103, .int .u8 104, .int .u8 97, .int .u8 98, .int .u8 99, .int .u8 100, .int .u8 101, .int .u8 102, .int .u8 103, .int .u8 104] 5 (16, 17))))) :=
    find_plan (n := 16) (c := 16) (HG.out.below HB2.out hw2) hD2 rfl (by decide) (by decide) (by simp) 0 16 5 (by decide) (by decide) (by decide) (by decide)
  have hcv := Lib.run_convert_bytes_const (P := Tryd.prog) w1 22 5 #[.int .u8 97, .int .u8 98, .int .u8 99, .int .u8 100, .int .u8 101, .int .u8 102, .int .u8 103, .int .u8 104, .int .u8 97, .int .u8 98, .int .u8 99, .int .u8 100, .int .u8 101, .int .u8 102, .int .u8 103, .int .u8 104] 16 16 Tryd.underlying22 Tryd.underlying5
  simp at hcv
  clear hm hn1 hD2
  go_upto_region 3 with (go_at_call 8; refine HF2.out.mono ?_; rintro e' w3 ⟨⟨v, L, b, rfl, q, hq2, ho, hm, hl, _⟩, hB⟩; obtain ⟨A3, n3, c3, rfl⟩ := ho.slice; have hn3 := ho.len; have HO3 := Lib.hid ho; have HM3 := Lib.hid hm; have HQ3 := Lib.hid hq2; have HB3 := Lib.hid (HB2.out.trans (hB.mono HB2.out.size)); have HN3 := Lib.hid hn3; clear ho hB hl hm hq2 hn3 HB2 HF2)
  have hs3 := HB3.out.size
  go_upto_region 4 with (go_at_call 8; refine (HF3.out _).mono ?_; rintro e' w4 ⟨rfl, hB⟩; have HO4 := Lib.hid (HO3.out.below hB (Nat.le_refl _)); have HB4 := Lib.hid (HB3.out.trans (hB.mono hs3)); clear hB)
  have HP : Hid (Calls Tryd.prog 9 #[.string ⟨#[97, 98, 99, 100, 101, 102, 103, 104, 97, 98, 99, 100, 101, 102, 103, 104]⟩, .int .i64 0, .int .i64 16, .slice A3 n3 c3, .int .i64 (b : Int)] w4 fun e w' => e = .returned (.bool true) ∧ ∃ z, w' = w4.drewN z) :=
    refPlan_any (w := w4) (n := 16) (fr := 0) (xs := abc) (HO4.out.dat mcells_len) HN3.out (by decide) (by decide) HM3.out HQ3.out (by decide)
  go_wp2_with (go_at_call 9; refine HP.out.mono ?_; rintro e' w5 ⟨rfl, z, rfl⟩)
  go_ret
  exact ⟨rfl, below_drewN HB4.out z⟩
end Go.Proofs.YtfaonmggiffemaaDoor
