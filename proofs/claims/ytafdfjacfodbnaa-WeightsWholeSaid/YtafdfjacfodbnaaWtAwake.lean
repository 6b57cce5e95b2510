
/- The document's example of layer 8 holds. -/
import Derived.Test.YtafdfjacfodbnaaWtRead
import Derived.Test.YtafdfjacfodbnaaWtCodes
import Derived.Test.YtafdfjacfodbnaaWtOf
import Derived.Test.YtafdfjacfodbnaaPileC
namespace Go.Proofs.Ytafdfjacfodbnaa
open Go.RowKit

theorem may211 : MayW 2 [2, 1, 1] := ⟨by decide, by decide, ⟨[2, 1], 1, rfl, by decide⟩, by decide, by decide, by decide, by decide⟩
theorem ok1 : WholeOk [1] 0 := ⟨by decide, by decide, by decide, by decide, 1, by decide, by decide, by decide, by decide⟩
theorem ok21 : WholeOk [2, 1] 0 := ⟨by decide, by decide, by decide, by decide, 2, by decide, by decide, by decide, by decide⟩

section
variable {w : World}
theorem aw_whole (W : World) : Calls Try.prog 11 #[.slice (some ⟨W.heap.size, 0, none⟩) 1 1] (W.alloc (.cells #[.int .u8 1] 5)) fun e w' =>
    ∃ d c, e = .returned (.tuple #[.slice (some ⟨d, 0, none⟩) 2 c, .int .i64 0]) ∧ W.heap.size ≤ d ∧ d < w'.heap.size ∧ w'.cell? ⟨d, 1, none⟩ = some (.int .u8 1) ∧ Below W.heap.size W w' := by
  have hd := (datE_row u8cel W [1] 5 #[.int .u8 1] rfl).bytes (by decide)
  have hB0 : Below W.heap.size W (W.alloc (.cells #[.int .u8 1] 5)) := (Below.refl _ _).alloc (Nat.le_refl _) _
  refine (whole_any (c := 1) hd rfl (by decide) (by rw [World.size_alloc]; exact Nat.le_refl _)).mono ?_
  rintro e w' ⟨hB, ⟨k, v, hk, rfl, hO⟩ | ⟨hno, -⟩⟩
  · obtain rfl : k = 0 := whole_uni hk ok1
    obtain ⟨A, c, rfl, -, hD⟩ := hO.form
    obtain ⟨d, o, rfl, h1, h2, hc, -⟩ := hD (by decide)
    have ho : o = 0 := by
      rcases hO.2 with ⟨e, _⟩ | ⟨g, cap, cur, e, _⟩
      · cases e
      · injection e with e
        injection e with e
        injection e
    subst ho
    exact ⟨d, c, rfl, Nat.le_trans (by rw [World.size_alloc]; omega) h1, h2, hc 1 (by decide), hB0.trans (hB.mono (by rw [World.size_alloc]; omega))⟩
  · exact absurd ok1 (hno 0)
theorem aw_codes (W : World) : Calls Try.prog 13 #[.slice (some ⟨W.heap.size, 0, none⟩) 3 3] (W.alloc (.cells #[.int .u8 2, .int .u8 1, .int .u8 1] 5)) fun e w' =>
    ∃ d c, e = .returned (.tuple #[.slice (some ⟨d, 0, none⟩) 3 c, .int .i64 0]) ∧ W.heap.size ≤ d ∧ d < w'.heap.size ∧ w'.cell? ⟨d, 0, none⟩ = some (.int .i64 1) ∧ w'.cell? ⟨d, 1, none⟩ = some (.int .i64 1) ∧ w'.cell? ⟨d, 5, none⟩ = some (.int .i64 1) ∧ Below W.heap.size W w' := by
  have hd := datE_row u8cel W [2, 1, 1] 5 #[.int .u8 2, .int .u8 1, .int .u8 1] rfl
  have hB0 : Below W.heap.size W (W.alloc (.cells #[.int .u8 2, .int .u8 1, .int .u8 1] 5)) := (Below.refl _ _).alloc (Nat.le_refl _) _
  refine (codes_any (c := 3) hd rfl (by decide) (by decide) (by rw [World.size_alloc]; exact Nat.le_refl _)).mono ?_
  rintro e w' ⟨hB, ⟨d, v, hM, rfl, hO⟩ | ⟨hno, -⟩⟩
  · obtain rfl : d = 2 := may_depth hM (by decide)
    obtain ⟨g, c, rfl, h1, h2, -⟩ := hO.place (by decide)
    have a0 := (hO.cellAt ccell_len 0 0 (by decide) (by decide) _ rfl).1
    have a1 := (hO.cellAt ccell_len 0 1 (by decide) (by decide) _ rfl).1
    have a5 := (hO.cellAt ccell_len 2 1 (by decide) (by decide) _ rfl).1
    exact ⟨g, c, rfl, Nat.le_trans (by rw [World.size_alloc]; omega) h1, h2, a0, a1, a5, hB0.trans (hB.mono (by rw [World.size_alloc]; omega))⟩
  · exact absurd may211 (hno 2)
theorem aw_write (W : World) : Calls Try.prog 17 #[.slice (some ⟨W.heap.size, 0, none⟩) 3 3] (W.alloc (.cells #[.int .u8 2, .int .u8 1, .int .u8 1] 5)) fun e w' =>
    ∃ d c, e = .returned (.tuple #[.slice (some ⟨d, 0, none⟩) 2 c, .int .i64 0]) ∧ OwE u8cel w' 5 W.heap.size (.slice (some ⟨d, 0, none⟩) 2 c) [129, 33] ∧ Below W.heap.size W w' := by
  have hd := datE_row u8cel W [2, 1, 1] 5 #[.int .u8 2, .int .u8 1, .int .u8 1] rfl
  have hB0 : Below W.heap.size W (W.alloc (.cells #[.int .u8 2, .int .u8 1, .int .u8 1] 5)) := (Below.refl _ _).alloc (Nat.le_refl _) _
  refine (writeW_any (c := 3) hd rfl (by decide) (by decide) (by rw [World.size_alloc]; exact Nat.le_refl _) (by decide)).mono ?_
  rintro e w' ⟨hB, ⟨hno, -⟩ | ⟨d, hM, ⟨hbig, -⟩ | ⟨-, v, rfl, hO⟩⟩⟩
  · exact absurd may211 (hno 2)
  · exact absurd hbig (by decide)
  · have hO' : OwE u8cel w' 5 W.heap.size v [129, 33] := hO.mono (by rw [World.size_alloc]; omega)
    obtain ⟨g, c, rfl, h1, h2⟩ := hO'.place (by decide)
    exact ⟨g, c, rfl, hO', hB0.trans (hB.mono (by rw [World.size_alloc]; omega))⟩
theorem aw_read (W : World) {base d c : Nat} (h : OwE u8cel W 5 base (.slice (some ⟨d, 0, none⟩) 2 c) [129, 33]) : Calls Try.prog 15 #[.slice (some ⟨d, 0, none⟩) 2 c] W fun e w' =>
    ∃ d' c', e = .returned (.tuple #[.slice (some ⟨d', 0, none⟩) 3 c', .int .i64 2, .int .i64 0]) ∧ OwB w' 5 W.heap.size (.slice (some ⟨d', 0, none⟩) 3 c') [2, 1, 1] ∧ Below W.heap.size W w' := by
  obtain ⟨A, c', hv, hc, hD⟩ := h.form
  injection hv with e1 e2 e3
  subst e1 e3
  have hDb := hD.bytes (by decide)
  refine (readW_any (h := 129) (b0 := 129) (bs := [33]) (ok := okPlain 129 [33]) (bad := fun _ => False) hDb rfl (by decide) hc rfl ?_).mono ?_
  · intro A' c'' W' hB _ hcc hD'
    have hn := hD'.nats
    exact toldPlain_any (k := 1) hn rfl (by decide) (by decide) (by decide) (by decide) hB.size
  · rintro e w' ⟨hB, ⟨hlt, -⟩ | ⟨-, ⟨er, hf, -⟩ | ⟨l, hl, ⟨k, v, hk, rfl, hO⟩ | ⟨hno, -⟩⟩⟩⟩
    · exact absurd hlt (by decide)
    · cases hf
    · have hl : l = [2, 1] := hl
      subst hl
      obtain rfl : k = 0 := whole_uni hk ok21
      have hO' : OwB w' 5 W.heap.size v [2, 1, 1] := hO
      obtain ⟨A2, c2, rfl, -, hD2⟩ := hO'.form
      obtain ⟨d2, o2, rfl, -⟩ := hD2 (by decide)
      have ho : o2 = 0 := by
        rcases hO'.2 with ⟨e, _⟩ | ⟨g, cap, cur, e, _⟩
        · cases e
        · injection e with e
          injection e with e
          injection e
      subst ho
      exact ⟨d2, c2, rfl, hO', hB⟩
    · have hl : l = [2, 1] := hl
      subst hl
      exact absurd ok21 (hno 0)
theorem aw_of (W : World) : Calls Try.prog 19 #[.slice (some ⟨W.heap.size, 0, none⟩) 3 3] (W.alloc (.cells #[.int .u32 9, .int .u32 0, .int .u32 1] 45)) fun e w' =>
    ∃ A c, e = .returned (.tuple #[.slice A 3 c, .int .i64 0]) ∧ Below W.heap.size W w' := by
  have hd := datE_row ucel W [9, 0, 1] 45 #[.int .u32 9, .int .u32 0, .int .u32 1] rfl
  have hB0 : Below W.heap.size W (W.alloc (.cells #[.int .u32 9, .int .u32 0, .int .u32 1] 45)) := (Below.refl _ _).alloc (Nat.le_refl _) _
  refine (ofW_any (c := 3) hd rfl (by decide) (by decide) (by rw [World.size_alloc]; exact Nat.le_refl _) (by decide)).mono ?_
  rintro e w' (⟨hbad, -⟩ | ⟨-, v, D, L, rfl, hO, hM, hLl, hLp, hB⟩)
  · exact absurd hbad (by decide)
  · obtain ⟨A, c, rfl, -⟩ := hO.form
    have : L.length = 3 := by rw [hLl]; decide
    rw [this]
    exact ⟨A, c, rfl, hB0.trans (hB.mono (by rw [World.size_alloc]; omega))⟩

set_option maxRecDepth 100000 in
set_option maxHeartbeats 1000000 in
theorem wts_awake (w : World) :
    Calls Try.prog 10 #[] w fun e w' => e = .returned (.bool true) ∧ Below w.heap.size w w' := by
  go_enter Try.func10, Try.ntmps10
  go_wp2_with fail
  refine (aw_whole w).mono ?_
  rintro _ w1 ⟨d1, c1, rfl, q1, q1', k1, hB1⟩
  have H1 := Lib.hid (And.intro k1 hB1)
  have s1 := hB1.size
  clear k1 hB1
  go_wp2_with fail
  refine (aw_codes w1).mono ?_
  rintro _ w2 ⟨d2, c2, rfl, q2, q2', k20, k21, k25, hB2⟩
  have s2 := hB2.size
  have H2 := Lib.hid (And.intro k20 (And.intro k21 (And.intro k25 hB2)))
  clear k20 k21 k25 hB2
  go_wp2_with fail
  refine (aw_write w2).mono ?_
  rintro _ w3 ⟨d3, c3, rfl, hO3, hB3⟩
  have s3 := hB3.size
  have H3 := Lib.hid (And.intro hO3 hB3)
  have HR := Lib.hid (aw_read w3 hO3)
  clear hO3 hB3
  go_wp2_with fail
  refine HR.out.mono ?_
  rintro _ w4 ⟨d4, c4, rfl, hO4, hB4⟩
  have s4 := hB4.size
  have H4 := Lib.hid (And.intro hO4 hB4)
  clear hO4 hB4 HR
  go_wp2_with fail
  refine (aw_of w4).mono ?_
  rintro _ w5 ⟨A5, c5, rfl, hB5⟩
  have s5 := hB5.size
  have b45 := hB5
  have b35 : Below w3.heap.size w3 w5 := H4.out.2.trans (hB5.mono s4)
  have b25 : Below w2.heap.size w2 w5 := H3.out.2.trans (b35.mono s3)
  have b15 : Below w1.heap.size w1 w5 := H2.out.2.2.2.trans (b25.mono s2)
  have b05 : Below w.heap.size w w5 := H1.out.2.trans (b15.mono s1)
  have k1 := (World.cell?_of_block (a := ⟨d1, 1, none⟩) (b15.block d1 q1')).trans H1.out.1
  have k20 := (World.cell?_of_block (a := ⟨d2, 0, none⟩) (b25.block d2 q2')).trans H2.out.1
  have k21 := (World.cell?_of_block (a := ⟨d2, 1, none⟩) (b25.block d2 q2')).trans H2.out.2.1
  have k25 := (World.cell?_of_block (a := ⟨d2, 5, none⟩) (b25.block d2 q2')).trans H2.out.2.2.1
  have hO5 : OwB w5 5 w3.heap.size (.slice (some ⟨d4, 0, none⟩) 3 c4) [2, 1, 1] := World.ownsRow.kept H4.out.1 (row := none) ⟨b45.os, b45.tape, b45.output, b45.size, fun k hk _ => b45.block k hk⟩ (.inr (by simp [Value.ownBlock]))
  obtain ⟨A6, c6, hv6, -, hD6⟩ := hO5.form
  injection hv6 with e1 e2 e3
  subst e1
  subst e3
  clear e2
  have hcv := run_str (P := Try.prog) w5 22 Try.underlying22 Try.underlying5 (c := c4) (m := 3) hD6 rfl 9 Try.underlying9
  have hst : str [2, 1, 1] = { data := #[2, 1, 1] } := rfl
  rw [hst] at hcv
  have HB := Lib.hid b05
  clear b45 b35 b25 b15 b05 hB5 hO5 hD6 hst
  go_wp2_with fail
  go_ret
  exact ⟨rfl, HB.out⟩
end
end Go.Proofs.Ytafdfjacfodbnaa
