
/- The document's example of layer 9 holds. -/
import Derived.Test.YtjpjbbbpmhcgnaaHufEnc4
namespace Go.Proofs.Ytjpjbbbpmhcgnaa
open Go.RowKit

theorem mayH211 : MayW 2 [2, 1, 1] := ⟨by decide, by decide, ⟨[2, 1], 1, rfl, by decide⟩, by decide, by decide, by decide, by decide⟩
theorem may11 : MayW 1 [1, 1] := ⟨by decide, by decide, ⟨[1], 1, rfl, by decide⟩, by decide, by decide, by decide, by decide⟩
theorem strm_13 : strm 1 [1, 1] [13] 3 = ([1, 0, 1], 0) := by decide +kernel

section
variable {w : World}
theorem row8 (W : World) (xs : List UInt8) (cs : Array Value) (h : cs = (xs.map cel).toArray) : Dat false (W.alloc (.cells cs 5)) W.heap.size (W.heap.size + 1) (some ⟨W.heap.size, 0, none⟩) xs := by
  subst h
  intro _
  refine ⟨W.heap.size, 0, rfl, Nat.le_refl _, by omega, fun j hj => ?_, fun q => by cases q⟩
  have h1 := (Box.new W 5 (xs.map cel).toArray).cell (0 + j)
  rw [h1]
  simp [List.getD, hj]
/-- Two rows beside each other. -/
theorem rows8 (W : World) (xs ys : List UInt8) (cs ds : Array Value) (h : cs = (xs.map cel).toArray) (h2 : ds = (ys.map cel).toArray) :
    Dat false ((W.alloc (.cells cs 5)).alloc (.cells ds 5)) W.heap.size (W.heap.size + 1) (some ⟨W.heap.size, 0, none⟩) xs ∧
    Dat false ((W.alloc (.cells cs 5)).alloc (.cells ds 5)) (W.heap.size + 1) (W.heap.size + 2) (some ⟨W.heap.size + 1, 0, none⟩) ys ∧
    ((W.alloc (.cells cs 5)).alloc (.cells ds 5)).heap.size = W.heap.size + 2 ∧ Below W.heap.size W ((W.alloc (.cells cs 5)).alloc (.cells ds 5)) := by
  have h2 := row8 (W.alloc (.cells cs 5)) ys ds h2
  rw [World.size_alloc] at h2
  exact ⟨(row8 W xs cs h).alloc (by rw [World.size_alloc]; exact Nat.le_refl _) _, h2, by simp, ((Below.refl _ _).alloc (Nat.le_refl _) _).alloc (by simp) _⟩
theorem aw1 (W : World) : Calls Try.prog 10 #[.slice (some ⟨W.heap.size, 0, none⟩) 2 2, .slice (some ⟨W.heap.size + 1, 0, none⟩) 1 1, .int .i64 3] ((W.alloc (.cells #[.int .u8 1, .int .u8 1] 5)).alloc (.cells #[.int .u8 13] 5)) fun e w' =>
    ∃ A c, e = .returned (.tuple #[.slice A 3 c, .int .i64 0]) ∧ Dat false w' W.heap.size w'.heap.size A [1, 0, 1] ∧ Below W.heap.size W w' := by
  obtain ⟨h1, h2, hz, hB⟩ := rows8 W [1, 1] [13] #[.int .u8 1, .int .u8 1] #[.int .u8 13] rfl rfl
  refine (hufDecode_any (c := 2) (c2 := 1) 3 h1 rfl (by decide) (by omega) h2 rfl (by decide) (by omega)).mono ?_
  rintro e w' ⟨r, ⟨d, hM, hk, rfl⟩ | ⟨hno, -⟩, hB', A, c, rfl, -, hD⟩
  · obtain rfl : d = 1 := may_uni hM may11
    rw [show strm 1 (nat [1, 1]) [13] (3 : Int).toNat = ([1, 0, 1], 0) from strm_13] at *
    exact ⟨A, c, rfl, hD.mono (by omega) (Nat.le_refl _), hB.trans (hB'.mono (by omega))⟩
  · exact absurd (show CountOk 3 by unfold CountOk; omega) (hno 1 may11)
/-- What is written. -/
theorem aw2 (W : World) : Calls Try.prog 14 #[.slice (some ⟨W.heap.size, 0, none⟩) 3 3, .slice (some ⟨W.heap.size + 1, 0, none⟩) 4 4] ((W.alloc (.cells #[.int .u8 2, .int .u8 1, .int .u8 1] 5)).alloc (.cells #[.int .u8 0, .int .u8 1, .int .u8 2, .int .u8 0] 5)) fun e w' =>
    ∃ A n c, e = .returned (.tuple #[.slice A n c, .int .i64 0]) ∧ (encS 2 [2, 1, 1] [0, 1, 2, 0]).length = n ∧ Dat true w' W.heap.size w'.heap.size A (encS 2 [2, 1, 1] [0, 1, 2, 0]) ∧ Below W.heap.size W w' := by
  obtain ⟨h1, h2, hz, hB⟩ := rows8 W [2, 1, 1] [0, 1, 2, 0] #[.int .u8 2, .int .u8 1, .int .u8 1] #[.int .u8 0, .int .u8 1, .int .u8 2, .int .u8 0] rfl rfl
  refine (hufEncode_any (c := 3) (c2 := 4) h1 rfl (by decide) (by omega) h2 rfl (by decide) (by omega)).mono ?_
  rintro e w' ⟨r, ⟨d, hM, hk, hC, rfl⟩ | ⟨hno, -⟩, hB', v, rfl, hO⟩
  · obtain rfl : d = 2 := may_uni hM mayH211
    have hO' : OwB w' 5 _ v (encS 2 [2, 1, 1] [0, 1, 2, 0]) := hO
    obtain ⟨A, c, rfl, -, hD⟩ := hO'.form
    exact ⟨A, _, c, rfl, rfl, hD.mono (by omega) (Nat.le_refl _), hB.trans (hB'.mono (by omega))⟩
  · exact absurd (show Coded (nat [2, 1, 1]) (nat [0, 1, 2, 0]) by unfold Coded; decide) (hno 2 mayH211 (by unfold CountOk; simp))
theorem aw3 (W : World) {lo n c : Nat} {A : Option Addr} (hn : (encS 2 [2, 1, 1] [0, 1, 2, 0]).length = n) (hd : Dat true W lo W.heap.size A (encS 2 [2, 1, 1] [0, 1, 2, 0])) : Calls Try.prog 10 #[.slice (some ⟨W.heap.size, 0, none⟩) 3 3, .slice A n c, .int .i64 4] (W.alloc (.cells #[.int .u8 2, .int .u8 1, .int .u8 1] 5)) fun e w' =>
    ∃ A c, e = .returned (.tuple #[.slice A 4 c, .int .i64 0]) ∧ Dat false w' W.heap.size w'.heap.size A [0, 1, 2, 0] ∧ Below W.heap.size W w' := by
  have h1 := row8 W [2, 1, 1] #[.int .u8 2, .int .u8 1, .int .u8 1] rfl
  have hB : Below W.heap.size W (W.alloc (.cells #[.int .u8 2, .int .u8 1, .int .u8 1] 5)) := (Below.refl _ _).alloc (Nat.le_refl _) _
  have hnl : n ≤ 1000 := by rw [← hn, encS_len]; have := encB_len mayH211 [0, 1, 2, 0]; simp at this; omega
  refine (hufDecode_any (c := 3) (c2 := c) 4 h1 rfl (by decide) (by simp) (hd.below hB (Nat.le_refl _)) hn (by omega) (by simp)).mono ?_
  rintro e w' ⟨r, ⟨d, hM, hk, rfl⟩ | ⟨hno, -⟩, hB', A, c, rfl, -, hD⟩
  · obtain rfl : d = 2 := may_uni hM mayH211
    have he : strm 2 (nat [2, 1, 1]) (encS 2 [2, 1, 1] [0, 1, 2, 0]) (4 : Int).toNat = ([0, 1, 2, 0], 0) := strm_enc mayH211 [0, 1, 2, 0] (by unfold Coded; decide)
    rw [he] at *
    exact ⟨A, c, rfl, hD.mono (by simp) (Nat.le_refl _), hB.trans (hB'.mono (by simp))⟩
  · exact absurd (show CountOk 4 by unfold CountOk; omega) (hno 2 mayH211)
theorem aw4 (W : World) : Calls Try.prog 17 #[.slice (some ⟨W.heap.size, 0, none⟩) 2 2, .slice (some ⟨W.heap.size + 1, 0, none⟩) 4 4] ((W.alloc (.cells #[.int .u8 1, .int .u8 1] 5)).alloc (.cells #[.int .u8 1, .int .u8 0, .int .u8 1, .int .u8 0] 5)) fun e w' =>
    ∃ A n c, e = .returned (.tuple #[.slice A n c, .int .i64 0]) ∧ (joinF (encF 1 [1, 1] [1, 0, 1, 0])).length = n ∧ n ≤ 1000 ∧ Dat true w' W.heap.size w'.heap.size A (joinF (encF 1 [1, 1] [1, 0, 1, 0])) ∧ Below W.heap.size W w' := by
  obtain ⟨h1, h2, hz, hB⟩ := rows8 W [1, 1] [1, 0, 1, 0] #[.int .u8 1, .int .u8 1] #[.int .u8 1, .int .u8 0, .int .u8 1, .int .u8 0] rfl rfl
  refine (hufEncode4_any (c := 2) (c2 := 4) h1 rfl (by decide) (by omega) h2 rfl (by decide) (by decide) (by omega)).mono ?_
  rintro e w' ⟨r, ⟨d, hM, hk, hC, h3, rfl⟩ | ⟨hno, -⟩, hB', v, rfl, hO⟩
  · obtain rfl : d = 1 := may_uni hM may11
    have hO' : OwB w' 5 _ v (joinF (encF 1 [1, 1] [1, 0, 1, 0])) := hO
    obtain ⟨A, c, rfl, -, hD⟩ := hO'.form
    refine ⟨A, _, c, rfl, rfl, ?_, hD.mono (by omega) (Nat.le_refl _), hB.trans (hB'.mono (by omega))⟩
    rw [joinF_len]
    have e0 := encF_le (ls := [1, 0, 1, 0]) may11 0
    have e1 := encF_le (ls := [1, 0, 1, 0]) may11 1
    have e2 := encF_le (ls := [1, 0, 1, 0]) may11 2
    have e3 := encF_le (ls := [1, 0, 1, 0]) may11 3
    simp only [sumN, List.length_cons, List.length_nil] at *
    omega
  · exact absurd (hno 1 may11 (by unfold CountOk; simp) (by unfold Coded; decide)) (by decide)
theorem aw5 (W : World) {lo n c : Nat} {A : Option Addr} (hn : (joinF (encF 1 [1, 1] [1, 0, 1, 0])).length = n) (hnl : n ≤ 1000) (hd : Dat true W lo W.heap.size A (joinF (encF 1 [1, 1] [1, 0, 1, 0]))) : Calls Try.prog 12 #[.slice (some ⟨W.heap.size, 0, none⟩) 2 2, .slice A n c, .int .i64 4] (W.alloc (.cells #[.int .u8 1, .int .u8 1] 5)) fun e w' =>
    ∃ A c, e = .returned (.tuple #[.slice A 4 c, .int .i64 0]) ∧ Dat false w' W.heap.size w'.heap.size A [1, 0, 1, 0] ∧ Below W.heap.size W w' := by
  have h1 := row8 W [1, 1] #[.int .u8 1, .int .u8 1] rfl
  have hB : Below W.heap.size W (W.alloc (.cells #[.int .u8 1, .int .u8 1] 5)) := (Below.refl _ _).alloc (Nat.le_refl _) _
  refine (hufDecode4_any (c := 2) (c2 := c) 4 h1 rfl (by decide) (by simp) (hd.below hB (Nat.le_refl _)) hn (by omega) (by simp)).mono ?_
  rintro e w' ⟨r, ⟨d, hM, hk, rfl⟩ | ⟨hno, -⟩, hB', A, c, rfl, -, hD⟩
  · obtain rfl : d = 1 := may_uni hM may11
    have he : four 1 (nat [1, 1]) (joinF (encF 1 [1, 1] [1, 0, 1, 0])) (4 : Int).toNat = ([1, 0, 1, 0], 0) := four_join (ls := [1, 0, 1, 0]) may11 (by unfold Coded; decide) (by decide) (by decide)
    rw [he] at *
    exact ⟨A, c, rfl, hD.mono (by simp) (Nat.le_refl _), hB.trans (hB'.mono (by simp))⟩
  · exact absurd (show CountOk 4 by unfold CountOk; omega) (hno 1 may11)

set_option maxRecDepth 100000 in
set_option maxHeartbeats 1000000 in
theorem huf_awake (w : World) :
    Calls Try.prog 9 #[] w fun e w' => e = .returned (.bool true) ∧ Below w.heap.size w w' := by
  go_enter Try.func9, Try.ntmps9
  go_wp2_with fail
  refine (aw1 w).mono ?_
  rintro _ w1 ⟨A1, c1, rfl, hD1, hB1⟩
  have s1 := hB1.size
  have H1 := Lib.hid (And.intro hD1 hB1)
  clear hD1 hB1
  go_wp2_with fail
  refine (aw2 w1).mono ?_
  rintro _ w2 ⟨A2, n2, c2, rfl, hn2, hD2, hB2⟩
  have s2 := hB2.size
  have H2 := Lib.hid (And.intro hn2 (And.intro hD2 hB2))
  clear hn2 hD2 hB2
  go_wp2_with fail
  refine (aw3 w2 H2.out.1 H2.out.2.1).mono ?_
  rintro _ w3 ⟨A3, c3, rfl, hD3, hB3⟩
  have s3 := hB3.size
  have H3 := Lib.hid (And.intro hD3 hB3)
  clear hD3 hB3
  go_wp2_with fail
  refine (aw4 w3).mono ?_
  rintro _ w4 ⟨A4, n4, c4, rfl, hn4, hl4, hD4, hB4⟩
  have s4 := hB4.size
  have H4 := Lib.hid (And.intro hn4 (And.intro hD4 hB4))
  clear hn4 hD4 hB4
  go_wp2_with fail
  refine (aw5 w4 H4.out.1 hl4 H4.out.2.1).mono ?_
  rintro _ w5 ⟨A5, c5, rfl, hD5, hB5⟩
  have s5 := hB5.size
  have b45 := hB5
  have b35 : Below w3.heap.size w3 w5 := H4.out.2.2.trans (hB5.mono s4)
  have b25 : Below w2.heap.size w2 w5 := H3.out.2.trans (b35.mono s3)
  have b15 : Below w1.heap.size w1 w5 := H2.out.2.2.trans (b25.mono s2)
  have b05 : Below w.heap.size w w5 := H1.out.2.trans (b15.mono s1)
  have k1 := run_str (P := Try.prog) w5 22 Try.underlying22 Try.underlying5 (c := c1) (m := 3) (H1.out.1.below b15 (Nat.le_refl _)) rfl 9 Try.underlying9
  have k3 := run_str (P := Try.prog) w5 22 Try.underlying22 Try.underlying5 (c := c3) (m := 4) (H3.out.1.below b35 (Nat.le_refl _)) rfl 9 Try.underlying9
  have k5 := run_str (P := Try.prog) w5 22 Try.underlying22 Try.underlying5 (c := c5) (m := 4) hD5 rfl 9 Try.underlying9
  rw [show str [1, 0, 1] = { data := #[1, 0, 1] } from rfl] at k1
  rw [show str [0, 1, 2, 0] = { data := #[0, 1, 2, 0] } from rfl] at k3
  rw [show str [1, 0, 1, 0] = { data := #[1, 0, 1, 0] } from rfl] at k5
  have HB := Lib.hid b05
  clear b45 b35 b25 b15 b05 hB5 hD5
  go_wp2_with fail
  go_ret
  exact ⟨rfl, HB.out⟩
end
end Go.Proofs.Ytjpjbbbpmhcgnaa
