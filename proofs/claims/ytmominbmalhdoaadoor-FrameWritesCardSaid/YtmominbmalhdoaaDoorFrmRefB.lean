
/- The contracts of the document's ReadBlock and Write. -/
import Derived.Test.YtmominbmalhdoaaDoorFrmRef
import Derived.Test.YtmominbmalhdoaaDoorFrmWrite
namespace Go.Proofs.YtmominbmalhdoaaDoor
open Go.RowKit

theorem str_app (a b : List UInt8) : str (a ++ b) = str a ++ str b := by
  apply ByteArray.ext
  simp [str]

set_option maxRecDepth 100000 in
set_option maxHeartbeats 1000000 in
theorem refBlock_any (xs : List UInt8) (w : World) :
    Calls Tryd.prog 14 #[.string (str xs)] w fun e w' => e = .returned (ansB (blk xs)) ∧ Below w.heap.size w w' := by
  have hN := Lib.hid (fun W => refNum_any (xs, 0) 3 (by decide) (by decide) W)
  have HZ : Hid (blk xs = if (rdn (xs, 0) 3).1.2 ≠ 0 then ((false, 0, 0), (rdn (xs, 0) 3).1.2) else if (rdn (xs, 0) 3).2 / 2 % 4 = 3 then ((false, 0, 0), 11) else ((decide ((rdn (xs, 0) 3).2 % 2 = 1), (rdn (xs, 0) 3).2 / 2 % 4, (rdn (xs, 0) 3).2 / 8), 0)) := by
    unfold Hid blk
    by_cases h : xs.length < 3
    · rw [rdn_short (by decide) h, if_pos h]
      rfl
    · rw [rdn_ok (by omega), if_neg h]
      rfl
  have hlt := rdn_lt (xs, 0) 3
  have hx24 : (rdn (xs, 0) 3).2 < 16777216 := hlt
  clear hlt
  generalize rdn (xs, 0) 3 = T at *
  obtain ⟨⟨ys2, e2⟩, x⟩ := T
  dsimp only at *
  generalize str xs = S at *
  go_enter Tryd.func14, Tryd.ntmps14
  go_upto_region 2 with (go_at_call 24; refine (hN.out _).mono ?_; rintro e' W1 ⟨rfl, hB⟩; have HB := Lib.hid hB; clear hB)
  have hs := HB.out.size
  simp only [World.size_alloc] at hs
  have hx1 : Box W1 w.heap.size 41 #[.bool false, .int .i64 0, .int .i64 0] := (Box.new w _ _).below HB.out (by simp only [World.size_alloc]; omega)
  have hb1 : Below w.heap.size w W1 := ((Below.refl w.heap.size w).alloc (Nat.le_refl _) _).trans (HB.out.mono (by simp only [World.size_alloc]; omega))
  have HX := Lib.hid (hx1.alloc (.cells #[.string (str ys2), .int .i64 e2] 65))
  have HB2 : Hid (Below w.heap.size w (W1.alloc (.cells #[.string (str ys2), .int .i64 e2] 65))) := hb1.alloc (by omega) _
  have HA : Hid (Box (W1.alloc (.cells #[.string (str ys2), .int .i64 e2] 65)) W1.heap.size 65 #[.string (str ys2), .int .i64 e2]) := Box.new _ _ _
  have hpa : w.heap.size ≠ W1.heap.size := by omega
  clear HB hx1 hb1 hN hs
  generalize W1.alloc (.cells #[.string (str ys2), .int .i64 e2] 65) = W2 at *
  generalize W1.heap.size = a at *
  generalize hp : w.heap.size = p at *
  have c0 := HX.out.cell 0
  have c1 := HX.out.cell 1
  have c2 := HX.out.cell 2
  have a1 := HA.out.cell 1
  simp at c0 c1 c2 a1
  have f0 := HX.out.free 0
  have f1 := HX.out.free 1
  have f2 := HX.out.free 2
  by_cases he : e2 = 0
  · subst he
    have hz : Hid (blk xs = if x / 2 % 4 = 3 then ((false, 0, 0), 11) else ((decide (x % 2 = 1), x / 2 % 4, x / 8), 0)) := by have := HZ.out; rwa [if_neg (by simp)] at this
    clear HZ
    obtain ⟨h2, hh2⟩ : ∃ h2, h2 = x / 2 := ⟨_, rfl⟩
    rw [← hh2] at hz
    obtain ⟨kd, hkd⟩ : ∃ kd, kd = h2 % 4 := ⟨_, rfl⟩
    obtain ⟨sz, hszz⟩ : ∃ h2, h2 = x / 8 := ⟨_, rfl⟩
    obtain ⟨x2, hx2'⟩ : ∃ x2, x2 = x % 2 := ⟨_, rfl⟩
    have hx2 : (x : Int) / 2 = (h2 : Int) := by omega
    have hx8 : (x : Int) / 8 = (sz : Int) := by omega
    have hxm : (x : Int) % 2 = (x2 : Int) := by omega
    have hhm : (h2 : Int) % 4 = (kd : Int) := by omega
    rw [← hkd, ← hszz, ← hx2'] at hz
    have hki : kd < 4 := by omega
    have hszl : sz < 16777216 := by omega
    have hx22 : x2 < 2 := by omega
    obtain ⟨lb, hlb⟩ : ∃ b, b = decide (x2 = 1) := ⟨_, rfl⟩
    rw [← hlb] at hz
    have hlb2 : ((x2 : Int) == 1) = lb := by
      rw [hlb]
      obtain h | h : x2 = 0 ∨ x2 = 1 := by omega
      · subst h; rfl
      · subst h; rfl
    clear hkd hh2 hszz hx2' hlb
    by_cases h3 : kd = 3
    · subst h3
      have hz' : Hid (blk xs = ((false, 0, 0), 11)) := hz.out
      go_wp2_with fail
      exact bodyPost_ret (v := ansB ((false, 0, 0), 11)) (by simp [results, Tryd.results14, go_sem, ansB, bv, *]) rfl ⟨by rw [hz'.out], by (try rw [hp]); repeat (first | exact HB2.out | refine Below.setCell ?_ (by simp) _)⟩
    · have hz' : Hid (blk xs = ((lb, kd, sz), 0)) := by have := hz.out; rwa [if_neg h3] at this
      have h3b : ((kd : Int) == 3) = false := by simp; omega
      go_wp2_with fail
      exact bodyPost_ret (v := ansB ((lb, kd, sz), 0)) (by simp [results, Tryd.results14, go_sem, ansB, bv, *]) rfl ⟨by rw [hz'.out], by (try rw [hp]); repeat (first | exact HB2.out | refine Below.setCell ?_ (by simp) _)⟩
  · have hz : Hid (blk xs = ((false, 0, 0), e2)) := by have := HZ.out; rwa [if_pos (by simpa using he)] at this
    have heb : (e2 != 0) = true := by simpa using he
    clear HZ
    go_upto_region 3 with fail
    go_region_held3 (fun w' => w'.cell? ⟨a, 1, none⟩ = some (.int .i64 e2)) (first | exact a1 | go_keep) (fail)
    have hbx : Box (((W2.setCell ⟨p, 0, none⟩ (.bool false)).setCell ⟨p, 1, none⟩ (.int .i64 0)).setCell ⟨p, 2, none⟩ (.int .i64 0)).drew p 41 #[.bool false, .int .i64 0, .int .i64 0] := ((HX.out.put 0 _).put 1 _).put 2 _
    have hbe : Below p w (((W2.setCell ⟨p, 0, none⟩ (.bool false)).setCell ⟨p, 1, none⟩ (.int .i64 0)).setCell ⟨p, 2, none⟩ (.int .i64 0)).drew := Below.drew (Below.setCell (Below.setCell (Below.setCell HB2.out (Nat.le_refl _) _) (Nat.le_refl _) _) (Nat.le_refl _) _)
    have HBe := Lib.hid hbe
    have HBx := Lib.hid hbx
    clear hbe hbx
    generalize (((W2.setCell ⟨p, 0, none⟩ (.bool false)).setCell ⟨p, 1, none⟩ (.int .i64 0)).setCell ⟨p, 2, none⟩ (.int .i64 0)).drew = WE at *
    have v0 := HBx.out.cell 0
    have v1 := HBx.out.cell 1
    have v2 := HBx.out.cell 2
    simp at v0 v1 v2
    go_wp2_with fail
    exact bodyPost_ret (v := ansB ((false, 0, 0), e2)) (by simp [results, Tryd.results14, go_sem, ansB, bv, *]) rfl ⟨by rw [hz.out], by (try rw [hp]); exact HBe.out⟩

theorem OwS (x : Nat) (hx : x < 18446744073709551616) (m : Nat) (hm : m ≤ 8) (h1 : 1 ≤ m) (w : World) :
    Calls Tryd.prog 16 #[.int .u64 (x : Int), .int .i64 (m : Int)] w fun e w' => e = .returned (.string (str (put x m))) ∧ Below w.heap.size w w' := by
  have h := put_any x (m : Int) w hx
  have he : putw x (m : Int) = put x m := by unfold putw wid; rw [if_pos (by simp; omega)]; rfl
  rwa [he] at h

set_option maxRecDepth 100000 in
set_option maxHeartbeats 1000000 in
theorem refWrite15_any (x : Nat) (sum : Bool) (hx : x < 18446744073709551616) (w : World) :
    Calls Tryd.prog 12 #[.int .u64 (x : Int), .bool sum] w fun e w' => e = .returned (.string (str (wr15 x sum))) ∧ Below w.heap.size w w' := by
  obtain ⟨D, hD⟩ : ∃ D, D = if sum then 36 else 32 := ⟨_, rfl⟩
  have HDv := Lib.hid hD
  have hDl : D ≤ 36 := by rw [hD]; split <;> decide
  have hfb : ∀ n, fbN n sum = D + 64 * n := fun n => by rw [hD]; unfold fbN; cases sum <;> simp <;> omega
  have HW : Hid (wr15 x sum = put 4247762216 4 ++ put (D + 64 * formN x) 1 ++ put (x - frN (formN x)) (swN (formN x))) := by unfold Hid wr15; rw [hfb]
  clear hD hfb
  have hP := Lib.hid (fun y (hy : y < 18446744073709551616) (m : Nat) (hm : m ≤ 8) (h1 : 1 ≤ m) W => OwS y hy m hm h1 W)
  obtain ⟨V, hV⟩ : ∃ V, V = wr15 x sum := ⟨_, rfl⟩
  rw [← hV] at HW ⊢
  clear hV
  go_enter Tryd.func12, Tryd.ntmps12
  go_upto_if 7 with fail
  go_cut [5] (fun d wx => d = .int .u64 (D : Int) ∧ w = wx)
  case first =>
    cases sum with
    | true =>
      obtain rfl : D = 36 := HDv.out
      go_wp2_with fail
      go_meet
      exact ⟨rfl, rfl⟩
    | false =>
      obtain rfl : D = 32 := HDv.out
      go_wp2_with fail
      go_meet
      exact ⟨rfl, rfl⟩
  case rest =>
    obtain ⟨rfl, rfl⟩ := hcut
    have hlit : Hid ((⟨#[40, 181, 47, 253]⟩ : ByteArray) = str (put 4247762216 4)) := by unfold Hid; rfl
    by_cases h0 : x < 256
    · obtain ⟨Y, hY⟩ : ∃ Y, Y = D := ⟨_, rfl⟩
      obtain ⟨Z, hZ⟩ : ∃ Z, Z = x := ⟨_, rfl⟩
      have hV2 : Hid (V = put 4247762216 4 ++ put Y 1 ++ put Z 1) := by have := HW.out; rw [show formN x = 0 by unfold formN; rw [if_pos h0]] at this; rw [hY, hZ]; exact this
      obtain ⟨T1, hT1⟩ : ∃ T, T = str (put Y 1) := ⟨_, rfl⟩
      obtain ⟨T2, hT2⟩ : ∃ T, T = str (put Z 1) := ⟨_, rfl⟩
      have hz1 : T1.size = 1 := by rw [hT1, str_size, put_length]
      have hz2 : T2.size = 1 := by rw [hT2, str_size, put_length]
      have hYl : Y ≤ 1000 := by omega
      have hP1 : Hid (∀ W, Calls Tryd.prog 16 #[.int .u64 (Y : Int), .int .i64 1] W fun e w' => e = .returned (.string T1) ∧ Below W.heap.size W w') := fun W => by rw [hT1]; exact hP.out Y (by omega) 1 (by decide) (by decide) W
      have hP2 : Hid (∀ W, Calls Tryd.prog 16 #[.int .u64 (Z : Int), .int .i64 1] W fun e w' => e = .returned (.string T2) ∧ Below W.heap.size W w') := fun W => by rw [hT2]; exact hP.out Z (by omega) 1 (by decide) (by decide) W
      have HT : Hid (T1 = str (put Y 1) ∧ T2 = str (put Z 1)) := ⟨hT1, hT2⟩
      have HZx := Lib.hid hZ
      clear hT1 hT2 hP HW
      subst hY
      subst hZ
      go_wp2_with (first
        | (go_at_call 16; with_reducible refine (hP1.out _).mono ?_; rintro e' w1 ⟨rfl, hB⟩; have HB1 := Lib.hid hB; clear hB)
        | (go_at_call 16; with_reducible refine (hP2.out _).mono ?_; rintro e' w2 ⟨rfl, hB⟩; have HB2 := Lib.hid hB; clear hB))
      go_ret
      exact ⟨by rw [hV2.out, str_app, str_app, ← hlit.out, ← HT.out.1, ← HT.out.2]; rfl, HB1.out.trans (HB2.out.mono HB1.out.size)⟩
    · have h0i : decide ((x : Int) < 256) = false := by simp; omega
      by_cases h1 : x < 65792
      · have hsub : IntKind.u64.wrap ((x : Int) - 256) = ((x - 256 : Nat) : Int) := by rw [IntKind.wrap_u64]; omega
        obtain ⟨Y, hY⟩ : ∃ Y, Y = D + 64 := ⟨_, rfl⟩
        obtain ⟨Z, hZ⟩ : ∃ Z, Z = x - 256 := ⟨_, rfl⟩
        have hYi : (D : Int) + 64 = (Y : Int) := by omega
        have hV2 : Hid (V = put 4247762216 4 ++ put Y 1 ++ put Z 2) := by have := HW.out; rw [show formN x = 1 by unfold formN; rw [if_neg h0, if_pos h1]] at this; rw [hY, hZ]; exact this
        obtain ⟨T1, hT1⟩ : ∃ T, T = str (put Y 1) := ⟨_, rfl⟩
        obtain ⟨T2, hT2⟩ : ∃ T, T = str (put Z 2) := ⟨_, rfl⟩
        have hz1 : T1.size = 1 := by rw [hT1, str_size, put_length]
        have hz2 : T2.size = 2 := by rw [hT2, str_size, put_length]
        have hYl : Y ≤ 1000 := by omega
        have hP1 : Hid (∀ W, Calls Tryd.prog 16 #[.int .u64 (Y : Int), .int .i64 1] W fun e w' => e = .returned (.string T1) ∧ Below W.heap.size W w') := fun W => by rw [hT1]; exact hP.out Y (by omega) 1 (by decide) (by decide) W
        have hP2 : Hid (∀ W, Calls Tryd.prog 16 #[.int .u64 (Z : Int), .int .i64 2] W fun e w' => e = .returned (.string T2) ∧ Below W.heap.size W w') := fun W => by rw [hT2]; exact hP.out Z (by omega) 2 (by decide) (by decide) W
        have HT : Hid (T1 = str (put Y 1) ∧ T2 = str (put Z 2)) := ⟨hT1, hT2⟩
        have HZx := Lib.hid hZ
        clear hT1 hT2 hP HW hY
        rw [← hZ] at hsub; clear hZ
        have h1t : decide ((x : Int) < 65792) = true := by simp; omega
        have h1x : (256 : Int) ≤ (x : Int) := by omega
        clear h1
        go_wp2_with (first
          | (go_at_call 16; with_reducible refine (hP1.out _).mono ?_; rintro e' w1 ⟨rfl, hB⟩; have HB1 := Lib.hid hB; clear hB)
          | (go_at_call 16; with_reducible refine (hP2.out _).mono ?_; rintro e' w2 ⟨rfl, hB⟩; have HB2 := Lib.hid hB; clear hB))
        go_ret
        exact ⟨by rw [hV2.out, str_app, str_app, ← hlit.out, ← HT.out.1, ← HT.out.2]; rfl, HB1.out.trans (HB2.out.mono HB1.out.size)⟩
      · have h1i : decide ((x : Int) < 65792) = false := by simp; omega
        by_cases h2 : x < 4294967296
        · obtain ⟨Y, hY⟩ : ∃ Y, Y = D + 128 := ⟨_, rfl⟩
          obtain ⟨Z, hZ⟩ : ∃ Z, Z = x := ⟨_, rfl⟩
          have hYi : (D : Int) + 128 = (Y : Int) := by omega
          have hV2 : Hid (V = put 4247762216 4 ++ put Y 1 ++ put Z 4) := by have := HW.out; rw [show formN x = 2 by unfold formN; rw [if_neg h0, if_neg h1, if_pos h2]] at this; rw [hY, hZ]; exact this
          obtain ⟨T1, hT1⟩ : ∃ T, T = str (put Y 1) := ⟨_, rfl⟩
          obtain ⟨T2, hT2⟩ : ∃ T, T = str (put Z 4) := ⟨_, rfl⟩
          have hz1 : T1.size = 1 := by rw [hT1, str_size, put_length]
          have hz2 : T2.size = 4 := by rw [hT2, str_size, put_length]
          have hYl : Y ≤ 1000 := by omega
          have hP1 : Hid (∀ W, Calls Tryd.prog 16 #[.int .u64 (Y : Int), .int .i64 1] W fun e w' => e = .returned (.string T1) ∧ Below W.heap.size W w') := fun W => by rw [hT1]; exact hP.out Y (by omega) 1 (by decide) (by decide) W
          have hP2 : Hid (∀ W, Calls Tryd.prog 16 #[.int .u64 (Z : Int), .int .i64 4] W fun e w' => e = .returned (.string T2) ∧ Below W.heap.size W w') := fun W => by rw [hT2]; exact hP.out Z (by omega) 4 (by decide) (by decide) W
          have HT : Hid (T1 = str (put Y 1) ∧ T2 = str (put Z 4)) := ⟨hT1, hT2⟩
          have HZx := Lib.hid hZ
          clear hT1 hT2 hP HW hY
          subst hZ
          have h2t : decide ((Z : Int) < 4294967296) = true := by simp; omega
          clear h2
          go_wp2_with (first
            | (go_at_call 16; with_reducible refine (hP1.out _).mono ?_; rintro e' w1 ⟨rfl, hB⟩; have HB1 := Lib.hid hB; clear hB)
            | (go_at_call 16; with_reducible refine (hP2.out _).mono ?_; rintro e' w2 ⟨rfl, hB⟩; have HB2 := Lib.hid hB; clear hB))
          go_ret
          exact ⟨by rw [hV2.out, str_app, str_app, ← hlit.out, ← HT.out.1, ← HT.out.2]; rfl, HB1.out.trans (HB2.out.mono HB1.out.size)⟩
        · have h2i : decide ((x : Int) < 4294967296) = false := by simp; omega
          obtain ⟨Y, hY⟩ : ∃ Y, Y = D + 192 := ⟨_, rfl⟩
          obtain ⟨Z, hZ⟩ : ∃ Z, Z = x := ⟨_, rfl⟩
          have hYi : (D : Int) + 192 = (Y : Int) := by omega
          have hV2 : Hid (V = put 4247762216 4 ++ put Y 1 ++ put Z 8) := by have := HW.out; rw [show formN x = 3 by unfold formN; rw [if_neg h0, if_neg h1, if_neg h2]] at this; rw [hY, hZ]; exact this
          obtain ⟨T1, hT1⟩ : ∃ T, T = str (put Y 1) := ⟨_, rfl⟩
          obtain ⟨T2, hT2⟩ : ∃ T, T = str (put Z 8) := ⟨_, rfl⟩
          have hz1 : T1.size = 1 := by rw [hT1, str_size, put_length]
          have hz2 : T2.size = 8 := by rw [hT2, str_size, put_length]
          have hYl : Y ≤ 1000 := by omega
          have hP1 : Hid (∀ W, Calls Tryd.prog 16 #[.int .u64 (Y : Int), .int .i64 1] W fun e w' => e = .returned (.string T1) ∧ Below W.heap.size W w') := fun W => by rw [hT1]; exact hP.out Y (by omega) 1 (by decide) (by decide) W
          have hP2 : Hid (∀ W, Calls Tryd.prog 16 #[.int .u64 (Z : Int), .int .i64 8] W fun e w' => e = .returned (.string T2) ∧ Below W.heap.size W w') := fun W => by rw [hT2]; exact hP.out Z (by omega) 8 (by decide) (by decide) W
          have HT : Hid (T1 = str (put Y 1) ∧ T2 = str (put Z 8)) := ⟨hT1, hT2⟩
          have HZx := Lib.hid hZ
          clear hT1 hT2 hP HW hY
          subst hZ
          go_wp2_with (first
            | (go_at_call 16; with_reducible refine (hP1.out _).mono ?_; rintro e' w1 ⟨rfl, hB⟩; have HB1 := Lib.hid hB; clear hB)
            | (go_at_call 16; with_reducible refine (hP2.out _).mono ?_; rintro e' w2 ⟨rfl, hB⟩; have HB2 := Lib.hid hB; clear hB))
          go_ret
          exact ⟨by rw [hV2.out, str_app, str_app, ← hlit.out, ← HT.out.1, ← HT.out.2]; rfl, HB1.out.trans (HB2.out.mono HB1.out.size)⟩
end Go.Proofs.YtmominbmalhdoaaDoor
