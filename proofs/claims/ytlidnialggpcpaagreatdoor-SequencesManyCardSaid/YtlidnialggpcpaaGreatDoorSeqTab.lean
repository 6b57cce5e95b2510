
/- The contract of the program's tables.Read in all modes, by readT. Made by gen-SeqTab.py. -/
import Derived.Test.YtlidnialggpcpaaGreatDoorSeqPlain
import Derived.Test.YtlidnialggpcpaaGreatDoorPileF
import Derived.Test.YtlidnialggpcpaaGreatDoorPileC
namespace Go.Proofs.YtlidnialggpcpaaGreatDoor
open Go.RowKit

/-- What tables.Read answers. -/
def RTPost (R : Except Int (Tb × Nat)) (w : World) (e : Ending) (w' : World) : Prop :=
  Below w.heap.size w w' ∧ match R with
    | .error er => e = .returned (.tuple #[.agg #[.int .i64 0, .slice none 0 0], .int .i64 0, .int .i64 er])
    | .ok (t, u) => ∃ v, e = .returned (.tuple #[.agg #[.int .i64 (t.lg : Int), v], .int .i64 (u : Int), .int .i64 0]) ∧ OwR 3 ecell w' 111 w.heap.size v t.es

section
variable {B n m c lo hi : Nat} {w : World} {A : Option Addr} {own : Bool} {xs : List UInt8}
set_option maxRecDepth 100000 in
set_option maxHeartbeats 2000000 in
theorem told_any (hgl : Glob B w) (hn : n < 3) (hd : Dat own w lo hi A xs) (hhi : hi ≤ w.heap.size) (hm : xs.length = m) (hx : xs.length ≤ 1000000000) :
    Calls Tryz.prog 80 #[.int .i64 (n : Int), .slice A m c] w (RTPost (readT n 2 xs) w) := by
  have hR : readT n 2 xs = (match rdC (bitsOf xs) (mostN n : Int) ((lastN n + 1 : Nat) : Int) with
    | .error e => .error e
    | .ok (l, ps, a) => .ok (⟨l, tab l ps⟩, (a + 7) / 8)) := rfl
  rw [hR]
  have hla := last_le n hn
  have HM : Hid (∀ W, Glob B W → Calls Tryz.prog 112 #[.int .i64 (n : Int)] W fun e w' => e = .returned (.int .i64 (mostN n : Int)) ∧ W = w') := fun W hW => by
    have := most_any (n : Int) W hW
    rwa [mostZ_nat hn] at this
  have HL : Hid (∀ W, Glob B W → Calls Tryz.prog 106 #[.int .i64 (n : Int)] W fun e w' => e = .returned (.int .i64 (lastN n : Int)) ∧ W = w') := fun W hW => by
    have := last_any (n : Int) W hW
    rwa [lastZ_nat hn] at this
  have HG := Lib.hid (hgl.alloc (.cells #[.int .i64 0, .slice none 0 0] 27))
  have hRC : ∀ l ps a, rdC (bitsOf xs) (mostN n : Int) ((lastN n + 1 : Nat) : Int) = .ok (l, ps, a) → mayB (l : Int) ps = true ∧ ps.length ≤ 256 := fun l ps a h => by
    have := rdC_may h (by omega)
    exact ⟨this.1, by omega⟩
  have HRC := Lib.hid hRC
  have HER : Hid (∀ er, rdC (bitsOf xs) (mostN n : Int) ((lastN n + 1 : Nat) : Int) = .error er → er ≠ 0) := fun er h => rdC_err h
  have HX := Lib.hid (Box.new w 27 #[.int .i64 0, .slice none 0 0])
  have HB0 : Hid (Below w.heap.size w (w.alloc (.cells #[.int .i64 0, .slice none 0 0] 27))) := (Below.refl _ _).alloc (Nat.le_refl _) _
  have hsz : (w.alloc (.cells #[.int .i64 0, .slice none 0 0] 27)).heap.size = w.heap.size + 1 := by simp
  have HSz := Lib.hid hsz
  have HRd := Lib.hid (read_any (c := c) (mostN n : Int) ((lastN n + 1 : Nat) : Int) (hd.alloc hhi (.cells #[.int .i64 0, .slice none 0 0] 27)) hm hx (by simp; omega) rfl)
  generalize rdC (bitsOf xs) (mostN n : Int) ((lastN n + 1 : Nat) : Int) = R at *
  generalize mostN n = M at *
  generalize lastN n = l at *
  have hl53 : l ≤ 52 := hla
  rw [show ((l + 1 : Nat) : Int) = (l : Int) + 1 by omega] at HRd
  clear hgl hd hm hx hsz hla hR hRC
  go_enter Tryz.func80, Tryz.ntmps80
  go_upto_region 1 with (fail)
  generalize w.alloc (.cells #[.int .i64 0, .slice none 0 0] 27) = W at *
  go_wp2_with (first
    | (go_at_call 112; refine (HM.out _ HG.out).mono ?_; rintro e' w' ⟨rfl, rfl⟩)
    | (go_at_call 106; refine (HL.out _ HG.out).mono ?_; rintro e' w' ⟨rfl, rfl⟩))
  refine HRd.out.mono ?_
  rintro e w1 ⟨hB1, h1⟩
  have HB1 := Lib.hid (HB0.out.trans (hB1.mono (by have := HSz.out; omega)))
  have HX1 := Lib.hid (HX.out.below hB1 (by have := HSz.out; omega))
  have hs1 := hB1.size
  have hsW := HSz.out
  clear hB1 HX HB0
  cases R with
  | error er =>
    have her : er ≠ 0 := HER.out er rfl
    obtain rfl := h1
    have HX2 := Lib.hid (HX1.out.alloc (.cells #[.int .i64 0, .slice none 0 0] 164))
    have HB2 := Lib.hid (HB1.out.alloc HB1.out.size (.cells #[.int .i64 0, .slice none 0 0] 164))
    obtain ⟨t0, t1, k0, k1⟩ := box2 HX2.out
    go_wp2_with fail
    refine bodyPost_ret (v := .tuple #[.agg #[.int .i64 0, .slice none 0 0], .int .i64 0, .int .i64 er]) (by simp [results, Tryz.results80, go_sem, t0, t1]) rfl ⟨?_, rfl⟩
    exact (HB2.out.setCell (Nat.le_refl _) _).setCell (Nat.le_refl _) _
  | ok p =>
    obtain ⟨lg, ps, a⟩ := p
    obtain ⟨v1, rfl, ho1⟩ := h1
    obtain ⟨hmay, hlen⟩ := HRC.out lg ps a rfl
    have HMay := Lib.hid hmay
    obtain ⟨A6, c6, rfl, hc6, hd6⟩ := ho1.form
    have HD6 := Lib.hid (hd6.alloc (Nat.le_refl _) (.cells #[.int .i64 (lg : Int), .slice A6 ps.length c6] 164))
    obtain ⟨E, hE⟩ : ∃ E, E = ps.length := ⟨_, rfl⟩
    rw [← hE] at hc6 HD6 hlen ⊢
    have HE := Lib.hid hE
    have HX3 := Lib.hid (Box.new w1 164 #[.int .i64 (lg : Int), .slice A6 E c6])
    have hb3 : Below w1.heap.size w1 (w1.alloc (.cells #[.int .i64 (lg : Int), .slice A6 E c6] 164)) := (Below.refl _ _).alloc (Nat.le_refl _) _
    have HB3 := Lib.hid (HB1.out.trans (hb3.mono HB1.out.size))
    have HY3 := Lib.hid (HX1.out.below hb3 HX1.out.lt)
    have hs3 : (w1.alloc (.cells #[.int .i64 (lg : Int), .slice A6 E c6] 164)).heap.size = w1.heap.size + 1 := by simp
    have HS3 := Lib.hid hs3
    obtain ⟨K, hK⟩ : ∃ K, K = (a + 7) / 8 := ⟨_, rfl⟩
    rw [← hK]
    have HK := Lib.hid hK
    obtain ⟨q0, q1, _, _⟩ := box2 HX3.out
    clear ho1 hd6 hE hb3 hs3 hmay HRC HER HRd hK
    go_upto_region 4 with (fail)
    generalize w1.alloc (.cells #[.int .i64 (lg : Int), .slice A6 E c6] 164) = W3 at *
    have HBu := Lib.hid (build_yes (cp := c6) lg HMay.out HD6.out HE.out.symm hc6 (by unfold maxLen; omega) (by have := HS3.out; omega) (may_bounds HMay.out))
    go_wp2_with fail
    refine HBu.out.mono ?_
    rintro e w4 ⟨v4, rfl, ho, hB4⟩
    obtain ⟨A2, n2, c2, rfl⟩ := ho.slice
    have HO := Lib.hid (ho.alloc (.cells #[.int .i64 (lg : Int), .slice A2 n2 c2] 27))
    have HBz := Lib.hid ((HB3.out.trans (hB4.mono HB3.out.size)).alloc (HB3.out.trans (hB4.mono HB3.out.size)).size (.cells #[.int .i64 (lg : Int), .slice A2 n2 c2] 27))
    obtain ⟨t0, t1, k0, k1⟩ := box2 ((HY3.out.below hB4 HY3.out.lt).alloc (.cells #[.int .i64 (lg : Int), .slice A2 n2 c2] 27))
    clear ho hB4
    go_wp2_with fail
    have hsS := HS3.out
    refine bodyPost_ret (v := .tuple #[.agg #[.int .i64 (lg : Int), .slice A2 n2 c2], .int .i64 (K : Int), .int .i64 0]) (by simp [results, Tryz.results80, go_sem, t0, t1]) rfl ⟨?_, .slice A2 n2 c2, by rw [HK.out], ?_⟩
    · exact (HBz.out.setCell (Nat.le_refl _) _).setCell (Nat.le_refl _) _
    · refine (HO.out.keep fun k hk => ?_).mono (show w.heap.size ≤ W3.heap.size by omega)
      have hk4 : W3.heap.size ≤ k := (HO.out.block k hk).1
      rw [Below.heap_setCell _ _ _ k (by show k ≠ w.heap.size; omega), Below.heap_setCell _ _ _ k (by show k ≠ w.heap.size; omega)]
end

section
variable {B n ne ce m c lo hi : Nat} {E A : Option Addr} {own : Bool} {w : World} {xs : List UInt8}
set_option maxRecDepth 100000 in
set_option maxHeartbeats 1000000 in
theorem read0_any (L : Int) (hgl : Glob B w) (hn : n < 3) :
    Calls Tryz.prog 48 #[.int .i64 (n : Int), .int .i64 0, .slice A m c, .agg #[.int .i64 L, .slice E ne ce]] w (RTPost (readT n 0 xs) w) := by
  have hR : readT n 0 xs = .ok (⟨logN n, tabG n⟩, 0) := rfl
  rw [hR]
  have HB2 : Hid (Below w.heap.size w ((w.alloc (.cells #[.int .i64 L, .slice E ne ce] 27)).alloc (.cells #[.int .i64 0, .slice none 0 0] 27))) := ((Below.refl _ _).alloc (Nat.le_refl _) _).alloc (by simp) _
  have hsz : ((w.alloc (.cells #[.int .i64 L, .slice E ne ce] 27)).alloc (.cells #[.int .i64 0, .slice none 0 0] 27)).heap.size = w.heap.size + 2 := by simp
  have HSz := Lib.hid hsz
  have hx1 := Box.new (w.alloc (.cells #[.int .i64 L, .slice E ne ce] 27)) 27 #[.int .i64 0, .slice none 0 0]
  rw [World.size_alloc] at hx1
  have HX1 := Lib.hid hx1
  have hg := (hgl.alloc (.cells #[.int .i64 L, .slice E ne ce] 27)).alloc (.cells #[.int .i64 0, .slice none 0 0] 27)
  have HG := Lib.hid hg
  have HK := Lib.hid (kind_any (n : Int) _ hg)
  rw [decide_eq_true (show (0 : Int) ≤ (n : Int) ∧ (n : Int) ≤ 2 by omega)] at HK
  have HC := Lib.hid (default_any n _ hg hn)
  clear hg hx1 hsz hgl
  generalize logN n = lg at *
  generalize tabG n = es at *
  go_enter Tryz.func48, Tryz.ntmps48
  go_upto_region 5 with (go_at_call 74; refine HK.out.mono ?_; rintro e' w' ⟨rfl, rfl⟩)
  generalize (w.alloc (.cells #[.int .i64 L, .slice E ne ce] 27)).alloc (.cells #[.int .i64 0, .slice none 0 0] 27) = W at *
  go_wp2_with fail
  refine HC.out.mono ?_
  rintro e w1 ⟨v1, rfl, ho1, hB1⟩
  obtain ⟨A1, n1, c1, rfl⟩ := ho1.slice
  have HO1 := Lib.hid (ho1.alloc (.cells #[.int .i64 (lg : Int), .slice A1 n1 c1] 27))
  have hb := HB2.out.trans (hB1.mono (by have := HSz.out; omega))
  have HB1 := Lib.hid (hb.alloc hb.size (.cells #[.int .i64 (lg : Int), .slice A1 n1 c1] 27))
  obtain ⟨t0, t1, k0, k1⟩ := box2 ((HX1.out.below hB1 (by have := HSz.out; omega)).alloc (.cells #[.int .i64 (lg : Int), .slice A1 n1 c1] 27))
  have hs2 := HSz.out
  clear ho1 hB1 hb
  go_wp2_with fail
  refine bodyPost_ret (v := .tuple #[.agg #[.int .i64 (lg : Int), .slice A1 n1 c1], .int .i64 0, .int .i64 0]) (by simp [results, Tryz.results48, go_sem, t0, t1]) rfl ⟨?_, _, rfl, ?_⟩
  · exact (HB1.out.setCell (by show w.heap.size ≤ w.heap.size + 1; omega) _).setCell (by show w.heap.size ≤ w.heap.size + 1; omega) _
  · refine (HO1.out.keep fun k hk => ?_).mono (show w.heap.size ≤ W.heap.size by omega)
    have hk4 : W.heap.size ≤ k := (HO1.out.block k hk).1
    rw [Below.heap_setCell _ _ _ k (by show k ≠ w.heap.size + 1; omega), Below.heap_setCell _ _ _ k (by show k ≠ w.heap.size + 1; omega)]

set_option maxRecDepth 100000 in
set_option maxHeartbeats 1000000 in
theorem read2_any (L : Int) (hgl : Glob B w) (hn : n < 3) (hd : Dat own w lo hi A xs) (hhi : hi ≤ w.heap.size) (hm : xs.length = m) (hx : xs.length ≤ 1000000000) :
    Calls Tryz.prog 48 #[.int .i64 (n : Int), .int .i64 2, .slice A m c, .agg #[.int .i64 L, .slice E ne ce]] w (RTPost (readT n 2 xs) w) := by
  have HB2 : Hid (Below w.heap.size w ((w.alloc (.cells #[.int .i64 L, .slice E ne ce] 27)).alloc (.cells #[.int .i64 0, .slice none 0 0] 27))) := ((Below.refl _ _).alloc (Nat.le_refl _) _).alloc (by simp) _
  have hsz : ((w.alloc (.cells #[.int .i64 L, .slice E ne ce] 27)).alloc (.cells #[.int .i64 0, .slice none 0 0] 27)).heap.size = w.heap.size + 2 := by simp
  have HSz := Lib.hid hsz
  have hx1 := Box.new (w.alloc (.cells #[.int .i64 L, .slice E ne ce] 27)) 27 #[.int .i64 0, .slice none 0 0]
  rw [World.size_alloc] at hx1
  have HX1 := Lib.hid hx1
  have hg := (hgl.alloc (.cells #[.int .i64 L, .slice E ne ce] 27)).alloc (.cells #[.int .i64 0, .slice none 0 0] 27)
  have HG := Lib.hid hg
  have HK := Lib.hid (kind_any (n : Int) _ hg)
  rw [decide_eq_true (show (0 : Int) ≤ (n : Int) ∧ (n : Int) ≤ 2 by omega)] at HK
  have HC := Lib.hid (told_any (c := c) hg hn ((hd.alloc hhi (.cells #[.int .i64 L, .slice E ne ce] 27)).alloc (by simp; omega) (.cells #[.int .i64 0, .slice none 0 0] 27)) (by simp; omega) hm hx)
  clear hg hx1 hsz hgl hd hm
  generalize readT n 2 xs = R at *
  go_enter Tryz.func48, Tryz.ntmps48
  go_upto_region 10 with (go_at_call 74; refine HK.out.mono ?_; rintro e' w' ⟨rfl, rfl⟩)
  generalize (w.alloc (.cells #[.int .i64 L, .slice E ne ce] 27)).alloc (.cells #[.int .i64 0, .slice none 0 0] 27) = W at *
  go_wp2_with fail
  refine HC.out.mono ?_
  rintro e w1 ⟨hB1, h1⟩
  have HB1 := Lib.hid (HB2.out.trans (hB1.mono (by have := HSz.out; omega)))
  obtain ⟨t0, t1, k0, k1⟩ := box2 (HX1.out.below hB1 (by have := HSz.out; omega))
  have hs2 := HSz.out
  clear hB1
  cases R with
  | error er =>
    obtain rfl := h1
    go_wp2_with fail
    refine bodyPost_ret (v := .tuple #[.agg #[.int .i64 0, .slice none 0 0], .int .i64 0, .int .i64 er]) (by simp [results, Tryz.results48, go_sem, t0, t1]) rfl ⟨?_, rfl⟩
    exact (HB1.out.setCell (by show w.heap.size ≤ w.heap.size + 1; omega) _).setCell (by show w.heap.size ≤ w.heap.size + 1; omega) _
  | ok p =>
    obtain ⟨⟨lg, es⟩, u⟩ := p
    obtain ⟨v1, rfl, ho1⟩ := h1
    obtain ⟨A1, n1, c1, rfl⟩ := ho1.slice
    have HO1 := Lib.hid ho1
    clear ho1
    go_wp2_with fail
    refine bodyPost_ret (v := .tuple #[.agg #[.int .i64 (lg : Int), .slice A1 n1 c1], .int .i64 (u : Int), .int .i64 0]) (by simp [results, Tryz.results48, go_sem, t0, t1]) rfl ⟨?_, _, rfl, ?_⟩
    · exact (HB1.out.setCell (by show w.heap.size ≤ w.heap.size + 1; omega) _).setCell (by show w.heap.size ≤ w.heap.size + 1; omega) _
    · refine (HO1.out.keep fun k hk => ?_).mono (show w.heap.size ≤ W.heap.size by omega)
      have hk4 : W.heap.size ≤ k := (HO1.out.block k hk).1
      rw [Below.heap_setCell _ _ _ k (by show k ≠ w.heap.size + 1; omega), Below.heap_setCell _ _ _ k (by show k ≠ w.heap.size + 1; omega)]

/-- tables.Read in whatever mode; where it is that of the table ahead, there is none. -/
theorem readT_any (mode : Nat) (L : Int) (hgl : Glob B w) (hn : n < 3) (hd : Dat own w lo hi A xs) (hhi : hi ≤ w.heap.size) (hm : xs.length = m) (hx : xs.length ≤ 1000000000) (hmo : mode < 4) (hE : mode = 3 → ne = 0) :
    Calls Tryz.prog 48 #[.int .i64 (n : Int), .int .i64 (mode : Int), .slice A m c, .agg #[.int .i64 L, .slice E ne ce]] w (RTPost (readT n mode xs) w) := by
  rcases (show mode = 0 ∨ mode = 1 ∨ mode = 2 ∨ mode = 3 by omega) with rfl | rfl | rfl | rfl
  · exact read0_any L hgl hn
  · rcases xs with _ | ⟨z, r⟩
    · obtain rfl : m = 0 := hm.symm
      exact (read1_nil L hgl hn).mono fun e w' ⟨h1, h2⟩ => ⟨h2, h1⟩
    · have hR : readT n 1 (z :: r) = if lastN n < z.toNat then .error 11 else .ok (⟨0, [⟨(z.toNat : Int), 0, 0⟩]⟩, 1) := rfl
      rw [hR]
      split
      · next h => exact (read1_big L hgl hn hd hhi rfl hm h).mono fun e w' ⟨h1, h2⟩ => ⟨h2, h1⟩
      · next h => exact (read1_ok L hgl hn hd hhi rfl hm (by omega)).mono fun e w' ⟨v, h1, h2, h3⟩ => ⟨h3, v, h1, h2⟩
  · exact read2_any L hgl hn hd hhi hm hx
  · obtain rfl := hE rfl
    exact (read3_nil L hgl hn).mono fun e w' ⟨h1, h2⟩ => ⟨h2, h1⟩
end
end Go.Proofs.YtlidnialggpcpaaGreatDoor
