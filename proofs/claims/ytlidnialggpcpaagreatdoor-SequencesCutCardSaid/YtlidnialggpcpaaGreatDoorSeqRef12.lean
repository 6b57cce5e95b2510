
/- The contract of the document's tables' Read in all modes, by readT. Made by gen-SeqRef12.py. -/
import Derived.Test.YtlidnialggpcpaaGreatDoorSeqTab
import Derived.Test.YtlidnialggpcpaaGreatDoorPileF
import Derived.Test.YtlidnialggpcpaaGreatDoorPileC
namespace Go.Proofs.YtlidnialggpcpaaGreatDoor
open Go.RowKit

/-- What the document's Read answers. -/
def RRPost (R : Except Int (Tb × Nat)) (w : World) (e : Ending) (w' : World) : Prop :=
  Below w.heap.size w w' ∧ match R with
    | .error er => e = .returned (.tuple #[.agg #[.int .i64 0, .slice none 0 0], .int .i64 0, .int .i64 er])
    | .ok (t, u) => ∃ v, e = .returned (.tuple #[.agg #[.int .i64 (t.lg : Int), v], .int .i64 (u : Int), .int .i64 0]) ∧ OwR 3 rcell w' 141 w.heap.size v t.es
section
variable {n ne ce : Nat} {L : Int} {E : Option Addr} {S : ByteArray} {w : World} {xs : List UInt8}

set_option maxRecDepth 100000 in
set_option maxHeartbeats 1000000 in
theorem q12_given (hn : n < 3) : Calls Tryz.prog 24 #[.int .i64 (n : Int), .int .i64 0, .string S, .agg #[.int .i64 L, .slice E ne ce]] w (RRPost (readT n 0 xs) w) := by
  have hR : readT n 0 xs = .ok (⟨logN n, tabG n⟩, 0) := rfl
  rw [hR]
  have HDf := fun W => Lib.hid (refDefault_any n W hn)
  have HB2 : Hid (Below w.heap.size w ((w.alloc (.cells #[.int .i64 L, .slice E ne ce] 35)).alloc (.cells #[.int .i64 0, .slice none 0 0] 35))) := ((Below.refl _ _).alloc (Nat.le_refl _) _).alloc (by simp) _
  have hsz : ((w.alloc (.cells #[.int .i64 L, .slice E ne ce] 35)).alloc (.cells #[.int .i64 0, .slice none 0 0] 35)).heap.size = w.heap.size + 2 := by simp
  have HSz := Lib.hid hsz
  have hx1 := Box.new (w.alloc (.cells #[.int .i64 L, .slice E ne ce] 35)) 35 #[.int .i64 0, .slice none 0 0]
  rw [World.size_alloc] at hx1
  have HX1 := Lib.hid hx1
  have HX0 := Lib.hid ((Box.new w 35 #[.int .i64 L, .slice E ne ce]).alloc (.cells #[.int .i64 0, .slice none 0 0] 35))
  have HBg := Lib.hid (begins_any (n : Int) ((w.alloc (.cells #[.int .i64 L, .slice E ne ce] 35)).alloc (.cells #[.int .i64 0, .slice none 0 0] 35)))
  rw [manyZ_nat hn] at HBg
  have hla := last_le n hn
  obtain ⟨N1, hN1⟩ : ∃ N1, N1 = lastN n + 1 := ⟨_, rfl⟩
  rw [← hN1] at HBg
  have hN53 : 1 ≤ N1 ∧ N1 ≤ 53 := by omega
  have hNb : ((N1 : Int) == 0) = false := by simp; omega
  have HN1 := Lib.hid hN1
  clear hsz hx1 hN1
  generalize tabG n = es at *
  generalize logN n = lg at *
  go_enter Tryz.func24, Tryz.ntmps24
  go_wp2_with fail
  generalize ((w.alloc (.cells #[.int .i64 L, .slice E ne ce] 35)).alloc (.cells #[.int .i64 0, .slice none 0 0] 35)) = W at *
  refine HBg.out.mono ?_
  rintro e w1 ⟨A1, c1, rfl, hB1⟩
  have HB1 := Lib.hid (HB2.out.trans (hB1.mono HB2.out.size))
  have HY1 := Lib.hid (HX1.out.below hB1 HX1.out.lt)
  have HO1 := Lib.hid (HX0.out.below hB1 HX0.out.lt)
  have hs1 := hB1.size
  have hsW := HSz.out
  have HSW := Lib.hid hsW
  clear hB1 HB2 HX1 HX0 HBg hsW
  go_wp2_with fail
  refine (HDf w1).out.mono ?_
  rintro e w2 ⟨v2, rfl, ho, hB2⟩
  obtain ⟨A2, n2, c2, rfl⟩ := ho.slice
  have HO := Lib.hid (ho.alloc (.cells #[.int .i64 (lg : Int), .slice A2 n2 c2] 35))
  have HBz := Lib.hid ((HB1.out.trans (hB2.mono HB1.out.size)).alloc (HB1.out.trans (hB2.mono HB1.out.size)).size (.cells #[.int .i64 (lg : Int), .slice A2 n2 c2] 35))
  obtain ⟨t0, t1, k0, k1⟩ := box2 ((HY1.out.below hB2 HY1.out.lt).alloc (.cells #[.int .i64 (lg : Int), .slice A2 n2 c2] 35))
  clear ho hB2
  go_wp2_with fail
  have hsW := HSW.out
  refine bodyPost_ret (v := .tuple #[.agg #[.int .i64 (lg : Int), .slice A2 n2 c2], .int .i64 0, .int .i64 0]) (by simp [results, Tryz.results24, go_sem, t0, t1]) rfl ⟨?_, .slice A2 n2 c2, rfl, ?_⟩
  · exact (HBz.out.setCell (by show w.heap.size ≤ w.heap.size + 1; omega) _).setCell (by show w.heap.size ≤ w.heap.size + 1; omega) _
  · refine (HO.out.keep fun k hk => ?_).mono (show w.heap.size ≤ w1.heap.size by omega)
    have hk4 : w1.heap.size ≤ k := (HO.out.block k hk).1
    rw [Below.heap_setCell _ _ _ k (by show k ≠ w.heap.size + 1; omega), Below.heap_setCell _ _ _ k (by show k ≠ w.heap.size + 1; omega)]

set_option maxRecDepth 100000 in
set_option maxHeartbeats 1000000 in
theorem q12_nil (hn : n < 3) (hS : S = ⟨#[]⟩) : Calls Tryz.prog 24 #[.int .i64 (n : Int), .int .i64 1, .string S, .agg #[.int .i64 L, .slice E ne ce]] w (RRPost (.error 10) w) := by
  subst hS
  have HB2 : Hid (Below w.heap.size w ((w.alloc (.cells #[.int .i64 L, .slice E ne ce] 35)).alloc (.cells #[.int .i64 0, .slice none 0 0] 35))) := ((Below.refl _ _).alloc (Nat.le_refl _) _).alloc (by simp) _
  have hsz : ((w.alloc (.cells #[.int .i64 L, .slice E ne ce] 35)).alloc (.cells #[.int .i64 0, .slice none 0 0] 35)).heap.size = w.heap.size + 2 := by simp
  have HSz := Lib.hid hsz
  have hx1 := Box.new (w.alloc (.cells #[.int .i64 L, .slice E ne ce] 35)) 35 #[.int .i64 0, .slice none 0 0]
  rw [World.size_alloc] at hx1
  have HX1 := Lib.hid hx1
  have HX0 := Lib.hid ((Box.new w 35 #[.int .i64 L, .slice E ne ce]).alloc (.cells #[.int .i64 0, .slice none 0 0] 35))
  have HBg := Lib.hid (begins_any (n : Int) ((w.alloc (.cells #[.int .i64 L, .slice E ne ce] 35)).alloc (.cells #[.int .i64 0, .slice none 0 0] 35)))
  rw [manyZ_nat hn] at HBg
  have hla := last_le n hn
  obtain ⟨N1, hN1⟩ : ∃ N1, N1 = lastN n + 1 := ⟨_, rfl⟩
  rw [← hN1] at HBg
  have hN53 : 1 ≤ N1 ∧ N1 ≤ 53 := by omega
  have hNb : ((N1 : Int) == 0) = false := by simp; omega
  have HN1 := Lib.hid hN1
  clear hsz hx1 hN1
  go_enter Tryz.func24, Tryz.ntmps24
  go_wp2_with fail
  generalize ((w.alloc (.cells #[.int .i64 L, .slice E ne ce] 35)).alloc (.cells #[.int .i64 0, .slice none 0 0] 35)) = W at *
  refine HBg.out.mono ?_
  rintro e w1 ⟨A1, c1, rfl, hB1⟩
  have HB1 := Lib.hid (HB2.out.trans (hB1.mono HB2.out.size))
  have HY1 := Lib.hid (HX1.out.below hB1 HX1.out.lt)
  have HO1 := Lib.hid (HX0.out.below hB1 HX0.out.lt)
  have hs1 := hB1.size
  have hsW := HSz.out
  have HSW := Lib.hid hsW
  clear hB1 HB2 HX1 HX0 HBg hsW
  obtain ⟨t0, t1, k0, k1⟩ := box2 HY1.out
  go_wp2_with fail
  refine bodyPost_ret (v := .tuple #[.agg #[.int .i64 0, .slice none 0 0], .int .i64 0, .int .i64 10]) (by simp [results, Tryz.results24, go_sem, t0, t1]) rfl ⟨?_, rfl⟩
  exact (HB1.out.setCell (by show w.heap.size ≤ w.heap.size + 1; omega) _).setCell (by show w.heap.size ≤ w.heap.size + 1; omega) _

set_option maxRecDepth 100000 in
set_option maxHeartbeats 1000000 in
theorem q12_big (hn : n < 3) {s : Nat} (h0 : 0 < S.size) (hs : (S[0]'h0).toNat = s) (hbig : lastN n < s) : Calls Tryz.prog 24 #[.int .i64 (n : Int), .int .i64 1, .string S, .agg #[.int .i64 L, .slice E ne ce]] w (RRPost (.error 11) w) := by
  have HB2 : Hid (Below w.heap.size w ((w.alloc (.cells #[.int .i64 L, .slice E ne ce] 35)).alloc (.cells #[.int .i64 0, .slice none 0 0] 35))) := ((Below.refl _ _).alloc (Nat.le_refl _) _).alloc (by simp) _
  have hsz : ((w.alloc (.cells #[.int .i64 L, .slice E ne ce] 35)).alloc (.cells #[.int .i64 0, .slice none 0 0] 35)).heap.size = w.heap.size + 2 := by simp
  have HSz := Lib.hid hsz
  have hx1 := Box.new (w.alloc (.cells #[.int .i64 L, .slice E ne ce] 35)) 35 #[.int .i64 0, .slice none 0 0]
  rw [World.size_alloc] at hx1
  have HX1 := Lib.hid hx1
  have HX0 := Lib.hid ((Box.new w 35 #[.int .i64 L, .slice E ne ce]).alloc (.cells #[.int .i64 0, .slice none 0 0] 35))
  have HBg := Lib.hid (begins_any (n : Int) ((w.alloc (.cells #[.int .i64 L, .slice E ne ce] 35)).alloc (.cells #[.int .i64 0, .slice none 0 0] 35)))
  rw [manyZ_nat hn] at HBg
  have hla := last_le n hn
  obtain ⟨N1, hN1⟩ : ∃ N1, N1 = lastN n + 1 := ⟨_, rfl⟩
  rw [← hN1] at HBg
  have hN53 : 1 ≤ N1 ∧ N1 ≤ 53 := by omega
  have hNb : ((N1 : Int) == 0) = false := by simp; omega
  have HN1 := Lib.hid hN1
  clear hsz hx1 hN1
  have hsN : N1 ≤ s := by have := HN1.out; omega
  have hs8 : s < 256 := by rw [← hs]; exact (S[0]'h0).toNat_lt
  obtain ⟨hne1, hne2⟩ := str_nilT h0
  have e5 : ((S[0]'h0).toNat : Int) = (s : Int) := by rw [hs]
  have hge : (N1 : Int) ≤ (s : Int) := by omega
  clear hs hbig
  go_enter Tryz.func24, Tryz.ntmps24
  go_wp2_with fail
  generalize ((w.alloc (.cells #[.int .i64 L, .slice E ne ce] 35)).alloc (.cells #[.int .i64 0, .slice none 0 0] 35)) = W at *
  refine HBg.out.mono ?_
  rintro e w1 ⟨A1, c1, rfl, hB1⟩
  have HB1 := Lib.hid (HB2.out.trans (hB1.mono HB2.out.size))
  have HY1 := Lib.hid (HX1.out.below hB1 HX1.out.lt)
  have HO1 := Lib.hid (HX0.out.below hB1 HX0.out.lt)
  have hs1 := hB1.size
  have hsW := HSz.out
  have HSW := Lib.hid hsW
  clear hB1 HB2 HX1 HX0 HBg hsW
  obtain ⟨t0, t1, k0, k1⟩ := box2 HY1.out
  go_wp2_with fail
  refine bodyPost_ret (v := .tuple #[.agg #[.int .i64 0, .slice none 0 0], .int .i64 0, .int .i64 11]) (by simp [results, Tryz.results24, go_sem, t0, t1]) rfl ⟨?_, rfl⟩
  exact (HB1.out.setCell (by show w.heap.size ≤ w.heap.size + 1; omega) _).setCell (by show w.heap.size ≤ w.heap.size + 1; omega) _

set_option maxRecDepth 100000 in
set_option maxHeartbeats 1000000 in
theorem q12_one (hn : n < 3) {s : Nat} (h0 : 0 < S.size) (hs : (S[0]'h0).toNat = s) (hok : s ≤ lastN n) : Calls Tryz.prog 24 #[.int .i64 (n : Int), .int .i64 1, .string S, .agg #[.int .i64 L, .slice E ne ce]] w (RRPost (.ok (⟨0, [⟨(s : Int), 0, 0⟩]⟩, 1)) w) := by
  have HB2 : Hid (Below w.heap.size w ((w.alloc (.cells #[.int .i64 L, .slice E ne ce] 35)).alloc (.cells #[.int .i64 0, .slice none 0 0] 35))) := ((Below.refl _ _).alloc (Nat.le_refl _) _).alloc (by simp) _
  have hsz : ((w.alloc (.cells #[.int .i64 L, .slice E ne ce] 35)).alloc (.cells #[.int .i64 0, .slice none 0 0] 35)).heap.size = w.heap.size + 2 := by simp
  have HSz := Lib.hid hsz
  have hx1 := Box.new (w.alloc (.cells #[.int .i64 L, .slice E ne ce] 35)) 35 #[.int .i64 0, .slice none 0 0]
  rw [World.size_alloc] at hx1
  have HX1 := Lib.hid hx1
  have HX0 := Lib.hid ((Box.new w 35 #[.int .i64 L, .slice E ne ce]).alloc (.cells #[.int .i64 0, .slice none 0 0] 35))
  have HBg := Lib.hid (begins_any (n : Int) ((w.alloc (.cells #[.int .i64 L, .slice E ne ce] 35)).alloc (.cells #[.int .i64 0, .slice none 0 0] 35)))
  rw [manyZ_nat hn] at HBg
  have hla := last_le n hn
  obtain ⟨N1, hN1⟩ : ∃ N1, N1 = lastN n + 1 := ⟨_, rfl⟩
  rw [← hN1] at HBg
  have hN53 : 1 ≤ N1 ∧ N1 ≤ 53 := by omega
  have hNb : ((N1 : Int) == 0) = false := by simp; omega
  have HN1 := Lib.hid hN1
  clear hsz hx1 hN1
  have hsN : s < N1 := by have := HN1.out; omega
  obtain ⟨hne1, hne2⟩ := str_nilT h0
  have e5 : ((S[0]'h0).toNat : Int) = (s : Int) := by rw [hs]
  have hlt : decide ((N1 : Int) ≤ (s : Int)) = false := by simp; omega
  have hltn : decide (N1 ≤ s) = false := by simp; omega
  clear hs hok
  go_enter Tryz.func24, Tryz.ntmps24
  go_wp2_with fail
  generalize ((w.alloc (.cells #[.int .i64 L, .slice E ne ce] 35)).alloc (.cells #[.int .i64 0, .slice none 0 0] 35)) = W at *
  refine HBg.out.mono ?_
  rintro e w1 ⟨A1, c1, rfl, hB1⟩
  have HB1 := Lib.hid (HB2.out.trans (hB1.mono HB2.out.size))
  have HY1 := Lib.hid (HX1.out.below hB1 HX1.out.lt)
  have HO1 := Lib.hid (HX0.out.below hB1 HX0.out.lt)
  have hs1 := hB1.size
  have hsW := HSz.out
  have HSW := Lib.hid hsW
  clear hB1 HB2 HX1 HX0 HBg hsW
  go_wp2_with fail
  refine (refOneT_any (s : Int) w1).mono ?_
  rintro e w2 ⟨v2, rfl, ho, hB2⟩
  obtain ⟨A2, n2, c2, rfl⟩ := ho.slice
  have HO := Lib.hid ho
  have HBz := Lib.hid (HB1.out.trans (hB2.mono HB1.out.size))
  obtain ⟨t0, t1, k0, k1⟩ := box2 (HY1.out.below hB2 HY1.out.lt)
  clear ho hB2
  go_wp2_with fail
  have hsW := HSW.out
  refine bodyPost_ret (v := .tuple #[.agg #[.int .i64 0, .slice A2 n2 c2], .int .i64 1, .int .i64 0]) (by simp [results, Tryz.results24, go_sem, t0, t1]) rfl ⟨?_, .slice A2 n2 c2, rfl, ?_⟩
  · exact (HBz.out.setCell (by show w.heap.size ≤ w.heap.size + 1; omega) _).setCell (by show w.heap.size ≤ w.heap.size + 1; omega) _
  · refine (HO.out.keep fun k hk => ?_).mono (show w.heap.size ≤ w1.heap.size by omega)
    have hk4 : w1.heap.size ≤ k := (HO.out.block k hk).1
    rw [Below.heap_setCell _ _ _ k (by show k ≠ w.heap.size + 1; omega), Below.heap_setCell _ _ _ k (by show k ≠ w.heap.size + 1; omega)]

set_option maxRecDepth 100000 in
set_option maxHeartbeats 1000000 in
theorem q12_none (hn : n < 3) (hE : ne = 0) : Calls Tryz.prog 24 #[.int .i64 (n : Int), .int .i64 3, .string S, .agg #[.int .i64 L, .slice E ne ce]] w (RRPost (.error 11) w) := by
  subst hE
  have HB2 : Hid (Below w.heap.size w ((w.alloc (.cells #[.int .i64 L, .slice E 0 ce] 35)).alloc (.cells #[.int .i64 0, .slice none 0 0] 35))) := ((Below.refl _ _).alloc (Nat.le_refl _) _).alloc (by simp) _
  have hsz : ((w.alloc (.cells #[.int .i64 L, .slice E 0 ce] 35)).alloc (.cells #[.int .i64 0, .slice none 0 0] 35)).heap.size = w.heap.size + 2 := by simp
  have HSz := Lib.hid hsz
  have hx1 := Box.new (w.alloc (.cells #[.int .i64 L, .slice E 0 ce] 35)) 35 #[.int .i64 0, .slice none 0 0]
  rw [World.size_alloc] at hx1
  have HX1 := Lib.hid hx1
  have HX0 := Lib.hid ((Box.new w 35 #[.int .i64 L, .slice E 0 ce]).alloc (.cells #[.int .i64 0, .slice none 0 0] 35))
  have HBg := Lib.hid (begins_any (n : Int) ((w.alloc (.cells #[.int .i64 L, .slice E 0 ce] 35)).alloc (.cells #[.int .i64 0, .slice none 0 0] 35)))
  rw [manyZ_nat hn] at HBg
  have hla := last_le n hn
  obtain ⟨N1, hN1⟩ : ∃ N1, N1 = lastN n + 1 := ⟨_, rfl⟩
  rw [← hN1] at HBg
  have hN53 : 1 ≤ N1 ∧ N1 ≤ 53 := by omega
  have hNb : ((N1 : Int) == 0) = false := by simp; omega
  have HN1 := Lib.hid hN1
  clear hsz hx1 hN1
  go_enter Tryz.func24, Tryz.ntmps24
  go_wp2_with fail
  generalize ((w.alloc (.cells #[.int .i64 L, .slice E 0 ce] 35)).alloc (.cells #[.int .i64 0, .slice none 0 0] 35)) = W at *
  refine HBg.out.mono ?_
  rintro e w1 ⟨A1, c1, rfl, hB1⟩
  have HB1 := Lib.hid (HB2.out.trans (hB1.mono HB2.out.size))
  have HY1 := Lib.hid (HX1.out.below hB1 HX1.out.lt)
  have HO1 := Lib.hid (HX0.out.below hB1 HX0.out.lt)
  have hs1 := hB1.size
  have hsW := HSz.out
  have HSW := Lib.hid hsW
  clear hB1 HB2 HX1 HX0 HBg hsW
  obtain ⟨t0, t1, k0, k1⟩ := box2 HY1.out
  obtain ⟨u0, u1, _, _⟩ := box2 HO1.out
  go_wp2_with fail
  refine bodyPost_ret (v := .tuple #[.agg #[.int .i64 0, .slice none 0 0], .int .i64 0, .int .i64 11]) (by simp [results, Tryz.results24, go_sem, t0, t1]) rfl ⟨?_, rfl⟩
  exact (HB1.out.setCell (by show w.heap.size ≤ w.heap.size + 1; omega) _).setCell (by show w.heap.size ≤ w.heap.size + 1; omega) _

set_option maxRecDepth 100000 in
set_option maxHeartbeats 4000000 in
theorem q12_told (hn : n < 3) (hS : S.data.toList = xs) (hx : xs.length ≤ 100000000) : Calls Tryz.prog 24 #[.int .i64 (n : Int), .int .i64 2, .string S, .agg #[.int .i64 L, .slice E ne ce]] w (RRPost (readT n 2 xs) w) := by
  have hR : readT n 2 xs = (match rdC (bitsOf xs) (mostN n : Int) ((lastN n + 1 : Nat) : Int) with
    | .error e => .error e
    | .ok (l, ps, a) => .ok (⟨l, tab l ps⟩, (a + 7) / 8)) := rfl
  obtain ⟨R2, hR2⟩ : ∃ R2, R2 = readT n 2 xs := ⟨_, rfl⟩
  rw [← hR2]
  rw [hR] at hR2
  have HB2 : Hid (Below w.heap.size w ((w.alloc (.cells #[.int .i64 L, .slice E ne ce] 35)).alloc (.cells #[.int .i64 0, .slice none 0 0] 35))) := ((Below.refl _ _).alloc (Nat.le_refl _) _).alloc (by simp) _
  have hsz : ((w.alloc (.cells #[.int .i64 L, .slice E ne ce] 35)).alloc (.cells #[.int .i64 0, .slice none 0 0] 35)).heap.size = w.heap.size + 2 := by simp
  have HSz := Lib.hid hsz
  have hx1 := Box.new (w.alloc (.cells #[.int .i64 L, .slice E ne ce] 35)) 35 #[.int .i64 0, .slice none 0 0]
  rw [World.size_alloc] at hx1
  have HX1 := Lib.hid hx1
  have HX0 := Lib.hid ((Box.new w 35 #[.int .i64 L, .slice E ne ce]).alloc (.cells #[.int .i64 0, .slice none 0 0] 35))
  have HBg := Lib.hid (begins_any (n : Int) ((w.alloc (.cells #[.int .i64 L, .slice E ne ce] 35)).alloc (.cells #[.int .i64 0, .slice none 0 0] 35)))
  rw [manyZ_nat hn] at HBg
  have hla := last_le n hn
  obtain ⟨N1, hN1⟩ : ∃ N1, N1 = lastN n + 1 := ⟨_, rfl⟩
  rw [← hN1] at HBg
  have hN53 : 1 ≤ N1 ∧ N1 ≤ 53 := by omega
  have hNb : ((N1 : Int) == 0) = false := by simp; omega
  have HN1 := Lib.hid hN1
  clear hsz hx1 hN1
  have HRC : Hid (∀ l ps a, rdC (bitsOf xs) (mostN n : Int) (N1 : Int) = .ok (l, ps, a) → mayB (l : Int) ps = true ∧ ps.length ≤ 256) := fun l ps a h => by
    have := rdC_may h (by omega)
    exact ⟨this.1, by omega⟩
  have HER : Hid (∀ er, rdC (bitsOf xs) (mostN n : Int) (N1 : Int) = .error er → er ≠ 0) := fun er h => rdC_err h
  have HRd := fun W => Lib.hid (refRead6_any S hS (mostN n : Int) (N1 : Int) W hx rfl)
  have HMo := fun W => Lib.hid (refMost_any n W hn)
  have hN' := HN1.out
  rw [← hN'] at hR2
  generalize rdC (bitsOf xs) (mostN n : Int) (N1 : Int) = R at *
  have HR2 := Lib.hid hR2
  clear hS hR hN' hR2
  generalize mostN n = M at *
  go_enter Tryz.func24, Tryz.ntmps24
  go_wp2_with fail
  generalize ((w.alloc (.cells #[.int .i64 L, .slice E ne ce] 35)).alloc (.cells #[.int .i64 0, .slice none 0 0] 35)) = W at *
  refine HBg.out.mono ?_
  rintro e w1 ⟨A1, c1, rfl, hB1⟩
  have HB1 := Lib.hid (HB2.out.trans (hB1.mono HB2.out.size))
  have HY1 := Lib.hid (HX1.out.below hB1 HX1.out.lt)
  have HO1 := Lib.hid (HX0.out.below hB1 HX0.out.lt)
  have hs1 := hB1.size
  have hsW := HSz.out
  have HSW := Lib.hid hsW
  clear hB1 HB2 HX1 HX0 HBg hsW
  go_wp2_with fail
  refine (HMo w1).out.mono ?_
  rintro e w' ⟨rfl, rfl⟩
  go_wp2_with fail
  refine (HRd w1).out.mono ?_
  rintro e w2 ⟨hB2, h2⟩
  have hs2 := hB2.size
  cases R with
  | error er =>
    have her := HER.out er rfl
    have hne : ((er : Int) != 0) = true := by simpa using her
    obtain rfl := h2
    have HBz := Lib.hid ((HB1.out.trans (hB2.mono HB1.out.size)).alloc (HB1.out.trans (hB2.mono HB1.out.size)).size (.cells #[.int .i64 0, .slice none 0 0] 131))
    obtain ⟨t0, t1, k0, k1⟩ := box2 ((HY1.out.below hB2 HY1.out.lt).alloc (.cells #[.int .i64 0, .slice none 0 0] 131))
    clear hB2 HRC HER HRd
    go_wp2_with fail
    rw [HR2.out]
    refine bodyPost_ret (v := .tuple #[.agg #[.int .i64 0, .slice none 0 0], .int .i64 0, .int .i64 er]) (by simp [results, Tryz.results24, go_sem, t0, t1]) rfl ⟨?_, rfl⟩
    exact (HBz.out.setCell (by show w.heap.size ≤ w.heap.size + 1; omega) _).setCell (by show w.heap.size ≤ w.heap.size + 1; omega) _
  | ok p =>
    obtain ⟨l, ps, a⟩ := p
    obtain ⟨v2, rfl, ho2⟩ := h2
    obtain ⟨hmay, hlen⟩ := HRC.out l ps a rfl
    have HMay := Lib.hid hmay
    obtain ⟨A6, c6, rfl, hc6, hd6⟩ := ho2.form
    have HD6 := Lib.hid (hd6.alloc (Nat.le_refl _) (.cells #[.int .i64 (l : Int), .slice A6 ps.length c6] 131))
    obtain ⟨EE, hE⟩ : ∃ EE, EE = ps.length := ⟨_, rfl⟩
    rw [← hE] at hc6 HD6 hlen ⊢
    obtain ⟨K, hK⟩ : ∃ K, K = (a + 7) / 8 := ⟨_, rfl⟩
    rw [← hK]
    have HK := Lib.hid hK
    have HE := Lib.hid hE
    have HX3 := Lib.hid (Box.new w2 131 #[.int .i64 (l : Int), .slice A6 EE c6])
    have hb3 : Below w2.heap.size w2 (w2.alloc (.cells #[.int .i64 (l : Int), .slice A6 EE c6] 131)) := (Below.refl _ _).alloc (Nat.le_refl _) _
    have HB3 := Lib.hid ((HB1.out.trans (hB2.mono HB1.out.size)).trans (hb3.mono (HB1.out.trans (hB2.mono HB1.out.size)).size))
    have HY3 := Lib.hid ((HY1.out.below hB2 HY1.out.lt).below hb3 (HY1.out.below hB2 HY1.out.lt).lt)
    have hs3 : (w2.alloc (.cells #[.int .i64 (l : Int), .slice A6 EE c6] 131)).heap.size = w2.heap.size + 1 := by simp
    have HS3 := Lib.hid hs3
    obtain ⟨q0, q1, _, _⟩ := box2 HX3.out
    clear ho2 hd6 hB2 hE hb3 hs3 hK hmay HRC HER HRd
    go_upto_region 20 with (fail)
    generalize w2.alloc (.cells #[.int .i64 (l : Int), .slice A6 EE c6] 131) = W3 at *
    have HBu := Lib.hid (refBuild_yes (cp := c6) l HMay.out HD6.out HE.out.symm hc6 (by unfold maxLen; omega) (by have := HS3.out; omega) (may_bounds HMay.out))
    go_wp2_with fail
    refine HBu.out.mono ?_
    rintro e w4 ⟨v4, rfl, ho, hB4⟩
    obtain ⟨A2, n2, c2, rfl⟩ := ho.slice
    have HO := Lib.hid (ho.alloc (.cells #[.int .i64 (l : Int), .slice A2 n2 c2] 35))
    have HBz := Lib.hid ((HB3.out.trans (hB4.mono HB3.out.size)).alloc (HB3.out.trans (hB4.mono HB3.out.size)).size (.cells #[.int .i64 (l : Int), .slice A2 n2 c2] 35))
    obtain ⟨t0, t1, k0, k1⟩ := box2 ((HY3.out.below hB4 HY3.out.lt).alloc (.cells #[.int .i64 (l : Int), .slice A2 n2 c2] 35))
    clear ho hB4
    go_wp2_with fail
    have hsW := HSW.out
    have hsS := HS3.out
    rw [HR2.out]
    refine bodyPost_ret (v := .tuple #[.agg #[.int .i64 (l : Int), .slice A2 n2 c2], .int .i64 (K : Int), .int .i64 0]) (by simp [results, Tryz.results24, go_sem, t0, t1]) rfl ⟨?_, .slice A2 n2 c2, by rw [HK.out], ?_⟩
    · exact (HBz.out.setCell (by show w.heap.size ≤ w.heap.size + 1; omega) _).setCell (by show w.heap.size ≤ w.heap.size + 1; omega) _
    · refine (HO.out.keep fun k hk => ?_).mono (show w.heap.size ≤ W3.heap.size by omega)
      have hk4 : W3.heap.size ≤ k := (HO.out.block k hk).1
      rw [Below.heap_setCell _ _ _ k (by show k ≠ w.heap.size + 1; omega), Below.heap_setCell _ _ _ k (by show k ≠ w.heap.size + 1; omega)]

/-- The document's Read in whatever mode; where it is that of the table ahead, there is none. -/
theorem q12_any (mode : Nat) (hn : n < 3) (hS : S.data.toList = xs) (hx : xs.length ≤ 100000000) (hmo : mode < 4) (hE : mode = 3 → ne = 0) :
    Calls Tryz.prog 24 #[.int .i64 (n : Int), .int .i64 (mode : Int), .string S, .agg #[.int .i64 L, .slice E ne ce]] w (RRPost (readT n mode xs) w) := by
  rcases (show mode = 0 ∨ mode = 1 ∨ mode = 2 ∨ mode = 3 by omega) with rfl | rfl | rfl | rfl
  · exact q12_given hn
  · rcases xs with _ | ⟨z, r⟩
    · exact q12_nil hn (by cases S; simp at hS; subst hS; rfl)
    · have hsz : S.size = r.length + 1 := by
        have := congrArg List.length hS
        simpa using this
      have h0 : 0 < S.size := by omega
      have hz : (S[0]'h0).toNat = z.toNat := by
        have h1 : S.data.toList[0]? = some z := by rw [hS]; rfl
        have h2 : S.data.toList[0]? = some (S[0]'h0) := by
          rw [Array.getElem?_toList]
          exact Array.getElem?_eq_getElem h0
        rw [h2] at h1
        injection h1 with h1
        rw [h1]
      have hR : readT n 1 (z :: r) = if lastN n < z.toNat then .error 11 else .ok (⟨0, [⟨(z.toNat : Int), 0, 0⟩]⟩, 1) := rfl
      rw [hR]
      split
      · next h => exact q12_big hn h0 hz h
      · next h => exact q12_one hn h0 hz (by omega)
  · exact q12_told hn hS hx
  · exact q12_none hn (hE rfl)
end
end Go.Proofs.YtlidnialggpcpaaGreatDoor
