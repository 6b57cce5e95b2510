
/- The contract of the document's Default and Read (of given, single and told tables). -/
import Derived.Test.YtpdnmhnnngcbjaaDoorTabRef
import Derived.Test.YtpdnmhnnngcbjaaDoorPileC
namespace Go.Proofs.YtpdnmhnnngcbjaaDoor
open Go.RowKit

set_option maxRecDepth 100000 in
set_option maxHeartbeats 200000 in
theorem refDefault_any (n : Nat) (w : World) (hn : n < 3) :
    Calls Tryd.prog 21 #[.int .i64 (n : Int)] w fun e w' => ∃ v, e = .returned (.tuple #[.agg #[.int .i64 (logN n : Int), v], .int .i64 0]) ∧ OwR 3 rcell w' 68 w.heap.size v (tabG n) ∧ Below w.heap.size w w' := by
  have HG := Lib.hid (refGiven_any n (w.alloc (.cells #[.int .i64 0, .slice none 0 0] 35)) hn)
  have HX := Lib.hid (Box.new w 35 #[.int .i64 0, .slice none 0 0])
  have HB0 : Hid (Below w.heap.size w (w.alloc (.cells #[.int .i64 0, .slice none 0 0] 35))) := (Below.refl _ _).alloc (Nat.le_refl _) _
  have hs : (w.alloc (.cells #[.int .i64 0, .slice none 0 0] 35)).heap.size = w.heap.size + 1 := by simp
  have HS := Lib.hid hs
  have HMay := Lib.hid (given_may n hn)
  have HBd := Lib.hid (parts_bd n hn)
  have hlen := parts_len n hn
  have hhas := has_le n hn
  have hla := last_le n hn
  have h2 : decide ((2 : Int) < (n : Int)) = false := by simp; omega
  have hm53 : (partsN n).length ≤ 53 := by omega
  have h0 : decide ((n : Int) < 0) = false := by simp
  clear hlen hhas hla
  unfold tabG
  generalize partsN n = ps at *
  generalize logN n = lg at *
  clear hs
  go_enter Tryd.func21, Tryd.ntmps21
  go_wp2_with fail
  refine HG.out.mono ?_
  rintro e w1 ⟨d, c, rfl, hc, hd, hB1⟩
  have HB1 := Lib.hid (HB0.out.trans (hB1.mono HB0.out.size))
  have HX1 := Lib.hid (HX.out.below hB1 HX.out.lt)
  have HD1 := Lib.hid hd
  have hs1 := hB1.size
  clear hB1 hd HX HB0
  go_wp2_with fail
  have hmx : ps.length ≤ maxLen := by unfold maxLen; omega
  have HR := Lib.hid (refBuild_yes (cp := c) lg HMay.out HD1.out rfl hc hmx (Nat.le_refl _) HBd.out)
  refine HR.out.mono ?_
  rintro e w2 ⟨v, rfl, ho, hB2⟩
  obtain ⟨A2, n2, c2, rfl⟩ := ho.slice
  have HO := Lib.hid ho
  have HB2 := Lib.hid (HB1.out.trans (hB2.mono HB1.out.size))
  have hss := HS.out
  have hs2 := hB2.size
  obtain ⟨t0, t1, k0, k1⟩ := box2 (HX1.out.below hB2 HX1.out.lt)
  clear ho hB2
  go_wp2_with fail
  refine bodyPost_ret (v := .tuple #[.agg #[.int .i64 (lg : Int), .slice A2 n2 c2], .int .i64 0]) (by simp [results, Tryd.results21, go_sem, t0, t1]) rfl ⟨_, rfl, ?_, ?_⟩
  · refine (HO.out.keep fun k hk => ?_).mono (show w.heap.size ≤ w1.heap.size by omega)
    have hk4 : w1.heap.size ≤ k := (HO.out.block k hk).1
    rw [Below.heap_setCell _ _ _ k (by show k ≠ w.heap.size; omega), Below.heap_setCell _ _ _ k (by show k ≠ w.heap.size; omega)]
  · exact (HB2.out.setCell (Nat.le_refl _) _).setCell (Nat.le_refl _) _


set_option maxRecDepth 100000 in
set_option maxHeartbeats 400000 in
theorem r12_given (n : Nat) (S : ByteArray) (w : World) (hn : n < 3) :
    Calls Tryd.prog 9 #[.int .i64 (n : Int), .int .i64 0, .string S, .agg #[.int .i64 0, .slice none 0 0]] w fun e w' => ∃ v, e = .returned (.tuple #[.agg #[.int .i64 (logN n : Int), v], .int .i64 0, .int .i64 0]) ∧ OwR 3 rcell w' 68 w.heap.size v (tabG n) ∧ Below w.heap.size w w' := by
  have HDf := fun W => Lib.hid (refDefault_any n W hn)
  have HB2 : Hid (Below w.heap.size w ((w.alloc (.cells #[.int .i64 0, .slice none 0 0] 35)).alloc (.cells #[.int .i64 0, .slice none 0 0] 35))) := ((Below.refl _ _).alloc (Nat.le_refl _) _).alloc (by simp) _
  have hsz : ((w.alloc (.cells #[.int .i64 0, .slice none 0 0] 35)).alloc (.cells #[.int .i64 0, .slice none 0 0] 35)).heap.size = w.heap.size + 2 := by simp
  have HSz := Lib.hid hsz
  have hx1 := Box.new (w.alloc (.cells #[.int .i64 0, .slice none 0 0] 35)) 35 #[.int .i64 0, .slice none 0 0]
  rw [World.size_alloc] at hx1
  have HX1 := Lib.hid hx1
  have HBg := Lib.hid (begins_any (n : Int) ((w.alloc (.cells #[.int .i64 0, .slice none 0 0] 35)).alloc (.cells #[.int .i64 0, .slice none 0 0] 35)))
  rw [manyZ_nat hn] at HBg
  have hla := last_le n hn
  obtain ⟨N1, hN1⟩ : ∃ N1, N1 = lastN n + 1 := ⟨_, rfl⟩
  rw [← hN1] at HBg
  have hN53 : 1 ≤ N1 ∧ N1 ≤ 53 := by omega
  have hNb : ((N1 : Int) == 0) = false := by simp; omega
  have HN1 := Lib.hid hN1
  clear hsz hx1 hN1
  generalize tabG n = es at *
  generalize logN n = lg at *
  go_enter Tryd.func9, Tryd.ntmps9
  go_wp2_with fail
  generalize ((w.alloc (.cells #[.int .i64 0, .slice none 0 0] 35)).alloc (.cells #[.int .i64 0, .slice none 0 0] 35)) = W at *
  refine HBg.out.mono ?_
  rintro e w1 ⟨A1, c1, rfl, hB1⟩
  have HB1 := Lib.hid (HB2.out.trans (hB1.mono HB2.out.size))
  have HY1 := Lib.hid (HX1.out.below hB1 HX1.out.lt)
  have hs1 := hB1.size
  have hsW := HSz.out
  have HSW := Lib.hid hsW
  clear hB1 HB2 HX1 HBg hsW
  go_wp2_with fail
  refine (HDf w1).out.mono ?_
  rintro e w2 ⟨v2, rfl, ho, hB2⟩
  obtain ⟨A2, n2, c2, rfl⟩ := ho.slice
  have HO := Lib.hid (ho.alloc (.cells #[.int .i64 (lg : Int), .slice A2 n2 c2] 35))
  have HBz := Lib.hid ((HB1.out.trans (hB2.mono HB1.out.size)).alloc (HB1.out.trans (hB2.mono HB1.out.size)).size (.cells #[.int .i64 (lg : Int), .slice A2 n2 c2] 35))
  obtain ⟨t0, t1, k0, k1⟩ := box2 ((HY1.out.below hB2 HY1.out.lt).alloc (.cells #[.int .i64 (lg : Int), .slice A2 n2 c2] 35))
  clear ho hB2
  go_wp2_with fail
  have hsW := HSW.out
  refine bodyPost_ret (v := .tuple #[.agg #[.int .i64 (lg : Int), .slice A2 n2 c2], .int .i64 0, .int .i64 0]) (by simp [results, Tryd.results9, go_sem, t0, t1]) rfl ⟨.slice A2 n2 c2, rfl, ?_, ?_⟩
  · refine (HO.out.keep fun k hk => ?_).mono (show w.heap.size ≤ w1.heap.size by omega)
    have hk4 : w1.heap.size ≤ k := (HO.out.block k hk).1
    rw [Below.heap_setCell _ _ _ k (by show k ≠ w.heap.size + 1; omega), Below.heap_setCell _ _ _ k (by show k ≠ w.heap.size + 1; omega)]
  · exact (HBz.out.setCell (by show w.heap.size ≤ w.heap.size + 1; omega) _).setCell (by show w.heap.size ≤ w.heap.size + 1; omega) _

theorem str_nilT {S : ByteArray} (h : 0 < S.size) : ¬ S.toList = [] ∧ S.toList.isEmpty = false := by
  have h1 : ¬ S.toList = [] := by
    rw [ByteArray.toList_eq S]
    intro e
    have hl : S.data.toList.length = S.size := by simp
    rw [e] at hl
    simp at hl
    omega
  exact ⟨h1, by simpa using h1⟩
set_option maxRecDepth 100000 in
set_option maxHeartbeats 400000 in
theorem r12_single (n s : Nat) (S : ByteArray) (w : World) (hn : n < 3) (hS : S = str [UInt8.ofNat s]) (hs : s ≤ lastN n) :
    Calls Tryd.prog 9 #[.int .i64 (n : Int), .int .i64 1, .string S, .agg #[.int .i64 0, .slice none 0 0]] w fun e w' => ∃ v, e = .returned (.tuple #[.agg #[.int .i64 0, v], .int .i64 1, .int .i64 0]) ∧ OwR 3 rcell w' 68 w.heap.size v [⟨(s : Int), 0, 0⟩] ∧ Below w.heap.size w w' := by
  have HB2 : Hid (Below w.heap.size w ((w.alloc (.cells #[.int .i64 0, .slice none 0 0] 35)).alloc (.cells #[.int .i64 0, .slice none 0 0] 35))) := ((Below.refl _ _).alloc (Nat.le_refl _) _).alloc (by simp) _
  have hsz : ((w.alloc (.cells #[.int .i64 0, .slice none 0 0] 35)).alloc (.cells #[.int .i64 0, .slice none 0 0] 35)).heap.size = w.heap.size + 2 := by simp
  have HSz := Lib.hid hsz
  have hx1 := Box.new (w.alloc (.cells #[.int .i64 0, .slice none 0 0] 35)) 35 #[.int .i64 0, .slice none 0 0]
  rw [World.size_alloc] at hx1
  have HX1 := Lib.hid hx1
  have HBg := Lib.hid (begins_any (n : Int) ((w.alloc (.cells #[.int .i64 0, .slice none 0 0] 35)).alloc (.cells #[.int .i64 0, .slice none 0 0] 35)))
  rw [manyZ_nat hn] at HBg
  have hla := last_le n hn
  obtain ⟨N1, hN1⟩ : ∃ N1, N1 = lastN n + 1 := ⟨_, rfl⟩
  rw [← hN1] at HBg
  have hN53 : 1 ≤ N1 ∧ N1 ≤ 53 := by omega
  have hNb : ((N1 : Int) == 0) = false := by simp; omega
  have HN1 := Lib.hid hN1
  clear hsz hx1 hN1
  have hsN : s < N1 := by have := HN1.out; omega
  have hsz1 : S.size = 1 := by rw [hS]; rfl
  have h8 : (UInt8.ofNat s).toNat = s := by rw [UInt8.toNat_ofNat']; omega
  have hne := str_nilT (S := S) (by omega)
  have he5 : ∀ h : 0 < S.size, ((S[0]'h).toNat : Int) = (s : Int) := fun h => by
    subst hS
    show ((UInt8.ofNat s).toNat : Int) = s
    rw [h8]
  have h0 : 0 < S.size := by omega
  have e5 := he5 h0
  have hlt : decide ((N1 : Int) ≤ (s : Int)) = false := by simp; omega
  have hltn : decide (N1 ≤ s) = false := by simp; omega
  obtain ⟨hne1, hne2⟩ := hne
  clear hS he5
  go_enter Tryd.func9, Tryd.ntmps9
  go_wp2_with fail
  generalize ((w.alloc (.cells #[.int .i64 0, .slice none 0 0] 35)).alloc (.cells #[.int .i64 0, .slice none 0 0] 35)) = W at *
  refine HBg.out.mono ?_
  rintro e w1 ⟨A1, c1, rfl, hB1⟩
  have HB1 := Lib.hid (HB2.out.trans (hB1.mono HB2.out.size))
  have HY1 := Lib.hid (HX1.out.below hB1 HX1.out.lt)
  have hs1 := hB1.size
  have hsW := HSz.out
  have HSW := Lib.hid hsW
  clear hB1 HB2 HX1 HBg hsW
  go_wp2_with fail
  refine (refOneT_any (s : Int) w1).mono ?_
  rintro e w2 ⟨v2, rfl, ho, hB2⟩
  obtain ⟨A2, n2, c2, rfl⟩ := ho.slice
  have HO := Lib.hid ho
  have HBz := Lib.hid (HB1.out.trans (hB2.mono HB1.out.size))
  obtain ⟨t0, t1, k0, k1⟩ := box2 (HY1.out.below hB2 HY1.out.lt)
  clear ho hB2
  go_wp2_with fail
  have hsW := HSW.out
  refine bodyPost_ret (v := .tuple #[.agg #[.int .i64 0, .slice A2 n2 c2], .int .i64 1, .int .i64 0]) (by simp [results, Tryd.results9, go_sem, t0, t1]) rfl ⟨.slice A2 n2 c2, rfl, ?_, ?_⟩
  · refine (HO.out.keep fun k hk => ?_).mono (show w.heap.size ≤ w1.heap.size by omega)
    have hk4 : w1.heap.size ≤ k := (HO.out.block k hk).1
    rw [Below.heap_setCell _ _ _ k (by show k ≠ w.heap.size + 1; omega), Below.heap_setCell _ _ _ k (by show k ≠ w.heap.size + 1; omega)]
  · exact (HBz.out.setCell (by show w.heap.size ≤ w.heap.size + 1; omega) _).setCell (by show w.heap.size ≤ w.heap.size + 1; omega) _

set_option maxRecDepth 100000 in
set_option maxHeartbeats 400000 in
theorem r12_told (n l : Nat) (ps : List Int) (S : ByteArray) (w : World) (hn : n < 3) (hS : S.data.toList = bytesOf (wrC l ps)) (hmay : mayB (l : Int) ps = true) (hl : l ≤ mostN n) (hp : ps.length ≤ lastN n + 1) :
    Calls Tryd.prog 9 #[.int .i64 (n : Int), .int .i64 2, .string S, .agg #[.int .i64 0, .slice none 0 0]] w fun e w' => ∃ v, e = .returned (.tuple #[.agg #[.int .i64 (l : Int), v], .int .i64 ((bytesOf (wrC l ps)).length : Int), .int .i64 0]) ∧ OwR 3 rcell w' 68 w.heap.size v (tab l ps) ∧ Below w.heap.size w w' := by
  have HB2 : Hid (Below w.heap.size w ((w.alloc (.cells #[.int .i64 0, .slice none 0 0] 35)).alloc (.cells #[.int .i64 0, .slice none 0 0] 35))) := ((Below.refl _ _).alloc (Nat.le_refl _) _).alloc (by simp) _
  have hsz : ((w.alloc (.cells #[.int .i64 0, .slice none 0 0] 35)).alloc (.cells #[.int .i64 0, .slice none 0 0] 35)).heap.size = w.heap.size + 2 := by simp
  have HSz := Lib.hid hsz
  have hx1 := Box.new (w.alloc (.cells #[.int .i64 0, .slice none 0 0] 35)) 35 #[.int .i64 0, .slice none 0 0]
  rw [World.size_alloc] at hx1
  have HX1 := Lib.hid hx1
  have HBg := Lib.hid (begins_any (n : Int) ((w.alloc (.cells #[.int .i64 0, .slice none 0 0] 35)).alloc (.cells #[.int .i64 0, .slice none 0 0] 35)))
  rw [manyZ_nat hn] at HBg
  have hla := last_le n hn
  obtain ⟨N1, hN1⟩ : ∃ N1, N1 = lastN n + 1 := ⟨_, rfl⟩
  rw [← hN1] at HBg
  have hN53 : 1 ≤ N1 ∧ N1 ≤ 53 := by omega
  have hNb : ((N1 : Int) == 0) = false := by simp; omega
  have HN1 := Lib.hid hN1
  clear hsz hx1 hN1
  have hR : rdC (bitsOf (bytesOf (wrC l ps))) (mostN n : Int) (N1 : Int) = .ok (l, ps, (wrC l ps).length) := by
    have h := rdC_back (most := (mostN n : Int)) (sy := (N1 : Int)) hmay (by omega) (by have := HN1.out; omega) []
    rw [List.append_nil, show ((l : Nat) : Int).toNat = l by omega] at h
    exact h
  have hlen := wrC_len l ps
  have hbd := wrC_bound hmay
  have HRd := fun W => Lib.hid (refRead6_any S hS (mostN n : Int) (N1 : Int) W (by omega) hR)
  have HMo := fun W => Lib.hid (refMost_any n W hn)
  rw [hlen]
  obtain ⟨K, hK⟩ : ∃ K, K = ((wrC l ps).length + 7) / 8 := ⟨_, rfl⟩
  rw [← hK]
  have HK := Lib.hid hK
  have HMay := Lib.hid hmay
  have HBd := Lib.hid (may_bounds hmay)
  have hps53 : ps.length ≤ 53 := by have := HN1.out; omega
  clear hS hmay hR hlen hbd hp hK
  generalize mostN n = M at *
  go_enter Tryd.func9, Tryd.ntmps9
  go_wp2_with fail
  generalize ((w.alloc (.cells #[.int .i64 0, .slice none 0 0] 35)).alloc (.cells #[.int .i64 0, .slice none 0 0] 35)) = W at *
  refine HBg.out.mono ?_
  rintro e w1 ⟨A1, c1, rfl, hB1⟩
  have HB1 := Lib.hid (HB2.out.trans (hB1.mono HB2.out.size))
  have HY1 := Lib.hid (HX1.out.below hB1 HX1.out.lt)
  have hs1 := hB1.size
  have hsW := HSz.out
  have HSW := Lib.hid hsW
  clear hB1 HB2 HX1 HBg hsW
  go_wp2_with fail
  refine (HMo w1).out.mono ?_
  rintro e w' ⟨rfl, rfl⟩
  go_wp2_with fail
  refine (HRd w1).out.mono ?_
  rintro e w2 ⟨hB2, v2, rfl, ho2⟩
  obtain ⟨A6, c6, rfl, hc6, hd6⟩ := ho2.form
  have HD6 := Lib.hid (hd6.alloc (Nat.le_refl _) (.cells #[.int .i64 (l : Int), .slice A6 ps.length c6] 63))
  obtain ⟨E, hE⟩ : ∃ E, E = ps.length := ⟨_, rfl⟩
  rw [← hE] at hc6 HD6 hps53 ⊢
  rw [← HK.out]
  have HE := Lib.hid hE
  have HX3 := Lib.hid (Box.new w2 63 #[.int .i64 (l : Int), .slice A6 E c6])
  have hb3 : Below w2.heap.size w2 (w2.alloc (.cells #[.int .i64 (l : Int), .slice A6 E c6] 63)) := (Below.refl _ _).alloc (Nat.le_refl _) _
  have HB3 := Lib.hid ((HB1.out.trans (hB2.mono HB1.out.size)).trans (hb3.mono (HB1.out.trans (hB2.mono HB1.out.size)).size))
  have HY3 := Lib.hid ((HY1.out.below hB2 HY1.out.lt).below hb3 (HY1.out.below hB2 HY1.out.lt).lt)
  have hs3 : (w2.alloc (.cells #[.int .i64 (l : Int), .slice A6 E c6] 63)).heap.size = w2.heap.size + 1 := by simp
  have HS3 := Lib.hid hs3
  have hs2 := hB2.size
  obtain ⟨q0, q1, _, _⟩ := box2 HX3.out
  clear ho2 hd6 hB2 hE hb3 hs3 HK
  go_upto_region 20 with (fail)
  generalize w2.alloc (.cells #[.int .i64 (l : Int), .slice A6 E c6] 63) = W3 at *
  have HBu := Lib.hid (refBuild_yes (cp := c6) l HMay.out HD6.out HE.out.symm hc6 (by unfold maxLen; omega) (by have := HS3.out; omega) HBd.out)
  go_wp2_with fail
  refine HBu.out.mono ?_
  rintro e w4 ⟨v4, rfl, ho, hB4⟩
  obtain ⟨A2, n2, c2, rfl⟩ := ho.slice
  have HO := Lib.hid (ho.alloc (.cells #[.int .i64 (l : Int), .slice A2 n2 c2] 35))
  have HBz := Lib.hid ((HB3.out.trans (hB4.mono HB3.out.size)).alloc (HB3.out.trans (hB4.mono HB3.out.size)).size (.cells #[.int .i64 (l : Int), .slice A2 n2 c2] 35))
  obtain ⟨t0, t1, k0, k1⟩ := box2 ((HY3.out.below hB4 HY3.out.lt).alloc (.cells #[.int .i64 (l : Int), .slice A2 n2 c2] 35))
  clear ho hB4
  go_wp2_with fail
  have hsW := HSW.out
  have hsS := HS3.out
  refine bodyPost_ret (v := .tuple #[.agg #[.int .i64 (l : Int), .slice A2 n2 c2], .int .i64 (K : Int), .int .i64 0]) (by simp [results, Tryd.results9, go_sem, t0, t1]) rfl ⟨.slice A2 n2 c2, rfl, ?_, ?_⟩
  · refine (HO.out.keep fun k hk => ?_).mono (show w.heap.size ≤ W3.heap.size by omega)
    have hk4 : W3.heap.size ≤ k := (HO.out.block k hk).1
    rw [Below.heap_setCell _ _ _ k (by show k ≠ w.heap.size + 1; omega), Below.heap_setCell _ _ _ k (by show k ≠ w.heap.size + 1; omega)]
  · exact (HBz.out.setCell (by show w.heap.size ≤ w.heap.size + 1; omega) _).setCell (by show w.heap.size ≤ w.heap.size + 1; omega) _
end Go.Proofs.YtpdnmhnnngcbjaaDoor
