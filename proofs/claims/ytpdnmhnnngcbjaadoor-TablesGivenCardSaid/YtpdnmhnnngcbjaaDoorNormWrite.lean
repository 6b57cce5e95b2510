
/- The contract of the program's Write. -/
import Derived.Test.YtpdnmhnnngcbjaaDoorNormWr
namespace Go.Proofs.YtpdnmhnnngcbjaaDoor
open Go.RowKit

/-- What Write answers. -/
def WritePost (log : Int) (ps : List Int) (w : World) (e : Ending) (w' : World) : Prop :=
  Below w.heap.size w w' ∧ ((mayB log ps = true ∧ ∃ v, e = .returned (.tuple #[v, .int .i64 0]) ∧ OwB w' 5 w.heap.size v (bytesOf (wrC log.toNat ps))) ∨
    (mayB log ps = false ∧ e = .returned (.tuple #[.slice none 0 0, .int .i64 1])))

theorem wrote_below {w0 wx w' : World} {B g : Nat} {v : Value} {l : List Bool} (hB : Below B w0 wx) (hw : WR wx g g v l) (hF : Foot wx w' g v.ownBlock) (hg : B ≤ g) : Below B w0 w' :=
  hB.trans (hF.below (by have := hw.lt; omega) hg fun k hk => by have := (hw.row k hk).1; omega)
theorem WR.off {w w' : World} {base g : Nat} {v : Value} {l : List Bool} (h : WR w base g v l) (he : w = w') : WR w' base g v l := he ▸ h

section
variable {w : World} {lo hi : Nat} {A : Option Addr} {n c : Nat} {ps : List Int}
set_option maxRecDepth 100000 in
theorem write_refused (log : Int) (hmb : mayB log ps = false) (hd : DatE icel w lo hi A ps) (hn : ps.length = n) (hc : n ≤ c) (hm : n ≤ maxLen) (hhi : hi ≤ w.heap.size) (hb : ∀ p ∈ ps, -9223372036854775808 ≤ p ∧ p ≤ 9223372036854775807) :
    Calls Tryd.prog 40 #[.agg #[.int .i64 log, .slice A n c]] w fun e w' => e = .returned (.tuple #[.slice none 0 0, .int .i64 1]) ∧ Below w.heap.size w w' := by
  have HC := Lib.hid (mayBe_any (w := w.alloc (.cells #[.int .i64 log, .slice A n c] 70)) (c := c) log (hd.alloc hhi _) hn hc hm (by simp; omega) hb)
  rw [hmb] at HC
  clear hd hn hb hmb
  go_enter Tryd.func40, Tryd.ntmps40
  go_wp2_with fail
  refine HC.out.mono ?_
  rintro e w1 ⟨rfl, hB⟩
  have HB := Lib.hid (((Below.refl _ _).alloc (Nat.le_refl _) (.cells #[.int .i64 log, .slice A n c] 70)).trans (hB.mono (by simp)))
  clear hB
  go_wp2_with fail
  go_ret2
  exact ⟨rfl, HB.out⟩

set_option maxRecDepth 100000 in
set_option maxHeartbeats 2000000 in
theorem write_told (l : Nat) (hmb : mayB (l : Int) ps = true) (hd : DatE icel w lo hi A ps) (hn : ps.length = n) (hc : n ≤ c) (hm : n ≤ maxLen) (hhi : hi ≤ w.heap.size) (hb : ∀ p ∈ ps, -9223372036854775808 ≤ p ∧ p ≤ 9223372036854775807) :
    Calls Tryd.prog 40 #[.agg #[.int .i64 (l : Int), .slice A n c]] w fun e w' =>
      ∃ v, e = .returned (.tuple #[v, .int .i64 0]) ∧ OwB w' 5 w.heap.size v (bytesOf (wrC l ps)) ∧ Below w.heap.size w w' := by
  have HC := Lib.hid (mayBe_any (w := w.alloc (.cells #[.int .i64 (l : Int), .slice A n c] 70)) (c := c) l (hd.alloc hhi _) hn hc hm (by simp; omega) hb)
  rw [hmb] at HC
  obtain ⟨b1, b2, b3, b4, b5, b6, b7⟩ := mayB_iff.1 hmb
  rw [show ((l : Nat) : Int).toNat = l by omega] at b7
  have h0n : 0 < n := by omega
  have hn256 : n ≤ 256 := by omega
  obtain ⟨d, o, rfl, hdl, hdh, _⟩ := hd b3
  have HN := Lib.hid hn
  have HD := Lib.hid hd
  have HB5 := Lib.hid b5
  have HB6 := Lib.hid b6
  obtain ⟨P, hP⟩ : ∃ P : Nat, P = 2 ^ l := ⟨_, rfl⟩
  have hp : 2 ^ l ≤ 2 ^ 15 := Nat.pow_le_pow_right (by omega) (by omega)
  rw [← hP] at hp
  have hpow : (2 : Int) ^ l = (P : Nat) := by rw [hP]; simp
  rw [hpow] at b7
  have HT := Lib.hid b7
  have HPow := Lib.hid hpow
  obtain ⟨full, hfull⟩ : ∃ full, full = wrC l ps := ⟨_, rfl⟩
  rw [← hfull]
  have HFull : Hid (full = low (l - 5) 4 ++ wrP n ps P) := by
    show full = _
    rw [hfull, wrC, hn, hP]
  have hl5 : ((l : Int) - 5) = ((l - 5 : Nat) : Int) := by omega
  have HL5 := Lib.hid hl5
  clear hd hn hb hmb b3 b4 b5 b6 b7 hP hpow hfull hl5
  go_enter Tryd.func40, Tryd.ntmps40
  go_wp2_with fail
  refine HC.out.mono ?_
  rintro e w1 ⟨rfl, hB⟩
  have hb1 := (Box.new w 70 #[.int .i64 (l : Int), .slice (some ⟨d, o, none⟩) n c]).below hB (by simp)
  have HX1 := Lib.hid hb1
  have HB1 := Lib.hid hB
  have hsz1 := hB.size
  simp only [World.size_alloc] at hsz1
  clear hB hb1
  go_wp2_with fail
  refine (newWriter_any _).mono ?_
  rintro e w2 ⟨rfl, hw, hB⟩
  have HW2 := Lib.hid hw
  have HB2 := Lib.hid (HB1.out.trans (hB.mono (by simp; omega)))
  have hb2 := HX1.out.below hB (by omega)
  have HX2 := Lib.hid hb2
  obtain ⟨c0, c1, f0, f1⟩ := box2 hb2
  generalize hg : w1.heap.size = g at *
  clear hB hw hb2
  go_wp2_with fail
  rw [HL5.out]
  refine (write_yes (l - 5) 4 HW2.out (by decide) (by decide) (by omega) (by simp)).mono ?_
  rintro e w3 ⟨rfl, v3, hw, hF, hN⟩
  have HW3 := Lib.hid hw
  have HB3 := Lib.hid (wrote_below HB2.out HW2.out hF (by simp; omega))
  obtain ⟨c0', c1', f0', f1'⟩ := box2 ((Box.new w 70 #[.int .i64 (l : Int), .slice (some ⟨d, o, none⟩) n c]).below HB3.out (by simp))
  clear hw hF hN c0 c1 f0 f1
  have hpw := HPow.out
  go_wp2_with fail
  clear hpw c0' c1' f0' f1'
  go_loopg [5, 6] n (fun gh y i wx => ∃ (k left : Nat) (lc : List Bool) (v1 : Value), y = .int .i64 left ∧ i = .int .i64 k ∧ k ≤ n ∧ n ≤ k + gh ∧ left ≤ 32768 ∧ tot (ps.drop k) = left ∧ lc ++ wrP gh (ps.drop k) left = full ∧ lc.length ≤ 1000 * (k + 1) ∧ WR wx g g v1 lc ∧
    Below (w.heap.size + 1) (w.alloc (.cells #[.int .i64 (l : Int), .slice (some ⟨d, o, none⟩) n c] 70)) wx)
  case atStart =>
    refine ⟨0, P, _, v3, rfl, rfl, by omega, by omega, by omega, by simpa using HT.out, by rw [List.drop_zero]; exact HFull.out.symm, by simp [low_length], HW3.out, ?_⟩
    have := HB3.out
    rw [World.size_alloc] at this
    exact this
  case round =>
    obtain ⟨k, left, lc, v1, rfl, rfl, hkn, hgh, hl, ht, hf, hlc, hw, hB⟩ := hrel
    have HW1 := Lib.hid hw
    have HBx := Lib.hid hB
    obtain ⟨c0, c1, f0, f1⟩ := box2 ((Box.new w 70 #[.int .i64 (l : Int), .slice (some ⟨d, o, none⟩) n c]).below hB (by omega))
    have HFu := Lib.hid hf
    have HTo := Lib.hid ht
    clear hw hB hf ht
    by_cases hlt : k < n
    · obtain ⟨f', rfl⟩ : ∃ f', gk = f' + 1 := ⟨gk - 1, by omega⟩
      have hkl : k < ps.length := by have := HN.out; omega
      have hDx := (HD.out.alloc hhi (.cells #[.int .i64 (l : Int), .slice (some ⟨d, o, none⟩) n c] 70)).below HBx.out (by omega)
      obtain ⟨d', o', he, _, _, hcell⟩ := hDx (by omega)
      injection he with he
      injection he with he1 he2
      subst he1 he2
      have hc0 := hcell k hkl
      unfold icel at hc0
      have HDr : Hid (ps.drop k = ps[k] :: ps.drop (k + 1)) := List.drop_eq_getElem_cons hkl
      have HDx := Lib.hid hDx
      have hp1 := HB6.out ps[k] (List.getElem_mem hkl)
      have hpos := tot_last (ps := ps.drop k) (fun q hq => HB6.out q (List.mem_of_mem_drop hq)) (last_drop HB5.out hkl) (by intro e; have := congrArg List.length e; simp at this; omega)
      have htail := tot_pos (ps := ps.drop (k + 1)) fun q hq => HB6.out q (List.mem_of_mem_drop hq)
      have htt : tot (ps.drop k) = wi ps[k] + tot (ps.drop (k + 1)) := by rw [HDr.out, tot_cons]
      rw [HTo.out] at htt hpos
      have hwi := wi_pos hp1
      generalize ps[k] = p at *
      have hl0 : 0 < left := by omega
      have hpl : p ≤ left := by omega
      have HTT := Lib.hid htt
      clear hcell hDx htt
      have hplen := partBits_len p left hl
      have HC := Lib.hid (writePart_any p left HW1.out (by omega) hl0 hl hp1 hpl)
      have hli : (k : Int) < (n : Int) := by omega
      by_cases hp0 : p = 0
      · subst hp0
        have hw0 : wi 0 = 0 := rfl
        have HFu2 : Hid (full = lc ++ partBits 0 left ++ rowBits (nz (ps.drop (k + 1))) ++ wrP f' ((ps.drop (k + 1)).drop (nz (ps.drop (k + 1)))) left) := by
          show full = _
          rw [← HFu.out, HDr.out, wrP, if_pos rfl]
          simp only [List.append_assoc]
        have hnz := nz_le (ps.drop (k + 1))
        rw [List.length_drop, HN.out] at hnz
        have HTz : Hid (tot ((ps.drop (k + 1)).drop (nz (ps.drop (k + 1)))) = left) := by
          have h1 := nz_split (ps.drop (k + 1))
          have h2 : tot (ps.drop (k + 1)) = tot (List.replicate (nz (ps.drop (k + 1))) 0) + tot ((ps.drop (k + 1)).drop (nz (ps.drop (k + 1)))) := by rw [← tot_append, ← h1]
          rw [tot_zeros] at h2
          have := HTT.out
          show tot _ = _
          omega
        have hrl := rowBits_len (nz (ps.drop (k + 1)))
        have hdl2 : (ps.drop (k + 1)).length = n - (k + 1) := by rw [List.length_drop, HN.out]
        have HCn := fun (wz : World) (A : Option Addr) (cc : Nat) (hz : DatE icel wz lo hi A (ps.drop (k + 1))) => noughts_any (c := cc) hz hdl2 (by omega)
        have HCN := Lib.hid HCn
        have HD2 := Lib.hid (List.drop_drop (l := ps) (i := nz (ps.drop (k + 1))) (j := k + 1))
        clear HCn hdl2
        generalize nz (ps.drop (k + 1)) = z at *
        go_wp2_with fail
        refine HC.out.mono ?_
        rintro e w4 ⟨rfl, v4, hw, hF, hN⟩
        have HW4 := Lib.hid hw
        have hB4 := wrote_below HBx.out HW1.out hF (by omega)
        have HB4 := Lib.hid hB4
        obtain ⟨e0, e1, g0, g1⟩ := box2 ((Box.new w 70 #[.int .i64 (l : Int), .slice (some ⟨d, o, none⟩) n c]).below hB4 (by omega))
        have hD4 := (HD.out.alloc hhi (.cells #[.int .i64 (l : Int), .slice (some ⟨d, o, none⟩) n c] 70)).below hB4 (by omega)
        have hc4 : w4.cell? ⟨d, o + k, none⟩ = some (.int .i64 0) := by
          have q := hB4.cell (p := ⟨d, o + k, none⟩) (by show d < _; omega)
          have q' := HBx.out.cell (p := ⟨d, o + k, none⟩) (by show d < _; omega)
          rw [q, ← q']
          exact hc0
        have hcut := hD4.cut (k := k + 1) (c := c) (by rw [HN.out]; exact hc)
        clear hw hF hN hB4 hD4 c0 c1 f0 f1 hc0
        have hkn1 : k + 1 < n := by
          rcases Nat.lt_or_ge (k + 1) n with q | q
          · exact q
          · exfalso
            have q1 : ps.drop (k + 1) = [] := List.drop_of_length_le (by have := HN.out; omega)
            have q2 := HTT.out
            rw [q1] at q2
            have q3 : tot [] = 0 := rfl
            omega
        have hck : c ≠ k + 1 := by omega
        rw [if_neg hck] at hcut
        have HCN4 := Lib.hid (HCN.out w4 _ (c - (k + 1)) hcut)
        clear hcut
        go_wp2_with (go_at_call 64; refine (weight_any _ _).mono ?_; rintro e w' ⟨rfl, rfl⟩)
        refine HCN4.out.mono ?_
        rintro e w' ⟨rfl, rfl⟩
        have HC5 := Lib.hid (writeRow_any z HW4.out (by rw [List.length_append]; omega) (by omega))
        go_wp2_with fail
        refine HC5.out.mono ?_
        rintro e w5 ⟨rfl, v5, hw, hF, hN⟩
        have HW5 := Lib.hid hw
        have HB5x := Lib.hid (wrote_below HB4.out HW4.out hF (by omega))
        clear hw hF hN
        go_wp2_with fail
        go_roundg f'
        case rel =>
          refine ⟨k + 1 + z, left, _, v5, rfl, by go_num, by omega, by omega, hl, ?_, ?_, ?_, HW5.out, HB5x.out⟩
          · rw [← HD2.out]; exact HTz.out
          · rw [← HD2.out]; exact HFu2.out.symm
          · simp only [List.length_append]; omega
        case measure => omega
      · have hp0b : (p == 0) = false := by simp [hp0]
        have HFu2 : Hid (full = lc ++ partBits p left ++ wrP f' (ps.drop (k + 1)) (left - (wi p).toNat)) := by
          show full = _
          rw [← HFu.out, HDr.out, wrP, if_neg hp0]
          simp only [List.append_assoc]
        go_wp2_with fail
        refine HC.out.mono ?_
        rintro e w4 ⟨rfl, v4, hw, hF, hN⟩
        have HW4 := Lib.hid hw
        have hB4 := wrote_below HBx.out HW1.out hF (by omega)
        have HB4 := Lib.hid hB4
        obtain ⟨e0, e1, g0, g1⟩ := box2 ((Box.new w 70 #[.int .i64 (l : Int), .slice (some ⟨d, o, none⟩) n c]).below hB4 (by omega))
        have hc4 : w4.cell? ⟨d, o + k, none⟩ = some (.int .i64 p) := by
          have q := hB4.cell (p := ⟨d, o + k, none⟩) (by show d < _; omega)
          have q' := HBx.out.cell (p := ⟨d, o + k, none⟩) (by show d < _; omega)
          rw [q, ← q']
          exact hc0
        clear hw hF hN hB4 c0 c1 f0 f1 hc0
        have hwl : wi p ≤ left := by have := HTT.out; omega
        go_wp2_with (go_at_call 64; refine (weight_any _ _).mono ?_; rintro e w' ⟨rfl, rfl⟩)
        go_roundg f'
        case rel =>
          refine ⟨k + 1, left - (wi p).toNat, _, v4, ?_, by go_num, by omega, by omega, by omega, ?_, HFu2.out.symm, ?_, HW4.out, HB4.out⟩
          · rw [show ((left - (wi p).toNat : Nat) : Int) = (left : Int) - wi p by omega]
          · have := HTT.out; omega
          · simp only [List.length_append]; omega
        case measure => omega
    · obtain rfl : k = n := by omega
      have HE : Hid (lc = full) := by
        have h1 : ps.drop k = [] := List.drop_of_length_le (by have := HN.out; omega)
        have h2 := HFu.out
        rw [h1, wrP_nil, List.append_nil] at h2
        exact h2
      have HC := Lib.hid (out_any HW1.out (by omega))
      have hli : ¬ (k : Int) < (k : Int) := by omega
      go_wp2_with fail
      refine HC.out.mono ?_
      rintro e w4 ⟨v4, rfl, ho, hB⟩
      have HO := Lib.hid ho
      have HB4 := Lib.hid hB
      have hsz := HBx.out.size
      rw [World.size_alloc] at hsz
      clear ho hB
      go_wp2_with fail
      go_ret2
      refine ⟨v4, rfl, ?_, ?_⟩
      · rw [← HE.out]
        exact HO.out.mono (by omega)
      · exact ((Below.refl _ _).alloc (Nat.le_refl _) _).trans ((HBx.out.mono (by omega)).trans (HB4.out.mono (by omega)))
/-- What is told of counts, or that they may not be. -/
theorem write_post (log : Int) (hd : DatE icel w lo hi A ps) (hn : ps.length = n) (hc : n ≤ c) (hm : n ≤ maxLen) (hhi : hi ≤ w.heap.size) (hb : ∀ p ∈ ps, -9223372036854775808 ≤ p ∧ p ≤ 9223372036854775807) :
    Calls Tryd.prog 40 #[.agg #[.int .i64 log, .slice A n c]] w (WritePost log ps w) := by
  cases hmb : mayB log ps with
  | false => exact (write_refused log hmb hd hn hc hm hhi hb).mono fun e w' ⟨h1, h2⟩ => ⟨h2, .inr ⟨hmb, h1⟩⟩
  | true =>
    obtain ⟨l, rfl⟩ := Int.eq_ofNat_of_zero_le (show 0 ≤ log by have := (mayB_iff.1 hmb).1; omega)
    exact (write_told l hmb hd hn hc hm hhi hb).mono fun e w' ⟨v, h1, h2, h3⟩ => ⟨h3, .inl ⟨hmb, v, h1, by simpa using h2⟩⟩
end
end Go.Proofs.YtpdnmhnnngcbjaaDoor
