
/- The contracts of the document's New, Last and Left (from the back). -/
import Derived.Test.YtchpaeelpaicbaaBitRefB
import Derived.Test.YtchpaeelpaicbaaBitBwd
namespace Go.Proofs.Ytchpaeelpaicbaa
open Go.RowKit

theorem refLeft_any (A : Option Addr) (n c : Nat) (lack left : Int) (w : World) (h : left = n - lack) (h1 : -1000000000000 ≤ left) (h2 : left ≤ 1000000000000) :
    Calls Try.prog 20 #[.agg #[.slice A n c, .int .i64 lack]] w fun e w' => e = .returned (.int .i64 left) ∧ Below w.heap.size w w' := by
  have e1 : IntKind.i64.wrap ((n : Int) - lack) = (n : Int) - lack := IntWalk.i64_in _ (by omega)
  have H := Lib.hid h
  clear h
  go_enter Try.func20, Try.ntmps20
  go_wp2
  go_ret
  exact ⟨by rw [H.out]; rfl, (Below.refl _ _).alloc (Nat.le_refl _) _⟩

theorem list_of_bytes (S : ByteArray) : S.toList = S.data.toList := ByteArray.toList_eq S

theorem refNew_no (S : ByteArray) (w : World) (hs : S.size ≤ 100000000) (hx : noBack S.data.toList = true) :
    Calls Try.prog 16 #[.string S] w fun e w' => e = .returned (.tuple #[.agg #[.slice none 0 0, .int .i64 0], .int .i64 11]) ∧ Below w.heap.size w w' := by
  by_cases h0 : S.size = 0
  · have h1 : S.toList = [] := by rw [list_of_bytes]; simpa [← List.length_eq_zero_iff] using h0
    have h2 : Hid (S.size = 0) := h0
    clear h0 hx
    go_enter Try.func16, Try.ntmps16
    go_wp2
    exact bodyPost_ret (v := .tuple #[.agg #[.slice none 0 0, .int .i64 0], .int .i64 11]) (by simp [results, Try.results16, go_sem]) rfl ⟨rfl, by repeat (first | exact Below.refl _ _ | refine Below.alloc ?_ (by simp) _ | refine Below.setCell ?_ (by simp) _)⟩
  · have hl : S.data.toList.length = S.size := by simp
    have hpos : 0 < S.size := by omega
    have hz : S.data.toList.getD (S.size - 1) 0 = 0 := by
      unfold noBack at hx
      rw [hl] at hx
      simpa [h0] using hx
    have h1 : ¬ S.toList = [] := by
      rw [list_of_bytes]
      intro e
      rw [e] at hl
      simp at hl
      omega
    have h3 : (!S.toList.isEmpty) = true := by simpa using h1
    have e1 : ((S.size : Int) - 1).toNat = S.size - 1 := by omega
    have hlt : S.size - 1 < S.size := by omega
    have hb : (S[S.size - 1]).toNat = 0 := by
      have : S[S.size - 1] = S.data.toList.getD (S.size - 1) 0 := by
        rw [List.getD_eq_getElem?_getD, List.getElem?_eq_getElem (by rw [hl]; exact hlt)]
        rfl
      rw [this, hz]
      rfl
    clear hz hx hl h0
    go_enter Try.func16, Try.ntmps16
    go_wp2
    exact bodyPost_ret (v := .tuple #[.agg #[.slice none 0 0, .int .i64 0], .int .i64 11]) (by simp [results, Try.results16, go_sem]) rfl ⟨rfl, by repeat (first | exact Below.refl _ _ | refine Below.alloc ?_ (by simp) _ | refine Below.setCell ?_ (by simp) _)⟩

set_option maxHeartbeats 1000000 in
theorem refNew_yes (S : ByteArray) (w : World) (hs : S.size ≤ 100000000) (hx : noBack S.data.toList = false) :
    Calls Try.prog 16 #[.string S] w fun e w' => ∃ A c, e = .returned (.tuple #[.agg #[.slice A (top S.data.toList) c, .int .i64 0], .int .i64 0]) ∧
      DatE Value.bool w' w.heap.size w'.heap.size A ((bitsOf S.data.toList).take (top S.data.toList)) ∧ top S.data.toList ≤ c ∧ Below w.heap.size w w' := by
  have hl : S.data.toList.length = S.size := by simp
  have hpos : 0 < S.size := by
    rcases Nat.eq_zero_or_pos S.size with h | h
    · unfold noBack at hx
      rw [hl, h] at hx
      simp at hx
    · exact h
  have hz : S.data.toList.getD (S.size - 1) 0 ≠ 0 := by
    intro e
    unfold noBack at hx
    rw [hl, e] at hx
    simp at hx
  have h1 : ¬ S.toList = [] := by
    rw [list_of_bytes]
    intro e
    rw [e] at hl
    simp at hl
    omega
  have h3 : (!S.toList.isEmpty) = true := by simpa using h1
  have h4 : S.toList.isEmpty = false := by simpa using h1
  have e1 : ((S.size : Int) - 1).toNat = S.size - 1 := by omega
  have hlt : S.size - 1 < S.size := by omega
  have hb : (((S[S.size - 1]).toNat : Int) == 0) = false := by
    have : S[S.size - 1] = S.data.toList.getD (S.size - 1) 0 := by
      rw [List.getD_eq_getElem?_getD, List.getElem?_eq_getElem (by rw [hl]; exact hlt)]
      rfl
    rw [this]
    have : (S.data.toList.getD (S.size - 1) 0).toNat ≠ 0 := fun e => hz (UInt8.toNat_inj.1 (by simpa using e))
    simpa using this
  have hbit : bitAt S.data.toList (top S.data.toList) = true := bit_top _ (by rw [hl]; exact hz)
  have habove := Lib.hid (fun i => bit_above S.data.toList i)
  have htl : top S.data.toList < 8 * S.size := by have := top_lt S.data.toList (by omega); omega
  have HB := Lib.hid (fun W => refBits_any S W hs)
  have HLn := Lib.hid (bitsOf_length S.data.toList)
  have HG := Lib.hid (fun i h => bitsOf_get S.data.toList i h)
  have Hl := Lib.hid hl
  have HBt := Lib.hid hbit
  clear hz hx hl hbit
  generalize top S.data.toList = T at *
  go_enter Try.func16, Try.ntmps16
  go_wp2_with fail
  refine (HB.out _).mono ?_
  rintro e w1 ⟨v, rfl, ho, hB⟩
  obtain ⟨A, c, hv, hc, hd⟩ := ho.form
  subst hv
  have hLe : (bitsOf S.data.toList).length = 8 * S.size := by rw [HLn.out, Hl.out]
  rw [hLe] at hc ⊢
  have hsz := hB.size
  have hbx : Box w1 w.heap.size 49 #[.slice none 0 0, .int .i64 0] := (Box.new w _ _).below hB (by simp)
  have z0 : w1.cell? ⟨w.heap.size, 0, none⟩ = some (.slice none 0 0) := hbx.cell 0
  have z1 : w1.cell? ⟨w.heap.size, 1, none⟩ = some (.int .i64 0) := hbx.cell 1
  have y0 := hbx.free 0
  have y1 := hbx.free 1
  have HD := Lib.hid hd
  have HLe := Lib.hid hLe
  have HBl := Lib.hid hB
  simp only [World.size_alloc] at hsz
  clear ho hd hB hbx hLe
  go_wp2_with fail
  go_loopg [5] (8 * S.size) (fun gh i wx => ∃ k : Nat, w1 = wx ∧ k ≤ gh ∧ T ≤ k ∧ k < 8 * S.size ∧ i = .int .i64 k)
  case atStart => exact ⟨8 * S.size - 1, rfl, by omega, by omega, by omega, by rw [show ((8 * S.size - 1 : Nat) : Int) = 8 * (S.size : Int) - 1 by omega]⟩
  case round =>
    obtain ⟨k, rfl, hk, hTk, hk8, rfl⟩ := hrel
    have HK := Lib.hid hk
    clear hk
    have hkl : k < (bitsOf S.data.toList).length := by rw [HLe.out]; exact hk8
    have HDT := Lib.hid (HD.out.take T)
    obtain ⟨d, o, rfl, hdl, hdh, hc2⟩ := HD.out (by omega)
    have hck := hc2 k hkl
    rw [bitsOf_get] at hck
    clear hc2 hkl
    by_cases hkT : k = T
    · subst hkT
      rw [HBt.out] at hck
      have hkc : k ≤ c := by omega
      go_wp2_with fail
      refine bodyPost_ret (v := .tuple #[.agg #[.slice (some ⟨d, o, none⟩) k c, .int .i64 0], .int .i64 0]) (by simp [results, Try.results16, go_sem, *]) rfl ⟨some ⟨d, o, none⟩, c, rfl, ?_, hkc, ?_⟩
      · have hdt := HDT.out
        simp only [World.size_alloc] at hdt
        refine DatE.mono (lo := w.heap.size + 1) (hi := w1.heap.size) ?_ (by omega) (by simp [World.setCell])
        exact (hdt.far (p := ⟨w.heap.size, 0, none⟩) (.inl (by show w.heap.size < _; omega)) _).far (p := ⟨w.heap.size, 1, none⟩) (.inl (by show w.heap.size < _; omega)) _
      · have hb := HBl.out
        simp only [World.size_alloc] at hb
        exact ((((Below.refl _ _).alloc (Nat.le_refl _) _).trans (hb.mono (by omega))).setCell (Nat.le_refl _) _).setCell (Nat.le_refl _) _
    · rw [habove.out k (by omega) (by rw [Hl.out]; exact hk8)] at hck
      have hk0 : 1 ≤ k := by omega
      go_wp2_with fail
      go_roundg (k - 1)
      case measure => have := HK.out; omega
      case rel => exact ⟨k - 1, rfl, Nat.le_refl _, by omega, by omega, by rw [show ((k - 1 : Nat) : Int) = (k : Int) - 1 by omega]⟩

theorem cut_len {xs : List UInt8} {left : Int} (h : left ≤ 8 * xs.length) : ((bitsOf xs).take left.toNat).length = left.toNat := by
  rw [List.length_take, bitsOf_length]
  omega

theorem refLast_no {A : Option Addr} {n c : Nat} {lack : Int} (k : Int) (w : World) (hk : wid k = false) :
    Calls Try.prog 38 #[.agg #[.slice A n c, .int .i64 lack], .int .i64 k] w fun e w' => e = .returned (.tuple #[.agg #[.slice A n c, .int .i64 lack], .int .u64 0]) ∧ Below w.heap.size w w' := by
  have h : k < 1 ∨ 56 < k := by unfold wid at hk; simp at hk; omega
  clear hk
  rcases h with h | h
  · go_enter Try.func38, Try.ntmps38
    go_wp2
    exact bodyPost_ret (v := .tuple #[.agg #[.slice A n c, .int .i64 lack], .int .u64 0]) (by simp [results, Try.results38, go_sem]) rfl ⟨rfl, by repeat (first | exact Below.refl _ _ | refine Below.alloc ?_ (by simp) _ | refine Below.setCell ?_ (by simp) _)⟩
  · have h1 : 1 ≤ k := by omega
    go_enter Try.func38, Try.ntmps38
    go_wp2
    exact bodyPost_ret (v := .tuple #[.agg #[.slice A n c, .int .i64 lack], .int .u64 0]) (by simp [results, Try.results38, go_sem]) rfl ⟨rfl, by repeat (first | exact Below.refl _ _ | refine Below.alloc ?_ (by simp) _ | refine Below.setCell ?_ (by simp) _)⟩

set_option maxHeartbeats 1000000 in
/-- Where there are enough. -/
theorem refLast_full {l : List Bool} {w : World} {lo hi : Nat} {A : Option Addr} {m c : Nat} {lack : Int} (k : Nat) (hd : DatE Value.bool w lo hi A l) (hn : l.length = m + k) (hc : m + k ≤ c) (hb : m + k ≤ 1000000000) (hhi : hi ≤ w.heap.size) (h1 : 1 ≤ k) (h2 : k ≤ 56) :
    Calls Try.prog 38 #[.agg #[.slice A (m + k) c, .int .i64 lack], .int .i64 (k : Int)] w fun e w' => e = .returned (.tuple #[.agg #[.slice A m c, .int .i64 lack], .int .u64 (num (l.drop m) : Nat)]) ∧ Below w.heap.size w w' := by
  have hlen : (l.drop m).length = k := by rw [List.length_drop]; omega
  have hcut := hd.cut (k := m) (c := c) (by omega)
  rw [if_neg (by omega)] at hcut
  have HC := Lib.hid ((hcut.alloc hhi (.cells #[.slice A (m + k) c, .int .i64 lack] 49)).alloc (by simp; omega) (.cells #[.slice none 0 0, .int .i64 0] 49))
  have HL := Lib.hid hlen
  have HN := Lib.hid hn
  clear hcut hd hn hlen
  have hcm : ¬ c = m := by omega
  have hk60 : k ≤ 60 := by omega
  have hkf : decide ((m : Int) + (k : Int) < (k : Int)) = false := by simp; omega
  have hk1 : decide ((k : Int) < 1) = false := by simp; omega
  have hk56 : decide (56 < (k : Int)) = false := by simp; omega
  have HR := Lib.hid (fun W hd => refNum_any (w := W) (lo := lo) (hi := hi) (A := A.map (·.add m)) (c := c - m) (l := l.drop m) hd HL.out hk60)
  generalize num (l.drop m) = X at *
  go_enter Try.func38, Try.ntmps38
  go_wp2_with fail
  refine (HR.out _ HC.out).mono ?_
  rintro e w' ⟨rfl, rfl⟩
  go_wp2_with fail
  go_loop [7, 8] (fun x i => x = .int .u64 (X : Int) ∧ i = .int .i64 (k : Int)) (fun _ _ => 0)
  case atStart => exact ⟨rfl, rfl⟩
  case round =>
    obtain ⟨rfl, rfl⟩ := hrel
    go_wp2_with fail
    exact bodyPost_ret (v := .tuple #[.agg #[.slice A m c, .int .i64 lack], .int .u64 (X : Int)]) (by simp [results, Try.results38, go_sem]) rfl ⟨rfl, by repeat (first | exact Below.refl _ _ | refine Below.alloc ?_ (by simp) _ | refine Below.setCell ?_ (by simp) _)⟩

theorem twice (X j : Nat) (h : X * 2 ^ j < 2 ^ 57) : IntKind.u64.wrap (((X * 2 ^ j : Nat) : Int) * 2) = ((X * 2 ^ (j + 1) : Nat) : Int) := by
  rw [Nat.pow_succ, ← Nat.mul_assoc, IntKind.wrap_u64]
  generalize X * 2 ^ j = Y at *
  omega

set_option maxHeartbeats 1000000 in
/-- Where some lack. -/
theorem refLast_part {l : List Bool} {w : World} {lo hi : Nat} {A : Option Addr} {n c : Nat} {lack : Int} (k : Nat) (hd : DatE Value.bool w lo hi A l) (hn : l.length = n) (hhi : hi ≤ w.heap.size) (h1 : 1 ≤ k) (h2 : k ≤ 56) (hk : n < k)
    (hl0 : 0 ≤ lack) (hl1 : lack ≤ 1000000000000) :
    Calls Try.prog 38 #[.agg #[.slice A n c, .int .i64 lack], .int .i64 (k : Int)] w fun e w' =>
      e = .returned (.tuple #[.agg #[.slice A 0 c, .int .i64 (lack + (k - n : Nat))], .int .u64 (num l * 2 ^ (k - n) : Nat)]) ∧ Below w.heap.size w w' := by
  have HC := Lib.hid ((hd.alloc hhi (.cells #[.slice A n c, .int .i64 lack] 49)).alloc (by simp; omega) (.cells #[.slice none 0 0, .int .i64 0] 49))
  have hX : num l < 2 ^ n := by rw [← hn]; exact num_lt l
  have HX := Lib.hid hX
  have HL := Lib.hid hn
  clear hd hn hX
  have hk60 : n ≤ 60 := by omega
  have hkf : decide ((n : Int) < (k : Int)) = true := by simp; omega
  have hk1 : decide ((k : Int) < 1) = false := by simp; omega
  have hk56 : decide (56 < (k : Int)) = false := by simp; omega
  have HR := Lib.hid (fun W hd => refNum_any (w := W) (lo := lo) (hi := hi) (A := A) (c := c) (l := l) hd HL.out hk60)
  generalize num l = X at *
  generalize hq : k - n = q at *
  have Hq := Lib.hid hq
  clear hq
  go_enter Try.func38, Try.ntmps38
  go_wp2_with fail
  refine (HR.out _ HC.out).mono ?_
  rintro e w' ⟨rfl, rfl⟩
  go_wp2_with fail
  go_loopg [7, 8] q (fun gh x i wx => ∃ j : Nat, j + gh = q ∧ x = .int .u64 (X * 2 ^ j : Nat) ∧ i = .int .i64 (n + j : Nat) ∧ Box wx w.heap.size 49 #[.slice A n c, .int .i64 (lack + (j : Nat))] ∧ Box wx (w.heap.size + 1) 49 #[.slice none 0 0, .int .i64 0] ∧ Below w.heap.size w wx)
  case atStart => exact ⟨0, by omega, by simp, rfl, by simpa using (Box.new w _ _).alloc _, by simpa using Box.new (w.alloc _) _ _, ((Below.refl _ _).alloc (Nat.le_refl _) _).alloc (by simp) _⟩
  case round =>
    obtain ⟨j, hj, rfl, rfl, hb0, hb1, hB⟩ := hrel
    have HJ := Lib.hid hj
    have hjk : j ≤ q := by omega
    have hqk : (q : Int) + n = k := by have := Hq.out; omega
    have c0 : wr.cell? ⟨w.heap.size, 0, none⟩ = some (.slice A n c) := hb0.cell 0
    have c1 : wr.cell? ⟨w.heap.size, 1, none⟩ = some (.int .i64 (lack + (j : Nat))) := hb0.cell 1
    have f0 := hb0.free 0
    have f1 := hb0.free 1
    have d0 : wr.cell? ⟨w.heap.size + 1, 0, none⟩ = some (.slice none 0 0) := hb1.cell 0
    have d1 : wr.cell? ⟨w.heap.size + 1, 1, none⟩ = some (.int .i64 0) := hb1.cell 1
    have g0 := hb1.free 0
    have g1 := hb1.free 1
    have HB0 := Lib.hid hb0
    have HB1 := Lib.hid hb1
    have HB := Lib.hid hB
    clear hj hb0 hb1 hB
    by_cases hjl : j < q
    · have hlt : (n : Int) + (j : Int) < (k : Int) := by omega
      have HT := Lib.hid (twice X j (by
        have h1 : X * 2 ^ j < 2 ^ (n + j) := by rw [Nat.pow_add]; exact Nat.mul_lt_mul_of_pos_right HX.out (Nat.two_pow_pos j)
        have h2 : 2 ^ (n + j) ≤ 2 ^ 56 := Nat.pow_le_pow_right (by omega) (by omega)
        omega))
      generalize X * 2 ^ j = Y at *
      go_wp2_with fail
      go_roundg (q - (j + 1))
      case measure => have := HJ.out; omega
      case rel =>
        refine ⟨j + 1, by omega, by rw [HT.out], by rw [show ((n + (j + 1) : Nat) : Int) = (n : Int) + (j : Int) + 1 by omega], ?_, HB1.out.far (by show w.heap.size + 1 ≠ w.heap.size; omega) _, HB.out.setCell (Nat.le_refl _) _⟩
        have := HB0.out.put 1 (.int .i64 (lack + (j : Int) + 1))
        rw [show (lack + ((j + 1 : Nat) : Int)) = lack + (j : Int) + 1 by omega]
        exact this
    · have hnl : ¬ (n : Int) + (j : Int) < (k : Int) := by omega
      obtain rfl : j = q := by omega
      go_wp2_with fail
      exact bodyPost_ret (v := .tuple #[.agg #[.slice A 0 c, .int .i64 (lack + (j : Int))], .int .u64 (X * 2 ^ j : Nat)]) (by simp [results, Try.results38, go_sem, *]) rfl ⟨by simp, by repeat (first | exact HB.out | refine Below.setCell ?_ (by simp) _)⟩

theorem refLast_any {xs : List UInt8} {w : World} {lo hi : Nat} {A : Option Addr} {c : Nat} {left : Int} (k : Int) (hd : DatE Value.bool w lo hi A ((bitsOf xs).take left.toNat)) (hc : left.toNat ≤ c) (hb : xs.length ≤ 100000000)
    (hhi : hi ≤ w.heap.size) (hl : left ≤ 8 * xs.length) (hlow : -1000000000000 ≤ left) :
    Calls Try.prog 38 #[.agg #[.slice A left.toNat c, .int .i64 ((left.toNat : Int) - left)], .int .i64 k] w fun e w' =>
      e = .returned (.tuple #[.agg #[.slice A (bread xs left k).2.toNat c, .int .i64 (((bread xs left k).2.toNat : Int) - (bread xs left k).2)], .int .u64 ((bread xs left k).1 : Nat)]) ∧ Below w.heap.size w w' := by
  by_cases hk : wid k = true
  · have hk' : 1 ≤ k ∧ k ≤ 56 := by simpa [wid] using hk
    obtain ⟨m, rfl⟩ := Int.eq_ofNat_of_zero_le (show 0 ≤ k by omega)
    have hb2 : bread xs left m = (num (((bitsOf xs).drop (left.toNat - there left m)).take (there left m)) * 2 ^ ((m : Int).toNat - there left m), left - m) := by
      rw [bread, if_pos hk]
    rw [hb2]
    have hlen := cut_len hl
    by_cases hm : m ≤ left.toNat
    · have ht : there left m = m := by unfold there; omega
      have h := refLast_full (c := c) (m := left.toNat - m) (lack := (left.toNat : Int) - left) m hd (by rw [hlen]; omega) (by omega) (by omega) hhi (by omega) (by omega)
      rw [show left.toNat - m + m = left.toNat by omega, List.drop_take, show left.toNat - (left.toNat - m) = m by omega] at h
      rw [ht]
      have e1 : (left - (m : Int)).toNat = left.toNat - m := by omega
      have e2 : (((left - (m : Int)).toNat : Int) - (left - (m : Int))) = (left.toNat : Int) - left := by omega
      rw [e2, e1, show (m : Int).toNat - m = 0 by omega, Nat.pow_zero, Nat.mul_one]
      exact h
    · have ht : there left m = left.toNat := by unfold there; omega
      have h := refLast_part (c := c) (lack := (left.toNat : Int) - left) m hd hlen hhi (by omega) (by omega) (by omega) (by omega) (by omega)
      rw [ht]
      have e1 : (left - (m : Int)).toNat = 0 := by omega
      have e2 : (((left - (m : Int)).toNat : Int) - (left - (m : Int))) = (left.toNat : Int) - left + ((m - left.toNat : Nat) : Int) := by omega
      rw [e2, e1, show (m : Int).toNat - left.toNat = m - left.toNat by omega, Nat.sub_self, List.drop_zero]
      exact h
  · have hk' : wid k = false := by simpa using hk
    have hb2 : bread xs left k = (0, left) := by rw [bread, if_neg hk]
    rw [hb2]
    exact refLast_no k w hk'
end Go.Proofs.Ytchpaeelpaicbaa
