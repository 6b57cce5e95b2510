
/- The document's Plan, where sequences are a plan: it says so. -/
import Derived.Test.YtfaonmggiffemaaDoorMatPlan
import Derived.Test.YtfaonmggiffemaaDoorCurApp
namespace Go.Proofs.YtfaonmggiffemaaDoor
open Go.RowKit

theorem str_sizeM (xs : List UInt8) : (str xs).size = xs.length := by simp [str, ByteArray.size]
theorem mcell_get (s : MSq) : s.cells[0]? = some (.int .u32 (s.l : Int)) ∧ s.cells[1]? = some (.int .u32 (s.m : Int)) ∧ s.cells[2]? = some (.int .u32 (s.o : Int)) := ⟨rfl, rfl, rfl⟩

set_option maxRecDepth 100000 in
set_option maxHeartbeats 4000000 in
theorem refPlan_any {w : World} {lo hi : Nat} {A : Option Addr} {m c : Nat} {L : List MSq} {xs : List UInt8} {n fr q b : Nat} (hd : DatR 3 MSq.cells w lo hi A L) (hl : L.length = m) (hn : n ≤ xs.length) (hx : xs.length ≤ 1000000) (hm : MkP xs n fr L q) (hq : q + b = n) (hfr : fr ≤ n) :
    Calls Tryd.prog 9 #[.string (str xs), .int .i64 (fr : Int), .int .i64 (n : Int), .slice A m c, .int .i64 (b : Int)] w fun e w' => e = .returned (.bool true) ∧ ∃ z, w' = w.drewN z := by
  have HD := Lib.hid hd
  have HL := Lib.hid hl
  have HM := Lib.hid hm
  have HQ := Lib.hid hq
  have hmn := hm.all
  have hqn := hm.below hfr
  have HS : Hid (∀ j (h : j < (str xs).size), (str xs)[j] = xs.getD j 0) := fun j h => by
    rw [str_sizeM] at h
    rw [List.getD_eq_getElem?_getD, List.getElem?_eq_getElem h]
    rfl
  have hsz := str_sizeM xs
  have hmm : m ≤ 1000000 := by omega
  clear hd hm hl hq hmn
  generalize str xs = S at *
  go_enter Tryd.func9, Tryd.ntmps9
  go_wp2_with fail
  go_loopg [11, 12] m (fun gh a i wx => ∃ k p z : Nat, i = .int .i64 (k : Int) ∧ a = .int .i64 (p : Int) ∧ k + gh = m ∧ p ≤ n ∧ wx = w.drewN z ∧ Hid (MkP xs n p (L.drop k) q))
  case atStart => exact ⟨0, fr, 0, rfl, rfl, by omega, hfr, rfl, HM.out⟩
  case round =>
    obtain ⟨k, p, z, rfl, rfl, hkg, hpn, rfl, HP⟩ := hrel
    have HKG := Lib.hid hkg
    have hkm : k ≤ m := by omega
    clear HM hkg
    by_cases hlt : k < m
    · obtain ⟨g', rfl⟩ : ∃ g', gk = g' + 1 := ⟨gk - 1, by have := HKG.out; omega⟩
      have hki : (k : Int) < (m : Int) := by omega
      have hkl : k < L.length := by have := HL.out; omega
      obtain ⟨d, o, rfl, hd1, hd2, hc⟩ := HD.out (by omega)
      have hP := HP.out
      rw [List.drop_eq_getElem_cons hkl] at hP
      obtain ⟨hF, hR⟩ := hP
      have x0 := hc k hkl 0 _ (mcell_get _).1
      have x1 := hc k hkl 1 _ (mcell_get _).2.1
      have x2 := hc k hkl 2 _ (mcell_get _).2.2
      rw [Nat.add_zero] at x0
      obtain ⟨s, hs⟩ : ∃ s, s = L[k] := ⟨_, rfl⟩
      rw [← hs] at hF hR x0 x1 x2
      obtain ⟨l, mm, oo⟩ := s
      have HF := Lib.hid hF
      have HR := Lib.hid hR
      have f1 : p + l + mm ≤ n := hF.room
      have f2 : 3 ≤ mm := hF.least
      have f3 : mm ≤ 131074 := hF.most
      have f4 : 1 ≤ oo := hF.off
      have f5 : oo ≤ p + l := hF.ahead
      dsimp only at x0 x1 x2
      have c1 : ¬ ((n : Int) - (p : Int)) < (l : Int) := by omega
      have c2 : ¬ (mm : Int) < 3 := by omega
      have c3 : ¬ (131074 : Int) < (mm : Int) := by omega
      have c4 : ¬ (oo : Int) < 1 := by omega
      have c5 : ¬ ((p : Int) + (l : Int)) < (oo : Int) := by omega
      have c6 : ¬ ((n : Int) - ((p : Int) + (l : Int))) < (mm : Int) := by omega
      clear hF hR hc hs
      go_wp2_with fail
      obtain ⟨y0, hy0⟩ : ∃ y0, y0 = p + l := ⟨_, rfl⟩
      have HY0 := Lib.hid hy0
      have hy0i : ((p : Int) + (l : Int)) = (y0 : Int) := by omega
      rw [hy0i]
      clear hy0 hy0i
      go_loopg [11, 14] mm (fun gh a i wx => ∃ j y z2 : Nat, i = .int .i64 (j : Int) ∧ a = .int .i64 (y : Int) ∧ Hid (y = y0 + j) ∧ j + gh = mm ∧ wx = w.drewN z2)
      case atStart => exact ⟨0, y0, z, rfl, rfl, rfl, by omega, rfl⟩
      case round =>
        obtain ⟨j, y, z2, rfl, rfl, HY, hjg, rfl⟩ := hrel
        have HJG := Lib.hid hjg
        have hjm : j ≤ mm := by omega
        have hyn : y ≤ n := by have := HY.out; have := HY0.out; omega
        clear hjg c1 c2 c3 c4 c5 c6
        by_cases hjl : j < mm
        · obtain ⟨gj, hgj⟩ : ∃ gj, gk = gj + 1 := ⟨gk - 1, by have := HJG.out; omega⟩
          subst hgj
          have hji : (j : Int) < (mm : Int) := by omega
          have hyb : y < n ∧ oo ≤ y := by have := HY.out; have := HY0.out; omega
          have i1 : (y : Int) - (oo : Int) = ((y - oo : Nat) : Int) := by omega
          have e1 : ∀ W, (Instr.index 9 (.string S) (.int .i64 (y : Int))).run Tryd.prog W = .ok (.int .u8 ((xs.getD y 0).toNat : Int)) W := fun W => by
            rw [run_index_string _ _ _ _ _ Tryd.underlying9]
            rw [dif_pos (by omega)]
            simp only [Int.toNat_natCast, HS.out y (show y < S.size by omega)]
          have e3 : xs.getD y 0 = xs.getD (y - oo) 0 := by
            have h := HF.out.same j hjl
            dsimp only at h
            rw [show p + l + j = y by have := HY.out; have := HY0.out; omega, show p + l - oo + j = y - oo by have := HY.out; have := HY0.out; omega] at h
            exact h
          have e2 : ∀ W, (Instr.index 9 (.string S) (.int .i64 ((y - oo : Nat) : Int))).run Tryd.prog W = .ok (.int .u8 ((xs.getD y 0).toNat : Int)) W := fun W => by
            rw [run_index_string _ _ _ _ _ Tryd.underlying9]
            rw [dif_pos (by omega)]
            simp only [Int.toNat_natCast, HS.out (y - oo) (show y - oo < S.size by omega), e3]
          clear e3
          generalize xs.getD y 0 = X at *
          have ixx : ((X.toNat : Int) == (X.toNat : Int)) = true := by simp
          go_wp2_with fail
          go_quiet (fail)
          go_wp2_with fail
          go_roundg gj
          case rel => exact ⟨j + 1, y + 1, _, by go_num, by go_num, by have := HY.out; exact Lib.hid (by omega), by have := HJG.out; omega, rfl⟩
          case measure => omega
        · obtain rfl : j = mm := by omega
          have hji : ¬ (j : Int) < (j : Int) := by omega
          go_wp2_with fail
          go_roundg g'
          case rel => exact ⟨k + 1, y, z2, by go_num, by go_num, by have := HKG.out; omega, hyn, rfl, by have h1 := HY.out; have h2 := HY0.out; rw [show y = p + l + j by omega]; exact HR.out⟩
          case measure => omega
    · obtain rfl : k = m := by omega
      have hki : ¬ (k : Int) < (k : Int) := by omega
      have hP := HP.out
      rw [List.drop_of_length_le (by rw [HL.out]; exact Nat.le_refl _)] at hP
      have hpq : p = q := hP
      subst hpq
      have hbi : (n : Int) - (p : Int) = (b : Int) := by have := HQ.out; omega
      have hbm : b ≤ 1000000 := by have := HQ.out; omega
      clear hP HP
      go_wp2_with fail
      go_ret
      exact ⟨rfl, z, rfl⟩
end Go.Proofs.YtfaonmggiffemaaDoor
