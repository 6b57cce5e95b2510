
/- The contract of the program's layOthers. -/
import Derived.Test.YtpdnmhnnngcbjaaDoorFseRare
namespace Go.Proofs.YtpdnmhnnngcbjaaDoor
open Go.RowKit

theorem ot_mono (ps : List Int) {a b : Nat} (h : a ≤ b) : (ot ps a).length ≤ (ot ps b).length := by
  induction b with
  | zero => obtain rfl : a = 0 := by omega
            exact Nat.le_refl _
  | succ b ih =>
    by_cases e : a = b + 1
    · rw [e]; exact Nat.le_refl _
    · have := ih (by omega)
      rw [ot, List.length_append]
      omega
/-- Where the walk stands when the first k symbols are laid, and j states of the next one. -/
def at_ (l : Nat) (ps : List Int) (L : List Nat) (k j : Nat) : List Nat × Nat := lay (2 ^ l) (fe l ps) L (ot ps k ++ List.replicate j k)
theorem at_zero (l : Nat) (ps : List Int) (L : List Nat) : at_ l ps L 0 0 = (L, 0) := rfl
theorem at_next (l : Nat) (ps : List Int) (L : List Nat) (k : Nat) : at_ l ps L (k + 1) 0 = at_ l ps L k (ps.getD k 0).toNat := by
  unfold at_
  rw [List.replicate_zero, List.append_nil, ot]
theorem at_step (l : Nat) (ps : List Int) (L : List Nat) (k j : Nat) : at_ l ps L k (j + 1) = ((at_ l ps L k j).1.set (at_ l ps L k j).2 k, skip (2 ^ l) (fe l ps) (2 ^ l) (nx (2 ^ l) (at_ l ps L k j).2)) := by
  unfold at_
  rw [List.replicate_succ', ← List.append_assoc, lay_snoc]
  rfl
theorem MayF.at_bd {l : Nat} {ps : List Int} (h : MayF l ps) (L : List Nat) (hL : L.length = 2 ^ l) (k j : Nat) (hk : k < ps.length) (hj : j ≤ (ps.getD k 0).toNat) :
    (at_ l ps L k j).1.length = 2 ^ l ∧ (0 < fe l ps → (at_ l ps L k j).2 < fe l ps) ∧ (0 < (ps.getD k 0).toNat → 0 < fe l ps) := by
  have h1 := ot_mono ps (show k + 1 ≤ ps.length by omega)
  rw [ot, List.length_append, List.length_replicate, h.fe_eq] at h1
  have hS : (ot ps k ++ List.replicate j k).length ≤ fe l ps := by rw [List.length_append, List.length_replicate]; omega
  refine ⟨lay_len h.l5 h.fe_le.1 L hL _ hS, fun h0 => lay_below h.l5 h.fe_le.1 h0 L hL _ hS, fun h0 => by omega⟩

set_option maxRecDepth 100000 in
set_option maxHeartbeats 2000000 in
theorem layOthers_any {w : World} {base d c lo hi m cp l n F : Nat} {A : Option Addr} {ps : List Int} {L : List Nat} (h : MayF l ps) (hn : n = 2 ^ l) (hF : F = fe l ps) (hL : L.length = 2 ^ l) (ho : OwE bocel w 5 base (.slice (some ⟨d, 0, none⟩) n c) L) (hd : DatE icel w lo hi A ps) (hdl : d < lo ∨ hi ≤ d) (hm : ps.length = m) :
    Calls Tryd.prog 50 #[.slice (some ⟨d, 0, none⟩) n c, .slice A m cp, .int .i64 (F : Int)] w fun e w' =>
      e = .returned (.tuple #[]) ∧ OwE bocel w' 5 base (.slice (some ⟨d, 0, none⟩) n c) (lay (2 ^ l) (fe l ps) L (ot ps ps.length)).1 ∧ Stp w w' d := by
  have HM := Lib.hid hm
  have HO := Lib.hid ho
  have HD := Lib.hid hd
  have HMay := Lib.hid h
  have HN := Lib.hid hn
  have HF := Lib.hid hF
  have HL := Lib.hid hL
  have hn5 : 2 ^ 5 ≤ 2 ^ l := Nat.pow_le_pow_right (by omega) h.l5
  have hn15 : 2 ^ l ≤ 2 ^ 15 := Nat.pow_le_pow_right (by omega) h.l15
  have hm2 := h.len
  rw [hm] at hm2 ⊢
  rw [← hn] at hn5 hn15
  have hFn : F ≤ n := by rw [hF, hn]; exact h.fe_le.1
  obtain ⟨s, hs⟩ : ∃ s : Nat, (s : Int) = (n : Int) / 2 + (n : Int) / 8 + 3 := ⟨stp n, by unfold stp; omega⟩
  have hs2 : s = stp n := by unfold stp; omega
  have hsn : s ≤ n := by omega
  have HS2 := Lib.hid hs2
  have HSI := Lib.hid hs
  clear ho hd h hn hF hL hm hs hs2
  go_enter Tryd.func50, Tryd.ntmps50
  go_wp2_with fail
  rw [← HSI.out]
  have HAt := Lib.hid (at_zero l ps L)
  go_loopg [8, 21] m (fun gh v i wx => ∃ k a : Nat, k + gh = m ∧ i = .int .i64 (k : Int) ∧ v = .int .i64 (a : Int) ∧ a = (at_ l ps L k 0).2 ∧ (0 < F → a < F) ∧ OwE bocel wx 5 base (.slice (some ⟨d, 0, none⟩) n c) (at_ l ps L k 0).1 ∧ Stp w wx d)
  case atStart => exact ⟨0, 0, by omega, rfl, rfl, by rw [HAt.out], fun h => h, by rw [HAt.out]; exact HO.out, Stp.refl _ _⟩
  case round =>
    obtain ⟨k, a, hk, rfl, rfl, ha, haF, ho, hs⟩ := hrel
    have HO1 := Lib.hid ho
    have HS1 := Lib.hid hs
    have HK := Lib.hid hk
    have HA1 := Lib.hid ha
    have HAF := Lib.hid haF
    have hkm : k ≤ m := by omega
    clear ho hs hk ha haF
    by_cases hlt : k < m
    · obtain ⟨g', rfl⟩ : ∃ g', gk = g' + 1 := ⟨gk - 1, by have := HK.out; omega⟩
      have hkl : k < ps.length := by have := HM.out; omega
      obtain ⟨d1, o1, rfl, q1, q2, hc⟩ := HD.out (by omega)
      have hcell := (World.cell?_of_block (a := ⟨d1, o1 + k, none⟩) (HS1.out.1.block d1 (World.block_lt_of_cell? _ ⟨d1, o1 + k, none⟩ (hc k hkl)) (by intro e; injection e with e; omega))).trans (hc k hkl)
      unfold icel at hcell
      have HG := Lib.hid (getD_eq ps k 0 hkl)
      have hki : (k : Int) < (m : Int) := by omega
      have hpg := HMay.out.ge ps[k] (List.getElem_mem hkl)
      clear hc
      generalize ps[k] = p at *
      obtain ⟨P, hP⟩ : ∃ P : Nat, P = (ps.getD k 0).toNat := ⟨_, rfl⟩
      have hpP : P = p.toNat := by rw [hP, HG.out]
      have HPP := Lib.hid hP
      have hP32 : P ≤ n := by
        have h1 := HMay.out.fe_le.1
        have h2 := ot_mono ps (show k + 1 ≤ ps.length by omega)
        rw [ot, List.length_append, List.length_replicate, HMay.out.fe_eq, ← hP] at h2
        have := HN.out
        omega
      have HPp := Lib.hid hpP
      clear hP hpP
      have hp15 : p ≤ 32768 := by have := HPp.out; omega
      go_wp2_with fail
      go_step3
      go_wp2_with fail
      go_step3
      go_wp2_with fail
      obtain ⟨wo, rfl⟩ : ∃ wo : World, wo = wr := ⟨_, rfl⟩
      have HAn := Lib.hid (at_next l ps L k)
      have HCv := Lib.hid (HMay.out.at_bd L HL.out k 0 hkl (Nat.zero_le _))
      go_loopg [8, 27] P (fun gh v i wx => ∃ j a : Nat, j + gh = P ∧ i = .int .i64 (j : Int) ∧ v = .int .i64 (a : Int) ∧ a = (at_ l ps L k j).2 ∧ (0 < F → a < F) ∧ OwE bocel wx 5 base (.slice (some ⟨d, 0, none⟩) n c) (at_ l ps L k j).1 ∧ Stp w wx d)
      case atStart => exact ⟨0, a, by omega, rfl, rfl, HA1.out, HAF.out, HO1.out, HS1.out⟩
      case round =>
        clear HA1 HAF HO1 HS1
        obtain ⟨j, a, hj, rfl, rfl, ha, haF, ho, hs⟩ := hrel
        have HO1 := Lib.hid ho
        have HS1 := Lib.hid hs
        have HJ := Lib.hid hj
        have HA1 := Lib.hid ha
        have HAF := Lib.hid haF
        have hjP : j ≤ P := by omega
        clear ho hs hj ha haF
        by_cases hjl : j < P
        · obtain ⟨g2, rfl⟩ : ∃ g2, gk = g2 + 1 := ⟨gk - 1, by have := HJ.out; omega⟩
          have hji : (j : Int) < p := by have := HPp.out; omega
          have hF0 : 0 < F := by have := HCv.out.2.2; rw [HF.out]; apply this; have := HPP.out; omega
          have haF := HAF.out hF0
          have hlen : (at_ l ps L k j).1.length = n := by rw [(HMay.out.at_bd L HL.out k j hkl (by have := HPP.out; omega)).1, HN.out]
          have hnb := (HMay.out.at_bd L HL.out k (j + 1) hkl (by have := HPP.out; omega)).2.1 (by rw [← HF.out]; exact hF0)
          have HSt := Lib.hid (at_step l ps L k j)
          rw [HSt.out] at hnb
          rw [← HF.out, ← HN.out, ← HA1.out] at HSt
          rw [← HF.out, ← HN.out, ← HA1.out] at hnb
          dsimp only at hnb
          obtain ⟨x0, c1, f1⟩ : ∃ x0 : Nat, wr.cell? ⟨d, a, none⟩ = some (.int .u8 (x0 : Int)) ∧ wr.frozen? ⟨d, a, none⟩ = false := ⟨_, HO1.out.cellAt a (by omega)⟩
          have HPut := Lib.hid (HO1.out.put a k)
          have hw8 : IntKind.u8.wrap (k : Int) = (k : Int) := by rw [IntKind.wrap_u8']; omega
          obtain ⟨T, hT⟩ : ∃ T, T = skip n F n (nx n a) := ⟨_, rfl⟩
          rw [← hT] at hnb HSt
          have HT := Lib.hid hT
          clear hT hlen
          go_wp2_with fail
          clear c1 f1
          have HS3 : Hid (Stp w (wr.setCell ⟨d, a, none⟩ (.int .u8 (k : Int))) d) := HS1.out.trans (Stp.set _ _ _ _)
          have HO3 : Hid (OwE bocel (wr.setCell ⟨d, a, none⟩ (.int .u8 (k : Int))) 5 base (.slice (some ⟨d, 0, none⟩) n c) (at_ l ps L k (j + 1)).1) := by
            rw [HSt.out]
            exact HPut.out
          generalize wr.setCell ⟨d, a, none⟩ (.int .u8 (k : Int)) = w3 at *
          go_loopg [8] n (fun gh v wx => ∃ a : Nat, v = .int .i64 (a : Int) ∧ a < n ∧ T = skip n F gh (nx n a) ∧ wx = w3)
          case atStart => exact ⟨a, rfl, by omega, HT.out, rfl⟩
          case round =>
            clear HT HPut haF
            obtain ⟨a, rfl, han, hTs, rfl⟩ := hrel
            have HTs := Lib.hid hTs
            clear hTs
            have hb : ((a : Int) + (s : Int)) % (n : Int) = ((nx n a : Nat) : Int) := by unfold nx; rw [← HS2.out]; simp
            have HNx : Hid (nx n a < n) := Nat.mod_lt _ (by omega)
            obtain ⟨y, hy⟩ : ∃ y, y = nx n a := ⟨_, rfl⟩
            rw [← hy] at hb HTs HNx
            clear hy
            have hyn := HNx.out
            by_cases hyF : y < F
            · have hyi : (y : Int) < (F : Int) := by omega
              have hyT : y = T := by
                rw [HTs.out]
                cases gk with
                | zero => rfl
                | succ f => rw [skip, if_pos hyF]
              subst hyT
              go_wp2_with fail
              go_roundg g2
              case rel =>
                refine ⟨j + 1, y, by have := HJ.out; omega, by go_num, by first | rfl | rw [hb], by rw [HSt.out], fun _ => hyF, HO3.out, HS3.out⟩
              case measure => omega
            · have hyi : ¬ (y : Int) < (F : Int) := by omega
              obtain ⟨f, hf⟩ : ∃ f, gk = f + 1 := by
                cases gk with
                | zero =>
                  exfalso
                  have := HTs.out
                  rw [skip] at this
                  omega
                | succ f => exact ⟨f, rfl⟩
              subst hf
              have hTn : T = skip n F f (nx n y) := by rw [HTs.out, skip, if_neg hyF]
              have HTn := Lib.hid hTn
              clear hTn
              go_wp2_with fail
              go_roundg f
              case rel => exact ⟨y, by first | rfl | rw [hb], hyn, HTn.out, rfl⟩
              case measure => omega
        · obtain rfl : j = P := by omega
          have hji : ¬ (j : Int) < p := by have := HPp.out; omega
          go_wp2_with fail
          go_roundg g'
          case rel =>
            refine ⟨k + 1, a, by have := HK.out; omega, by go_num, rfl, ?_, HAF.out, ?_, HS1.out⟩
            · rw [HAn.out, ← HPP.out]; exact HA1.out
            · rw [HAn.out, ← HPP.out]; exact HO1.out
          case measure => omega
    · obtain rfl : k = m := by omega
      have hki : ¬ (k : Int) < (k : Int) := by omega
      go_wp2_with fail
      go_end0
      refine ⟨rfl, ?_, HS1.out⟩
      have h1 := HO1.out
      unfold at_ at h1
      rw [List.replicate_zero, List.append_nil] at h1
      exact h1
end Go.Proofs.YtpdnmhnnngcbjaaDoor
