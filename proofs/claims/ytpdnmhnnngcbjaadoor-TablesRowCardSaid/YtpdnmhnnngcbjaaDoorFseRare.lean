
/- The contract of the program's layRare. -/
import Derived.Test.YtpdnmhnnngcbjaaDoorFseEntry
import Derived.Deep.LoopGhost
namespace Go.Proofs.YtpdnmhnnngcbjaaDoor
open Go.RowKit

def bocel (x : Nat) : Value := .int .u8 (x : Int)
theorem bocel_one : ∀ x : Nat, (bocel x).oneCell' = true := fun _ => rfl
theorem rr_mono (ps : List Int) {a b : Nat} (h : a ≤ b) : (rr ps a).length ≤ (rr ps b).length := by
  induction b with
  | zero => obtain rfl : a = 0 := by omega
            exact Nat.le_refl _
  | succ b ih =>
    by_cases e : a = b + 1
    · rw [e]; exact Nat.le_refl _
    · have := ih (by omega)
      rw [rr]
      split
      · rw [List.length_cons]; omega
      · exact this
theorem rare_set {α : Type} (F : Nat) (z x : α) (R : List α) : (List.replicate (F + 1) z ++ R).set F x = List.replicate F z ++ x :: R := by
  rw [List.replicate_succ', List.append_assoc, List.set_append_right _ _ (by simp)]
  simp

set_option maxRecDepth 100000 in
set_option maxHeartbeats 1000000 in
theorem layRare_any {w : World} {base d n c lo hi m cp : Nat} {A : Option Addr} {ps : List Int} (ho : OwE bocel w 5 base (.slice (some ⟨d, 0, none⟩) n c) (List.replicate n 0)) (hd : DatE icel w lo hi A ps) (hdl : d < lo ∨ hi ≤ d) (hm : ps.length = m) (hm2 : m ≤ 256)
    (hR : (rr ps ps.length).length ≤ n) (hn : n ≤ 65536) :
    Calls Tryd.prog 49 #[.slice (some ⟨d, 0, none⟩) n c, .slice A m cp] w fun e w' =>
      e = .returned (.int .i64 ((n - (rr ps ps.length).length : Nat) : Int)) ∧ OwE bocel w' 5 base (.slice (some ⟨d, 0, none⟩) n c) (List.replicate (n - (rr ps ps.length).length) 0 ++ rr ps ps.length) ∧ Stp w w' d := by
  have HO := Lib.hid ho
  have HD := Lib.hid hd
  have HM := Lib.hid hm
  rw [hm] at hR ⊢
  have HR := Lib.hid hR
  clear ho hd hm hR
  go_enter Tryd.func49, Tryd.ntmps49
  go_wp2_with fail
  go_loopg [5, 12] m (fun gh v i wx => ∃ k F : Nat, k + gh = m ∧ i = .int .i64 (k : Int) ∧ v = .int .i64 (F : Int) ∧ F + (rr ps k).length = n ∧ OwE bocel wx 5 base (.slice (some ⟨d, 0, none⟩) n c) (List.replicate F 0 ++ rr ps k) ∧ Stp w wx d)
  case atStart => exact ⟨0, n, by omega, rfl, rfl, by simp [rr], by simpa [rr] using HO.out, Stp.refl _ _⟩
  case round =>
    obtain ⟨k, F, hk, rfl, rfl, hF, ho, hs⟩ := hrel
    have HO1 := Lib.hid ho
    have HS1 := Lib.hid hs
    have HK := Lib.hid hk
    have HF := Lib.hid hF
    have hFn : F ≤ n := by omega
    have hkm : k ≤ m := by omega
    clear ho hs hk hF
    by_cases hlt : k < m
    · obtain ⟨g', rfl⟩ : ∃ g', gk = g' + 1 := ⟨gk - 1, by have := HK.out; omega⟩
      have hkl : k < ps.length := by have := HM.out; omega
      obtain ⟨d1, o1, rfl, q1, q2, hc⟩ := HD.out (by omega)
      have hcell := (World.cell?_of_block (a := ⟨d1, o1 + k, none⟩) (HS1.out.1.block d1 (World.block_lt_of_cell? _ ⟨d1, o1 + k, none⟩ (hc k hkl)) (by intro e; injection e with e; omega))).trans (hc k hkl)
      unfold icel at hcell
      have HG := Lib.hid (getD_eq ps k 0 hkl)
      have hki : (k : Int) < (m : Int) := by omega
      clear hc
      generalize ps[k] = p at *
      by_cases hp : p = -1
      · subst hp
        have hrk : rr ps (k + 1) = k :: rr ps k := by rw [rr, if_pos HG.out]
        have h1 := rr_mono ps (show k + 1 ≤ m by omega)
        rw [hrk, List.length_cons] at h1
        obtain ⟨F', rfl⟩ : ∃ F', F = F' + 1 := ⟨F - 1, by have := HF.out; have := HR.out; omega⟩
        have HRK := Lib.hid hrk
        clear hrk h1
        have hlen : (List.replicate (F' + 1) 0 ++ rr ps k).length = n := by simp; exact HF.out
        obtain ⟨x0, c1, f1⟩ : ∃ x0 : Nat, wr.cell? ⟨d, F', none⟩ = some (.int .u8 (x0 : Int)) ∧ wr.frozen? ⟨d, F', none⟩ = false := ⟨_, HO1.out.cellAt F' (by omega)⟩
        have hst := HO1.out.put F' k
        rw [rare_set] at hst
        have HSt := Lib.hid hst
        have hw8 : IntKind.u8.wrap (k : Int) = (k : Int) := by rw [IntKind.wrap_u8']; omega
        clear hlen hst
        go_wp2_with fail
        go_roundg g'
        case rel =>
          exact ⟨k + 1, F', by have := HK.out; omega, by go_num, rfl, by have := HF.out; rw [HRK.out, List.length_cons]; omega, by rw [HRK.out]; exact HSt.out, HS1.out.trans (Stp.set _ _ _ _)⟩
        case measure => omega
      · have hrk : rr ps (k + 1) = rr ps k := by rw [rr, if_neg (by rw [HG.out]; exact hp)]
        have HRK := Lib.hid hrk
        have hp1 : (p == -1) = false := by simp [hp]
        clear hrk
        go_wp2_with fail
        go_roundg g'
        case rel => exact ⟨k + 1, F, by have := HK.out; omega, by go_num, rfl, by rw [HRK.out]; exact HF.out, by rw [HRK.out]; exact HO1.out, HS1.out⟩
        case measure => omega
    · obtain rfl : k = m := by omega
      have hki : ¬ (k : Int) < (k : Int) := by omega
      have hfe : F = n - (rr ps k).length := by have := HF.out; omega
      have HFE := Lib.hid hfe
      clear hfe
      go_wp2_with fail
      go_ret
      rw [← HFE.out]
      exact ⟨rfl, HO1.out, HS1.out⟩
end Go.Proofs.YtpdnmhnnngcbjaaDoor
