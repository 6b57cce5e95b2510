/- The contracts of the program's New, Sum and Of. -/
import Derived.Test.YtlcbopjadjbmoaaXxhWrite
namespace Go.Proofs.Ytlcbopjadjbmoaa
open Go.RowKit

set_option maxRecDepth 100000 in
theorem new_any (w : World) :
    Calls Try.prog 8 #[] w fun e w' => e = .returned (.pointer (some ⟨w.heap.size, 0, none⟩)) ∧ Hsh w' w.heap.size [] ∧ Below w.heap.size w w' := by
  go_enter Try.func8, Try.ntmps8
  go_wp2_with (refine wpList_build rfl 42 _ rfl (by kernel_rfl) ?_)
  go_ret
  refine ⟨rfl, ⟨⟨0, 0, 0, 0⟩, List.replicate 32 0, ⟨by simp, rfl⟩, fun h => absurd h (by simp), ?_⟩, (Below.refl _ _).alloc (Nat.le_refl _) _⟩
  have e : (Try.prog.built 42 []).getD #[] = hcells ⟨0, 0, 0, 0⟩ (List.replicate 32 0) 0 := by kernel_rfl
  have hb := Box.new w 42 (hcells ⟨0, 0, 0, 0⟩ (List.replicate 32 0) 0)
  rw [← e] at hb
  exact hb

theorem of_len (L : Nat) (h : L ≤ 1000000000000000) : (L : Int) = ((UInt64.ofNat L).toNat : Int) := by
  rw [UInt64.toNat_ofNat_of_lt' (Nat.lt_of_le_of_lt h (by decide))]

attribute [local go_sem high] q_xor q_or q_add q_mul

set_option maxRecDepth 100000 in
set_option maxHeartbeats 2000000 in
theorem sum_any {w : World} {g : Nat} {xs : List UInt8} (hh : Hsh w g xs) (hb : xs.length ≤ 1000000000000000) :
    Calls Try.prog 10 #[.pointer (some ⟨g, 0, none⟩)] w fun e w' => e = .returned (.int .u64 ((xxhOf xs).toNat : Int)) ∧ Below w.heap.size w w' := by
  obtain ⟨v, r, hr, hv, hbx⟩ := hh
  obtain ⟨L, hL⟩ : ∃ L, L = xs.length := ⟨_, rfl⟩
  have qs : w.cell? ⟨g, 36, none⟩ = some (.int .u64 (L : Int)) := by rw [hL]; exact (hbx.cell 36).trans (hcells_last _ _ _ hr.1)
  rw [← hL] at hb hv hbx
  have HL := Lib.hid hL
  have HV := Lib.hid hv
  have HR := Lib.hid hr
  have HB := Lib.hid hbx
  have hglt := hbx.lt
  clear hr hv hbx hL
  go_enter Try.func10, Try.ntmps10
  go_upto_if 11 with fail
  go_cut [3] (fun p wx => p = .int .u64 ((head xs).toNat : Int) ∧ Below w.heap.size w wx)
  case first =>
    by_cases h32 : 32 ≤ L
    · have h32i : (32 : Int) ≤ (L : Int) := by omega
      have hvs := HV.out (by omega)
      have hhd : head xs = joinN v 4 := by unfold head; rw [if_pos (by rw [← HL.out]; exact h32), hvs]
      have HHD := Lib.hid hhd
      obtain ⟨SC, hSC⟩ : ∃ SC, SC = v.cells.toList := ⟨_, rfl⟩
      have hSl : SC.length = 4 := by rw [hSC]; rfl
      have HST : Hid (∀ j x, SC[j]? = some x → w.cell? ⟨g, 0 + j, none⟩ = some x) := by rw [hSC]; exact hcells_src HB.out
      have HJ : Hid (∀ W, Calls Try.prog 15 #[.agg SC.toArray] W fun e w' => e = .returned (.int .u64 ((joinN v 4).toNat : Int)) ∧ Below W.heap.size W w') := by rw [hSC]; exact fun W => joined_any v W
      clear hvs hhd hSC
      go_wp2_with (first
        | (refine wpList_load_sub rfl 39 _ rfl g 0 rfl SC _ HST.out Try.underlying39 rfl (by rw [hSl]; kernel_rfl) ?_)
        | (go_at_call 15; refine (HJ.out _).mono ?_; rintro e' w5 ⟨rfl, hB5⟩; have HB5 := Lib.hid hB5; clear hB5))
      go_meet
      exact ⟨by rw [HHD.out], HB5.out⟩
    · have h32i : ¬ (32 : Int) ≤ (L : Int) := by omega
      have hhd : head xs = p5 := by unfold head; rw [if_neg (by rw [← HL.out]; exact h32)]
      have HHD := Lib.hid hhd
      clear hhd
      go_wp2_with fail
      go_meet
      exact ⟨by rw [HHD.out]; rfl, Below.refl _ _⟩
  case rest =>
    obtain ⟨rfl, hB⟩ := hcut
    have HB1 := Lib.hid hB
    have HX : Hid (Box wc g 42 (hcells v r L)) := HB.out.below hB hglt
    clear hB qs
    obtain ⟨lu, hlu⟩ : ∃ lu, lu = UInt64.ofNat L := ⟨_, rfl⟩
    have hli : (L : Int) = (lu.toNat : Int) := by rw [hlu]; exact of_len L hb
    have qa : wc.cell? ⟨g, 36, none⟩ = some (.int .u64 (lu.toNat : Int)) := by rw [← hli]; exact (HX.out.cell 36).trans (hcells_last _ _ _ HR.out.1)
    have HLU := Lib.hid hlu
    have HLI := Lib.hid hli
    clear hlu hli
    obtain ⟨hd, hhd⟩ : ∃ hd, hd = head xs := ⟨_, rfl⟩
    rw [← hhd]
    have HHD := Lib.hid hhd
    clear hhd
    go_upto_region 6 with fail
    go_cut [3] (fun p wx => wc = wx ∧ p = .int .u64 ((qA hd lu).toNat : Int))
    case first =>
      go_wp2_with fail
      go_meet
      exact ⟨rfl, rfl⟩
    case rest =>
      obtain ⟨rfl, rfl⟩ := hcut
      obtain ⟨o, ho⟩ : ∃ o, o = L % 32 := ⟨_, rfl⟩
      have ho32 : o < 32 := by omega
      have ho32i : (o : Int) ≤ 32 := by omega
      have hoi : (L : Int) % 32 = (o : Int) := by omega
      have hot : (L : Int).tmod 32 = (o : Int) := by rw [Int.tmod_eq_emod_of_nonneg (by omega)]; exact hoi
      obtain ⟨x, hx⟩ : ∃ x, x = qA hd lu := ⟨_, rfl⟩
      obtain ⟨y, hy⟩ : ∃ y, y = rests x (r.take o) := ⟨_, rfl⟩
      have hfin : xxhOf xs = fins y := by
        unfold xxhOf
        rw [hy, hx, HHD.out, HLU.out, ← HR.out.2, ← HL.out, ho]
      have HF := Lib.hid hfin
      have HW : Hid (∀ W, Box W g 42 (hcells v r L) → Calls Try.prog 17 #[.int .u64 (x.toNat : Int), .slice (some ⟨g, 4, none⟩) o 32] W fun e w' => e = .returned (.int .u64 (y.toNat : Int)) ∧ W = w') := fun W hW => by
        rw [hy]
        exact withRest_any x (dat_rest hW o (by rw [HR.out.1]; omega)) (by rw [List.length_take, HR.out.1]; omega) (by omega)
      rw [← hx]
      clear hx hy hfin ho qa
      have qs : wc.cell? ⟨g, 36, none⟩ = some (.int .u64 (L : Int)) := (HX.out.cell 36).trans (hcells_last _ _ _ HR.out.1)
      go_upto_region 7 with fail
      go_quiet ((first | (go_at_call 17; refine Calls.quiet_of_same ((HW.out _ (by exact HX.out)).mono fun _ _ hh => ⟨hh.1, hh.2.symm⟩)) | (go_at_call 16; refine Calls.quiet_of_same ((spread_any _ _).mono fun _ _ hh => ⟨hh.1, hh.2.symm⟩))))
      go_wp2_with fail
      go_ret
      exact ⟨by rw [HF.out]; rfl, below_drawn HB1.out _⟩

set_option maxRecDepth 100000 in
set_option maxHeartbeats 1000000 in
theorem pof_any {own : Bool} {w : World} {lo hi : Nat} {A : Option Addr} {m c : Nat} {ys : List UInt8} (hd : Dat own w lo hi A ys) (hm : ys.length = m) (hmc : m ≤ c) (hhi : hi ≤ w.heap.size) (hb : m ≤ 1000000000000000) :
    Calls Try.prog 12 #[.slice A m c] w fun e w' => e = .returned (.int .u64 ((xxhOf ys).toNat : Int)) ∧ Below w.heap.size w w' := by
  have HD := Lib.hid hd
  have HM := Lib.hid hm
  obtain ⟨Z, hZ⟩ : ∃ Z, Z = ((xxhOf ys).toNat : Int) := ⟨_, rfl⟩
  have HSUM := Lib.hid (fun (W : World) (g : Nat) (h2 : Hsh W g ys) => sum_any h2 (by omega))
  rw [← hZ] at HSUM ⊢
  clear hd hm hZ
  go_enter Try.func12, Try.ntmps12
  go_wp2_with (first
    | (go_at_call 8; refine (new_any _).mono ?_; rintro e' w5 ⟨rfl, hh5, hB5⟩; have HH5 := Lib.hid hh5; have HB5 := Lib.hid hB5; have hl5 := hh5.lt; clear hh5 hB5)
    | (go_at_call 9; refine (write_any HH5.out (HD.out.below HB5.out hhi) HM.out hmc (.inr hhi) (by omega) (by simp; omega)).mono ?_; rintro e' w6 ⟨rfl, hh6, hg6⟩; rw [List.nil_append] at hh6; have HH6 := Lib.hid hh6; have HB6 : Hid (Below w.heap.size w w6) := HB5.out.trans (wide_to_below hg6 (by omega) (Nat.le_refl _)); clear hh6 hg6)
    | (go_at_call 10; refine (HSUM.out _ _ HH6.out).mono ?_; rintro e' w7 ⟨rfl, hB7⟩; have HB7 := Lib.hid hB7; clear hB7))
  go_ret
  exact ⟨rfl, HB6.out.trans (HB7.out.mono HB6.out.size)⟩

theorem sum_nil (w : World) :
    Calls Try.prog 10 #[.pointer none] w fun e w' => e = .returned (.int .u64 ((xxhOf []).toNat : Int)) ∧ Below w.heap.size w w' := by
  obtain ⟨Z, hZ⟩ : ∃ Z, Z = ((xxhOf []).toNat : Int) := ⟨_, rfl⟩
  have HOF := Lib.hid (pof_any (own := false) (c := 0) (Dat.nil false w 0 0 none) rfl (Nat.le_refl _) (Nat.zero_le _) (Nat.zero_le _))
  rw [← hZ] at HOF ⊢
  clear hZ
  go_enter Try.func10, Try.ntmps10
  go_wp2_with (go_at_call 12; refine HOF.out.mono ?_; rintro e' w7 ⟨rfl, hB7⟩; have HB7 := Lib.hid hB7; clear hB7)
  go_ret
  exact ⟨rfl, HB7.out⟩
end Go.Proofs.Ytlcbopjadjbmoaa
