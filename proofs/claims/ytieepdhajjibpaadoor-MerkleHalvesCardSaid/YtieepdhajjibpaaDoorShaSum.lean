
/- The contracts of the program's New, Sum and Of. -/
import Derived.Test.YtieepdhajjibpaaDoorShaWrite
import Derived.Test.YtieepdhajjibpaaDoorShaSumw
namespace Go.Proofs.YtieepdhajjibpaaDoor
open Go.RowKit

theorem glob_src {w : World} (h : Glob w) : ∀ j v, iv.cells.toList[j]? = some v → w.cell? ⟨0, 0 + j, none⟩ = some v := by
  intro j x hx
  have hj : j < 8 := by
    rcases Nat.lt_or_ge j 8 with h1 | h1
    · exact h1
    · rw [List.getElem?_eq_none (by simpa [V8.cells] using h1)] at hx; cases hx
  rw [Nat.zero_add, h.1 j hj, ← V8.cells_get iv j hj]
  simpa using hx

set_option maxRecDepth 100000 in
theorem new_any (w : World) (hg : Glob w) :
    Calls Tryd.prog 45 #[] w fun e w' => e = .returned (.pointer (some ⟨w.heap.size, 0, none⟩)) ∧ Hsh w' w.heap.size [] ∧ Below w.heap.size w w' := by
  have HG := Lib.hid hg
  clear hg
  go_enter Tryd.func45, Tryd.ntmps45
  go_wp2_with (first
    | (refine wpList_load_sub rfl 88 _ rfl 0 0 rfl iv.cells.toList _ (glob_src HG.out) Tryd.underlying88 rfl (by kernel_rfl) ?_)
    | (refine wpList_build rfl 91 _ rfl (by kernel_rfl) ?_))
  go_ret
  refine ⟨rfl, ⟨List.replicate 64 0, ⟨by simp, rfl⟩, ?_⟩, (Below.refl _ _).alloc (Nat.le_refl _) _⟩
  have e : (Tryd.prog.built 91 [(0, Value.agg iv.cells.toList.toArray)]).getD #[] = hcells (stOf []) (List.replicate 64 0) 0 := by kernel_rfl
  have hb := Box.new w 91 (hcells (stOf []) (List.replicate 64 0) 0)
  rw [← e] at hb
  exact hb

theorem padded_tail (xs : List UInt8) : xs ++ tail8 xs.length = padded xs := by
  unfold padded tail8
  simp only [List.append_assoc]
theorem stOf_padded (xs : List UInt8) : bytesOf (stOf (xs ++ tail8 xs.length)) = shaOf kw xs := by
  rw [padded_tail]
  rfl
theorem tail8_length (n : Nat) : (tail8 n).length ≤ 72 := by
  simp only [tail8, List.length_append, List.length_singleton, List.length_replicate, be8_length]
  have : padz n < 64 := by unfold padz; omega
  omega
theorem hcells_one (v : V8) (r : List UInt8) (n : Nat) : (hcells v r n).all (·.oneCell') = true := by
  rw [Array.all_eq_true_iff_forall_mem]
  intro x hx
  simp only [hcells, List.mem_toArray, List.mem_append, List.mem_singleton] at hx
  rcases hx with hx | hx | rfl
  · exact (Array.all_eq_true_iff_forall_mem.1 (V8.cells_one v)) x (by simpa using hx)
  · exact one_cel r x hx
  · rfl

def z32 : Array Value := (List.replicate 32 (Value.int .u8 0)).toArray

set_option maxRecDepth 100000 in
set_option maxHeartbeats 2000000 in
theorem sum_any {w : World} {g : Nat} {xs : List UInt8} (hgl : Glob w) (hh : Hsh w g xs) (hb : xs.length ≤ 500000000000000) :
    Calls Tryd.prog 47 #[.pointer (some ⟨g, 0, none⟩)] w fun e w' => e = .returned (.agg (bcells (shaOf kw xs))) ∧ Below w.heap.size w w' := by
  have HG := Lib.hid hgl
  have HH := Lib.hid hh
  have hglt := hh.lt
  have hw2 := hgl.2.2
  clear hgl hh
  go_enter Tryd.func47, Tryd.ntmps47
  go_upto_region 3 with fail
  go_cut [3] (fun p wx => p = .pointer (some ⟨w.heap.size + 1, 0, none⟩) ∧ Box wx w.heap.size 25 z32 ∧ Hsh wx (w.heap.size + 1) xs ∧ Below w.heap.size w wx)
  case first =>
    obtain ⟨r, hr, hbx⟩ := HH.out
    have hsz := hcells_size (stOf xs) r xs.length hr.1
    have hon := hcells_one (stOf xs) r xs.length
    have HR := Lib.hid hr
    obtain ⟨C, hC⟩ : ∃ C, C = hcells (stOf xs) r xs.length := ⟨_, rfl⟩
    rw [← hC] at hbx hsz hon
    have HC := Lib.hid hC
    have HB0 : Hid (Box (w.alloc (.cells z32 25)) g 91 C) := hbx.alloc _
    have HB1 : Hid (Box (w.alloc (.cells z32 25)) w.heap.size 25 z32) := Box.new w _ _
    obtain ⟨ZC, hZC⟩ : ∃ ZC, ZC = hcells ⟨0, 0, 0, 0, 0, 0, 0, 0⟩ (List.replicate 64 0) 0 := ⟨_, rfl⟩
    have hzv := fun W => run_zero_of (P := Tryd.prog) (t := 91) (v := .agg ZC) (by rw [hZC]; kernel_rfl) W
    have hZs : ZC.size = 73 := by rw [hZC]; exact hcells_size _ _ _ (by simp)
    clear hZC
    have hz1 : (w.alloc (.cells z32 25)).heap.size = w.heap.size + 1 := World.size_alloc _ _
    have HB2 : Hid (Box ((w.alloc (.cells z32 25)).alloc (.cells ZC 91)) (w.heap.size + 1) 91 ZC) := by
      have h := Box.new (w.alloc (.cells z32 25)) 91 ZC
      rw [hz1] at h
      exact h
    clear hC hr hbx
    go_wp2_with (first
      | (refine wpList_load_row rfl 91 _ rfl g rfl 91 C (0, 0) _ HB0.out Tryd.underlying91 rfl (by rw [hsz]; kernel_rfl) ?_)
      | (refine wpList_store_row rfl 91 _ _ rfl (w.heap.size + 1) C rfl rfl 91 ZC HB2.out (by rw [hsz]; kernel_rfl) (by rw [hsz, hZs]) hon ?_))
    go_meet
    refine ⟨rfl, ?_, ⟨r, HR.out, ?_⟩, ?_⟩
    · exact (setRow_other _ _ _ _ (by omega)).trans (HB1.out.alloc _)
    · rw [← HC.out]
      exact setRow_heap _ _ _ _ _ _ HB2.out
    · exact below_row (((Below.refl _ _).alloc (Nat.le_refl _) _).alloc (by simp) _) (by omega) _
  case rest =>
    obtain ⟨rfl, hb1, hh, hB⟩ := hcut
    have HR1 := Lib.hid hb1
    have HX := Lib.hid hh
    have HB := Lib.hid hB
    have hq : wc.cell? ⟨g, 72, none⟩ = some (.int .u64 (xs.length : Int)) := by
      obtain ⟨r, hr, hbx⟩ := HH.out
      exact ((hbx.below HB.out hglt).cell 72).trans (hcells_last _ _ _ hr.1)
    have hsz := HX.out.lt
    have HGc : Hid (Glob wc) := HG.out.below HB.out hw2
    clear hb1 hh hB
    obtain ⟨L, hL⟩ : ∃ L, L = xs.length := ⟨_, rfl⟩
    rw [← hL] at hq hb
    have HL := Lib.hid hL
    clear hL
    have hL2 : L ≤ 1000000000000000 := by omega
    go_upto_region 4 with fail
    go_cut [] (fun wx => Box wx w.heap.size 25 z32 ∧ Hsh wx (w.heap.size + 1) (xs ++ tail8 L) ∧ Below w.heap.size w wx)
    case first =>
      go_wp2_with (first
        | (go_at_call 52; refine (end_any L hL2 _).mono ?_; rintro e' w5 ⟨⟨v5, rfl, hm5⟩, hB5⟩; obtain ⟨A5, c5, hv5, hc5, hd5⟩ := hm5.form; subst hv5; have HD5 := Lib.hid hd5; have HB5 := Lib.hid hB5; clear hm5 hB5 hd5)
        | (go_at_call 46; refine (write_any (HGc.out.below HB5.out HGc.out.2.2) (HX.out.keep (HB5.out.block _ hsz)) HD5.out rfl hc5 (.inl (by omega)) (Nat.le_refl _) (by omega) (by have h1 := tail8_length L; have h2 := HL.out; omega)).mono ?_; rintro e' w6 ⟨rfl, hh6, hg6⟩; have HH6 := Lib.hid hh6; have HG6 := Lib.hid hg6; clear hh6 hg6))
      go_meet
      have hB5 := HB5.out
      have hn5 := hB5.size
      have hB6 : Below (w.heap.size + 1) wc w6 := (hB5.mono (by omega)).trans (wide_to_below HG6.out (by omega) (Nat.le_refl _))
      exact ⟨HR1.out.below hB6 (by omega), HH6.out, HB.out.trans (hB6.mono (by omega))⟩
    case rest =>
      obtain ⟨hb1, hh, hB⟩ := hcut
      have HR2 := Lib.hid hb1
      have HB2 := Lib.hid hB
      rw [HL.out] at hh
      obtain ⟨r, hr, hbx⟩ := hh
      have hsrc := hcells_src hbx
      have HS := Lib.hid hsrc
      have hfin := stOf_padded xs
      obtain ⟨v, hv⟩ : ∃ v, v = stOf (xs ++ tail8 xs.length) := ⟨_, rfl⟩
      rw [← hv] at hfin HS
      have HSW := Lib.hid (fun W => sumw_any v W)
      have hw2' := hB.size
      rw [hfin] at HSW
      obtain ⟨Z, hZ⟩ : ∃ Z, Z = bcells (shaOf kw xs) := ⟨_, rfl⟩
      have hZs : Z.size = 32 := by rw [hZ, ← hfin]; simp [bcells, bytesOf_length]
      have hZo : Z.all (·.oneCell') = true := by rw [hZ]; exact bcells_one _
      rw [← hZ] at HSW
      have HZ := Lib.hid hZ
      clear hb1 hB hr hbx hsrc hfin hv hZ HX HGc HR1
      go_wp2_with (first
        | (refine wpList_load_sub rfl 88 _ rfl (w.heap.size + 1) 0 rfl v.cells.toList _ HS.out Tryd.underlying88 rfl (by kernel_rfl) ?_)
        | (go_at_call 53; refine (HSW.out _).mono ?_; rintro e' w7 ⟨rfl, hB7⟩; have HB7 := Lib.hid hB7; have HR7 : Hid (Box w7 w.heap.size 25 z32) := HR2.out.below hB7 HR2.out.lt; clear hB7)
        | (refine wpList_store_row rfl 25 _ _ rfl w.heap.size Z rfl rfl 25 _ HR7.out (by rw [hZs]; kernel_rfl) (by rw [hZs]; rfl) hZo ?_))
      refine bodyPost_ret (v := .agg Z) (results_cell_row Tryd.results47 _ _ w.heap.size 25 Z (0, 0) _ rfl (setRow_heap _ _ _ _ _ _ HR7.out) Tryd.underlying25 rfl (by rw [hZs]; kernel_rfl)) rfl ⟨by rw [HZ.out], ?_⟩
      exact below_row (HB2.out.trans (HB7.out.mono (by omega))) (Nat.le_refl _) _

set_option maxRecDepth 100000 in
set_option maxHeartbeats 2000000 in
theorem pof_any {own : Bool} {w : World} {lo hi : Nat} {A : Option Addr} {m c : Nat} {ys : List UInt8} (hgl : Glob w) (hd : Dat own w lo hi A ys) (hm : ys.length = m) (hmc : m ≤ c) (hhi : hi ≤ w.heap.size) (hb : m ≤ 500000000000000) :
    Calls Tryd.prog 27 #[.slice A m c] w fun e w' => e = .returned (.agg (bcells (shaOf kw ys))) ∧ Below w.heap.size w w' := by
  have HG := Lib.hid hgl
  have HD := Lib.hid hd
  have HM := Lib.hid hm
  have hw2 := hgl.2.2
  obtain ⟨Z, hZ⟩ : ∃ Z, Z = bcells (shaOf kw ys) := ⟨_, rfl⟩
  have hZs : Z.size = 32 := by rw [hZ, ← stOf_padded]; simp [bcells, bytesOf_length]
  have hZo : Z.all (·.oneCell') = true := by rw [hZ]; exact bcells_one _
  have HSUM := Lib.hid (fun (W : World) (g : Nat) (h1 : Glob W) (h2 : Hsh W g ys) => sum_any h1 h2 (by omega))
  rw [← hZ] at HSUM ⊢
  clear hgl hd hm hZ
  go_enter Tryd.func27, Tryd.ntmps27
  have HG1 : Hid (Glob (w.alloc (.cells z32 25))) := HG.out.below ((Below.refl _ _).alloc (Nat.le_refl _) _) hw2
  have hz1 : (w.alloc (.cells z32 25)).heap.size = w.heap.size + 1 := World.size_alloc _ _
  have HNEW := Lib.hid (new_any (w.alloc (.cells z32 25)) HG1.out)
  rw [hz1] at HNEW
  go_upto_region 1 with fail
  go_cut [3] (fun p wx => p = .pointer (some ⟨w.heap.size + 1, 0, none⟩) ∧ Box wx w.heap.size 25 z32 ∧ Hsh wx (w.heap.size + 1) [] ∧ Below w.heap.size w wx)
  case first =>
    go_wp2_with (go_at_call 45; refine HNEW.out.mono ?_; rintro e' w5 ⟨rfl, hh5, hB5⟩; have HH5 := Lib.hid hh5; have HB5 := Lib.hid hB5; clear hh5 hB5)
    go_meet
    exact ⟨rfl, (Box.new w _ z32).below HB5.out (by omega), HH5.out, ((Below.refl _ _).alloc (Nat.le_refl _) _).trans (HB5.out.mono (by omega))⟩
  case rest =>
    obtain ⟨rfl, hb1, hh, hB⟩ := hcut
    have HR1 := Lib.hid hb1
    have HX := Lib.hid hh
    have HB := Lib.hid hB
    have hlt := hh.lt
    clear hb1 hh hB HNEW HG1
    go_wp2_with (first
      | (go_at_call 46; refine (write_any (HG.out.below HB.out hw2) HX.out (HD.out.below HB.out hhi) HM.out hmc (.inr (by omega)) (by have := HB.out.size; omega) (by omega) (by simp; omega)).mono ?_; rintro e' w6 ⟨rfl, hh6, hg6⟩; rw [List.nil_append] at hh6; have HH6 := Lib.hid hh6; have HB6 : Hid (Below (w.heap.size + 1) wc w6) := wide_to_below hg6 (by omega) (Nat.le_refl _); have HG6 : Hid (Glob w6) := (HG.out.below HB.out hw2).below HB6.out (by omega); have hs6 := HB6.out.size; clear hh6 hg6)
      | (go_at_call 47; refine (HSUM.out _ _ HG6.out HH6.out).mono ?_; rintro e' w7 ⟨rfl, hB7⟩; have HB7 := Lib.hid hB7; have HR7 : Hid (Box w7 w.heap.size 25 z32) := (HR1.out.below HB6.out (by omega)).below hB7 (by omega); clear hB7)
      | (refine wpList_store_row rfl 25 _ _ rfl w.heap.size Z rfl rfl 25 _ HR7.out (by rw [hZs]; kernel_rfl) (by rw [hZs]; rfl) hZo ?_))
    refine bodyPost_ret (v := .agg Z) (results_cell_row Tryd.results27 _ _ w.heap.size 25 Z (0, 0) _ rfl (setRow_heap _ _ _ _ _ _ HR7.out) Tryd.underlying25 rfl (by rw [hZs]; kernel_rfl)) rfl ⟨rfl, ?_⟩
    exact below_row ((HB.out.trans (HB6.out.mono (by omega))).trans (HB7.out.mono (by omega))) (Nat.le_refl _) _

set_option maxRecDepth 100000 in
theorem sum_nil {w : World} (hgl : Glob w) :
    Calls Tryd.prog 47 #[.pointer none] w fun e w' => e = .returned (.agg (bcells (shaOf kw []))) ∧ Below w.heap.size w w' := by
  have hw2 := hgl.2.2
  have HG1 : Hid (Glob (w.alloc (.cells z32 25))) := hgl.below ((Below.refl _ _).alloc (Nat.le_refl _) _) hw2
  have hz1 : (w.alloc (.cells z32 25)).heap.size = w.heap.size + 1 := World.size_alloc _ _
  have HOF := Lib.hid (pof_any (own := false) (c := 0) HG1.out (Dat.nil false (w.alloc (.cells z32 25)) 0 0 none) rfl (Nat.le_refl _) (Nat.zero_le _) (Nat.zero_le _))
  rw [hz1] at HOF
  obtain ⟨Z, hZ⟩ : ∃ Z, Z = bcells (shaOf kw []) := ⟨_, rfl⟩
  have hZs : Z.size = 32 := by rw [hZ, ← stOf_padded]; simp [bcells, bytesOf_length]
  have hZo : Z.all (·.oneCell') = true := by rw [hZ]; exact bcells_one _
  rw [← hZ] at HOF ⊢
  clear hgl hZ
  go_enter Tryd.func47, Tryd.ntmps47
  go_wp2_with (first
    | (go_at_call 27; refine HOF.out.mono ?_; rintro e' w7 ⟨rfl, hB7⟩; have HB7 := Lib.hid hB7; have HR7 : Hid (Box w7 w.heap.size 25 z32) := (Box.new w _ z32).below hB7 (by omega); clear hB7)
    | (refine wpList_store_row rfl 25 _ _ rfl w.heap.size Z rfl rfl 25 _ HR7.out (by rw [hZs]; kernel_rfl) (by rw [hZs]; rfl) hZo ?_))
  refine bodyPost_ret (v := .agg Z) (results_cell_row Tryd.results47 _ _ w.heap.size 25 Z (0, 0) _ rfl (setRow_heap _ _ _ _ _ _ HR7.out) Tryd.underlying25 rfl (by rw [hZs]; kernel_rfl)) rfl ⟨rfl, ?_⟩
  exact below_row (((Below.refl _ _).alloc (Nat.le_refl _) _).trans (HB7.out.mono (by omega))) (Nat.le_refl _) _
end Go.Proofs.YtieepdhajjibpaaDoor
