
/- The contracts of Id, the program's and the document's. -/
import Derived.Test.YtieepdhajjibpaaDoorMrkRefRoot
import Derived.Test.YtieepdhajjibpaaDoorCurRefNum
namespace Go.Proofs.YtieepdhajjibpaaDoor
open Go.RowKit

/-- What a file of size s, in parts of p bytes, with leaves l, is known by. -/
def idL (s p : Nat) (l : List Dg) : List UInt8 := 2 :: (put s 8 ++ put p 4 ++ (rootL l).1)
def idD (s p : Nat) (l : List Dg) : Dg := shaD (idL s p l)
theorem idL_len (s p : Nat) (l : List Dg) : (idL s p l).length = 45 := by simp [idL, put_length, (rootL l).2]

set_option maxRecDepth 20000 in
set_option maxHeartbeats 1000000 in
theorem id_any {w : World} {lo hi : Nat} {A : Option Addr} {m c : Nat} {L : List Dg} (s p : Nat) (hg : Glob w) (hd : DatR 32 dcs w lo hi A L) (hm : L.length = m) (hmc : m ≤ c) (hhi : hi ≤ w.heap.size) (hb : m ≤ 1000000) (hp : p < 4294967296) :
    Calls Tryd.prog 20 #[.agg #[.int .u64 (s : Int), .int .u32 (p : Int), .slice A m c]] w fun e w' => e = .returned (.agg (bcells (idD s p L).1)) ∧ Below w.heap.size w w' := by
  have HG := Lib.hid hg
  have hw2 := hg.2.2
  have hpw : IntKind.u64.wrap (p : Int) = (p : Int) := by rw [IntKind.wrap_u64]; omega
  have hel : [] ++ put 2 1 ++ put s 8 ++ put p 4 ++ (rootL L).1 = idL s p L := by simp [idL, put]
  have HEL := Lib.hid hel
  have HOF : Hid (∀ (W : World) (lo hi : Nat) (A : Option Addr) (c : Nat), Glob W → Dat true W lo hi A (idL s p L) → 45 ≤ c → hi ≤ W.heap.size → Calls Tryd.prog 27 #[.slice A 45 c] W fun e w' => e = .returned (.agg (bcells (idD s p L).1)) ∧ Below W.heap.size W w') :=
    fun W lo hi A c h1 h2 h3 h4 => pof_any h1 h2 (idL_len s p L) h3 h4 (by decide)
  have HRT := Lib.hid (fun (V : World) (hV : Below w.heap.size w V) => root_any (w := V) (c := c) (hg.below hV hw2) (hd.below hV hhi) hm hmc (by have := hV.size; omega) hb)
  obtain ⟨R, hR⟩ : ∃ R, R = bcells (rootL L).1 := ⟨_, rfl⟩
  have hRs : R.size = 32 := by rw [hR]; exact bcells_size _
  have hRo : R.all (·.oneCell') = true := by rw [hR]; exact bcells_one _
  obtain ⟨Z, hZ⟩ : ∃ Z, Z = bcells (idD s p L).1 := ⟨_, rfl⟩
  have hZs : Z.size = 32 := by rw [hZ]; exact bcells_size _
  have hZo : Z.all (·.oneCell') = true := by rw [hZ]; exact bcells_one _
  rw [← hZ] at HOF ⊢
  rw [← hR] at HRT
  have HR := Lib.hid hR
  clear hZ hR hg hd hm hel
  go_enter Tryd.func20, Tryd.ntmps20
  go_upto_region 1 with fail
  have hz : ((w.alloc (.cells #[.int .u64 (s : Int), .int .u32 (p : Int), .slice A m c] 35)).alloc (.cells z32 25)).heap.size = w.heap.size + 2 := by simp
  have HM2 : Hid (Box ((w.alloc (.cells #[.int .u64 (s : Int), .int .u32 (p : Int), .slice A m c] 35)).alloc (.cells z32 25)) w.heap.size 35 #[.int .u64 (s : Int), .int .u32 (p : Int), .slice A m c]) := (Box.new w _ _).alloc _
  have HR2 : Hid (Box ((w.alloc (.cells #[.int .u64 (s : Int), .int .u32 (p : Int), .slice A m c] 35)).alloc (.cells z32 25)) (w.heap.size + 1) 25 z32) := by
    have h := Box.new (w.alloc (.cells #[.int .u64 (s : Int), .int .u32 (p : Int), .slice A m c] 35)) 25 z32
    rw [World.size_alloc] at h
    exact h
  have HW : Hid (Below w.heap.size w ((w.alloc (.cells #[.int .u64 (s : Int), .int .u32 (p : Int), .slice A m c] 35)).alloc (.cells z32 25))) := ((Below.refl _ _).alloc (Nat.le_refl _) _).alloc (by simp) _
  have hz1 : w.heap.size + 2 ≤ ((w.alloc (.cells #[.int .u64 (s : Int), .int .u32 (p : Int), .slice A m c] 35)).alloc (.cells z32 25)).heap.size := by omega
  clear hz
  obtain ⟨W, hW⟩ : ∃ W, ((w.alloc (.cells #[.int .u64 (s : Int), .int .u32 (p : Int), .slice A m c] 35)).alloc (.cells z32 25)) = W := ⟨_, rfl⟩
  refine wp_as (W := W) hW ?_
  rw [hW] at HM2 HR2 HW hz1
  clear hW
  have hcs : ∀ V, Below W.heap.size W V → V.cell? ⟨w.heap.size, 0, none⟩ = some (.int .u64 (s : Int)) ∧ V.cell? ⟨w.heap.size, 1, none⟩ = some (.int .u32 (p : Int)) ∧ V.cell? ⟨w.heap.size, 2, none⟩ = some (.slice A m c) := fun V hV =>
    ⟨(HM2.out.below hV (by omega)).cell 0, (HM2.out.below hV (by omega)).cell 1, (HM2.out.below hV (by omega)).cell 2⟩
  have HC := Lib.hid hcs
  clear hcs
  go_wp2_with (first
    | (go_at_call 29; refine (newWriter_any W).mono ?_; rintro e w1 ⟨rfl, hw1, hb1⟩; have H1 := Lib.hid hw1; have B1 := Lib.hid hb1; clear hw1 hb1)
    | (go_at_call 30; (with_reducible refine (wnum_lit 2 1 2 1 rfl rfl H1.out (by omega) (by omega) (by simp)).mono ?_); rintro e w2 ⟨rfl, hw2, hb2⟩; have H2 := Lib.hid hw2; have B2 : Hid (Below W.heap.size W w2) := B1.out.trans hb2; obtain ⟨k0, k1, k2⟩ := HC.out _ B2.out; clear hw2 hb2 H1 B1)
    | (go_at_call 30; (with_reducible refine (wnum_lit (s : Int) 8 s 8 rfl rfl H2.out (by omega) (by omega) (by simp [put])).mono ?_); rintro e w3 ⟨rfl, hw3, hb3⟩; have H3 := Lib.hid hw3; have B3 : Hid (Below W.heap.size W w3) := B2.out.trans hb3; clear k0 k1 k2; obtain ⟨k0, k1, k2⟩ := HC.out _ B3.out; clear hw3 hb3 H2 B2)
    | (go_at_call 30; (with_reducible refine (wnum_lit (p : Int) 4 p 4 rfl rfl H3.out (by omega) (by omega) (by simp [put])).mono ?_); rintro e w4 ⟨rfl, hw4, hb4⟩; have H4 := Lib.hid hw4; have B4 : Hid (Below W.heap.size W w4) := B3.out.trans hb4; clear k0 k1 k2; obtain ⟨k0, k1, k2⟩ := HC.out _ B4.out; clear hw4 hb4 H3 B3)
    | (go_at_call 11; refine (HRT.out _ (HW.out.trans (B4.out.mono (by omega)))).mono ?_; rintro e w5 ⟨rfl, hb5⟩; have B5 := Lib.hid hb5; have b6 : Below w5.heap.size w5 ((w5.alloc (.cells z32 25)).setRow w5.heap.size R) := below_row ((Below.refl _ _).alloc (Nat.le_refl _) _) (Nat.le_refl _) _; have H6 := Lib.hid ((H4.out.below hb5 (Nat.le_refl _)).below b6 (Nat.le_refl _)); have D6 := Lib.hid (box_dat (setRow_heap _ _ _ _ _ _ (heap_alloc_new w5 (.cells z32 25))) HR.out); have B6 : Hid (Below W.heap.size W ((w5.alloc (.cells z32 25)).setRow w5.heap.size R)) := B4.out.trans ((hb5.trans (b6.mono hb5.size)).mono B4.out.size); clear hb5 b6 k0 k1 k2)
    | (refine wpList_store_row rfl 25 _ _ rfl w5.heap.size R rfl rfl 25 _ (heap_alloc_new w5 _) (by rw [hRs]; kernel_rfl) (by rw [hRs]; rfl) hRo ?_))
  refine (wbytes_any H6.out D6.out (rootL L).2 (by simp [put])).mono ?_
  rintro e w7 ⟨rfl, hw7, hb7⟩
  have H7 := Lib.hid hw7
  have B7 : Hid (Below W.heap.size W w7) := B6.out.trans hb7
  clear hw7 hb7 H6 D6 B6
  go_wp2_with (first
    | (go_at_call 32; refine (out_any H7.out (by rw [HEL.out, idL_len]; omega)).mono ?_; rintro e w8 ⟨v, rfl, ho, hb8⟩; rw [HEL.out] at ho; obtain ⟨A1, c1, hv1, hc1, hd1⟩ := ho.form; rw [idL_len] at hv1 hc1; subst hv1; have HD1 := Lib.hid hd1; have B8 : Hid (Below W.heap.size W w8) := B7.out.trans (hb8.mono B7.out.size); have hs8 := B8.out.size; clear ho hd1 hb8)
    | (go_at_call 27; refine (HOF.out _ _ _ _ _ ((HG.out.below HW.out hw2).below B8.out (by omega)) HD1.out hc1 (Nat.le_refl _)).mono ?_; rintro e w9 ⟨rfl, hb9⟩; have B9 : Hid (Below W.heap.size W w9) := B8.out.trans (hb9.mono hs8); have HR9 : Hid (Box w9 (w.heap.size + 1) 25 z32) := HR2.out.below B9.out (by omega); clear hb9)
    | (refine wpList_store_row rfl 25 _ _ rfl (w.heap.size + 1) Z rfl rfl 25 _ HR9.out (by rw [hZs]; kernel_rfl) (by rw [hZs]; rfl) hZo ?_))
  refine bodyPost_ret (v := .agg Z) (results_cell_row Tryd.results20 _ _ (w.heap.size + 1) 25 Z (0, 0) _ rfl (setRow_heap _ _ _ _ _ _ HR9.out) Tryd.underlying25 rfl (by rw [hZs]; kernel_rfl)) rfl ⟨rfl, ?_⟩
  exact below_row (HW.out.trans (B9.out.mono (by omega))) (by omega) _

theorem put_lit (X M : Int) (x m : Nat) (hX : X = (x : Int)) (hM : M = (m : Int)) (h1 : 1 ≤ m) (h8 : m ≤ 8) (w : World) (hx : x < 18446744073709551616) :
    Calls Tryd.prog 38 #[.int .u64 X, .int .i64 M] w fun e w' => e = .returned (.string (str (put x m))) ∧ Below w.heap.size w w' := by
  subst hX hM
  have := put_any x m w hx
  rw [show putw x (m : Int) = put x m by unfold putw wid; rw [if_pos (by simp; omega)]; rfl] at this
  exact this

set_option maxRecDepth 20000 in
set_option maxHeartbeats 1000000 in
theorem refId_any {w : World} {lo hi : Nat} {A : Option Addr} {m c : Nat} {L : List Dg} (s p : Nat) (hd : DatR 32 dcs w lo hi A L) (hm : L.length = m) (hmc : m ≤ c) (hhi : hi ≤ w.heap.size) (hb : m ≤ 1000000) (hs : s < 18446744073709551616) (hp : p < 4294967296) :
    Calls Tryd.prog 21 #[.agg #[.int .u64 (s : Int), .int .u32 (p : Int), .slice A m c]] w fun e w' => e = .returned (.agg (bcells (idD s p L).1)) ∧ Below w.heap.size w w' := by
  have hpw : IntKind.u64.wrap (p : Int) = (p : Int) := by rw [IntKind.wrap_u64]; omega
  have HRT := Lib.hid (fun (V : World) (hV : Below w.heap.size w V) => refRoot_any m (w := V) (c := c) (by omega) (hd.below hV hhi) hm hmc (by have := hV.size; omega) hb)
  obtain ⟨P8, hP8⟩ : ∃ P, P = str (put s 8) := ⟨_, rfl⟩
  obtain ⟨P4, hP4⟩ : ∃ P, P = str (put p 4) := ⟨_, rfl⟩
  obtain ⟨SR, hSR⟩ : ∃ P, P = str (rootL L).1 := ⟨_, rfl⟩
  have h8s : P8.size = 8 := by rw [hP8, str_size, put_length]
  have h4s : P4.size = 4 := by rw [hP4, str_size, put_length]
  have hrs : SR.size = 32 := by rw [hSR, str_size, (rootL L).2]
  have HP8 := Lib.hid (fun W => put_lit (s : Int) 8 s 8 rfl rfl (by omega) (by omega) W hs)
  have HP4 := Lib.hid (fun W => put_lit (p : Int) 4 p 4 rfl rfl (by omega) (by omega) W (by omega))
  have HOF := Lib.hid (fun (W : World) => rof_any ({ data := #[2] } ++ P8 ++ P4 ++ SR) (idL s p L) (by rw [hP8, hP4, hSR, idL, show (2 : UInt8) :: (put s 8 ++ put p 4 ++ (rootL L).1) = [2] ++ put s 8 ++ put p 4 ++ (rootL L).1 by simp, str_app, str_app, str_app]; rfl) W (by rw [idL_len]; omega))
  rw [← hP8] at HP8
  rw [← hP4] at HP4
  obtain ⟨R, hR⟩ : ∃ R, R = bcells (rootL L).1 := ⟨_, rfl⟩
  have hRs : R.size = 32 := by rw [hR]; exact bcells_size _
  have hRo : R.all (·.oneCell') = true := by rw [hR]; exact bcells_one _
  have CV : Hid (∀ (W : World) (g : Nat), Box W g 25 R → (convert 23 9 (.slice (some ⟨g, 0, none⟩) 32 32)).run Tryd.prog W = .ok (.string SR) W) := fun W g h => by
    rw [hSR]
    exact run_str W _ Tryd.underlying23 Tryd.underlying5 (m := 32) (box_dat h hR) (rootL L).2 _ Tryd.underlying9
  obtain ⟨Z, hZ⟩ : ∃ Z, Z = bcells (idD s p L).1 := ⟨_, rfl⟩
  have hZs : Z.size = 32 := by rw [hZ]; exact bcells_size _
  have hZo : Z.all (·.oneCell') = true := by rw [hZ]; exact bcells_one _
  rw [show bcells (shaD (idL s p L)).1 = Z from hZ.symm] at HOF
  rw [← hZ]
  rw [← hR] at HRT
  clear hZ hR hd hm hP8 hP4 hSR hs
  go_enter Tryd.func21, Tryd.ntmps21
  go_upto_region 1 with fail
  have hz : ((w.alloc (.cells #[.int .u64 (s : Int), .int .u32 (p : Int), .slice A m c] 39)).alloc (.cells z32 25)).heap.size = w.heap.size + 2 := by simp
  have HM2 : Hid (Box ((w.alloc (.cells #[.int .u64 (s : Int), .int .u32 (p : Int), .slice A m c] 39)).alloc (.cells z32 25)) w.heap.size 39 #[.int .u64 (s : Int), .int .u32 (p : Int), .slice A m c]) := (Box.new w _ _).alloc _
  have HR2 : Hid (Box ((w.alloc (.cells #[.int .u64 (s : Int), .int .u32 (p : Int), .slice A m c] 39)).alloc (.cells z32 25)) (w.heap.size + 1) 25 z32) := by
    have h := Box.new (w.alloc (.cells #[.int .u64 (s : Int), .int .u32 (p : Int), .slice A m c] 39)) 25 z32
    rw [World.size_alloc] at h
    exact h
  have HW : Hid (Below w.heap.size w ((w.alloc (.cells #[.int .u64 (s : Int), .int .u32 (p : Int), .slice A m c] 39)).alloc (.cells z32 25))) := ((Below.refl _ _).alloc (Nat.le_refl _) _).alloc (by simp) _
  have hz1 : w.heap.size + 2 ≤ ((w.alloc (.cells #[.int .u64 (s : Int), .int .u32 (p : Int), .slice A m c] 39)).alloc (.cells z32 25)).heap.size := by omega
  clear hz
  obtain ⟨W, hW⟩ : ∃ W, ((w.alloc (.cells #[.int .u64 (s : Int), .int .u32 (p : Int), .slice A m c] 39)).alloc (.cells z32 25)) = W := ⟨_, rfl⟩
  refine wp_as (W := W) hW ?_
  rw [hW] at HM2 HR2 HW hz1
  clear hW
  have k2 : W.cell? ⟨w.heap.size, 2, none⟩ = some (.slice A m c) := HM2.out.cell 2
  go_upto_region 2 with (first
    | (go_at_call 12; refine (HRT.out _ HW.out).mono ?_; rintro e w5 ⟨rfl, hb5⟩; have B5 := Lib.hid hb5; clear hb5)
    | (refine wpList_store_row rfl 25 _ _ rfl w5.heap.size R rfl rfl 25 _ (heap_alloc_new w5 _) (by rw [hRs]; kernel_rfl) (by rw [hRs]; rfl) hRo ?_))
  have HRB : Hid (Box ((w5.alloc (.cells z32 25)).setRow w5.heap.size R) w5.heap.size 25 R) := setRow_heap _ _ _ _ _ _ (heap_alloc_new w5 (.cells z32 25))
  have b6 : Below w5.heap.size w5 ((w5.alloc (.cells z32 25)).setRow w5.heap.size R) := below_row ((Below.refl _ _).alloc (Nat.le_refl _) _) (Nat.le_refl _) _
  have B6 : Hid (Below W.heap.size W ((w5.alloc (.cells z32 25)).setRow w5.heap.size R)) := B5.out.trans (b6.mono B5.out.size)
  have hg5 : W.heap.size ≤ w5.heap.size := B5.out.size
  have hg6 := HRB.out.lt
  obtain ⟨g, hg⟩ : ∃ g, g = w5.heap.size := ⟨_, rfl⟩
  rw [← hg] at HRB hg5 hg6 B6
  obtain ⟨w6, hw6⟩ : ∃ w6, ((w5.alloc (.cells z32 25)).setRow g R) = w6 := ⟨_, rfl⟩
  rw [← hg]
  refine wp_as (W := w6) hw6 ?_
  rw [hw6] at HRB hg6 B6
  have hS0 : ∀ V, Below w6.heap.size w6 V → (V.cell? ⟨w.heap.size, 0, none⟩ = some (.int .u64 (s : Int)) ∧ V.cell? ⟨w.heap.size, 1, none⟩ = some (.int .u32 (p : Int)) ∧ (convert 23 9 (.slice (some ⟨g, 0, none⟩) 32 32)).run Tryd.prog V = .ok (.string SR) V) := fun V hV =>
    ⟨((HM2.out.below B6.out (by omega)).below hV (by have := B6.out.size; omega)).cell 0, ((HM2.out.below B6.out (by omega)).below hV (by have := B6.out.size; omega)).cell 1, CV.out _ _ (HRB.out.below hV hg6)⟩
  have HS := Lib.hid hS0
  have HR6 : Hid (Box w6 (w.heap.size + 1) 25 z32) := HR2.out.below B6.out (by omega)
  have HB6 : Hid (Below w.heap.size w w6) := HW.out.trans (B6.out.mono (by omega))
  clear hS0 b6 hw6 hg B5 k2
  refine wp_region_noPanic ?_
  refine wp_region_held_drew (S := (fun V => V.cell? ⟨w.heap.size, 0, none⟩ = some (.int .u64 (s : Int)) ∧ V.cell? ⟨w.heap.size, 1, none⟩ = some (.int .u32 (p : Int)) ∧ (convert 23 9 (.slice (some ⟨g, 0, none⟩) 32 32)).run Tryd.prog V = .ok (.string SR) V)) (by kernel_rfl) (HS.out _ (Below.refl _ _).drew) (fun hH => ?_)
  refine wpAnyH_take (i := 0) (v := .pointer (some ⟨w.heap.size, 0, none⟩)) rfl (by kernel_rfl) (by kernel_rfl) (by kernel_rfl) (fun _ _ _ h => h) (Or.inl ⟨by rfl, fun w' _ => ?_⟩) hH ?_
  · go_simp
  refine wpAnyH_take (i := 1) (v := .int .u64 (s : Int)) rfl (by kernel_rfl) (by kernel_rfl) (by kernel_rfl) (fun _ _ _ h => h) (Or.inl ⟨by rfl, fun w' hS => ?_⟩) hH ?_
  · obtain ⟨k0, _, _⟩ := hS
    go_simp
  refine wpAnyH_take (i := 4) (v := .pointer (some ⟨w.heap.size, 1, none⟩)) rfl (by kernel_rfl) (by kernel_rfl) (by kernel_rfl) (fun _ _ _ h => h) (Or.inl ⟨by rfl, fun w' _ => ?_⟩) hH ?_
  · go_simp
  refine wpAnyH_take (i := 5) (v := .int .u32 (p : Int)) rfl (by kernel_rfl) (by kernel_rfl) (by kernel_rfl) (fun _ _ _ h => h) (Or.inl ⟨by rfl, fun w' hS => ?_⟩) hH ?_
  · obtain ⟨_, k1, _⟩ := hS
    go_simp
  refine wpAnyH_take (i := 6) (v := .int .u64 (p : Int)) rfl (by kernel_rfl) (by kernel_rfl) (by kernel_rfl) (fun _ _ _ h => h) (Or.inl ⟨by rfl, fun w' _ => ?_⟩) hH ?_
  · go_simp
  refine wpAnyH_take (i := 9) (v := .slice (some ⟨g, 0, none⟩) 32 32) rfl (by kernel_rfl) (by kernel_rfl) (by kernel_rfl) (fun _ _ _ h => h) (Or.inl ⟨by rfl, fun w' _ => ?_⟩) hH ?_
  · go_simp
  refine wpAnyH_take (i := 10) (v := .string SR) rfl (by kernel_rfl) (by kernel_rfl) (by kernel_rfl) (fun _ _ _ h => h) (Or.inl ⟨by rfl, fun w' hS => ?_⟩) hH ?_
  · obtain ⟨_, _, k3⟩ := hS
    go_simp
  simp only [Act.put, List.setIfInBounds_toArray]
  have Bd0 : Hid (Below w6.heap.size w6 w6.drew) := (Below.refl _ _).drew
  refine wpAnyH_ready (rs := [2]) (by kernel_rfl) (by simp) ?_
  refine AllReadyH.cons rfl (fun K hK => ?_) AllReadyH.nil
  go_simp
  refine (HP8.out _).mono ?_
  rintro e' w7 ⟨rfl, hB⟩
  have Bw7 : Hid (Below w6.heap.size w6 w7) := Bd0.out.trans (hB.mono (by exact Bd0.out.size))
  clear hB
  dsimp only
  refine hK.out _ _ (HS.out _ Bw7.out) (fun hH => ?_)
  clear hK K
  refine wpAnyH_take (i := 3) (v := .string ({ data := #[2] } ++ P8)) rfl (by kernel_rfl) (by kernel_rfl) (by kernel_rfl) (fun _ _ _ h => h) (Or.inl ⟨by rfl, fun w' _ => ?_⟩) hH ?_
  · go_simp
  refine wpAnyH_ready (rs := [7]) (by kernel_rfl) (by simp) ?_
  refine AllReadyH.cons rfl (fun K hK => ?_) AllReadyH.nil
  go_simp
  refine (HP4.out _).mono ?_
  rintro e' w8 ⟨rfl, hB⟩
  have Bw8 : Hid (Below w6.heap.size w6 w8) := Bw7.out.trans (hB.mono (by exact Bw7.out.size))
  clear hB
  dsimp only
  refine hK.out _ _ (HS.out _ Bw8.out) (fun hH => ?_)
  clear hK K
  refine wpAnyH_take (i := 8) (v := .string ({ data := #[2] } ++ P8 ++ P4)) rfl (by kernel_rfl) (by kernel_rfl) (by kernel_rfl) (fun _ _ _ h => h) (Or.inl ⟨by rfl, fun w' _ => ?_⟩) hH ?_
  · go_simp
  refine wpAnyH_take (i := 11) (v := .string ({ data := #[2] } ++ P8 ++ P4 ++ SR)) rfl (by kernel_rfl) (by kernel_rfl) (by kernel_rfl) (fun _ _ _ h => h) (Or.inl ⟨by rfl, fun w' _ => ?_⟩) hH ?_
  · go_simp
  refine wpAnyH_ready (rs := [12]) (by kernel_rfl) (by simp) ?_
  refine AllReadyH.cons rfl (fun K hK => ?_) AllReadyH.nil
  go_simp
  refine (HOF.out _).mono ?_
  rintro e' w9 ⟨rfl, hB⟩
  have Bw9 : Hid (Below w6.heap.size w6 w9) := Bw8.out.trans (hB.mono (by exact Bw8.out.size))
  clear hB
  dsimp only
  refine hK.out _ _ (HS.out _ Bw9.out) (fun hH => ?_)
  clear hK K
  have HR9 : Hid (Box w9 (w.heap.size + 1) 25 z32) := HR6.out.below Bw9.out HR6.out.lt
  refine wpAnyH_ready (rs := [13]) (by kernel_rfl) (by simp) ?_
  refine AllReadyH.cons rfl (fun K hK => ?_) AllReadyH.nil
  refine wp_store_row 25 _ _ rfl (w.heap.size + 1) Z rfl (by kernel_rfl) 25 _ HR9.out (by rw [hZs]; kernel_rfl) (by rw [hZs]; rfl) hZo ?_
  have hm9 : Box (w9.setRow (w.heap.size + 1) Z) w.heap.size 39 #[.int .u64 (s : Int), .int .u32 (p : Int), .slice A m c] := (setRow_other w9 (w.heap.size + 1) w.heap.size Z (by omega)).trans ((HM2.out.below B6.out (by omega)).below Bw9.out (by have := B6.out.size; omega))
  have hr9 : Box (w9.setRow (w.heap.size + 1) Z) g 25 R := (setRow_other w9 (w.heap.size + 1) g Z (by omega)).trans (HRB.out.below Bw9.out hg6)
  refine hK.out _ _ ⟨hm9.cell 0, hm9.cell 1, CV.out _ _ hr9⟩ (fun _ => ?_)
  clear hK K
  refine wpAnyH_done (by kernel_rfl) ?_ _
  refine NoPanic.normal ?_
  go_wp2_with fail
  refine bodyPost_ret (v := .agg Z) (results_cell_row Tryd.results21 _ _ (w.heap.size + 1) 25 Z (0, 0) _ rfl (setRow_heap _ _ _ _ _ _ HR9.out) Tryd.underlying25 rfl (by rw [hZs]; kernel_rfl)) rfl ⟨rfl, ?_⟩
  exact below_row (HB6.out.trans (Bw9.out.mono HB6.out.size)) (by omega) _
end Go.Proofs.YtieepdhajjibpaaDoor
