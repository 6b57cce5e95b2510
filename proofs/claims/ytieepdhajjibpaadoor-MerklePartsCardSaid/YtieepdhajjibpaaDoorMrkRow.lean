
/- The contracts of rowOf, Node and Leaf. -/
import Derived.Test.YtieepdhajjibpaaDoorMrkPlain
import Derived.Test.YtieepdhajjibpaaDoorCurWrite
import Derived.Lib.Hide
namespace Go.Proofs.YtieepdhajjibpaaDoor
open Go.RowKit

theorem box_dat {w : World} {g : Nat} {t : TypeId} {xs : List UInt8} {Z : Array Value} (h : Box w g t Z) (hZ : Z = bcells xs) : Dat true w g (g + 1) (some ⟨g, 0, none⟩) xs := fun _ =>
  ⟨g, 0, rfl, Nat.le_refl _, by omega, fun j hj => by rw [Nat.zero_add, h.cell, hZ, bcells_get xs j hj]; rfl, fun _ j => h.free j⟩

theorem OwB.low {w : World} {u base b : Nat} {v : Value} {xs : List UInt8} (h : OwB w u base v xs) (hb : b ≤ base) : OwB w u b v xs := by
  refine ⟨h.1, ?_⟩
  rcases h.2 with hn | ⟨g, cap, cur, hv, hg, q⟩
  · exact .inl hn
  · exact .inr ⟨g, cap, cur, hv, by omega, q⟩
theorem wnum_lit {w : World} {base g : Nat} {xs : List UInt8} (X M : Int) (x m : Nat) (hX : X = (x : Int)) (hM : M = (m : Int)) (h : Wtr w base g xs) (h1 : 1 ≤ m) (h8 : m ≤ 8) (hb : xs.length + m ≤ 1099511627776) :
    Calls Tryd.prog 30 #[.pointer (some ⟨g, 0, none⟩), .int .u64 X, .int .i64 M] w fun e w' => e = .returned (.tuple #[]) ∧ Wtr w' base g (xs ++ put x m) ∧ Below base w w' := by
  subst hX hM
  exact wnumber_yes x m h h1 h8 hb

set_option maxRecDepth 20000 in
set_option maxHeartbeats 1000000 in
theorem rowOf_any (a b : Dg) (w : World) :
    Calls Tryd.prog 33 #[.agg (bcells a.1), .agg (bcells b.1)] w fun e w' => ∃ v, e = .returned v ∧ OwB w' 5 w.heap.size v (1 :: (a.1 ++ b.1)) ∧ Below w.heap.size w w' := by
  obtain ⟨ZA, hZA⟩ : ∃ Z, Z = bcells a.1 := ⟨_, rfl⟩
  obtain ⟨ZB, hZB⟩ : ∃ Z, Z = bcells b.1 := ⟨_, rfl⟩
  have hsa : ZA.size = 32 := by rw [hZA]; exact bcells_size a
  have hsb : ZB.size = 32 := by rw [hZB]; exact bcells_size b
  have hoa : ZA.all (·.oneCell') = true := by rw [hZA]; exact bcells_one _
  have hob : ZB.all (·.oneCell') = true := by rw [hZB]; exact bcells_one _
  have HA := Lib.hid hZA
  have HB := Lib.hid hZB
  rw [← hZA, ← hZB]
  clear hZA hZB
  go_enter Tryd.func33, Tryd.ntmps33
  go_upto_region 1 with fail
  have hz : ((w.alloc (.cells ZA 25)).alloc (.cells ZB 25)).heap.size = w.heap.size + 2 := by simp
  have HA2 : Hid (Box ((w.alloc (.cells ZA 25)).alloc (.cells ZB 25)) w.heap.size 25 ZA) := (Box.new w _ _).alloc _
  have HB2 : Hid (Box ((w.alloc (.cells ZA 25)).alloc (.cells ZB 25)) (w.heap.size + 1) 25 ZB) := by
    have h := Box.new (w.alloc (.cells ZA 25)) 25 ZB
    rw [World.size_alloc] at h
    exact h
  have HW : Hid (Below w.heap.size w ((w.alloc (.cells ZA 25)).alloc (.cells ZB 25))) := ((Below.refl _ _).alloc (Nat.le_refl _) _).alloc (by simp) _
  generalize (w.alloc (.cells ZA 25)).alloc (.cells ZB 25) = W at *
  have hz1 : w.heap.size + 2 ≤ W.heap.size := by omega
  clear hz
  have hl : ∀ W', Below W.heap.size W W' → Dat true W' 0 W.heap.size (some ⟨w.heap.size, 0, none⟩) a.1 ∧ Dat true W' 0 W.heap.size (some ⟨w.heap.size + 1, 0, none⟩) b.1 := fun W' hB =>
    ⟨(box_dat (HA2.out.below hB (by omega)) HA.out).mono (Nat.zero_le _) (by omega), (box_dat (HB2.out.below hB (by omega)) HB.out).mono (Nat.zero_le _) (by omega)⟩
  have HL := Lib.hid hl
  clear hl
  go_wp2_with (first
    | (go_at_call 29; refine (newWriter_any W).mono ?_; rintro e w1 ⟨rfl, hw1, hb1⟩; have H1 := Lib.hid hw1; have B1 := Lib.hid hb1; clear hw1 hb1)
    | (go_at_call 30; refine (wnum_lit 1 1 1 1 rfl rfl H1.out (by omega) (by omega) (by simp)).mono ?_; rintro e w2 ⟨rfl, hw2, hb2⟩; have H2 := Lib.hid hw2; have B2 : Hid (Below W.heap.size W w2) := B1.out.trans hb2; have D2 := Lib.hid (HL.out w2 B2.out); clear hw2 hb2)
    | (go_at_call 31; (with_reducible refine (wbytes_any H2.out D2.out.1 a.2 (by decide)).mono ?_); rintro e w3 ⟨rfl, hw3, hb3⟩; have H3 := Lib.hid hw3; have B3 : Hid (Below W.heap.size W w3) := B2.out.trans hb3; have D3 := Lib.hid (HL.out w3 B3.out); clear H2 hw3 hb3)
    | (go_at_call 31; (with_reducible refine (wbytes_any H3.out D3.out.2 b.2 (by simp [a.2, put])).mono ?_); rintro e w4 ⟨rfl, hw4, hb4⟩; have H4 := Lib.hid hw4; have B4 : Hid (Below W.heap.size W w4) := B3.out.trans hb4; clear hw4 hb4)
    | (go_at_call 32; refine (out_any H4.out (by simp [a.2, b.2, put])).mono ?_; rintro e w5 ⟨v, rfl, ho, hb5⟩; have HO := Lib.hid ho; have B5 : Hid (Below w.heap.size w w5) := (HW.out.trans (B4.out.mono (by omega))).trans (hb5.mono (by have := B4.out.size; omega)); clear ho hb5))
  go_ret
  refine ⟨_, rfl, ?_, B5.out⟩
  have h := HO.out.low (show w.heap.size ≤ _ by have := B4.out.size; omega)
  simpa [put] using h

theorem wp_as {P : Program} {c : Code} {Q : Exit → Act → World → Prop} {a : Act} {W X : World} (h : X = W) (hh : c.wp P Q a W) : c.wp P Q a X := h ▸ hh
theorem dv_size (d : Dg) : (bcells d.1).size = 32 := bcells_size d

set_option maxRecDepth 20000 in
set_option maxHeartbeats 1000000 in
theorem node_any (a b : Dg) (w : World) (hg : Glob w) :
    Calls Tryd.prog 15 #[.agg (bcells a.1), .agg (bcells b.1)] w fun e w' => e = .returned (.agg (bcells (nodeD a b).1)) ∧ Below w.heap.size w w' := by
  have HROW := Lib.hid (fun W => rowOf_any a b W)
  have HOF : Hid (∀ (W : World) (lo hi : Nat) (A : Option Addr) (c : Nat), Glob W → Dat true W lo hi A (1 :: (a.1 ++ b.1)) → 65 ≤ c → hi ≤ W.heap.size → Calls Tryd.prog 27 #[.slice A 65 c] W fun e w' => e = .returned (.agg (bcells (nodeD a b).1)) ∧ Below W.heap.size W w') :=
    fun W lo hi A c h1 h2 h3 h4 => pof_any h1 h2 (by simp [a.2, b.2]) h3 h4 (by decide)
  have HG := Lib.hid hg
  have hw2 := hg.2.2
  obtain ⟨Z, hZ⟩ : ∃ Z, Z = bcells (nodeD a b).1 := ⟨_, rfl⟩
  have hZs : Z.size = 32 := by rw [hZ]; exact bcells_size _
  have hZo : Z.all (·.oneCell') = true := by rw [hZ]; exact bcells_one _
  obtain ⟨ZA, hZA⟩ : ∃ Z, Z = bcells a.1 := ⟨_, rfl⟩
  obtain ⟨ZB, hZB⟩ : ∃ Z, Z = bcells b.1 := ⟨_, rfl⟩
  have hsa : ZA.size = 32 := by rw [hZA]; exact bcells_size a
  have hsb : ZB.size = 32 := by rw [hZB]; exact bcells_size b
  rw [← hZ] at HOF ⊢
  rw [← hZA, ← hZB] at HROW ⊢
  have hl1 : (1 :: (a.1 ++ b.1)).length = 65 := by simp [a.2, b.2]
  clear hZ hZA hZB hg
  go_enter Tryd.func15, Tryd.ntmps15
  go_upto_region 1 with fail
  have hz : (((w.alloc (.cells ZA 25)).alloc (.cells ZB 25)).alloc (.cells z32 25)).heap.size = w.heap.size + 3 := by simp
  have HA2 : Hid (Box (((w.alloc (.cells ZA 25)).alloc (.cells ZB 25)).alloc (.cells z32 25)) w.heap.size 25 ZA) := ((Box.new w _ _).alloc _).alloc _
  have HB2 : Hid (Box (((w.alloc (.cells ZA 25)).alloc (.cells ZB 25)).alloc (.cells z32 25)) (w.heap.size + 1) 25 ZB) := by
    have h := Box.new (w.alloc (.cells ZA 25)) 25 ZB
    rw [World.size_alloc] at h
    exact h.alloc _
  have HR2 : Hid (Box (((w.alloc (.cells ZA 25)).alloc (.cells ZB 25)).alloc (.cells z32 25)) (w.heap.size + 1 + 1) 25 z32) := by
    have h := Box.new ((w.alloc (.cells ZA 25)).alloc (.cells ZB 25)) 25 z32
    rw [World.size_alloc, World.size_alloc] at h
    exact h
  have HW : Hid (Below w.heap.size w (((w.alloc (.cells ZA 25)).alloc (.cells ZB 25)).alloc (.cells z32 25))) := (((Below.refl _ _).alloc (Nat.le_refl _) _).alloc (by simp) _).alloc (by simp; omega) _
  have hz1 : w.heap.size + 3 ≤ (((w.alloc (.cells ZA 25)).alloc (.cells ZB 25)).alloc (.cells z32 25)).heap.size := by omega
  clear hz
  obtain ⟨W, hW⟩ : ∃ W, (((w.alloc (.cells ZA 25)).alloc (.cells ZB 25)).alloc (.cells z32 25)) = W := ⟨_, rfl⟩
  refine wp_as (W := W) hW ?_
  rw [hW] at HA2 HB2 HR2 HW hz1
  clear hW
  have HG1 := Lib.hid (HG.out.below HW.out hw2)
  go_wp2_with (first
    | (refine wpList_load_row rfl 25 _ rfl w.heap.size rfl 25 ZA (0, 0) _ HA2.out Tryd.underlying25 rfl (by rw [hsa]; kernel_rfl) ?_)
    | (refine wpList_load_row rfl 25 _ rfl (w.heap.size + 1) rfl 25 ZB (0, 0) _ HB2.out Tryd.underlying25 rfl (by rw [hsb]; kernel_rfl) ?_)
    | (go_at_call 33; refine (HROW.out W).mono ?_; rintro e w1 ⟨v, rfl, ho, hb1⟩; obtain ⟨A1, c1, hv1, hc1, hd1⟩ := ho.form; rw [hl1] at hv1 hc1; subst hv1; have HD1 := Lib.hid hd1; have HB1 := Lib.hid hb1; have HR3 : Hid (Box w1 (w.heap.size + 1 + 1) 25 z32) := HR2.out.below hb1 (by omega); have hs1 := hb1.size; clear ho hd1 hb1)
    | (go_at_call 27; refine (HOF.out _ _ _ _ _ (HG1.out.below HB1.out (by omega)) HD1.out hc1 (Nat.le_refl _)).mono ?_; rintro e w2 ⟨rfl, hb2⟩; have HB2' := Lib.hid hb2; have HR4 : Hid (Box w2 (w.heap.size + 1 + 1) 25 z32) := HR3.out.below hb2 (by omega); clear hb2)
    | (refine wpList_store_row rfl 25 _ _ rfl (w.heap.size + 1 + 1) Z rfl rfl 25 _ HR4.out (by rw [hZs]; kernel_rfl) (by rw [hZs]; rfl) hZo ?_))
  refine bodyPost_ret (v := .agg Z) (results_cell_row Tryd.results15 _ _ (w.heap.size + 1 + 1) 25 Z (0, 0) _ rfl (setRow_heap _ _ _ _ _ _ HR4.out) Tryd.underlying25 rfl (by rw [hZs]; kernel_rfl)) rfl ⟨rfl, ?_⟩
  exact below_row (HW.out.trans ((HB1.out.mono (by omega)).trans (HB2'.out.mono (by omega)))) (by omega) _
set_option maxRecDepth 20000 in
set_option maxHeartbeats 1000000 in
theorem leaf_any {own : Bool} {w : World} {lo hi : Nat} {A : Option Addr} {m c : Nat} {ys : List UInt8} (hg : Glob w) (hd : Dat own w lo hi A ys) (hm : ys.length = m) (hhi : hi ≤ w.heap.size) (hb : m ≤ 1000000000000) :
    Calls Tryd.prog 13 #[.slice A m c] w fun e w' => e = .returned (.agg (bcells (leafD ys).1)) ∧ Below w.heap.size w w' := by
  have hl1 : ([] ++ put 0 1 ++ ys).length = m + 1 := by simp [put, hm]
  have HOF : Hid (∀ (W : World) (lo hi : Nat) (A : Option Addr) (c : Nat), Glob W → Dat true W lo hi A ([] ++ put 0 1 ++ ys) → m + 1 ≤ c → hi ≤ W.heap.size → Calls Tryd.prog 27 #[.slice A (m + 1) c] W fun e w' => e = .returned (.agg (bcells (leafD ys).1)) ∧ Below W.heap.size W w') :=
    fun W lo hi A c h1 h2 h3 h4 => pof_any h1 h2 hl1 h3 h4 (by omega)
  have HG := Lib.hid hg
  have hw2 := hg.2.2
  obtain ⟨Z, hZ⟩ : ∃ Z, Z = bcells (leafD ys).1 := ⟨_, rfl⟩
  have hZs : Z.size = 32 := by rw [hZ]; exact bcells_size _
  have hZo : Z.all (·.oneCell') = true := by rw [hZ]; exact bcells_one _
  rw [← hZ] at HOF ⊢
  have HD := Lib.hid hd
  have HM := Lib.hid hm
  have HL1 := Lib.hid hl1
  clear hZ hg hd hm hl1
  go_enter Tryd.func13, Tryd.ntmps13
  go_upto_region 1 with fail
  have HR : Hid (Box (w.alloc (.cells z32 25)) w.heap.size 25 z32) := Box.new w _ _
  have HW : Hid (Below w.heap.size w (w.alloc (.cells z32 25))) := (Below.refl _ _).alloc (Nat.le_refl _) _
  have hz1 : w.heap.size + 1 ≤ (w.alloc (.cells z32 25)).heap.size := by simp
  obtain ⟨W, hW⟩ : ∃ W, (w.alloc (.cells z32 25)) = W := ⟨_, rfl⟩
  refine wp_as (W := W) hW ?_
  rw [hW] at HR HW hz1
  clear hW
  go_wp2_with (first
    | (go_at_call 29; refine (newWriter_any W).mono ?_; rintro e w1 ⟨rfl, hw1, hb1⟩; have H1 := Lib.hid hw1; have B1 := Lib.hid hb1; clear hw1 hb1)
    | (go_at_call 30; refine (wnum_lit 0 1 0 1 rfl rfl H1.out (by omega) (by omega) (by simp)).mono ?_; rintro e w2 ⟨rfl, hw2, hb2⟩; have H2 := Lib.hid hw2; have B2 : Hid (Below W.heap.size W w2) := B1.out.trans hb2; clear hw2 hb2)
    | (go_at_call 31; refine (wbytes_any H2.out (HD.out.below (HW.out.trans (B2.out.mono (by omega))) hhi) HM.out (by rw [List.length_append]; simp [put]; omega)).mono ?_; rintro e w3 ⟨rfl, hw3, hb3⟩; have H3 := Lib.hid hw3; have B3 : Hid (Below W.heap.size W w3) := B2.out.trans hb3; clear hw3 hb3)
    | (go_at_call 32; refine (out_any H3.out (by rw [HL1.out]; omega)).mono ?_; rintro e w5 ⟨v, rfl, ho, hb5⟩; obtain ⟨A1, c1, hv1, hc1, hd1⟩ := ho.form; rw [HL1.out] at hv1 hc1; subst hv1; have HD1 := Lib.hid hd1; have B5 : Hid (Below W.heap.size W w5) := B3.out.trans (hb5.mono B3.out.size); have hs5 := B5.out.size; clear ho hd1 hb5)
    | (go_at_call 27; refine (HOF.out _ _ _ _ _ ((HG.out.below HW.out hw2).below B5.out (by omega)) HD1.out hc1 (Nat.le_refl _)).mono ?_; rintro e w6 ⟨rfl, hb6⟩; have B6 : Hid (Below W.heap.size W w6) := B5.out.trans (hb6.mono hs5); have HR6 : Hid (Box w6 w.heap.size 25 z32) := HR.out.below B6.out (by omega); clear hb6)
    | (refine wpList_store_row rfl 25 _ _ rfl w.heap.size Z rfl rfl 25 _ HR6.out (by rw [hZs]; kernel_rfl) (by rw [hZs]; rfl) hZo ?_))
  refine bodyPost_ret (v := .agg Z) (results_cell_row Tryd.results13 _ _ w.heap.size 25 Z (0, 0) _ rfl (setRow_heap _ _ _ _ _ _ HR6.out) Tryd.underlying25 rfl (by rw [hZs]; kernel_rfl)) rfl ⟨rfl, ?_⟩
  exact below_row (HW.out.trans (B6.out.mono (by omega))) (by omega) _
end Go.Proofs.YtieepdhajjibpaaDoor
