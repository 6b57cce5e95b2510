
/- MerklePins holds, tied to the program's text: for every two manifests, a digest, and whether the first one's own is taken, the law returns true. No condition of ours; the row's own: the package's variables read as the text lays them. -/
import Derived.Test.YtieepdhajjibpaaDoorMrkArgs
import Derived.Test.YtieepdhajjibpaaDoorMrkAwake
namespace Go.Proofs.YtieepdhajjibpaaDoor.merklePins
open Go.ChangeShapes Go.WideShapes Go.ChangeAt Go.RowKit

section
variable {P : Program}
theorem load_rowG {ops : Array Oper} {rest : List Oper} {o : Oper} {a : Act} {w : World} {Q : Exit → Act → World → Prop} (hw : Region.wanted o (yielded ops a.tmps) = true) (ty : TypeId) (x : Operand) (ho : o.op = .load ty x)
    (g : Nat) (hx : a.eval x = .pointer (some ⟨g, 0, none⟩)) (t : TypeId) (cs : Array Value) (fr : Nat × Nat) (d : TypeDesc) (hg : w.heap[g]? = some (.cells cs t fr))
    (hu : P.underlying ty = some d) (hd : (match d with | .struct _ | .array _ _ => true | _ => false) = true) (hi : (P.info? ty).map (·.size) = some cs.size)
    (h : wpList P ops Q rest (a.put o.dst (.agg cs)) w) : wpList P ops Q (o :: rest) a w :=
  wpList_step fun K hK => by
    simp only [hw, if_true]
    exact wp_load_row ty x ho g hx t cs fr d hg hu hd hi (hK _ _ h)
end

theorem chk_ok {s p : Nat} {L : List Dg} {id : Dg} (h : chkE s p L id = 0) : (L.length : Int) = (cntE s (p : Int)).1 ∧ idD s p L = id := by
  unfold chkE at h
  split at h
  · contradiction
  · split at h
    · simp at h
    · split at h
      · simp at h
      · rename_i h2 h3
        exact ⟨Classical.not_not.1 h2, Classical.not_not.1 h3⟩

theorem two_form {L M : List Dg} {w w' : World} {e : Ending} (h : TwoPost L M e w w') : ∃ x y t, e = .returned (.tuple #[x, y, t]) ∧ Below w.heap.size w w' ∧ ((L.length = M.length ∧ L ≠ M ∧ rootL L = rootL M ∧ t = .bool true ∧ ∃ (xs ys : List UInt8) (AX AY : Option Addr) (cX cY : Nat), x = .slice AX 65 cX ∧ y = .slice AY 65 cY ∧ xs.length = 65 ∧ ys.length = 65 ∧ xs ≠ ys ∧ shaD xs = shaD ys ∧ Dat true w' 0 w'.heap.size AX xs ∧ Dat true w' 0 w'.heap.size AY ys) ∨ (¬ (L.length = M.length ∧ L ≠ M ∧ rootL L = rootL M) ∧ x = .slice none 0 0 ∧ y = .slice none 0 0 ∧ t = .bool false)) := by
  rcases h with ⟨h1, h2, h3, xs, ys, AX, AY, cX, cY, he, hx, hy, hne, hs, hdx, hdy, hB⟩ | ⟨hno, he, hB⟩
  · exact ⟨_, _, _, he, hB, .inl ⟨h1, h2, h3, rfl, xs, ys, AX, AY, cX, cY, rfl, rfl, hx, hy, hne, hs, hdx, hdy⟩⟩
  · exact ⟨_, _, _, he, hB, .inr ⟨hno, rfl, rfl, rfl⟩⟩

set_option maxRecDepth 20000 in
set_option maxHeartbeats 20000000 in
theorem walk (s p : Nat) (a0 : Option Addr) (L : List Dg) (cap0 : Nat) (s2 p2 : Nat) (a1 : Option Addr) (M : List Dg) (cap1 : Nat) (x : Dg) (own : Bool) (w : World) (hgl : Glob w) (hd0 : DatR 32 dcs w 0 w.heap.size a0 L) (hl0 : L.length ≤ cap0) (hs : s < 18446744073709551616) (hp : p < 4294967296) (hd1 : DatR 32 dcs w 0 w.heap.size a1 M) (hl1 : M.length ≤ cap1) (hs2 : s2 < 18446744073709551616) (hp2 : p2 < 4294967296) :
    Calls Tryd.prog 7 #[.agg #[.int .u64 (s : Int), .int .u32 (p : Int), .slice a0 L.length cap0], .agg #[.int .u64 (s2 : Int), .int .u32 (p2 : Int), .slice a1 M.length cap1], .agg (dcs x).toArray, .bool own] w fun e w' => e = .returned (.bool true) ∧ Below w.heap.size w w' := by
  have HG := Lib.hid hgl
  have hw2 := hgl.2.2
  have HD0 := Lib.hid hd0
  have HD1 := Lib.hid hd1
  obtain ⟨X, hX⟩ : ∃ X, X = (dcs x).toArray := ⟨_, rfl⟩
  rw [← hX]
  have HX := Lib.hid hX
  have hz : w.heap.size + 3 ≤ (((w.alloc (.cells #[.int .u64 (s : Int), .int .u32 (p : Int), .slice a0 L.length cap0] 35)).alloc (.cells #[.int .u64 (s2 : Int), .int .u32 (p2 : Int), .slice a1 M.length cap1] 35)).alloc (.cells X 25)).heap.size := by simp
  have Y1 : Hid (Box (((w.alloc (.cells #[.int .u64 (s : Int), .int .u32 (p : Int), .slice a0 L.length cap0] 35)).alloc (.cells #[.int .u64 (s2 : Int), .int .u32 (p2 : Int), .slice a1 M.length cap1] 35)).alloc (.cells X 25)) w.heap.size 35 #[.int .u64 (s : Int), .int .u32 (p : Int), .slice a0 L.length cap0]) := ((Box.new w _ _).alloc _).alloc _
  have Y2 : Hid (Box (((w.alloc (.cells #[.int .u64 (s : Int), .int .u32 (p : Int), .slice a0 L.length cap0] 35)).alloc (.cells #[.int .u64 (s2 : Int), .int .u32 (p2 : Int), .slice a1 M.length cap1] 35)).alloc (.cells X 25)) (w.heap.size + 1) 35 #[.int .u64 (s2 : Int), .int .u32 (p2 : Int), .slice a1 M.length cap1]) := by
    have h := Box.new (w.alloc (.cells #[.int .u64 (s : Int), .int .u32 (p : Int), .slice a0 L.length cap0] 35)) 35 #[.int .u64 (s2 : Int), .int .u32 (p2 : Int), .slice a1 M.length cap1]
    rw [World.size_alloc] at h
    exact h.alloc _
  have Y3 : Hid (Box (((w.alloc (.cells #[.int .u64 (s : Int), .int .u32 (p : Int), .slice a0 L.length cap0] 35)).alloc (.cells #[.int .u64 (s2 : Int), .int .u32 (p2 : Int), .slice a1 M.length cap1] 35)).alloc (.cells X 25)) (w.heap.size + 2) 25 X) := by
    have h := Box.new ((w.alloc (.cells #[.int .u64 (s : Int), .int .u32 (p : Int), .slice a0 L.length cap0] 35)).alloc (.cells #[.int .u64 (s2 : Int), .int .u32 (p2 : Int), .slice a1 M.length cap1] 35)) 25 X
    rw [World.size_alloc, World.size_alloc] at h
    exact h
  have B0 : Hid (Below w.heap.size w (((w.alloc (.cells #[.int .u64 (s : Int), .int .u32 (p : Int), .slice a0 L.length cap0] 35)).alloc (.cells #[.int .u64 (s2 : Int), .int .u32 (p2 : Int), .slice a1 M.length cap1] 35)).alloc (.cells X 25))) := (((Below.refl _ _).alloc (Nat.le_refl _) _).alloc (by simp) _).alloc (by simp; omega) _
  clear hgl hd0 hd1 hX
  go_enter Tryd.func7, Tryd.ntmps7
  go_upto_region 1 with fail
  obtain ⟨w0, hw0⟩ : ∃ w0, (((w.alloc (.cells #[.int .u64 (s : Int), .int .u32 (p : Int), .slice a0 L.length cap0] 35)).alloc (.cells #[.int .u64 (s2 : Int), .int .u32 (p2 : Int), .slice a1 M.length cap1] 35)).alloc (.cells X 25)) = w0 := ⟨_, rfl⟩
  refine wp_as (W := w0) hw0 ?_
  rw [hw0] at Y1 Y2 Y3 B0 hz
  clear hw0
  go_upto_region 4 with (first | (go_at_call 10; refine (mawake_any _ (HG.out.below B0.out hw2)).mono ?_; rintro e' W ⟨rfl, hB⟩; have HB := Lib.hid hB; clear hB))
  have BW : Hid (Below w.heap.size w W) := B0.out.trans (HB.out.mono (by omega))
  have Z1 : Hid (Box W w.heap.size 35 #[.int .u64 (s : Int), .int .u32 (p : Int), .slice a0 L.length cap0]) := Y1.out.below HB.out (by omega)
  have Z2 : Hid (Box W (w.heap.size + 1) 35 #[.int .u64 (s2 : Int), .int .u32 (p2 : Int), .slice a1 M.length cap1]) := Y2.out.below HB.out (by omega)
  have Z3 : Hid (Box W (w.heap.size + 2) 25 X) := Y3.out.below HB.out (by omega)
  have hsW := HB.out.size
  have k2 : W.cell? ⟨w.heap.size, 2, none⟩ = some (.slice a0 L.length cap0) := Z1.out.cell 2
  have j2 : W.cell? ⟨w.heap.size + 1, 2, none⟩ = some (.slice a1 M.length cap1) := Z2.out.cell 2
  clear Y1 Y2 Y3 HB
  by_cases hbig : 100 < L.length
  · have g1 : decide ((100 : Int) < (L.length : Int)) = true := by simp; omega
    go_wp2_with fail
    go_ret
    exact ⟨rfl, BW.out⟩
  by_cases hbig2 : 100 < M.length
  · have g1 : decide ((100 : Int) < (L.length : Int)) = false := by simp; omega
    have g2 : decide ((100 : Int) < (M.length : Int)) = true := by simp; omega
    go_wp2_with fail
    go_ret
    exact ⟨rfl, BW.out⟩
  have hL : L.length ≤ 100 := by omega
  have hM : M.length ≤ 100 := by omega
  have g1 : decide ((100 : Int) < (L.length : Int)) = false := by simp; omega
  have g2 : decide ((100 : Int) < (M.length : Int)) = false := by simp; omega
  clear hbig hbig2
  go_upto_if 28 with fail
  go_cut [] (fun wx => ∃ id : Dg, Box wx w.heap.size 35 #[.int .u64 (s : Int), .int .u32 (p : Int), .slice a0 L.length cap0] ∧ Box wx (w.heap.size + 1) 35 #[.int .u64 (s2 : Int), .int .u32 (p2 : Int), .slice a1 M.length cap1] ∧ Box wx (w.heap.size + 2) 25 (dcs id).toArray ∧ Below w.heap.size w wx)
  case first =>
    cases own with
    | true =>
      obtain ⟨R, hR⟩ : ∃ R, R = bcells (idD s p L).1 := ⟨_, rfl⟩
      have hRs : R.size = 32 := by rw [hR]; exact bcells_size _
      have hRo : R.all (·.oneCell') = true := by rw [hR]; exact bcells_one _
      have CI := Lib.hid (fun (V : World) (hV : Below w.heap.size w V) => id_any (w := V) (c := cap0) s p (HG.out.below hV hw2) (HD0.out.below hV (Nat.le_refl _)) rfl hl0 hV.size (by omega) hp)
      rw [← hR] at CI
      have HR := Lib.hid hR
      clear hR
      go_wp2_with (first
        | (refine wpList_load_row rfl 35 _ rfl w.heap.size rfl 35 #[.int .u64 (s : Int), .int .u32 (p : Int), .slice a0 L.length cap0] (0, 0) _ Z1.out Tryd.underlying35 rfl (by kernel_rfl) ?_)
        | (go_at_call 20; refine (CI.out _ BW.out).mono ?_; rintro e wb ⟨rfl, hb⟩; have A2 : Hid (Below W.heap.size W wb) := hb; have Z3b : Hid (Box wb (w.heap.size + 2) 25 X) := Z3.out.below A2.out (by omega); clear hb)
        | (refine wpList_store_row rfl 25 _ _ rfl (w.heap.size + 2) R rfl rfl 25 _ Z3b.out (by rw [hRs]; kernel_rfl) (by rw [hRs, HX.out]; simp [dcs_len]) hRo ?_))
      go_meet
      refine ⟨idD s p L, (setRow_other wb (w.heap.size + 2) w.heap.size R (by omega)).trans (Z1.out.below A2.out (by omega)), (setRow_other wb (w.heap.size + 2) (w.heap.size + 1) R (by omega)).trans (Z2.out.below A2.out (by omega)), ?_, below_row (BW.out.trans (A2.out.mono BW.out.size)) (by omega) _⟩
      rw [show (dcs (idD s p L)).toArray = R by rw [HR.out]; rfl]
      exact setRow_heap _ _ _ _ _ _ Z3b.out
    | false =>
      go_wp2_with fail
      go_meet
      exact ⟨x, Z1.out, Z2.out, by rw [← HX.out]; exact Z3.out, BW.out⟩
  case rest =>
    obtain ⟨id, hb1, hb2, hb3, hB⟩ := hcut
    obtain ⟨W8, rfl⟩ : ∃ W8, W8 = wc := ⟨_, rfl⟩
    obtain ⟨Z, hZ⟩ : ∃ Z, Z = (dcs id).toArray := ⟨_, rfl⟩
    have hZs : Z.size = 32 := by rw [hZ]; simp [dcs_len]
    rw [← hZ] at hb3
    have HZ := Lib.hid hZ
    have U1 := Lib.hid hb1
    have U2 := Lib.hid hb2
    have U3 := Lib.hid hb3
    have B8 := Lib.hid hB
    have u1 := hb1.lt
    have u2 := hb2.lt
    have u3 := hb3.lt
    clear hb1 hb2 hb3 hB hZ k2 j2 Z1 Z2 Z3 BW HX
    have GV : Hid (∀ V, Below w.heap.size w V → Glob V) := fun V hV => HG.out.below hV hw2
    obtain ⟨ck, hck⟩ : ∃ ck, ck = chkE s p L id := ⟨_, rfl⟩
    obtain ⟨cl, hcl⟩ : ∃ ck, ck = chkE s2 p2 M id := ⟨_, rfl⟩
    have K1 : Hid (∀ V, Below w.heap.size w V → Calls Tryd.prog 22 #[.agg #[.int .u64 (s : Int), .int .u32 (p : Int), .slice a0 L.length cap0], .agg Z] V fun e w' => e = .returned (.int .i64 ck) ∧ Below V.heap.size V w') := fun V hV => by rw [HZ.out, hck]; exact check_any s p id (GV.out V hV) (HD0.out.below hV (Nat.le_refl _)) rfl hl0 hV.size (by omega) hs hp
    have K2 : Hid (∀ V, Below w.heap.size w V → Calls Tryd.prog 22 #[.agg #[.int .u64 (s2 : Int), .int .u32 (p2 : Int), .slice a1 M.length cap1], .agg Z] V fun e w' => e = .returned (.int .i64 cl) ∧ Below V.heap.size V w') := fun V hV => by rw [HZ.out, hcl]; exact check_any s2 p2 id (GV.out V hV) (HD1.out.below hV (Nat.le_refl _)) rfl hl1 hV.size (by omega) hs2 hp2
    have HCK := Lib.hid hck
    have HCL := Lib.hid hcl
    clear hck hcl
    by_cases hk1 : ck = 0
    case neg =>
      have g3 : (ck != 0) = true := by rw [bne_iff_ne]; exact hk1
      go_wp2_with (first
      | (refine wpList_load_row rfl 35 _ rfl w.heap.size rfl 35 #[.int .u64 (s : Int), .int .u32 (p : Int), .slice a0 L.length cap0] (0, 0) _ U1.out Tryd.underlying35 rfl (by kernel_rfl) ?_)
      | (refine wpList_load_row rfl 25 _ rfl (w.heap.size + 2) rfl 25 Z (0, 0) _ U3.out Tryd.underlying25 rfl (by rw [hZs]; kernel_rfl) ?_)
      | (go_at_call 22; (with_reducible refine (K1.out _ B8.out).mono ?_); rintro e v1 ⟨rfl, ha⟩; have Av1 : Hid (Below W8.heap.size W8 v1) := ha; have Bv1 : Hid (Below w.heap.size w v1) := B8.out.trans (ha.mono B8.out.size); clear ha))
      go_ret
      exact ⟨rfl, Bv1.out⟩
    subst hk1
    by_cases hk2 : cl = 0
    case neg =>
      have g3 : (cl != 0) = true := by rw [bne_iff_ne]; exact hk2
      go_wp2_with (first
      | (refine wpList_load_row rfl 35 _ rfl w.heap.size rfl 35 #[.int .u64 (s : Int), .int .u32 (p : Int), .slice a0 L.length cap0] (0, 0) _ U1.out Tryd.underlying35 rfl (by kernel_rfl) ?_)
      | (refine wpList_load_row rfl 25 _ rfl (w.heap.size + 2) rfl 25 Z (0, 0) _ U3.out Tryd.underlying25 rfl (by rw [hZs]; kernel_rfl) ?_)
      | (refine load_rowG (by kernel_rfl) 35 _ rfl (w.heap.size + 1) rfl 35 #[.int .u64 (s2 : Int), .int .u32 (p2 : Int), .slice a1 M.length cap1] (0, 0) _ (U2.out.below Av1.out u2) Tryd.underlying35 rfl (by kernel_rfl) ?_)
      | (refine load_rowG (by kernel_rfl) 25 _ rfl (w.heap.size + 2) rfl 25 Z (0, 0) _ (U3.out.below Av1.out u3) Tryd.underlying25 rfl (by rw [hZs]; kernel_rfl) ?_)
      | (go_at_call 22; (with_reducible refine (K1.out _ B8.out).mono ?_); rintro e v1 ⟨rfl, ha⟩; have Av1 : Hid (Below W8.heap.size W8 v1) := ha; have Bv1 : Hid (Below w.heap.size w v1) := B8.out.trans (ha.mono B8.out.size); clear ha)
      | (go_at_call 22; (with_reducible refine (K2.out _ Bv1.out).mono ?_); rintro e v2 ⟨rfl, ha⟩; have Av2 : Hid (Below W8.heap.size W8 v2) := Av1.out.trans (ha.mono Av1.out.size); have Bv2 : Hid (Below w.heap.size w v2) := Bv1.out.trans (ha.mono Bv1.out.size); clear ha))
      go_ret
      exact ⟨rfl, Bv2.out⟩
    subst hk2
    obtain ⟨hn1, hi1⟩ := chk_ok HCK.out.symm
    obtain ⟨hn2, hi2⟩ := chk_ok HCL.out.symm
    have HID : Hid (idD s p L = idD s2 p2 M) := hi1.trans hi2.symm
    have HN : Hid (s = s2 → p = p2 → L.length = M.length) := fun h1 h2 => by subst h1; subst h2; omega
    clear hn1 hn2 hi1 hi2
    go_upto_region 10 with (first
      | (refine wpList_load_row rfl 35 _ rfl w.heap.size rfl 35 #[.int .u64 (s : Int), .int .u32 (p : Int), .slice a0 L.length cap0] (0, 0) _ U1.out Tryd.underlying35 rfl (by kernel_rfl) ?_)
      | (refine wpList_load_row rfl 25 _ rfl (w.heap.size + 2) rfl 25 Z (0, 0) _ U3.out Tryd.underlying25 rfl (by rw [hZs]; kernel_rfl) ?_)
      | (refine load_rowG (by kernel_rfl) 35 _ rfl (w.heap.size + 1) rfl 35 #[.int .u64 (s2 : Int), .int .u32 (p2 : Int), .slice a1 M.length cap1] (0, 0) _ (U2.out.below Av1.out u2) Tryd.underlying35 rfl (by kernel_rfl) ?_)
      | (refine load_rowG (by kernel_rfl) 25 _ rfl (w.heap.size + 2) rfl 25 Z (0, 0) _ (U3.out.below Av1.out u3) Tryd.underlying25 rfl (by rw [hZs]; kernel_rfl) ?_)
      | (go_at_call 22; (with_reducible refine (K1.out _ B8.out).mono ?_); rintro e v1 ⟨rfl, ha⟩; have Av1 : Hid (Below W8.heap.size W8 v1) := ha; have Bv1 : Hid (Below w.heap.size w v1) := B8.out.trans (ha.mono B8.out.size); clear ha)
      | (go_at_call 22; (with_reducible refine (K2.out _ Bv1.out).mono ?_); rintro e v2 ⟨rfl, ha⟩; have Av2 : Hid (Below W8.heap.size W8 v2) := Av1.out.trans (ha.mono Av1.out.size); have Bv2 : Hid (Below w.heap.size w v2) := Bv1.out.trans (ha.mono Bv1.out.size); clear ha))
    have V1 : Hid (Box v2 w.heap.size 35 #[.int .u64 (s : Int), .int .u32 (p : Int), .slice a0 L.length cap0]) := U1.out.below Av2.out u1
    have V2 : Hid (Box v2 (w.heap.size + 1) 35 #[.int .u64 (s2 : Int), .int .u32 (p2 : Int), .slice a1 M.length cap1]) := U2.out.below Av2.out u2
    have hv2 := Av2.out.size
    clear U1 U2 U3 K1 K2 Bv1 Av1 Av2 u3 HCK HCL
    have k0 := V1.out.cell 0
    have k1 := V1.out.cell 1
    have k2 := V1.out.cell 2
    have j0 := V2.out.cell 0
    have j1 := V2.out.cell 1
    have j2 := V2.out.cell 2
    have HS := Lib.hid (same_any (w := v2) (c := cap0) (c' := cap1) (HD0.out.below Bv2.out (Nat.le_refl _)) (HD1.out.below Bv2.out (Nat.le_refl _)) rfl rfl (by omega) (by omega))
    go_cut [59] (fun v wx => v = .bool (decide (s = s2 ∧ p = p2 ∧ L = M)) ∧ Below v2.heap.size v2 wx)
    case first =>
      by_cases h1 : s = s2
      case neg =>
        have e1 : ((s : Int) == (s2 : Int)) = false := by simp; omega
        have HDEC : Hid (decide (s = s2 ∧ p = p2 ∧ L = M) = false) := decide_eq_false (fun h => h1 h.1)
        clear h1 HID HN HS
        go_wp2_with fail
        go_meet
        exact ⟨by rw [HDEC.out], Below.refl _ _⟩
      have e1 : ((s : Int) == (s2 : Int)) = true := by rw [h1]; simp
      by_cases h2 : p = p2
      case neg =>
        have e2 : ((p : Int) == (p2 : Int)) = false := by simp; omega
        have HDEC : Hid (decide (s = s2 ∧ p = p2 ∧ L = M) = false) := decide_eq_false (fun h => h2 h.2.1)
        clear h1 h2 HID HN HS
        go_wp2_with fail
        go_meet
        exact ⟨by rw [HDEC.out], Below.refl _ _⟩
      have e2 : ((p : Int) == (p2 : Int)) = true := by rw [h2]; simp
      have HDEC : Hid (decide (s = s2 ∧ p = p2 ∧ L = M) = decide (L = M)) := decide_eq_decide.2 ⟨fun h => h.2.2, fun h => ⟨h1, h2, h⟩⟩
      clear h1 h2 HID HN
      go_wp2_with (first
        | (go_at_call 19; refine HS.out.mono ?_; rintro e wa ⟨rfl, ha⟩; have Aa := Lib.hid ha; clear ha))
      go_meet
      exact ⟨by rw [HDEC.out], Aa.out⟩
    case rest =>
      obtain ⟨rfl, hB⟩ := hcut
      obtain ⟨v3, rfl⟩ : ∃ v3, v3 = wc := ⟨_, rfl⟩
      have B3 : Hid (Below w.heap.size w v3) := Bv2.out.trans (hB.mono Bv2.out.size)
      have V1c : Hid (Box v3 w.heap.size 35 #[.int .u64 (s : Int), .int .u32 (p : Int), .slice a0 L.length cap0]) := V1.out.below hB (by omega)
      have V2c : Hid (Box v3 (w.heap.size + 1) 35 #[.int .u64 (s2 : Int), .int .u32 (p2 : Int), .slice a1 M.length cap1]) := V2.out.below hB (by omega)
      have hv3 := hB.size
      clear hB V1 V2 HS k0 k1 k2 j0 j1 j2 Bv2
      by_cases hall : s = s2 ∧ p = p2 ∧ L = M
      · have g5 : decide (s = s2 ∧ p = p2 ∧ L = M) = true := decide_eq_true hall
        rw [g5]
        clear hall g5
        go_wp2_with fail
        go_ret
        exact ⟨rfl, B3.out⟩
      have g5 : decide (s = s2 ∧ p = p2 ∧ L = M) = false := decide_eq_false hall
      rw [g5]
      clear g5
      have HALL := Lib.hid hall
      clear hall
      have k0 := V1c.out.cell 0
      have k1 := V1c.out.cell 1
      have k2 := V1c.out.cell 2
      have j0 := V2c.out.cell 0
      have j1 := V2c.out.cell 1
      have j2 := V2c.out.cell 2
      obtain ⟨R1, hR1⟩ : ∃ R, R = bcells (rootL L).1 := ⟨_, rfl⟩
      obtain ⟨R2, hR2⟩ : ∃ R, R = bcells (rootL M).1 := ⟨_, rfl⟩
      have hs1 : R1.size = 32 := by rw [hR1]; exact bcells_size _
      have ho1 : R1.all (·.oneCell') = true := by rw [hR1]; exact bcells_one _
      have hs2' : R2.size = 32 := by rw [hR2]; exact bcells_size _
      have ho2 : R2.all (·.oneCell') = true := by rw [hR2]; exact bcells_one _
      have QR : Hid (∀ V, (Op.equalIn 10000 25 (.agg R1) (.agg R2)).run Tryd.prog V = .ok (decide (rootL L = rootL M)) V) := fun V => by
        rw [hR1, hR2]
        refine (eqD _ _ V).trans ?_
        by_cases h : rootL L = rootL M
        · rw [h, beq_self_eq_true, decide_eq_true rfl]
        · rw [beq_eq_false_iff_ne.2 (fun hh => h (Subtype.ext hh)), decide_eq_false h]
      have CR1 : Hid (∀ V, Below w.heap.size w V → Calls Tryd.prog 12 #[.slice a0 L.length cap0] V fun e w' => e = .returned (.agg R1) ∧ Below V.heap.size V w') := fun V hV => by rw [hR1]; exact refRoot_any L.length (w := V) (c := cap0) (Nat.le_refl _) (HD0.out.below hV (Nat.le_refl _)) rfl hl0 hV.size (by omega)
      have CR2 : Hid (∀ V, Below w.heap.size w V → Calls Tryd.prog 12 #[.slice a1 M.length cap1] V fun e w' => e = .returned (.agg R2) ∧ Below V.heap.size V w') := fun V hV => by rw [hR2]; exact refRoot_any M.length (w := V) (c := cap1) (Nat.le_refl _) (HD1.out.below hV (Nat.le_refl _)) rfl hl1 hV.size (by omega)
      clear hR1 hR2
      go_upto_region 12 with fail
      go_cut [10] (fun v wx => ∃ g : Nat, v = .pointer (some ⟨g, 0, none⟩) ∧ Box wx g 25 R1 ∧ Below v3.heap.size v3 wx)
      case first =>
        go_wp2_with (first
          | (go_at_call 12; (with_reducible refine (CR1.out _ B3.out).mono ?_); rintro e wa ⟨rfl, ha⟩; have Aa := Lib.hid ha; clear ha)
          | (refine wpList_store_row rfl 25 _ _ rfl wa.heap.size R1 rfl rfl 25 _ (heap_alloc_new wa _) (by rw [hs1]; kernel_rfl) (by rw [hs1]; kernel_rfl) ho1 ?_))
        go_meet
        exact ⟨_, rfl, setRow_heap _ _ _ _ _ _ (heap_alloc_new wa _), below_row (Aa.out.alloc Aa.out.size _) Aa.out.size _⟩
      case rest =>
        obtain ⟨gr, rfl, hbr, hB⟩ := hcut
        obtain ⟨v4, rfl⟩ : ∃ v4, v4 = wc := ⟨_, rfl⟩
        have XR := Lib.hid hbr
        have lr := hbr.lt
        have B4 : Hid (Below w.heap.size w v4) := B3.out.trans (hB.mono B3.out.size)
        have V1d : Hid (Box v4 w.heap.size 35 #[.int .u64 (s : Int), .int .u32 (p : Int), .slice a0 L.length cap0]) := V1c.out.below hB V1c.out.lt
        have V2d : Hid (Box v4 (w.heap.size + 1) 35 #[.int .u64 (s2 : Int), .int .u32 (p2 : Int), .slice a1 M.length cap1]) := V2c.out.below hB V2c.out.lt
        clear hB hbr V1c V2c k0 k1 k2 j0 j1 j2 CR1
        have j2 := V2d.out.cell 2
        go_upto_region 13 with fail
        go_cut [11] (fun v wx => ∃ g : Nat, v = .pointer (some ⟨g, 0, none⟩) ∧ Box wx g 25 R2 ∧ Below v4.heap.size v4 wx)
        case first =>
          go_wp2_with (first
            | (go_at_call 12; (with_reducible refine (CR2.out _ B4.out).mono ?_); rintro e wa ⟨rfl, ha⟩; have Aa := Lib.hid ha; clear ha)
            | (refine wpList_store_row rfl 25 _ _ rfl wa.heap.size R2 rfl rfl 25 _ (heap_alloc_new wa _) (by rw [hs2']; kernel_rfl) (by rw [hs2']; kernel_rfl) ho2 ?_))
          go_meet
          exact ⟨_, rfl, setRow_heap _ _ _ _ _ _ (heap_alloc_new wa _), below_row (Aa.out.alloc Aa.out.size _) Aa.out.size _⟩
        case rest =>
          obtain ⟨gs, rfl, hbs, hB⟩ := hcut
          obtain ⟨v5, rfl⟩ : ∃ v5, v5 = wc := ⟨_, rfl⟩
          have YS := Lib.hid hbs
          have YR : Hid (Box v5 gr 25 R1) := XR.out.below hB lr
          have B5' : Hid (Below w.heap.size w v5) := B4.out.trans (hB.mono B4.out.size)
          have V1e : Hid (Box v5 w.heap.size 35 #[.int .u64 (s : Int), .int .u32 (p : Int), .slice a0 L.length cap0]) := V1d.out.below hB V1d.out.lt
          have V2e : Hid (Box v5 (w.heap.size + 1) 35 #[.int .u64 (s2 : Int), .int .u32 (p2 : Int), .slice a1 M.length cap1]) := V2d.out.below hB V2d.out.lt
          clear hB hbs V1d V2d j2 CR2 XR lr
          have k0 := V1e.out.cell 0
          have k1 := V1e.out.cell 1
          have j0 := V2e.out.cell 0
          have j1 := V2e.out.cell 1
          go_upto_region 14 with fail
          go_cut [82] (fun v wx => Below v5.heap.size v5 wx ∧ ((v = .bool true ∧ ¬ (s = s2 ∧ p = p2 ∧ rootL L = rootL M)) ∨ (v = .bool false ∧ s = s2 ∧ p = p2 ∧ rootL L = rootL M)))
          case first =>
            by_cases h1 : s = s2
            case neg =>
              have e1 : ((s : Int) != (s2 : Int)) = true := by rw [bne_iff_ne]; omega
              have H1 := Lib.hid h1
              clear h1 HID HN
              go_wp2_with fail
              go_meet
              exact ⟨Below.refl _ _, .inl ⟨rfl, fun h => H1.out h.1⟩⟩
            have e1 : ((s : Int) != (s2 : Int)) = false := by rw [h1]; simp
            by_cases h2 : p = p2
            case neg =>
              have e2 : ((p : Int) != (p2 : Int)) = true := by rw [bne_iff_ne]; omega
              have H2 := Lib.hid h2
              clear h1 h2 HID HN
              go_wp2_with fail
              go_meet
              exact ⟨Below.refl _ _, .inl ⟨rfl, fun h => H2.out h.2.1⟩⟩
            have e2 : ((p : Int) != (p2 : Int)) = false := by rw [h2]; simp
            have H1 := Lib.hid h1
            have H2 := Lib.hid h2
            clear h1 h2 HID HN
            by_cases h3 : rootL L = rootL M
            · have q1 : ∀ V, (Op.equalIn 10000 25 (.agg R1) (.agg R2)).run Tryd.prog V = .ok true V := fun V => (QR.out V).trans (by rw [decide_eq_true h3])
              have H3 := Lib.hid h3
              clear h3 QR
              go_wp2_with (first
                | (refine load_rowG (by rfl) 25 _ rfl gr rfl 25 R1 (0, 0) _ YR.out Tryd.underlying25 rfl (by rw [hs1]; kernel_rfl) ?_)
                | (refine load_rowG (by rfl) 25 _ rfl gs rfl 25 R2 (0, 0) _ YS.out Tryd.underlying25 rfl (by rw [hs2']; kernel_rfl) ?_))
              go_meet
              exact ⟨Below.refl _ _, .inr ⟨rfl, H1.out, H2.out, H3.out⟩⟩
            · have q1 : ∀ V, (Op.equalIn 10000 25 (.agg R1) (.agg R2)).run Tryd.prog V = .ok false V := fun V => (QR.out V).trans (by rw [decide_eq_false h3])
              have H3 := Lib.hid h3
              clear h3 QR
              go_wp2_with (first
                | (refine load_rowG (by rfl) 25 _ rfl gr rfl 25 R1 (0, 0) _ YR.out Tryd.underlying25 rfl (by rw [hs1]; kernel_rfl) ?_)
                | (refine load_rowG (by rfl) 25 _ rfl gs rfl 25 R2 (0, 0) _ YS.out Tryd.underlying25 rfl (by rw [hs2']; kernel_rfl) ?_))
              go_meet
              exact ⟨Below.refl _ _, .inl ⟨rfl, fun h => H3.out h.2.2⟩⟩
          case rest =>
            obtain ⟨hB, hp'⟩ := hcut
            obtain ⟨W5, rfl⟩ : ∃ W5, W5 = wc := ⟨_, rfl⟩
            have B5 : Hid (Below w.heap.size w W5) := B5'.out.trans (hB.mono B5'.out.size)
            have V1f : Hid (Box W5 w.heap.size 35 #[.int .u64 (s : Int), .int .u32 (p : Int), .slice a0 L.length cap0]) := V1e.out.below hB V1e.out.lt
            have V2f : Hid (Box W5 (w.heap.size + 1) 35 #[.int .u64 (s2 : Int), .int .u32 (p2 : Int), .slice a1 M.length cap1]) := V2e.out.below hB V2e.out.lt
            have l1 := V1f.out.lt
            have l2 := V2f.out.lt
            clear hB V1e V2e k0 k1 j0 j1 YR YS B5' QR
            rcases hp' with ⟨rfl, hA⟩ | ⟨rfl, h1, h2, h3⟩
            · obtain ⟨R, hR⟩ : ∃ R, R = bcells (idD s p L).1 := ⟨_, rfl⟩
              have q1 : ∀ V, (Op.equalIn 10000 25 (.agg R) (.agg R)).run Tryd.prog V = .ok true V := fun V => by rw [hR]; exact (eqD _ _ V).trans (by rw [beq_self_eq_true])
              have hR2' : R = bcells (idD s2 p2 M).1 := by rw [hR, HID.out]
              have DW : Hid (∀ V, Below W5.heap.size W5 V → Below w.heap.size w V) := fun V hV => B5.out.trans (hV.mono B5.out.size)
              have C1 : Hid (∀ V, Below W5.heap.size W5 V → Calls Tryd.prog 21 #[.agg #[.int .u64 (s : Int), .int .u32 (p : Int), .slice a0 L.length cap0]] V fun e w' => e = .returned (.agg R) ∧ Below V.heap.size V w') := fun V hV => by rw [hR]; exact refId_any s p (HD0.out.below (DW.out V hV) (Nat.le_refl _)) rfl hl0 (DW.out V hV).size (by omega) hs hp
              have C2 : Hid (∀ V, Below W5.heap.size W5 V → Calls Tryd.prog 21 #[.agg #[.int .u64 (s2 : Int), .int .u32 (p2 : Int), .slice a1 M.length cap1]] V fun e w' => e = .returned (.agg R) ∧ Below V.heap.size V w') := fun V hV => by rw [hR2']; exact refId_any s2 p2 (HD1.out.below (DW.out V hV) (Nat.le_refl _)) rfl hl1 (DW.out V hV).size (by omega) hs2 hp2
              have CM : Hid (∀ V, Calls Tryd.prog 23 #[.agg #[.int .u64 (s : Int), .int .u32 (p : Int), .slice a0 L.length cap0]] V fun e w' => e = .returned (.agg #[.int .u64 (s : Int), .int .u32 (p : Int), .slice a0 L.length cap0]) ∧ Below V.heap.size V w') := fun V => modelOf_any _ _ _ _ _ V
              have CN : Hid (∀ V, Calls Tryd.prog 23 #[.agg #[.int .u64 (s2 : Int), .int .u32 (p2 : Int), .slice a1 M.length cap1]] V fun e w' => e = .returned (.agg #[.int .u64 (s2 : Int), .int .u32 (p2 : Int), .slice a1 M.length cap1]) ∧ Below V.heap.size V w') := fun V => modelOf_any _ _ _ _ _ V
              have LM : Hid (∀ V, Below W5.heap.size W5 V → (loadVar 35 ⟨w.heap.size, 0, none⟩).run Tryd.prog V = .ok (.agg #[.int .u64 (s : Int), .int .u32 (p : Int), .slice a0 L.length cap0]) V) := fun V hV => run_loadVar_row (P := Tryd.prog) V w.heap.size 35 35 _ (0, 0) _ (V1f.out.below hV l1) Tryd.underlying35 rfl (by kernel_rfl)
              have LN : Hid (∀ V, Below W5.heap.size W5 V → (loadVar 35 ⟨w.heap.size + 1, 0, none⟩).run Tryd.prog V = .ok (.agg #[.int .u64 (s2 : Int), .int .u32 (p2 : Int), .slice a1 M.length cap1]) V) := fun V hV => run_loadVar_row (P := Tryd.prog) V (w.heap.size + 1) 35 35 _ (0, 0) _ (V2f.out.below hV l2) Tryd.underlying35 rfl (by kernel_rfl)
              clear hR hR2' hA HID HN
              go_upto_region 15 with fail
              refine wp_region_noPanic ?_
              refine wp_region_held_drew (S := fun V => Below W5.heap.size W5 V) (by kernel_rfl) ((Below.refl _ _).drew) (fun hH => ?_)
              generalize W5.drew = wd at hH ⊢
              have BC : Hid (Below W5.heap.size W5 wd) := hH
              refine takeH (i := 0) (v := .agg #[.int .u64 (s : Int), .int .u32 (p : Int), .slice a0 L.length cap0]) 83 rfl (by kernel_rfl) (by kernel_rfl) (by kernel_rfl) rfl (fun _ _ _ h => h) (yieldsIf_load_run (by rfl) rfl rfl LM.out) hH ?_
              go_frame
              refine takeH (i := 3) (v := .agg #[.int .u64 (s2 : Int), .int .u32 (p2 : Int), .slice a1 M.length cap1]) 86 rfl (by kernel_rfl) (by kernel_rfl) (by kernel_rfl) rfl (fun _ _ _ h => h) (yieldsIf_load_run (by rfl) rfl rfl LN.out) hH ?_
              go_frame
              refine wpAnyH_ready (rs := [1]) (by kernel_rfl) (by simp) ?_
              refine AllReadyH.cons rfl (fun K hK => ?_) AllReadyH.nil
              go_simp
              refine (CM.out _).mono ?_
              rintro e' wr0 ⟨rfl, hB⟩
              have Bwr0 : Hid (Below W5.heap.size W5 wr0) := BC.out.trans (hB.mono (by exact BC.out.size))
              clear hB BC
              have BC := Bwr0
              dsimp only
              refine hK.out _ _ Bwr0.out (fun hH => ?_)
              clear hK K
              refine wpAnyH_ready (rs := [2]) (by kernel_rfl) (by simp) ?_
              refine AllReadyH.cons rfl (fun K hK => ?_) AllReadyH.nil
              go_simp
              refine (C1.out _ BC.out).mono ?_
              rintro e' wr1 ⟨rfl, hB⟩
              have Bwr1 : Hid (Below W5.heap.size W5 wr1) := BC.out.trans (hB.mono (by exact BC.out.size))
              clear hB BC
              have BC := Bwr1
              dsimp only
              refine hK.out _ _ Bwr1.out (fun hH => ?_)
              clear hK K
              refine wpAnyH_ready (rs := [4]) (by kernel_rfl) (by simp) ?_
              refine AllReadyH.cons rfl (fun K hK => ?_) AllReadyH.nil
              go_simp
              refine (CN.out _).mono ?_
              rintro e' wr2 ⟨rfl, hB⟩
              have Bwr2 : Hid (Below W5.heap.size W5 wr2) := BC.out.trans (hB.mono (by exact BC.out.size))
              clear hB BC
              have BC := Bwr2
              dsimp only
              refine hK.out _ _ Bwr2.out (fun hH => ?_)
              clear hK K
              refine wpAnyH_ready (rs := [5]) (by kernel_rfl) (by simp) ?_
              refine AllReadyH.cons rfl (fun K hK => ?_) AllReadyH.nil
              go_simp
              refine (C2.out _ BC.out).mono ?_
              rintro e' wr3 ⟨rfl, hB⟩
              have Bwr3 : Hid (Below W5.heap.size W5 wr3) := BC.out.trans (hB.mono (by exact BC.out.size))
              clear hB BC
              have BC := Bwr3
              dsimp only
              refine hK.out _ _ Bwr3.out (fun hH => ?_)
              clear hK K
              refine takeH (i := 6) (v := .bool true) 89 rfl (by kernel_rfl) (by kernel_rfl) (by kernel_rfl) rfl (fun _ _ _ h => h) (Or.inl ⟨by rfl, fun w' _ => ?_⟩) hH ?_
              · go_simp
              go_frame
              refine takeH (i := 7) (v := .bool true) 8 rfl (by kernel_rfl) (by kernel_rfl) (by kernel_rfl) rfl (fun _ _ _ h => h) (Or.inl ⟨by rfl, fun w' _ => ?_⟩) hH ?_
              · go_simp
              go_frame
              refine wpAnyH_done (by kernel_rfl) ?_ _
              refine NoPanic.normal ?_
              go_wp2_with fail
              go_ret
              exact ⟨by kernel_rfl, B5.out.trans (BC.out.mono B5.out.size)⟩
            · have hlen : L.length = M.length := HN.out h1 h2
              have hne : L ≠ M := fun h => HALL.out ⟨h1, h2, h⟩
              have HF := Lib.hid (And.intro hlen (And.intro hne h3))
              clear h1 h2 h3 hlen hne HALL HN HID
              have hs6 := B5.out.size
              have HTW := Lib.hid (two_any (w := W5) (c := cap0) (c' := cap1) (GV.out W5 B5.out) (HD0.out.below B5.out (Nat.le_refl _)) (HD1.out.below B5.out (Nat.le_refl _)) rfl rfl hl0 hl1 hs6 hs6 (by omega) (by omega))
              have k2 := V1f.out.cell 2
              have j2 := V2f.out.cell 2
              go_upto_region 16 with fail
              go_cut [12, 13, 14] (fun v8 v9 v10 wx => Below W5.heap.size W5 wx ∧ v10 = .bool true ∧ ∃ (xs ys : List UInt8) (AX AY : Option Addr) (cX cY : Nat), v8 = .slice AX 65 cX ∧ v9 = .slice AY 65 cY ∧ xs.length = 65 ∧ ys.length = 65 ∧ xs ≠ ys ∧ shaD xs = shaD ys ∧ Dat true wx 0 wx.heap.size AX xs ∧ Dat true wx 0 wx.heap.size AY ys)
              case first =>
                go_wp2_with (first | (go_at_call 25; refine HTW.out.mono ?_; rintro e' w3 hp''; obtain ⟨x, y, t, rfl, hpp⟩ := two_form hp''; have HPP := Lib.hid hpp; clear hp'' hpp))
                go_meet
                rcases HPP.out with ⟨hb, ⟨_, _, _, ht, hx⟩ | ⟨hno, _⟩⟩
                · exact ⟨hb, ht, hx⟩
                · exact absurd HF.out hno
              case rest =>
                obtain ⟨hB, rfl, xs, ys, AX, AY, cX, cY, rfl, rfl, hx, hy, hne, hsh, hdx, hdy⟩ := hcut
                obtain ⟨W4, rfl⟩ : ∃ W4, W4 = wc := ⟨_, rfl⟩
                have B4' : Hid (Below w.heap.size w W4) := B5.out.trans (hB.mono hs6)
                clear B4
                have B4 := B4'
                obtain ⟨R3, hR3⟩ : ∃ R, R = bcells (shaD xs).1 := ⟨_, rfl⟩
                have q2 : ∀ V, (Op.equalIn 10000 25 (.agg R3) (.agg R3)).run Tryd.prog V = .ok true V := fun V => by rw [hR3]; exact (eqD _ _ V).trans (by rw [beq_self_eq_true])
                obtain ⟨SX, hSX⟩ : ∃ S, S = str xs := ⟨_, rfl⟩
                obtain ⟨SY, hSY⟩ : ∃ S, S = str ys := ⟨_, rfl⟩
                have hst : (SX.toList == SY.toList) = false := by
                  rw [beq_eq_false_iff_ne, hSX, hSY, ByteArray.toList_eq, ByteArray.toList_eq]
                  exact hne
                have O1 : Hid (∀ V, Calls Tryd.prog 26 #[.string SX] V fun e w' => e = .returned (.agg R3) ∧ Below V.heap.size V w') := fun V => by rw [hR3]; exact rof_any SX xs hSX V (by omega)
                have O2 : Hid (∀ V, Calls Tryd.prog 26 #[.string SY] V fun e w' => e = .returned (.agg R3) ∧ Below V.heap.size V w') := fun V => by rw [hR3, hsh]; exact rof_any SY ys hSY V (by omega)
                have DX := Lib.hid hdx
                have DY := Lib.hid hdy
                have X65 := Lib.hid (And.intro hx hy)
                have HSS := Lib.hid (And.intro hSX hSY)
                have CX : Hid (∀ V, Below W4.heap.size W4 V → (convert 23 9 (.slice AX 65 cX)).run Tryd.prog V = .ok (.string SX) V) := fun V hV => by rw [HSS.out.1]; exact run_str V _ Tryd.underlying23 Tryd.underlying5 (DX.out.below hV (Nat.le_refl _)) X65.out.1 _ Tryd.underlying9
                have CY : Hid (∀ V, Below W4.heap.size W4 V → (convert 23 9 (.slice AY 65 cY)).run Tryd.prog V = .ok (.string SY) V) := fun V hV => by rw [HSS.out.2]; exact run_str V _ Tryd.underlying23 Tryd.underlying5 (DY.out.below hV (Nat.le_refl _)) X65.out.2 _ Tryd.underlying9
                clear hB hne hsh hdx hdy hx hy hR3 hSX hSY HTW k2 j2
                go_upto_region 17 with fail
                refine wp_region_noPanic ?_
                refine wp_region_held_drew (S := fun V => Below W4.heap.size W4 V) (by kernel_rfl) ((Below.refl _ _).drew) (fun hH => ?_)
                generalize W4.drew = wd at hH ⊢
                have BC : Hid (Below W4.heap.size W4 wd) := hH
                refine takeH (i := 0) (v := .bool true) 99 rfl (by kernel_rfl) (by kernel_rfl) (by kernel_rfl) rfl (fun _ _ _ h => h) (Or.inl ⟨by rfl, fun w' _ => ?_⟩) hH ?_
                · go_simp
                go_frame
                refine takeH (i := 1) (v := .bool true) 100 rfl (by kernel_rfl) (by kernel_rfl) (by kernel_rfl) rfl (fun _ _ _ h => h) (Or.inl ⟨by rfl, fun w' _ => ?_⟩) hH ?_
                · go_simp
                go_frame
                refine takeH (i := 2) (v := .slice AX 65 cX) 101 rfl (by kernel_rfl) (by kernel_rfl) (by kernel_rfl) rfl (fun _ _ _ h => h) (Or.inl ⟨by rfl, fun w' _ => ?_⟩) hH ?_
                · go_simp
                go_frame
                refine takeH (i := 3) (v := .string SX) 102 rfl (by kernel_rfl) (by kernel_rfl) (by kernel_rfl) rfl (fun _ _ _ h => h) (Or.inl ⟨by rfl, fun w' hS => ?_⟩) hH ?_
                · have c2 := CX.out w' hS
                  go_simp
                go_frame
                refine takeH (i := 4) (v := .slice AY 65 cY) 103 rfl (by kernel_rfl) (by kernel_rfl) (by kernel_rfl) rfl (fun _ _ _ h => h) (Or.inl ⟨by rfl, fun w' _ => ?_⟩) hH ?_
                · go_simp
                go_frame
                refine takeH (i := 5) (v := .string SY) 104 rfl (by kernel_rfl) (by kernel_rfl) (by kernel_rfl) rfl (fun _ _ _ h => h) (Or.inl ⟨by rfl, fun w' hS => ?_⟩) hH ?_
                · have c2 := CY.out w' hS
                  go_simp
                go_frame
                refine takeH (i := 6) (v := .bool true) 105 rfl (by kernel_rfl) (by kernel_rfl) (by kernel_rfl) rfl (fun _ _ _ h => h) (Or.inl ⟨by rfl, fun w' _ => ?_⟩) hH ?_
                · go_simp
                go_frame
                refine takeH (i := 7) (v := .bool true) 106 rfl (by kernel_rfl) (by kernel_rfl) (by kernel_rfl) rfl (fun _ _ _ h => h) (Or.inl ⟨by rfl, fun w' _ => ?_⟩) hH ?_
                · go_simp
                go_frame
                refine takeH (i := 8) (v := .bool true) 107 rfl (by kernel_rfl) (by kernel_rfl) (by kernel_rfl) rfl (fun _ _ _ h => h) (Or.inl ⟨by rfl, fun w' _ => ?_⟩) hH ?_
                · go_simp
                go_frame
                refine takeH (i := 9) (v := .slice AX 65 cX) 108 rfl (by kernel_rfl) (by kernel_rfl) (by kernel_rfl) rfl (fun _ _ _ h => h) (Or.inl ⟨by rfl, fun w' _ => ?_⟩) hH ?_
                · go_simp
                go_frame
                refine takeH (i := 10) (v := .string SX) 109 rfl (by kernel_rfl) (by kernel_rfl) (by kernel_rfl) rfl (fun _ _ _ h => h) (Or.inl ⟨by rfl, fun w' hS => ?_⟩) hH ?_
                · have c2 := CX.out w' hS
                  go_simp
                go_frame
                refine takeH (i := 12) (v := .slice AY 65 cY) 111 rfl (by kernel_rfl) (by kernel_rfl) (by kernel_rfl) rfl (fun _ _ _ h => h) (Or.inl ⟨by rfl, fun w' _ => ?_⟩) hH ?_
                · go_simp
                go_frame
                refine takeH (i := 13) (v := .string SY) 112 rfl (by kernel_rfl) (by kernel_rfl) (by kernel_rfl) rfl (fun _ _ _ h => h) (Or.inl ⟨by rfl, fun w' hS => ?_⟩) hH ?_
                · have c2 := CY.out w' hS
                  go_simp
                go_frame
                refine wpAnyH_ready (rs := [11]) (by kernel_rfl) (by simp) ?_
                refine AllReadyH.cons rfl (fun K hK => ?_) AllReadyH.nil
                go_simp
                refine (O1.out _).mono ?_
                rintro e' wr0 ⟨rfl, hB⟩
                have Bwr0 : Hid (Below W4.heap.size W4 wr0) := BC.out.trans (hB.mono (by exact BC.out.size))
                clear hB BC
                have BC := Bwr0
                dsimp only
                refine hK.out _ _ Bwr0.out (fun hH => ?_)
                clear hK K
                refine wpAnyH_ready (rs := [14]) (by kernel_rfl) (by simp) ?_
                refine AllReadyH.cons rfl (fun K hK => ?_) AllReadyH.nil
                go_simp
                refine (O2.out _).mono ?_
                rintro e' wr1 ⟨rfl, hB⟩
                have Bwr1 : Hid (Below W4.heap.size W4 wr1) := BC.out.trans (hB.mono (by exact BC.out.size))
                clear hB BC
                have BC := Bwr1
                dsimp only
                refine hK.out _ _ Bwr1.out (fun hH => ?_)
                clear hK K
                refine takeH (i := 15) (v := .bool true) 114 rfl (by kernel_rfl) (by kernel_rfl) (by kernel_rfl) rfl (fun _ _ _ h => h) (Or.inl ⟨by rfl, fun w' _ => ?_⟩) hH ?_
                · go_simp
                go_frame
                refine takeH (i := 16) (v := .bool true) 115 rfl (by kernel_rfl) (by kernel_rfl) (by kernel_rfl) rfl (fun _ _ _ h => h) (Or.inl ⟨by rfl, fun w' _ => ?_⟩) hH ?_
                · go_simp
                go_frame
                refine takeH (i := 17) (v := .bool true) 8 rfl (by kernel_rfl) (by kernel_rfl) (by kernel_rfl) rfl (fun _ _ _ h => h) (Or.inl ⟨by rfl, fun w' _ => ?_⟩) hH ?_
                · go_simp
                go_frame
                refine wpAnyH_done (by kernel_rfl) ?_ _
                refine NoPanic.normal ?_
                go_wp2_with fail
                go_ret
                exact ⟨by kernel_rfl, B4.out.trans (BC.out.mono B4.out.size)⟩

set_option maxRecDepth 100000 in
theorem lifted (os : Os) (started : os.Started) (H : Type) (enc : TypeId × Value → H) :
    ReturnsInHanded {} Tryd.checked os 7 .any (fun w args => (Rows.merklePinsSpec.pre enc Tryd.prog Tryd.f7 [] false w args ∧ laidMetH Tryd.prog laidL w) ∧ sizedMet enc Tryd.prog Tryd.f7 (OpenSpec.ofChange Rows.merklePinsSpec) false w args)
      (Rows.merklePinsSpec.post enc Tryd.prog Tryd.f7 false true false false) := by
  refine returnsInHanded_of_change_and (C := Tryd.checked) (X := fun w _ => laidMetH Tryd.prog laidL w) (fun _ _ _ hh h => h.of_heap hh) own started (by kernel_rfl) Tryd.func7
    (ChangeSpec.witness_shaped (enc := enc) (C := Tryd.checked) (os := os) (X := fun w _ => laidMetH Tryd.prog laidL w) false (World.doorLaid Tryd.prog 400 os) #[.agg #[.int .u64 0, .int .u32 0, .slice none 0 0], .agg #[.int .u64 0, .int .u32 0, .slice none 0 0], .agg z32, .bool false] 8 rfl (World.shaped_of_RefB (by kernel_rfl) (by kernel_rfl)) (by kernel_rfl) (by kernel_rfl) (by kernel_rfl) (door_met os _)) ?_
  intro W base args ds gs before hval0 hW _ _ hL _
  have hval : ∀ (j : Nat) t v, Tryd.f7.params[j]? = some t → args[j]? = some v → Value.okWide Tryd.prog W .any base t v := hval0
  have hW' := hW
  obtain ⟨p, q, hA0, hV, rfl, hfz, hnd⟩ := hW
  have hA : DataW.TrodAll enc Tryd.prog W 0 (fun _ => true) true Tryd.f7.params.toList args.toList ds p := hA0
  rw [Tryd.params7] at hA hval
  obtain ⟨v0, vs0, d0, ds0, p0, q0, hargs, rfl, rfl, h0, r0⟩ := trodAll_cons hA
  obtain ⟨v1, vs1, d1, ds1, p1, q1, rfl, rfl, rfl, h1, r1⟩ := trodAll_cons r0
  obtain ⟨v2, vs2, d2, ds2, p2, q2, rfl, rfl, rfl, h2, r2⟩ := trodAll_cons r1
  obtain ⟨v3, vs3, d3, ds3, p3, q3, rfl, rfl, rfl, h3, r3⟩ := trodAll_cons r2
  obtain ⟨rfl, rfl, rfl⟩ := trodAll_nil r3
  obtain rfl : args = #[v0, v1, v2, v3] := by cases args; simp_all
  obtain ⟨rfl, rfl⟩ := trodVars_none hV
  have k0 := h0
  have lt0 : ∀ x ∈ p0, x.block < W.heap.size := by obtain ⟨m, hm⟩ := k0; exact DataW.trod_lt m _ _ _ hm
  obtain ⟨s0x, p0x, a0, ls0, cap0, rfl, hs0, hp0, hl0, hm0, hd0⟩ := man_of (hval 0 35 v0 rfl rfl) h0
  have k1 := h1
  have lt1 : ∀ x ∈ p1, x.block < W.heap.size := by obtain ⟨m, hm⟩ := k1; exact DataW.trod_lt m _ _ _ hm
  obtain ⟨s1x, p1x, a1, ls1, cap1, rfl, hs1, hp1, hl1, hm1, hd1⟩ := man_of (hval 1 35 v1 rfl rfl) h1
  have k2 := h2
  have lt2 : ∀ x ∈ p2, x.block < W.heap.size := by obtain ⟨m, hm⟩ := k2; exact DataW.trod_lt m _ _ _ hm
  obtain ⟨q2x, rfl⟩ := sum_of (hval 2 25 v2 rfl rfl) h2
  obtain ⟨n3, rfl, rfl, rfl⟩ := open_bool Tryd.underlying4 (hval 3 4 v3 rfl rfl) h3
  clear hA0 hval0
  refine (walk s0x p0x a0 ls0 cap0 s1x p1x a1 ls1 cap1 q2x n3 W (glob_of_laid hL) hd0 hl0 hs0 hp0 hd1 hl1 hs1 hp1).mono fun e W' ⟨he, bel⟩ => ?_
  subst he
  exact ⟨_, rfl, _, _, _, [], _, [], hW', trodAll_mk1 (shut_bool Tryd.underlying4 _), (trodAll_cons_mk (Below.trod laidOut (by kernel_rfl) (of_decide_eq_true (by kernel_rfl)) k0 bel lt0) (trodAll_cons_mk (Below.trod laidOut (by kernel_rfl) (of_decide_eq_true (by kernel_rfl)) k1 bel lt1) (trodAll_cons_mk (Below.trod laidOut (by kernel_rfl) (of_decide_eq_true (by kernel_rfl)) k2 bel lt2) (trodAll_cons_mk (shut_bool Tryd.underlying4 n3) trodAll_mk0)))), rfl, bel.frame _, fun h => by cases h⟩

theorem over : Rows.merklePinsRow.holds Tryd.pinned (OpenSpec.ofChange Rows.merklePinsSpec) :=
  OpenClaim.holds_of_wide 7 Tryd.f7 rfl rfl rfl rfl rfl rfl rfl ⟨rfl, rfl, rfl, rfl, rfl⟩ rfl rfl rfl rfl rfl (by kernel_rfl) Tryd.func7 (by kernel_rfl)
    (of_decide_eq_true (by kernel_rfl)) (by unfold Func.isWrapper; first | (rw [if_pos (by decide +kernel)]; kernel_rfl) | (rw [if_neg (by decide +kernel)]; exact ⟨rfl, rfl⟩))
    (fun os started H enc _ => lifted os started H enc)

/-- ████ THE STATEMENT ████ -/
theorem proved : Rows.MerklePinsCardSaid :=
  Claim7.holds_tied_plain_at .later [] [.data, .data] true Rows.merklePinsCard.stood.harness false
    over (fun _ h => by cases h) (by kernel_rfl) (fun _ h => by cases h) merklePins_row_tie rfl ⟨rfl, rfl⟩ (by kernel_rfl) rfl
    (fun f fn hf hfn => by
      obtain rfl : f = 7 := Option.some.inj ((show Tryd.prog.funcNamed Rows.merklePinsRow.func = some 7 by kernel_rfl).symm.trans hf) |>.symm
      obtain rfl : fn = Tryd.f7 := (Option.some.inj (Tryd.func7.symm.trans hfn)).symm
      exact ⟨by kernel_rfl, fun j t ht => by
        rw [Tryd.params7] at ht
        have hm : t ∈ [35, 35, 25, 4] := by
          have := Array.mem_of_getElem? ht
          simp at this
          simpa using this
        have hall : ([35, 35, 25, 4].all fun u => !Tryd.prog.wantsStandIn u) = true := by kernel_rfl
        exact (show Tryd.prog.wantsStandIn t = false by simpa using List.all_eq_true.1 hall t hm)⟩)
    (by kernel_rfl)
#print axioms proved
end Go.Proofs.YtieepdhajjibpaaDoor.merklePins
