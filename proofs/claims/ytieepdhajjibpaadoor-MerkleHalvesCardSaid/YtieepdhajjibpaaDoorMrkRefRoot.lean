
/- The contract of the document's Root, by induction on how many. -/
import Derived.Test.YtieepdhajjibpaaDoorMrkRef
import Derived.Test.YtieepdhajjibpaaDoorMrkRoot
namespace Go.Proofs.YtieepdhajjibpaaDoor
open Go.RowKit

theorem half_eq {k e n : Nat} (hk : k = 2 ^ e) (h1 : k < n) (h2 : n ≤ 2 * k) : half n = k := by
  have := half_pow (e := e) (m := n - k) (by omega) (by omega)
  rw [← hk, show k + (n - k) = n by omega] at this
  exact this

set_option maxRecDepth 20000 in
set_option maxHeartbeats 2000000 in
theorem refRoot_any : ∀ (n : Nat) {w : World} {lo hi : Nat} {A : Option Addr} {m c : Nat} {L : List Dg}, L.length ≤ n → DatR 32 dcs w lo hi A L → L.length = m → m ≤ c → hi ≤ w.heap.size → m ≤ 1000000 →
    Calls Tryd.prog 12 #[.slice A m c] w fun e w' => e = .returned (.agg (bcells (rootL L).1)) ∧ Below w.heap.size w w' := by
  intro n
  induction n with
  | zero =>
    intro w lo hi A m c L hn hd hm hmc hhi hb
    obtain rfl : L = [] := List.eq_nil_of_length_eq_zero (by omega)
    obtain rfl : m = 0 := by simpa using hm.symm
    obtain ⟨Z, hZ⟩ : ∃ Z, Z = bcells (rootL []).1 := ⟨_, rfl⟩
    have hZs : Z.size = 32 := by rw [hZ]; exact bcells_size _
    have hZo : Z.all (·.oneCell') = true := by rw [hZ]; exact bcells_one _
    rw [← hZ]
    have HOF := Lib.hid (fun (W : World) => rof_any { data := #[] } [] rfl W (by simp))
    rw [show bcells (shaD []).1 = Z by rw [hZ, root_nil]] at HOF
    clear hZ hd hm hn
    go_enter Tryd.func12, Tryd.ntmps12
    go_wp2_with (first
      | (go_at_call 26; refine (HOF.out _).mono ?_; rintro e' w7 ⟨rfl, hB7⟩; have HB7 : Hid (Below w.heap.size w w7) := ((Below.refl w.heap.size w).alloc (Nat.le_refl _) _).trans (hB7.mono (by rw [World.size_alloc]; omega)); have HR7 : Hid (Box w7 w.heap.size 25 z32) := (Box.new w _ z32).below hB7 (by rw [World.size_alloc]; omega); clear hB7)
      | (refine wpList_store_row rfl 25 _ _ rfl w.heap.size Z rfl rfl 25 _ HR7.out (by rw [hZs]; kernel_rfl) (by rw [hZs]; rfl) hZo ?_))
    refine bodyPost_ret (v := .agg Z) (results_cell_row Tryd.results12 _ _ w.heap.size 25 Z (0, 0) _ rfl (setRow_heap _ _ _ _ _ _ HR7.out) Tryd.underlying25 rfl (by rw [hZs]; kernel_rfl)) rfl ⟨rfl, ?_⟩
    exact below_row HB7.out (Nat.le_refl _) _
  | succ n ih =>
    intro w lo hi A m c L hn hd hm hmc hhi hb
    by_cases hn0 : L.length ≤ n
    · exact ih hn0 hd hm hmc hhi hb
    have hLn : L.length = n + 1 := by omega
    obtain ⟨Z, hZ⟩ : ∃ Z, Z = bcells (rootL L).1 := ⟨_, rfl⟩
    have hZs : Z.size = 32 := by rw [hZ]; exact bcells_size _
    have hZo : Z.all (·.oneCell') = true := by rw [hZ]; exact bcells_one _
    rw [← hZ]
    have hm0 : ((m : Int) == 0) = false := by simp; omega
    have hW0 : Below w.heap.size w (w.alloc (.cells z32 25)) := (Below.refl _ _).alloc (Nat.le_refl _) _
    have HB0 := Lib.hid hW0
    have HR0 : Hid (Box (w.alloc (.cells z32 25)) w.heap.size 25 z32) := Box.new w _ _
    have hz1 : w.heap.size < (w.alloc (.cells z32 25)).heap.size := by simp
    have HD := Lib.hid (hd.alloc hhi (.cells z32 25))
    by_cases h1 : n = 0
    · subst h1
      obtain ⟨x, rfl⟩ : ∃ x, L = [x] := by
        match L, hLn with
        | [x], _ => exact ⟨x, rfl⟩
      obtain rfl : m = 1 := by simpa using hm.symm
      obtain ⟨d, o, hA, _, _, hc⟩ := HD.out (by simp)
      subst hA
      have hr : (w.alloc (.cells z32 25)).rangeAt d o Z.toList := fun j v hv => by
        have := hc 0 (by simp) j v (by rw [hZ, root_one] at hv; exact hv)
        simpa using this
      have HRG := Lib.hid hr
      clear hr hc hZ hd hm hn hn0 hLn ih hW0
      go_enter Tryd.func12, Tryd.ntmps12
      go_wp2_with (first
        | (refine wpList_load_sub rfl 25 _ rfl d o rfl Z.toList _ HRG.out Tryd.underlying25 rfl (by rw [Array.length_toList, hZs]; kernel_rfl) ?_)
        | (refine wpList_store_row rfl 25 _ _ rfl w.heap.size Z rfl rfl 25 _ HR0.out (by rw [hZs]; kernel_rfl) (by rw [hZs]; rfl) hZo ?_))
      refine bodyPost_ret (v := .agg Z) (results_cell_row Tryd.results12 _ _ w.heap.size 25 Z (0, 0) _ rfl (setRow_heap _ _ _ _ _ _ HR0.out) Tryd.underlying25 rfl (by rw [hZs]; kernel_rfl)) rfl ⟨rfl, ?_⟩
      exact below_row HB0.out (Nat.le_refl _) _
    · have hm1 : ((m : Int) == 1) = false := by simp; omega
      have h2 : 2 ≤ L.length := by omega
      have hsp := root_split h2
      have hhl := half_lt h2
      have hhp := half_pos L.length
      obtain ⟨k, hk⟩ : ∃ k, k = half L.length := ⟨_, rfl⟩
      rw [← hk] at hsp hhl hhp
      obtain ⟨P1, hP1⟩ : ∃ P, P = bcells (rootL (L.take k)).1 := ⟨_, rfl⟩
      obtain ⟨P2, hP2⟩ : ∃ P, P = bcells (rootL (L.drop k)).1 := ⟨_, rfl⟩
      have HC1 : Hid (∀ V, Below (w.heap.size + 1) (w.alloc (.cells z32 25)) V → Calls Tryd.prog 12 #[.slice A k c] V fun e w' => e = .returned (.agg P1) ∧ Below V.heap.size V w') := fun V hV => by
        rw [hP1]
        exact ih (by rw [List.length_take]; omega) ((HD.out.below hV (by omega)).take k) (by rw [List.length_take]; omega) (by omega) (by have := hV.size; omega) (by omega)
      have HC2 : Hid (∀ V, Below (w.heap.size + 1) (w.alloc (.cells z32 25)) V → ∀ A2, A2 = A.map (·.add (k * 32)) → Calls Tryd.prog 12 #[.slice A2 (m - k) (c - k)] V fun e w' => e = .returned (.agg P2) ∧ Below V.heap.size V w') := fun V hV A2 hA2 => by
        rw [hP2, hA2]
        exact ih (by rw [List.length_drop]; omega) ((HD.out.below hV (by omega)).drop k) (by rw [List.length_drop]; omega) (by omega) (by have := hV.size; omega) (by omega)
      have HN : Hid (∀ V, Calls Tryd.prog 16 #[.agg P1, .agg P2] V fun e w' => e = .returned (.agg Z) ∧ Below V.heap.size V w') := fun V => by
        rw [hP1, hP2, hZ, hsp]
        exact refNode_any _ _ V
      have HK := Lib.hid hk
      obtain ⟨d, o, hA, _⟩ := HD.out (by omega)
      subst hA
      rw [hm] at hhl
      have HM := Lib.hid hm
      clear hZ hd hm hn hn0 hLn ih hW0 hsp hP1 hP2 hk h2
      go_enter Tryd.func12, Tryd.ntmps12
      go_wp2_with fail
      obtain ⟨W, hW⟩ : ∃ W, (w.alloc (.cells z32 25)) = W := ⟨_, rfl⟩
      refine wp_as (W := W) hW ?_
      rw [hW] at HB0 HR0 hz1 HD HC1 HC2
      clear hW
      go_loopg [3] (m - 1) (fun gh v wx => ∃ q e : Nat, q + gh = m ∧ v = .int .i64 (q : Int) ∧ q = 2 ^ e ∧ q < m ∧ wx = W)
      case atStart => exact ⟨1, 0, by omega, rfl, rfl, by omega, rfl⟩
      case round =>
        obtain ⟨q, e, hq, rfl, hqe, hqm, rfl⟩ := hrel
        have HQE := Lib.hid hqe
        clear hqe
        by_cases hlt : 2 * q < m
        · have hlt2 : (2 : Int) * (q : Int) < (m : Int) := by omega
          go_wp2_with fail
          go_roundg (m - 2 * q)
          case measure => have hq1 : 0 < q := (by rw [HQE.out]; exact Nat.two_pow_pos e); omega
          case rel => exact ⟨2 * q, e + 1, by omega, by go_num, by rw [HQE.out, Nat.pow_succ, Nat.mul_comm], hlt, rfl⟩
        · have hge2 : ¬ (2 : Int) * (q : Int) < (m : Int) := by omega
          obtain rfl : k = q := by
            rw [HK.out, HM.out]
            exact half_eq HQE.out hqm (by omega)
          have hkc : k ≤ c := by omega
          have hck : ¬ c = k := by omega
          have hkmi : (k : Int) ≤ (m : Int) := by omega
          have hkci : (k : Int) ≤ (c : Int) := by omega
          have HS := Lib.hid hz1
          go_upto_region 8 with fail
          refine wp_region_any (by kernel_rfl) ?_
          refine wpAny_take (i := 0) (v := .slice (some ⟨d, o, none⟩) m c) rfl (by kernel_rfl) (by kernel_rfl) (by kernel_rfl) (fun _ _ _ h => h) (Or.inl ⟨by rfl, fun w' => ?_⟩) ?_
          · go_simp
          refine wpAny_take (i := 1) (v := .int .i64 (k : Int)) rfl (by kernel_rfl) (by kernel_rfl) (by kernel_rfl) (fun _ _ _ h => h) (Or.inl ⟨by rfl, fun w' => ?_⟩) ?_
          · go_simp
          refine wpAny_take (i := 2) (v := .slice (some ⟨d, o, none⟩) k c) rfl (by kernel_rfl) (by kernel_rfl) (by kernel_rfl) (fun _ _ _ h => h) (Or.inl ⟨by rfl, fun w' => ?_⟩) ?_
          · go_simp
          refine wpAny_take (i := 4) (v := .slice (some ⟨d, o, none⟩) m c) rfl (by kernel_rfl) (by kernel_rfl) (by kernel_rfl) (fun _ _ _ h => h) (Or.inl ⟨by rfl, fun w' => ?_⟩) ?_
          · go_simp
          refine wpAny_take (i := 5) (v := .int .i64 (k : Int)) rfl (by kernel_rfl) (by kernel_rfl) (by kernel_rfl) (fun _ _ _ h => h) (Or.inl ⟨by rfl, fun w' => ?_⟩) ?_
          · go_simp
          refine wpAny_take (i := 6) (v := .slice (some ⟨d, o + k * 32, none⟩) (m - k) (c - k)) rfl (by kernel_rfl) (by kernel_rfl) (by kernel_rfl) (fun _ _ _ h => h) (Or.inl ⟨by rfl, fun w' => ?_⟩) ?_
          · go_simp
          simp only [Act.put, List.setIfInBounds_toArray]
          have B0 : Below (w.heap.size + 1) wr wr.drew := (Below.refl _ _).drew
          refine wpAny_ready (rs := [3]) (by kernel_rfl) (by simp) ?_
          refine AllReady.cons rfl (fun K hK => ?_) AllReady.nil
          go_simp
          · refine (HC1.out _ (by exact B0)).mono ?_
            rintro e' w7 ⟨rfl, hB7⟩
            have B7 : Hid (Below (w.heap.size + 1) wr w7) := B0.trans (hB7.mono (by exact HS.out))
            clear hB7
            dsimp only
            refine hK _ _ ?_
            clear hK K
            refine wpAny_ready (rs := [7]) (by kernel_rfl) (by simp) ?_
            refine AllReady.cons rfl (fun K hK => ?_) AllReady.nil
            go_simp
            refine (HC2.out _ (by exact B7.out) _ (by rw [Option.map_some, add_plain'])).mono ?_
            rintro e' w8 ⟨rfl, hB8⟩
            have B8 : Hid (Below (w.heap.size + 1) wr w8) := B7.out.trans (hB8.mono (by have := B7.out.size; have := HS.out; omega))
            clear hB8
            dsimp only
            refine hK _ _ ?_
            clear hK K
            refine wpAny_ready (rs := [8]) (by kernel_rfl) (by simp) ?_
            refine AllReady.cons rfl (fun K hK => ?_) AllReady.nil
            go_simp
            refine (HN.out _).mono ?_
            rintro e' w9 ⟨rfl, hB9⟩
            have B9 : Hid (Below (w.heap.size + 1) wr w9) := B8.out.trans (hB9.mono (by have := B8.out.size; have := HS.out; omega))
            have HR9 : Hid (Box w9 w.heap.size 25 z32) := HR0.out.below B9.out (by omega)
            clear hB9
            dsimp only
            refine hK _ _ ?_
            clear hK K
            refine wpAny_ready (rs := [9]) (by kernel_rfl) (by simp) ?_
            refine AllReady.cons rfl (fun K hK => ?_) AllReady.nil
            refine wp_store_row 25 _ _ rfl w.heap.size Z rfl (by kernel_rfl) 25 _ HR9.out (by rw [hZs]; kernel_rfl) (by rw [hZs]; rfl) hZo ?_
            refine hK _ _ ?_
            clear hK K
            refine wpAny_done (by kernel_rfl) ?_ _
            go_wp2_with fail
            refine bodyPost_ret (v := .agg Z) (results_cell_row Tryd.results12 _ _ w.heap.size 25 Z (0, 0) _ rfl (setRow_heap _ _ _ _ _ _ HR9.out) Tryd.underlying25 rfl (by rw [hZs]; kernel_rfl)) rfl ⟨rfl, ?_⟩
            exact below_row (HB0.out.trans (B9.out.mono (by omega))) (Nat.le_refl _) _
end Go.Proofs.YtieepdhajjibpaaDoor
