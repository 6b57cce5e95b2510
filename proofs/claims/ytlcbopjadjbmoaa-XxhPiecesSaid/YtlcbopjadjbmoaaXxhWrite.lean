/- The contract of the program's Write: bytes laid behind those so far. -/
import Derived.Test.YtlcbopjadjbmoaaXxhHash
import Derived.Test.YtlcbopjadjbmoaaXxhMix
namespace Go.Proofs.Ytlcbopjadjbmoaa
open Go.RowKit

/-- Block g is a sum of the bytes xs; its numbers are those of the bytes, once there are any. -/
def Hsh (w : World) (g : Nat) (xs : List UInt8) : Prop := ∃ v r, Rst xs r ∧ (0 < xs.length → v = stOf xs) ∧ Box w g 42 (hcells v r xs.length)
/-- The same, and its numbers are those of the bytes. -/
def Hsx (w : World) (g : Nat) (xs : List UInt8) : Prop := ∃ r, Rst xs r ∧ Box w g 42 (hcells (stOf xs) r xs.length)
theorem Hsx.hsh {w : World} {g : Nat} {xs : List UInt8} (h : Hsx w g xs) : Hsh w g xs := by
  obtain ⟨r, h1, h2⟩ := h
  exact ⟨_, r, h1, fun _ => rfl, h2⟩
theorem Hsh.lt {w : World} {g : Nat} {xs : List UInt8} (h : Hsh w g xs) : g < w.heap.size := by
  obtain ⟨_, _, _, _, h⟩ := h
  exact h.lt
theorem Hsh.keep {w w' : World} {g : Nat} {xs : List UInt8} (h : Hsh w g xs) (he : w'.heap[g]? = w.heap[g]?) : Hsh w' g xs := by
  obtain ⟨v, r, h1, h2, h3⟩ := h
  exact ⟨v, r, h1, h2, h3.keep he⟩

theorem write_nil (v : Value) (w : World) :
    Calls Try.prog 9 #[.pointer none, v] w fun e w' => e = .returned (.tuple #[]) ∧ w = w' := by
  go_enter Try.func9, Try.ntmps9
  go_wp2
  refine bodyPost_ret (results_none rfl _ _ _) rfl ?_
  exact ⟨rfl, rfl⟩

set_option maxRecDepth 100000 in
set_option maxHeartbeats 2000000 in
theorem write_any {own : Bool} {w : World} {g lo hi : Nat} {A : Option Addr} {m c : Nat} {xs ys : List UInt8} (hh : Hsh w g xs) (hd : Dat own w lo hi A ys) (hm : ys.length = m) (hmc : m ≤ c)
    (hout : g < lo ∨ hi ≤ g) (hhi : hi ≤ w.heap.size) (hb : xs.length + m ≤ 1000000000000000) :
    Calls Try.prog 9 #[.pointer (some ⟨g, 0, none⟩), .slice A m c] w fun e w' => e = .returned (.tuple #[]) ∧ Hsh w' g (xs ++ ys) ∧ w.grownBy w' (some g) := by
  have HH := Lib.hid hh
  have HD := Lib.hid hd
  have HM := Lib.hid hm
  clear hh hd hm
  go_enter Try.func9, Try.ntmps9
  obtain ⟨v, r, hr, hv, hbx⟩ := HH.out
  have qs : w.cell? ⟨g, 36, none⟩ = some (.int .u64 (xs.length : Int)) := (hbx.cell 36).trans (hcells_last _ _ _ hr.1)
  have HV := Lib.hid hv
  have HR := Lib.hid hr
  have HB := Lib.hid hbx
  obtain ⟨L, hL⟩ : ∃ L, L = xs.length := ⟨_, rfl⟩
  rw [← hL] at qs
  have HL := Lib.hid hL
  clear hr hv hbx hL HH
  go_upto_if 11 with fail
  go_cut [] (fun wx => Hsx wx g xs ∧ w.grownBy wx (some g))
  case first =>
    by_cases h0 : L = 0
    · subst h0
      go_wp2_with (first
        | (go_at_call 13; refine (start_any _).mono ?_; rintro e' w5 ⟨rfl, hB5⟩; have HB5 := Lib.hid hB5; have HX5 : Hid (Box w5 g 42 (hcells v r xs.length)) := HB.out.below hB5 HB.out.lt; clear hB5)
        | (refine wpList_store_sub rfl 39 _ _ rfl g 0 v0.cells rfl rfl 42 _ HX5.out (by kernel_rfl) (by rw [hcells_size _ _ _ HR.out.1]; decide) (V4.cells_one _) ?_))
      go_meet
      have hs : stOf xs = v0 := by unfold stOf; rw [← HL.out]; rfl
      refine ⟨⟨r, HR.out, ?_⟩, wide_trans (wide_below HB5.out) (wide_row _)⟩
      have hsr := setRow_heap _ _ _ (over (hcells v r xs.length) 0 v0.cells.toList) _ _ HX5.out
      rw [hcells_over_state] at hsr
      rw [hs]
      unfold Box
      rw [hcells_over_state]
      exact hsr
    · have h0i : ((L : Int) == 0) = false := by rw [beq_eq_false_iff_ne]; omega
      go_wp2_with fail
      go_meet
      have hs := HV.out (by have := HL.out; omega)
      exact ⟨⟨r, HR.out, by rw [← hs]; exact HB.out⟩, wide_refl _ _⟩
  case rest =>
  obtain ⟨hh, hg1⟩ := hcut
  clear HV HR HB qs HL
  have HH := Lib.hid hh
  have HG1 := Lib.hid hg1
  have HD1 : Hid (Dat own wc lo hi A ys) := HD.out.grown hg1 hhi (fun j hj => by injection hj with hj; omega)
  have hs1 := hg1.size
  clear hh hg1 HD
  go_wp2_with fail
  go_loopg [1] m (fun gh b wx => ∃ zs rs : List UInt8, ∃ A' c', zs ++ rs = ys ∧ rs.length = gh ∧ b = .slice A' gh c' ∧ gh ≤ c' ∧ Dat own wx lo hi A' rs ∧ Hsx wx g (xs ++ zs) ∧ w.grownBy wx (some g))
  case atStart => exact ⟨[], ys, A, c, rfl, HM.out, rfl, hmc, HD1.out, by rw [List.append_nil]; exact HH.out, HG1.out⟩
  case round =>
    obtain ⟨zs, rs, A', c', hzr, hrl, rfl, hgc, hdr, hhr, hgr⟩ := hrel
    have HZ := Lib.hid hzr
    have HRl := Lib.hid hrl
    have HDr := Lib.hid hdr
    have HHr := Lib.hid hhr
    have HGr := Lib.hid hgr
    obtain ⟨r, hr, hbx⟩ := hhr
    have HR := Lib.hid hr
    have HB := Lib.hid hbx
    clear hzr hrl hdr hgr hr hbx
    have hLb : (xs ++ zs).length + gk ≤ 1000000000000000 := by
      have h1 := HRl.out
      have h2 := HM.out
      have h3 := congrArg List.length HZ.out
      simp only [List.length_append] at h3 ⊢
      omega
    obtain ⟨us, hus⟩ : ∃ us, us = xs ++ zs := ⟨_, rfl⟩
    rw [← hus] at HR HB HHr hLb
    have HU := Lib.hid hus
    clear hus
    by_cases hgo : 0 < gk
    · obtain ⟨a, rfl⟩ := HDr.out.some_ (by rw [HRl.out]; exact hgo)
      have hgi : (0 : Int) < (gk : Int) := by omega
      have hro := HR.out.1
      obtain ⟨L, hL⟩ : ∃ L, L = us.length := ⟨_, rfl⟩
      have qs : wr.cell? ⟨g, 36, none⟩ = some (.int .u64 (L : Int)) := by rw [hL]; exact (HB.out.cell 36).trans (hcells_last _ _ _ hro)
      rw [← hL] at hLb
      obtain ⟨o, ho⟩ : ∃ o, o = L % 32 := ⟨_, rfl⟩
      have hoi : (L : Int) % 32 = (o : Int) := by omega
      have hot : (L : Int).tmod 32 = (o : Int) := by rw [Int.tmod_eq_emod_of_nonneg (by omega)]; exact hoi
      have ho32 : o < 32 := by omega
      have hne32 : ¬ 32 = o := by omega
      have ho32i : (o : Int) ≤ 32 := by omega
      obtain ⟨k, hk⟩ : ∃ k, k = min gk (32 - o) := ⟨_, rfl⟩
      have hk0 : 0 < k := by omega
      have hkg : k ≤ gk := by omega
      have hko : o + k ≤ 32 := by omega
      have hcl : ((rs.take k).map cel).length = k := by rw [List.length_map, List.length_take, HRl.out]; omega
      have HK := Lib.hid hk
      have HO := Lib.hid ho
      have HL := Lib.hid hL
      have HCL := Lib.hid hcl
      clear hk hL ho hcl
      go_upto_region 4 with fail
      go_cut [4] (fun p wx => p = .int .i64 (k : Int) ∧ Box wx g 42 (hcells (stOf us) (lay r o (rs.take k)) L) ∧ wr.grownBy wx (some g))
      case first =>
        go_region_law (refine step_copy _ rfl _ _ 26 26 rfl 5 g (4 + o) (32 - o) (32 - o) a gk c' rfl rfl (hcells (stOf us) r us.length) 42 ((rs.take k).map cel) Try.underlying26 (by kernel_rfl) (by exact HB.out) (by rw [HCL.out, HK.out]) (by exact dat_src HDr.out k) (by rw [HCL.out, hcells_size _ _ _ HR.out.1]; omega) (one_cel _) ?_)
        go_wp2_with fail
        go_meet
        refine ⟨?_, ?_, wide_trans (w' := wr.drew) (wide_below (Below.refl _ _).drew) (wide_row _)⟩
        · rw [HRl.out, show min k gk = k by omega]
        · have hov := hcells_over (stOf us) r us.length o (rs.take k) (by rw [HR.out.1, List.length_take, HRl.out]; omega)
          rw [← List.map_take, hov, ← HL.out]
          exact setRow_heap _ _ _ _ _ _ HB.out
      case rest =>
        obtain ⟨rfl, hbx, hgw⟩ := hcut
        have HB2 := Lib.hid hbx
        have HG2 := Lib.hid hgw
        clear hbx hgw qs
        have hpl : (rs.take k).length = k := by rw [List.length_take, HRl.out]; omega
        have hr' : (lay r o (rs.take k)).length = 32 := by rw [lay_length _ _ _ (by rw [HR.out.1, hpl]; exact hko), HR.out.1]
        have qs : wc.cell? ⟨g, 36, none⟩ = some (.int .u64 (L : Int)) := (HB2.out.cell 36).trans (hcells_last _ _ _ hr')
        have fs := HB2.out.free 36
        have HPL := Lib.hid hpl
        have HR' := Lib.hid hr'
        clear hpl hr'
        have hki : (k : Int) ≤ (gk : Int) := by omega
        have hkc : (k : Int) ≤ (c' : Int) := by omega
        obtain ⟨M, hM⟩ : ∃ M, M = L + k := ⟨_, rfl⟩
        have hMi : (L : Int) + (k : Int) = (M : Int) := by omega
        have HMM := Lib.hid hM
        have hMb : M ≤ 1000000000000000 := by omega
        clear hM
        go_upto_region 5 with fail
        go_cut [1] (fun p wx => wc = wx ∧ ∃ A2 c2, p = .slice A2 (gk - k) c2 ∧ gk - k ≤ c2 ∧ Dat own wr lo hi A2 (rs.drop k))
        case first =>
          go_wp2_with fail
          · go_meet
            exact ⟨rfl, _, _, rfl, by omega, by rw [List.drop_of_length_le (by rw [HRl.out]; omega)]; exact Dat.nil _ _ _ _ _⟩
          · go_meet
            exact ⟨rfl, _, _, rfl, by omega, HDr.out.drop k⟩
        case rest =>
          obtain ⟨rfl, A2, c2, rfl, hgc2, hd2⟩ := hcut
          have HD2 := Lib.hid hd2
          clear hd2
          go_upto_region 6 with fail
          go_cut [39] (fun _ wx => Box wx g 42 (hcells (stOf us) (lay r o (rs.take k)) M) ∧ wr.grownBy wx (some g))
          case first =>
            go_wp2_with fail
            go_meet
            have hp := HB2.out.put 36 (.int .u64 (M : Int))
            rw [hcells_count _ _ _ _ HR'.out] at hp
            exact ⟨hp, wide_trans HG2.out (wide_set _ _)⟩
          case rest =>
            obtain ⟨hbx, hgw⟩ := hcut
            have HB3 := Lib.hid hbx
            have HG3 := Lib.hid hgw
            clear hbx hgw qs fs HB2 HG2
            have qs : wc.cell? ⟨g, 36, none⟩ = some (.int .u64 (M : Int)) := (HB3.out.cell 36).trans (hcells_last _ _ _ HR'.out)
            have HDn : ∀ W, wr.grownBy W (some g) → Dat own W lo hi A2 (rs.drop k) := fun W hW => HD2.out.grown hW (by have := HGr.out.size; omega) (fun j hj => by injection hj with hj; omega)
            have HDN := Lib.hid HDn
            clear HDn
            by_cases hfull : o + k = 32
            · have hz : (M : Int) % 32 = 0 := by have := HO.out; have := HMM.out; omega
              have hwhole := HR.out.whole (p := rs.take k) (by rw [← HL.out, ← HO.out, HPL.out]; exact hfull)
              rw [← HL.out, ← HO.out] at hwhole
              obtain ⟨R, hRR⟩ : ∃ R, R = lay r o (rs.take k) := ⟨_, rfl⟩
              have hR32 := HR'.out
              have hb := HB3.out
              rw [← hRR] at hR32 hb hwhole
              obtain ⟨v, hv⟩ : ∃ v, v = stOf us := ⟨_, rfl⟩
              rw [← hv] at hb hwhole
              obtain ⟨n, hn⟩ : ∃ n, n = stripe v R 0 := ⟨_, rfl⟩
              rw [← hn] at hwhole
              have hmix := fun W => mix_any v R hR32 W
              rw [← hn] at hmix
              have HWH := Lib.hid hwhole
              clear hRR hv hn hwhole HB3
              have hr0 : wc.rangeAt g 4 (R.map cel) := range_of_box hb
              have hu64 := Try.underlying40
              have hi32 : (Try.prog.info? 40).map (·.size) = some (R.map cel).length := by rw [List.length_map, hR32]; kernel_rfl
              have hglt := hb.lt
              have HBX := Lib.hid hb
              obtain ⟨SC, hSC⟩ : ∃ SC, SC = v.cells.toList := ⟨_, rfl⟩
              have hSl : SC.length = 4 := by rw [hSC]; rfl
              have HST : Hid (∀ j x, SC[j]? = some x → wc.cell? ⟨g, 0 + j, none⟩ = some x) := by rw [hSC]; exact hcells_src HBX.out
              have hone : n.cells.all (·.oneCell') = true := V4.cells_one _
              have hov := hcells_over_state v n R M
              obtain ⟨NC, hNC⟩ : ∃ NC, NC = n.cells := ⟨_, rfl⟩
              have hNs : NC.size = 4 := by rw [hNC]; rfl
              have HMIX2 : Hid (∀ W, Calls Try.prog 14 #[.agg SC.toArray, .agg (R.map cel).toArray] W fun e w' => e = .returned (.agg NC) ∧ Below W.heap.size W w') := by
                rw [hNC, hSC]
                exact hmix
              rw [← hNC] at hone hov
              have HOV := Lib.hid hov
              clear hov hNC hSC hmix hb
              go_upto_region 8 with fail
              refine wp_region_any (by kernel_rfl) ?_
              change wpAny _ _ _ _ _ _ _ (World.drew _)
              refine wpAny_take (i := 0) (oi := { dst := some 48, op := Op.move (Operand.tmp 0), type := 24, pos := _, after := #[], guard := none }) (v := ?vv1) rfl (by kernel_rfl) (by kernel_rfl) (by kernel_rfl) (fun _ _ _ h => h) (Or.inl ⟨by rfl, ?hy1⟩) ?rs1
              case hy1 => (intro w; go_simp; try with_reducible rfl)
              simp only [Act.put, List.setIfInBounds_toArray, List.set_cons_zero, List.set_cons_succ]
              refine wpAny_take (i := 1) (oi := { dst := some 49, op := Op.move (Operand.tmp 0), type := 24, pos := _, after := #[], guard := none }) (v := ?vv2) rfl (by kernel_rfl) (by kernel_rfl) (by kernel_rfl) (fun _ _ _ h => h) (Or.inl ⟨by rfl, ?hy2⟩) ?rs2
              case hy2 => (intro w; go_simp; try with_reducible rfl)
              simp only [Act.put, List.setIfInBounds_toArray, List.set_cons_zero, List.set_cons_succ]
              refine wpAny_take (i := 2) (oi := { dst := some 50, op := Op.nilCheck (Operand.tmp 49), type := 0, pos := _, after := #[{ on := 1, ground := Ground.data }], guard := none }) (v := ?vv3) rfl (by kernel_rfl) (by kernel_rfl) (by kernel_rfl) (fun _ _ _ h => h) (Or.inl ⟨by rfl, ?hy3⟩) ?rs3
              case hy3 => (intro w; go_simp; try with_reducible rfl)
              simp only [Act.put, List.setIfInBounds_toArray, List.set_cons_zero, List.set_cons_succ]
              refine wpAny_take (i := 3) (oi := { dst := some 51, op := Op.fieldAddr 42 (Operand.tmp 50) 0, type := 0, pos := _, after := #[{ on := 2, ground := Ground.data }], guard := none }) (v := ?vv4) rfl (by kernel_rfl) (by kernel_rfl) (by kernel_rfl) (fun _ _ _ h => h) (Or.inl ⟨by rfl, ?hy4⟩) ?rs4
              case hy4 => (intro w; go_simp; try with_reducible rfl)
              simp only [Act.put, List.setIfInBounds_toArray, List.set_cons_zero, List.set_cons_succ]
              refine wpAny_take (i := 5) (oi := { dst := some 53, op := Op.move (Operand.tmp 0), type := 24, pos := _, after := #[], guard := none }) (v := ?vv5) rfl (by kernel_rfl) (by kernel_rfl) (by kernel_rfl) (fun _ _ _ h => h) (Or.inl ⟨by rfl, ?hy5⟩) ?rs5
              case hy5 => (intro w; go_simp; try with_reducible rfl)
              simp only [Act.put, List.setIfInBounds_toArray, List.set_cons_zero, List.set_cons_succ]
              refine wpAny_take (i := 6) (oi := { dst := some 54, op := Op.nilCheck (Operand.tmp 53), type := 0, pos := _, after := #[{ on := 5, ground := Ground.data }], guard := none }) (v := ?vv6) rfl (by kernel_rfl) (by kernel_rfl) (by kernel_rfl) (fun _ _ _ h => h) (Or.inl ⟨by rfl, ?hy6⟩) ?rs6
              case hy6 => (intro w; go_simp; try with_reducible rfl)
              simp only [Act.put, List.setIfInBounds_toArray, List.set_cons_zero, List.set_cons_succ]
              refine wpAny_take (i := 7) (oi := { dst := some 55, op := Op.fieldAddr 42 (Operand.tmp 54) 1, type := 0, pos := _, after := #[{ on := 6, ground := Ground.data }], guard := none }) (v := ?vv7) rfl (by kernel_rfl) (by kernel_rfl) (by kernel_rfl) (fun _ _ _ h => h) (Or.inl ⟨by rfl, ?hy7⟩) ?rs7
              case hy7 => (intro w; go_simp; try with_reducible rfl)
              simp only [Act.put, List.setIfInBounds_toArray, List.set_cons_zero, List.set_cons_succ]
              refine wpAny_ready (rs := [4, 8]) (by kernel_rfl) (by simp) ?_
              refine AllReady.cons (o := { dst := some 52, op := Op.load 39 (Operand.tmp 51), type := 39, pos := _, after := #[{ on := 3, ground := Ground.data }], guard := none }) rfl (fun K hK => ?_) ?_
              · refine step_load_sub rfl 39 _ rfl g 0 rfl SC _ (by exact HST.out) Try.underlying39 rfl (by rw [hSl]; kernel_rfl) ?_
                refine hK _ _ ?_
                clear hK K
                simp only [Act.put, List.setIfInBounds_toArray, List.set_cons_zero, List.set_cons_succ]
                refine wpAny_ready (rs := [8]) (by kernel_rfl) (by simp) ?_
                refine AllReady.cons (o := { dst := some 56, op := Op.load 40 (Operand.tmp 55), type := 40, pos := _, after := #[{ on := 7, ground := Ground.data }], guard := none }) rfl (fun K hK => ?_) AllReady.nil
                refine step_load_sub rfl 40 _ rfl g 4 rfl (R.map cel) _ (by exact hr0) hu64 rfl hi32 ?_
                refine hK _ _ ?_
                clear hK K
                simp only [Act.put, List.setIfInBounds_toArray, List.set_cons_zero, List.set_cons_succ]
                refine wpAny_ready (rs := [9]) (by kernel_rfl) (by simp) ?_
                refine AllReady.cons (o := { dst := some 57, op := Op.call { callee := Callee.value (Operand.func 14), args := #[Operand.tmp 52, Operand.tmp 56], argTypes := #[39, 40] }, type := 39, pos := _, after := #[{ on := 4, ground := Ground.data }, { on := 8, ground := Ground.data }], guard := none }) rfl (fun K hK => ?_) AllReady.nil
                go_simp
                go_wp2_with (go_at_call 14; refine (HMIX2.out _).mono ?_; rintro e' w5 ⟨rfl, hB5⟩; have HB5 : Hid (Below wc.heap.size wc w5) := (⟨hB5.os, hB5.tape, hB5.output, hB5.size, hB5.block⟩ : Below wc.heap.size wc w5); have HX5 : Hid (Box w5 g 42 (hcells v R M)) := HBX.out.below HB5.out hglt; clear hB5)
                refine wpAny_take (i := 10) (oi := { dst := some 58, op := Op.nilCheck (Operand.tmp 48), type := 0, pos := _, after := #[{ on := 0, ground := Ground.data }, { on := 0, ground := Ground.phase }, { on := 1, ground := Ground.phase }, { on := 2, ground := Ground.phase }, { on := 3, ground := Ground.phase }, { on := 4, ground := Ground.phase }, { on := 5, ground := Ground.phase }, { on := 6, ground := Ground.phase }, { on := 7, ground := Ground.phase }, { on := 8, ground := Ground.phase }, { on := 9, ground := Ground.phase }], guard := none }) (v := ?vv8) rfl (by kernel_rfl) (by kernel_rfl) (by kernel_rfl) (fun _ _ _ h => h) (Or.inl ⟨by rfl, ?hy8⟩) ?rs8
                case hy8 => (intro w; go_simp; try with_reducible rfl)
                simp only [Act.put, List.setIfInBounds_toArray, List.set_cons_zero, List.set_cons_succ]
                refine wpAny_take (i := 11) (oi := { dst := some 59, op := Op.fieldAddr 42 (Operand.tmp 58) 0, type := 0, pos := _, after := #[{ on := 10, ground := Ground.data }, { on := 0, ground := Ground.phase }, { on := 1, ground := Ground.phase }, { on := 2, ground := Ground.phase }, { on := 3, ground := Ground.phase }, { on := 4, ground := Ground.phase }, { on := 5, ground := Ground.phase }, { on := 6, ground := Ground.phase }, { on := 7, ground := Ground.phase }, { on := 8, ground := Ground.phase }, { on := 9, ground := Ground.phase }], guard := none }) (v := ?vv9) rfl (by kernel_rfl) (by kernel_rfl) (by kernel_rfl) (fun _ _ _ h => h) (Or.inl ⟨by rfl, ?hy9⟩) ?rs9
                case hy9 => (intro w; go_simp; try with_reducible rfl)
                simp only [Act.put, List.setIfInBounds_toArray, List.set_cons_zero, List.set_cons_succ]
                refine wpAny_ready (rs := [12]) (by kernel_rfl) (by simp) ?_
                refine AllReady.cons (o := { dst := none, op := Op.store 39 (Operand.tmp 59) (Operand.tmp 57), type := 0, pos := _, after := #[{ on := 11, ground := Ground.data }, { on := 9, ground := Ground.data }, { on := 9, ground := Ground.chain }, { on := 0, ground := Ground.phase }, { on := 1, ground := Ground.phase }, { on := 2, ground := Ground.phase }, { on := 3, ground := Ground.phase }, { on := 4, ground := Ground.phase }, { on := 5, ground := Ground.phase }, { on := 6, ground := Ground.phase }, { on := 7, ground := Ground.phase }, { on := 8, ground := Ground.phase }, { on := 9, ground := Ground.phase }], guard := none }) rfl (fun K hK => ?_) AllReady.nil
                refine step_store_sub rfl 39 _ _ rfl g 0 NC rfl rfl 42 _ HX5.out (by rw [hNs]; kernel_rfl) (by rw [hNs, hcells_size _ _ _ hR32]; decide) hone ?_
                refine hK _ _ ?_
                clear hK K
                refine wpAny_done (by kernel_rfl) ?_ _
                go_wp2_with fail
                go_roundg (gk - k)
                case measure => omega
                case rel =>
                  have hx : Box (w5.setRow g (over (hcells v R M) 0 NC.toList)) g 42 (hcells n R M) := by rw [HOV.out]; exact setRow_heap _ _ _ _ _ _ HX5.out
                  have hw : wr.grownBy (w5.setRow g (over (hcells v R M) 0 NC.toList)) (some g) := wide_trans (wide_trans HG3.out (wide_below HB5.out)) (wide_row _)
                  refine ⟨zs ++ rs.take k, rs.drop k, A2, c2, ?_, ?_, rfl, hgc2, HDN.out _ hw, ?_, wide_trans HGr.out hw⟩
                  · rw [List.append_assoc, List.take_append_drop]; exact HZ.out
                  · rw [List.length_drop, HRl.out]
                  · rw [← List.append_assoc, ← HU.out]
                    refine ⟨R, HWH.out.1, ?_⟩
                    rw [HWH.out.2, List.length_append, HPL.out, ← HL.out, ← HMM.out]
                    exact hx
              · refine AllReady.cons (o := { dst := some 56, op := Op.load 40 (Operand.tmp 55), type := 40, pos := _, after := #[{ on := 7, ground := Ground.data }], guard := none }) rfl (fun K hK => ?_) AllReady.nil
                refine step_load_sub rfl 40 _ rfl g 4 rfl (R.map cel) _ (by exact hr0) hu64 rfl hi32 ?_
                refine hK _ _ ?_
                clear hK K
                simp only [Act.put, List.setIfInBounds_toArray, List.set_cons_zero, List.set_cons_succ]
                refine wpAny_ready (rs := [4]) (by kernel_rfl) (by simp) ?_
                refine AllReady.cons (o := { dst := some 52, op := Op.load 39 (Operand.tmp 51), type := 39, pos := _, after := #[{ on := 3, ground := Ground.data }], guard := none }) rfl (fun K hK => ?_) AllReady.nil
                refine step_load_sub rfl 39 _ rfl g 0 rfl SC _ (by exact HST.out) Try.underlying39 rfl (by rw [hSl]; kernel_rfl) ?_
                refine hK _ _ ?_
                clear hK K
                simp only [Act.put, List.setIfInBounds_toArray, List.set_cons_zero, List.set_cons_succ]
                refine wpAny_ready (rs := [9]) (by kernel_rfl) (by simp) ?_
                refine AllReady.cons (o := { dst := some 57, op := Op.call { callee := Callee.value (Operand.func 14), args := #[Operand.tmp 52, Operand.tmp 56], argTypes := #[39, 40] }, type := 39, pos := _, after := #[{ on := 4, ground := Ground.data }, { on := 8, ground := Ground.data }], guard := none }) rfl (fun K hK => ?_) AllReady.nil
                go_simp
                go_wp2_with (go_at_call 14; refine (HMIX2.out _).mono ?_; rintro e' w5 ⟨rfl, hB5⟩; have HB5 : Hid (Below wc.heap.size wc w5) := (⟨hB5.os, hB5.tape, hB5.output, hB5.size, hB5.block⟩ : Below wc.heap.size wc w5); have HX5 : Hid (Box w5 g 42 (hcells v R M)) := HBX.out.below HB5.out hglt; clear hB5)
                refine wpAny_take (i := 10) (oi := { dst := some 58, op := Op.nilCheck (Operand.tmp 48), type := 0, pos := _, after := #[{ on := 0, ground := Ground.data }, { on := 0, ground := Ground.phase }, { on := 1, ground := Ground.phase }, { on := 2, ground := Ground.phase }, { on := 3, ground := Ground.phase }, { on := 4, ground := Ground.phase }, { on := 5, ground := Ground.phase }, { on := 6, ground := Ground.phase }, { on := 7, ground := Ground.phase }, { on := 8, ground := Ground.phase }, { on := 9, ground := Ground.phase }], guard := none }) (v := ?vv10) rfl (by kernel_rfl) (by kernel_rfl) (by kernel_rfl) (fun _ _ _ h => h) (Or.inl ⟨by rfl, ?hy10⟩) ?rs10
                case hy10 => (intro w; go_simp; try with_reducible rfl)
                simp only [Act.put, List.setIfInBounds_toArray, List.set_cons_zero, List.set_cons_succ]
                refine wpAny_take (i := 11) (oi := { dst := some 59, op := Op.fieldAddr 42 (Operand.tmp 58) 0, type := 0, pos := _, after := #[{ on := 10, ground := Ground.data }, { on := 0, ground := Ground.phase }, { on := 1, ground := Ground.phase }, { on := 2, ground := Ground.phase }, { on := 3, ground := Ground.phase }, { on := 4, ground := Ground.phase }, { on := 5, ground := Ground.phase }, { on := 6, ground := Ground.phase }, { on := 7, ground := Ground.phase }, { on := 8, ground := Ground.phase }, { on := 9, ground := Ground.phase }], guard := none }) (v := ?vv11) rfl (by kernel_rfl) (by kernel_rfl) (by kernel_rfl) (fun _ _ _ h => h) (Or.inl ⟨by rfl, ?hy11⟩) ?rs11
                case hy11 => (intro w; go_simp; try with_reducible rfl)
                simp only [Act.put, List.setIfInBounds_toArray, List.set_cons_zero, List.set_cons_succ]
                refine wpAny_ready (rs := [12]) (by kernel_rfl) (by simp) ?_
                refine AllReady.cons (o := { dst := none, op := Op.store 39 (Operand.tmp 59) (Operand.tmp 57), type := 0, pos := _, after := #[{ on := 11, ground := Ground.data }, { on := 9, ground := Ground.data }, { on := 9, ground := Ground.chain }, { on := 0, ground := Ground.phase }, { on := 1, ground := Ground.phase }, { on := 2, ground := Ground.phase }, { on := 3, ground := Ground.phase }, { on := 4, ground := Ground.phase }, { on := 5, ground := Ground.phase }, { on := 6, ground := Ground.phase }, { on := 7, ground := Ground.phase }, { on := 8, ground := Ground.phase }, { on := 9, ground := Ground.phase }], guard := none }) rfl (fun K hK => ?_) AllReady.nil
                refine step_store_sub rfl 39 _ _ rfl g 0 NC rfl rfl 42 _ HX5.out (by rw [hNs]; kernel_rfl) (by rw [hNs, hcells_size _ _ _ hR32]; decide) hone ?_
                refine hK _ _ ?_
                clear hK K
                refine wpAny_done (by kernel_rfl) ?_ _
                go_wp2_with fail
                go_roundg (gk - k)
                case measure => omega
                case rel =>
                  have hx : Box (w5.setRow g (over (hcells v R M) 0 NC.toList)) g 42 (hcells n R M) := by rw [HOV.out]; exact setRow_heap _ _ _ _ _ _ HX5.out
                  have hw : wr.grownBy (w5.setRow g (over (hcells v R M) 0 NC.toList)) (some g) := wide_trans (wide_trans HG3.out (wide_below HB5.out)) (wide_row _)
                  refine ⟨zs ++ rs.take k, rs.drop k, A2, c2, ?_, ?_, rfl, hgc2, HDN.out _ hw, ?_, wide_trans HGr.out hw⟩
                  · rw [List.append_assoc, List.take_append_drop]; exact HZ.out
                  · rw [List.length_drop, HRl.out]
                  · rw [← List.append_assoc, ← HU.out]
                    refine ⟨R, HWH.out.1, ?_⟩
                    rw [HWH.out.2, List.length_append, HPL.out, ← HL.out, ← HMM.out]
                    exact hx
            · have hz : ((M : Int) % 32 == 0) = false := by have := HO.out; have := HMM.out; rw [beq_eq_false_iff_ne]; omega
              have hpart := HR.out.part (p := rs.take k) (by rw [← HL.out, ← HO.out, HPL.out]; omega)
              have HP := Lib.hid hpart
              clear hpart
              go_wp2_with fail
              go_roundg (gk - k)
              case measure => omega
              case rel =>
                refine ⟨zs ++ rs.take k, rs.drop k, A2, c2, ?_, ?_, rfl, hgc2, HDN.out _ HG3.out, ?_, wide_trans HGr.out HG3.out⟩
                · rw [List.append_assoc, List.take_append_drop]; exact HZ.out
                · rw [List.length_drop, HRl.out]
                · rw [← List.append_assoc, ← HU.out]
                  refine ⟨_, HP.out.1, ?_⟩
                  rw [HP.out.2, List.length_append, HPL.out, ← HL.out, ← HMM.out, ← HO.out]
                  exact HB3.out
    · have hgk : gk = 0 := by omega
      subst hgk
      go_wp2_with fail
      go_end0
      refine ⟨rfl, ?_, HGr.out⟩
      have hrs : rs = [] := List.eq_nil_of_length_eq_zero HRl.out
      have hzy := HZ.out
      rw [hrs, List.append_nil] at hzy
      rw [← hzy, ← HU.out]
      exact HHr.out.hsh
end Go.Proofs.Ytlcbopjadjbmoaa
