
/- The contract of the program's Write: bytes laid behind those so far. -/
import Derived.Test.YtieepdhajjibpaaDoorShaHash
import Derived.Test.YtieepdhajjibpaaDoorShaMix
import Derived.Test.YtieepdhajjibpaaDoorShaEnd
namespace Go.Proofs.YtieepdhajjibpaaDoor
open Go.RowKit

/-- Block g is a digest of the bytes xs. -/
def Hsh (w : World) (g : Nat) (xs : List UInt8) : Prop := ∃ r, Rst xs r ∧ Box w g 91 (hcells (stOf xs) r xs.length)
theorem Hsh.lt {w : World} {g : Nat} {xs : List UInt8} (h : Hsh w g xs) : g < w.heap.size := by
  obtain ⟨_, _, h⟩ := h
  exact h.lt
theorem Hsh.keep {w w' : World} {g : Nat} {xs : List UInt8} (h : Hsh w g xs) (he : w'.heap[g]? = w.heap[g]?) : Hsh w' g xs := by
  obtain ⟨r, h1, h2⟩ := h
  exact ⟨r, h1, h2.keep he⟩
theorem hcells_size (v : V8) (r : List UInt8) (n : Nat) (h : r.length = 64) : (hcells v r n).size = 73 := by
  simp [hcells, V8.cells, h]
theorem hcells_last (v : V8) (r : List UInt8) (n : Nat) (h : r.length = 64) : (hcells v r n)[72]? = some (.int .u64 (n : Int)) := by
  simp [hcells, V8.cells, h]
theorem hcells_low (v : V8) (r : List UInt8) (n i : Nat) (h : i < 8) : (hcells v r n)[i]? = v.cells[i]? := by
  unfold hcells
  rw [List.getElem?_toArray, List.getElem?_append_left (by simpa [V8.cells] using h)]
  simp
theorem hcells_mid (v : V8) (r : List UInt8) (n i : Nat) (h : i < r.length) : (hcells v r n)[8 + i]? = some (cel (r.getD i 0)) := by
  unfold hcells
  rw [List.getElem?_toArray, List.getElem?_append_right (by simp [V8.cells]), show 8 + i - v.cells.toList.length = i by simp [V8.cells], List.getElem?_append_left (by simpa using h)]
  simp [List.getD, h]
theorem hcells_over (v : V8) (r : List UInt8) (n o : Nat) (p : List UInt8) (h : o + p.length ≤ r.length) : over (hcells v r n) (8 + o) (p.map cel) = hcells v (lay r o p) n := by
  apply Array.ext'
  have e8 : v.cells.toList.length = 8 := rfl
  unfold over hcells lay
  simp only [List.map_append, List.map_take, List.map_drop, List.length_map]
  rw [show (8 + o) = v.cells.toList.length + o by rw [e8]]
  rw [List.take_length_add_append, Nat.add_assoc, List.drop_length_add_append, List.take_append_of_le_length (by simp; omega), List.drop_append_of_le_length (by simp; omega)]
  simp only [List.append_assoc]
theorem hcells_count (v : V8) (r : List UInt8) (n m : Nat) (h : r.length = 64) : (hcells v r n).setIfInBounds 72 (.int .u64 (m : Int)) = hcells v r m := by
  apply Array.ext'
  unfold hcells
  simp only [List.setIfInBounds_toArray]
  rw [List.set_append_right _ _ (by simp [V8.cells]), show 72 - v.cells.toList.length = 64 by simp [V8.cells], List.set_append_right _ _ (by simp [h])]
  simp [h]
theorem hcells_state (v u : V8) (r : List UInt8) (n : Nat) :
    ((((((((hcells v r n).setIfInBounds 0 (.int .u32 (u.a.toNat : Int))).setIfInBounds 1 (.int .u32 (u.b.toNat : Int))).setIfInBounds 2 (.int .u32 (u.c.toNat : Int))).setIfInBounds 3 (.int .u32 (u.d.toNat : Int))).setIfInBounds 4 (.int .u32 (u.e.toNat : Int))).setIfInBounds 5 (.int .u32 (u.f.toNat : Int))).setIfInBounds 6 (.int .u32 (u.g.toNat : Int))).setIfInBounds 7 (.int .u32 (u.h.toNat : Int)) = hcells u r n := by
  apply Array.ext'
  unfold hcells V8.cells
  simp only [List.setIfInBounds_toArray, List.cons_append, List.nil_append, List.set_cons_zero, List.set_cons_succ]

/-- A source's cells, as a copy reads them. -/
theorem dat_src {own : Bool} {w : World} {lo hi : Nat} {A : Addr} {ys : List UInt8} (h : Dat own w lo hi (some A) ys) (k : Nat) : ∀ j v, ((ys.take k).map cel)[j]? = some v → w.cell? (A.add j) = some v := by
  intro j v hv
  have hj : j < k ∧ j < ys.length := by
    rcases Nat.lt_or_ge j ((ys.take k).map cel).length with h1 | h1
    · simp at h1; omega
    · rw [List.getElem?_eq_none h1] at hv; cases hv
  obtain ⟨d, o, hA, _, _, hc, _⟩ := h (by omega)
  injection hA with hA
  subst hA
  have ha : (⟨d, o, none⟩ : Addr).add j = ⟨d, o + j, none⟩ := by unfold Addr.add; split <;> simp_all
  rw [ha, hc j hj.2, ← hv]
  simp [List.getD, hj.1, hj.2]
theorem one_cel (ys : List UInt8) : ∀ v ∈ ys.map cel, v.oneCell' = true := by
  intro v hv
  obtain ⟨x, _, rfl⟩ := List.mem_map.1 hv
  rfl
theorem Dat.some_ {own : Bool} {w : World} {lo hi : Nat} {A : Option Addr} {ys : List UInt8} (h : Dat own w lo hi A ys) (hy : 0 < ys.length) : ∃ a, A = some a := by
  obtain ⟨d, o, hA, _⟩ := h hy
  exact ⟨_, hA⟩

theorem range_of_box {w : World} {g n : Nat} {t : TypeId} {v : V8} {R : List UInt8} (hb : Box w g t (hcells v R n)) : w.rangeAt g 8 (R.map cel) := by
  intro j x hx
  have hj : j < R.length := by
    rcases Nat.lt_or_ge j R.length with h1 | h1
    · exact h1
    · rw [List.getElem?_eq_none (by simpa using h1)] at hx; cases hx
  refine ((hb.cell (8 + j)).trans (hcells_mid _ _ _ _ hj)).trans ?_
  rw [← hx]
  simp [List.getD, hj]
theorem hcells_src {w : World} {g n : Nat} {t : TypeId} {v : V8} {r : List UInt8} (hb : Box w g t (hcells v r n)) : ∀ j x, v.cells.toList[j]? = some x → w.cell? ⟨g, 0 + j, none⟩ = some x := by
  intro j x hx
  have hj : j < 8 := by
    rcases Nat.lt_or_ge j 8 with h1 | h1
    · exact h1
    · rw [List.getElem?_eq_none (by simpa [V8.cells] using h1)] at hx; cases hx
  rw [Nat.zero_add, hb.cell, hcells_low _ _ _ _ hj]
  simpa using hx
theorem hcells_over_state (v u : V8) (r : List UInt8) (n : Nat) : over (hcells v r n) 0 u.cells.toList = hcells u r n := by
  apply Array.ext'
  unfold over hcells
  rw [List.take_zero, List.nil_append, Nat.zero_add, show u.cells.toList.length = v.cells.toList.length from rfl, List.drop_left]

theorem write_nil (v : Value) (w : World) :
    Calls Tryd.prog 46 #[.pointer none, v] w fun e w' => e = .returned (.tuple #[]) ∧ w = w' := by
  go_enter Tryd.func46, Tryd.ntmps46
  go_wp2
  refine bodyPost_ret (results_none rfl _ _ _) rfl ?_
  exact ⟨rfl, rfl⟩

set_option maxRecDepth 100000 in
set_option maxHeartbeats 2000000 in
theorem write_any {own : Bool} {w : World} {g lo hi : Nat} {A : Option Addr} {m c : Nat} {xs ys : List UInt8} (hgl : Glob w) (hh : Hsh w g xs) (hd : Dat own w lo hi A ys) (hm : ys.length = m) (hmc : m ≤ c)
    (hout : g < lo ∨ hi ≤ g) (hhi : hi ≤ w.heap.size) (hg2 : 2 ≤ g) (hb : xs.length + m ≤ 1000000000000000) :
    Calls Tryd.prog 46 #[.pointer (some ⟨g, 0, none⟩), .slice A m c] w fun e w' => e = .returned (.tuple #[]) ∧ Hsh w' g (xs ++ ys) ∧ w.grownBy w' (some g) := by
  have HG := Lib.hid hgl
  have HH := Lib.hid hh
  have HD := Lib.hid hd
  have HM := Lib.hid hm
  clear hgl hh hd hm
  go_enter Tryd.func46, Tryd.ntmps46
  go_wp2_with fail
  go_loopg [1] m (fun gh b wx => ∃ zs rs : List UInt8, ∃ A' c', zs ++ rs = ys ∧ rs.length = gh ∧ b = .slice A' gh c' ∧ gh ≤ c' ∧ Dat own wx lo hi A' rs ∧ Hsh wx g (xs ++ zs) ∧ w.grownBy wx (some g))
  case atStart => exact ⟨[], ys, A, c, rfl, HM.out, rfl, hmc, HD.out, by rw [List.append_nil]; exact HH.out, wide_refl _ _⟩
  case round =>
    obtain ⟨zs, rs, A', c', hzr, hrl, rfl, hgc, hdr, hhr, hgr⟩ := hrel
    have HZ := Lib.hid hzr
    have HRl := Lib.hid hrl
    have HDr := Lib.hid hdr
    have HHr := Lib.hid hhr
    have HGr := Lib.hid hgr
    obtain ⟨r, hr, hbx⟩ := hhr
    have HR := Lib.hid hr
    have HB := Lib.hid hbx
    clear hzr hrl hdr hgr hr hbx
    have hLb : (xs ++ zs).length + gk ≤ 1000000000000000 := by
      have h1 := HRl.out
      have h2 := HM.out
      have h3 := congrArg List.length HZ.out
      simp only [List.length_append] at h3 ⊢
      omega
    obtain ⟨us, hus⟩ : ∃ us, us = xs ++ zs := ⟨_, rfl⟩
    rw [← hus] at HR HB HHr hLb
    have HU := Lib.hid hus
    clear hus
    by_cases hgo : 0 < gk
    · obtain ⟨a, rfl⟩ := HDr.out.some_ (by rw [HRl.out]; exact hgo)
      have hgi : (0 : Int) < (gk : Int) := by omega
      have hro := HR.out.1
      obtain ⟨L, hL⟩ : ∃ L, L = us.length := ⟨_, rfl⟩
      have qs : wr.cell? ⟨g, 72, none⟩ = some (.int .u64 (L : Int)) := by rw [hL]; exact (HB.out.cell 72).trans (hcells_last _ _ _ hro)
      rw [← hL] at hLb
      obtain ⟨o, ho⟩ : ∃ o, o = L % 64 := ⟨_, rfl⟩
      have hoi : (L : Int) % 64 = (o : Int) := by omega
      have hot : (L : Int).tmod 64 = (o : Int) := by rw [Int.tmod_eq_emod_of_nonneg (by omega)]; exact hoi
      have ho64 : o < 64 := by omega
      have hne64 : ¬ 64 = o := by omega
      have ho64i : (o : Int) ≤ 64 := by omega
      obtain ⟨k, hk⟩ : ∃ k, k = min gk (64 - o) := ⟨_, rfl⟩
      have hk0 : 0 < k := by omega
      have hkg : k ≤ gk := by omega
      have hko : o + k ≤ 64 := by omega
      have hcl : ((rs.take k).map cel).length = k := by rw [List.length_map, List.length_take, HRl.out]; omega
      have HK := Lib.hid hk
      have HO := Lib.hid ho
      have HL := Lib.hid hL
      have HCL := Lib.hid hcl
      clear hk hL ho hcl
      go_upto_region 2 with fail
      go_cut [4] (fun p wx => p = .int .i64 (k : Int) ∧ Box wx g 91 (hcells (stOf us) (lay r o (rs.take k)) L) ∧ wr.grownBy wx (some g))
      case first =>
        go_region_law (refine step_copy _ rfl _ _ 23 23 rfl 5 g (8 + o) (64 - o) (64 - o) a gk c' rfl rfl (hcells (stOf us) r us.length) 91 ((rs.take k).map cel) Tryd.underlying23 (by kernel_rfl) (by exact HB.out) (by rw [HCL.out, HK.out]) (by exact dat_src HDr.out k) (by rw [HCL.out, hcells_size _ _ _ HR.out.1]; omega) (one_cel _) ?_)
        go_wp2_with fail
        go_meet
        refine ⟨?_, ?_, wide_trans (w' := wr.drew) (wide_below (Below.refl _ _).drew) (wide_row _)⟩
        · rw [HRl.out, show min k gk = k by omega]
        · have hov := hcells_over (stOf us) r us.length o (rs.take k) (by rw [HR.out.1, List.length_take, HRl.out]; omega)
          rw [← List.map_take, hov, ← HL.out]
          exact setRow_heap _ _ _ _ _ _ HB.out
      case rest =>
        obtain ⟨rfl, hbx, hgw⟩ := hcut
        have HB2 := Lib.hid hbx
        have HG2 := Lib.hid hgw
        clear hbx hgw qs
        have hpl : (rs.take k).length = k := by rw [List.length_take, HRl.out]; omega
        have hr' : (lay r o (rs.take k)).length = 64 := by rw [lay_length _ _ _ (by rw [HR.out.1, hpl]; exact hko), HR.out.1]
        have qs : wc.cell? ⟨g, 72, none⟩ = some (.int .u64 (L : Int)) := (HB2.out.cell 72).trans (hcells_last _ _ _ hr')
        have fs := HB2.out.free 72
        have HPL := Lib.hid hpl
        have HR' := Lib.hid hr'
        clear hpl hr'
        have hki : (k : Int) ≤ (gk : Int) := by omega
        have hkc : (k : Int) ≤ (c' : Int) := by omega
        obtain ⟨M, hM⟩ : ∃ M, M = L + k := ⟨_, rfl⟩
        have hMi : (L : Int) + (k : Int) = (M : Int) := by omega
        have HMM := Lib.hid hM
        have hMb : M ≤ 1000000000000000 := by omega
        clear hM
        go_upto_region 3 with fail
        go_cut [1] (fun p wx => wc = wx ∧ ∃ A2 c2, p = .slice A2 (gk - k) c2 ∧ gk - k ≤ c2 ∧ Dat own wr lo hi A2 (rs.drop k))
        case first =>
          go_wp2_with fail
          · go_meet
            exact ⟨rfl, _, _, rfl, by omega, by rw [List.drop_of_length_le (by rw [HRl.out]; omega)]; exact Dat.nil _ _ _ _ _⟩
          · go_meet
            exact ⟨rfl, _, _, rfl, by omega, HDr.out.drop k⟩
        case rest =>
          obtain ⟨rfl, A2, c2, rfl, hgc2, hd2⟩ := hcut
          have HD2 := Lib.hid hd2
          clear hd2
          go_upto_region 4 with fail
          go_cut [30] (fun _ wx => Box wx g 91 (hcells (stOf us) (lay r o (rs.take k)) M) ∧ wr.grownBy wx (some g))
          case first =>
            go_wp2_with fail
            go_meet
            have hp := HB2.out.put 72 (.int .u64 (M : Int))
            rw [hcells_count _ _ _ _ HR'.out] at hp
            exact ⟨hp, wide_trans HG2.out (wide_set _ _)⟩
          case rest =>
            obtain ⟨hbx, hgw⟩ := hcut
            have HB3 := Lib.hid hbx
            have HG3 := Lib.hid hgw
            clear hbx hgw qs fs HB2 HG2
            have qs : wc.cell? ⟨g, 72, none⟩ = some (.int .u64 (M : Int)) := (HB3.out.cell 72).trans (hcells_last _ _ _ HR'.out)
            have HDn : ∀ W, wr.grownBy W (some g) → Dat own W lo hi A2 (rs.drop k) := fun W hW => HD2.out.grown hW (by have := HGr.out.size; omega) (fun j hj => by injection hj with hj; omega)
            have HDN := Lib.hid HDn
            clear HDn
            by_cases hfull : o + k = 64
            · have hz : (M : Int) % 64 = 0 := by have := HO.out; have := HMM.out; omega
              have hwhole := HR.out.whole (p := rs.take k) (by rw [← HL.out, ← HO.out, HPL.out]; exact hfull)
              rw [← HL.out, ← HO.out] at hwhole
              obtain ⟨R, hRR⟩ : ∃ R, R = lay r o (rs.take k) := ⟨_, rfl⟩
              have hR64 := HR'.out
              have hb := HB3.out
              rw [← hRR] at hR64 hb hwhole
              obtain ⟨v, hv⟩ : ∃ v, v = stOf us := ⟨_, rfl⟩
              rw [← hv] at hb hwhole
              obtain ⟨n, hn⟩ : ∃ n, n = block kw R 0 v := ⟨_, rfl⟩
              rw [← hn] at hwhole
              have hmix := fun W (hW : Glob W) => mix_any v R hR64 W hW
              rw [← hn] at hmix
              have hgwc : Glob wc := HG.out.keep ((HG3.out.block 0 (by have h1 := HG.out.2.2; have h2 := HGr.out.size; omega) (by intro e; injection e with e; omega)).trans (HGr.out.block 0 (by have h1 := HG.out.2.2; omega) (by intro e; injection e with e; omega))) ((HG3.out.block 1 (by have h1 := HG.out.2.2; have h2 := HGr.out.size; omega) (by intro e; injection e with e; omega)).trans (HGr.out.block 1 (by have h1 := HG.out.2.2; omega) (by intro e; injection e with e; omega))) (by have h1 := HG.out.2.2; have h2 := HGr.out.size; have h3 := HG3.out.size; omega)
              have HGW := Lib.hid hgwc
              have HWH := Lib.hid hwhole
              clear hRR hv hn hwhole hgwc HB3
              obtain ⟨sa, sb, sc, sd, se, sf, sg, sh⟩ := v
              obtain ⟨na, nb, nc, nd, ne, nf, ng, nh⟩ := n
              have q0 : wc.cell? ⟨g, 0, none⟩ = some (.int .u32 (sa.toNat : Int)) := (hb.cell 0).trans (hcells_low _ _ _ 0 (by decide))
              have q1 : wc.cell? ⟨g, 1, none⟩ = some (.int .u32 (sb.toNat : Int)) := (hb.cell 1).trans (hcells_low _ _ _ 1 (by decide))
              have q2 : wc.cell? ⟨g, 2, none⟩ = some (.int .u32 (sc.toNat : Int)) := (hb.cell 2).trans (hcells_low _ _ _ 2 (by decide))
              have q3 : wc.cell? ⟨g, 3, none⟩ = some (.int .u32 (sd.toNat : Int)) := (hb.cell 3).trans (hcells_low _ _ _ 3 (by decide))
              have q4 : wc.cell? ⟨g, 4, none⟩ = some (.int .u32 (se.toNat : Int)) := (hb.cell 4).trans (hcells_low _ _ _ 4 (by decide))
              have q5 : wc.cell? ⟨g, 5, none⟩ = some (.int .u32 (sf.toNat : Int)) := (hb.cell 5).trans (hcells_low _ _ _ 5 (by decide))
              have q6 : wc.cell? ⟨g, 6, none⟩ = some (.int .u32 (sg.toNat : Int)) := (hb.cell 6).trans (hcells_low _ _ _ 6 (by decide))
              have q7 : wc.cell? ⟨g, 7, none⟩ = some (.int .u32 (sh.toNat : Int)) := (hb.cell 7).trans (hcells_low _ _ _ 7 (by decide))
              have hr0 : wc.rangeAt g 8 (R.map cel) := range_of_box hb
              have hu64 := Tryd.underlying89
              have hi64 : (Tryd.prog.info? 89).map (·.size) = some (R.map cel).length := by rw [List.length_map, hR64]; kernel_rfl
              have hglt := hb.lt
              obtain ⟨RC, hRC⟩ : ∃ RC, RC = bcells R := ⟨_, rfl⟩
              have hRM : (R.map cel).toArray = RC := by rw [hRC]; rfl
              rw [← hRC, ← hRM] at hmix
              have HMIX : Hid (∀ W, Glob W → Calls Tryd.prog 51 #[.agg #[.int .u32 (sa.toNat : Int), .int .u32 (sb.toNat : Int), .int .u32 (sc.toNat : Int), .int .u32 (sd.toNat : Int), .int .u32 (se.toNat : Int), .int .u32 (sf.toNat : Int), .int .u32 (sg.toNat : Int), .int .u32 (sh.toNat : Int)], .agg (R.map cel).toArray] W fun e w' => e = .returned (.agg #[.int .u32 (na.toNat : Int), .int .u32 (nb.toNat : Int), .int .u32 (nc.toNat : Int), .int .u32 (nd.toNat : Int), .int .u32 (ne.toNat : Int), .int .u32 (nf.toNat : Int), .int .u32 (ng.toNat : Int), .int .u32 (nh.toNat : Int)]) ∧ Below W.heap.size W w') := hmix
              have HBX := Lib.hid hb
              clear hRM hRC hb hmix RC
              go_upto_region 6 with fail
              have HST : Hid (∀ j v, (V8.cells ⟨sa, sb, sc, sd, se, sf, sg, sh⟩).toList[j]? = some v → wc.cell? ⟨g, 0 + j, none⟩ = some v) := hcells_src HBX.out
              have hone : (V8.cells ⟨na, nb, nc, nd, ne, nf, ng, nh⟩).all (·.oneCell') = true := V8.cells_one _
              have hov := hcells_over_state ⟨sa, sb, sc, sd, se, sf, sg, sh⟩ ⟨na, nb, nc, nd, ne, nf, ng, nh⟩ R M
              obtain ⟨NC, hNC⟩ : ∃ NC, NC = V8.cells ⟨na, nb, nc, nd, ne, nf, ng, nh⟩ := ⟨_, rfl⟩
              have hNs : NC.size = 8 := by rw [hNC]; rfl
              have HMIX2 : Hid (∀ W, Glob W → Calls Tryd.prog 51 #[.agg #[.int .u32 (sa.toNat : Int), .int .u32 (sb.toNat : Int), .int .u32 (sc.toNat : Int), .int .u32 (sd.toNat : Int), .int .u32 (se.toNat : Int), .int .u32 (sf.toNat : Int), .int .u32 (sg.toNat : Int), .int .u32 (sh.toNat : Int)], .agg (R.map cel).toArray] W fun e w' => e = .returned (.agg NC) ∧ Below W.heap.size W w') := by rw [hNC]; exact HMIX.out
              rw [← hNC] at hone hov
              have HOV := Lib.hid hov
              clear hov hNC HMIX
              refine wp_region_any (by kernel_rfl) ?_
              change wpAny _ _ _ _ _ _ _ (World.drew _)
              refine wpAny_take (i := 0) (oi := { dst := some 39, op := Op.move (Operand.tmp 0), type := 80, pos := _, after := #[], guard := none }) (v := ?vv1) rfl (by kernel_rfl) (by kernel_rfl) (by kernel_rfl) (fun _ _ _ h => h) (Or.inl ⟨by rfl, ?hy1⟩) ?rs1
              case hy1 => (intro w; go_simp; try with_reducible rfl)
              simp only [Act.put, List.setIfInBounds_toArray, List.set_cons_zero, List.set_cons_succ]
              refine wpAny_take (i := 1) (oi := { dst := some 40, op := Op.move (Operand.tmp 0), type := 80, pos := _, after := #[], guard := none }) (v := ?vv2) rfl (by kernel_rfl) (by kernel_rfl) (by kernel_rfl) (fun _ _ _ h => h) (Or.inl ⟨by rfl, ?hy2⟩) ?rs2
              case hy2 => (intro w; go_simp; try with_reducible rfl)
              simp only [Act.put, List.setIfInBounds_toArray, List.set_cons_zero, List.set_cons_succ]
              refine wpAny_take (i := 2) (oi := { dst := some 41, op := Op.nilCheck (Operand.tmp 40), type := 0, pos := _, after := #[{ on := 1, ground := Ground.data }], guard := none }) (v := ?vv3) rfl (by kernel_rfl) (by kernel_rfl) (by kernel_rfl) (fun _ _ _ h => h) (Or.inl ⟨by rfl, ?hy3⟩) ?rs3
              case hy3 => (intro w; go_simp; try with_reducible rfl)
              simp only [Act.put, List.setIfInBounds_toArray, List.set_cons_zero, List.set_cons_succ]
              refine wpAny_take (i := 3) (oi := { dst := some 42, op := Op.fieldAddr 91 (Operand.tmp 41) 0, type := 0, pos := _, after := #[{ on := 2, ground := Ground.data }], guard := none }) (v := ?vv4) rfl (by kernel_rfl) (by kernel_rfl) (by kernel_rfl) (fun _ _ _ h => h) (Or.inl ⟨by rfl, ?hy4⟩) ?rs4
              case hy4 => (intro w; go_simp; try with_reducible rfl)
              simp only [Act.put, List.setIfInBounds_toArray, List.set_cons_zero, List.set_cons_succ]
              refine wpAny_take (i := 5) (oi := { dst := some 44, op := Op.move (Operand.tmp 0), type := 80, pos := _, after := #[], guard := none }) (v := ?vv5) rfl (by kernel_rfl) (by kernel_rfl) (by kernel_rfl) (fun _ _ _ h => h) (Or.inl ⟨by rfl, ?hy5⟩) ?rs5
              case hy5 => (intro w; go_simp; try with_reducible rfl)
              simp only [Act.put, List.setIfInBounds_toArray, List.set_cons_zero, List.set_cons_succ]
              refine wpAny_take (i := 6) (oi := { dst := some 45, op := Op.nilCheck (Operand.tmp 44), type := 0, pos := _, after := #[{ on := 5, ground := Ground.data }], guard := none }) (v := ?vv6) rfl (by kernel_rfl) (by kernel_rfl) (by kernel_rfl) (fun _ _ _ h => h) (Or.inl ⟨by rfl, ?hy6⟩) ?rs6
              case hy6 => (intro w; go_simp; try with_reducible rfl)
              simp only [Act.put, List.setIfInBounds_toArray, List.set_cons_zero, List.set_cons_succ]
              refine wpAny_take (i := 7) (oi := { dst := some 46, op := Op.fieldAddr 91 (Operand.tmp 45) 1, type := 0, pos := _, after := #[{ on := 6, ground := Ground.data }], guard := none }) (v := ?vv7) rfl (by kernel_rfl) (by kernel_rfl) (by kernel_rfl) (fun _ _ _ h => h) (Or.inl ⟨by rfl, ?hy7⟩) ?rs7
              case hy7 => (intro w; go_simp; try with_reducible rfl)
              simp only [Act.put, List.setIfInBounds_toArray, List.set_cons_zero, List.set_cons_succ]
              refine wpAny_ready (rs := [4, 8]) (by kernel_rfl) (by simp) ?_
              refine AllReady.cons (o := { dst := some 43, op := Op.load 88 (Operand.tmp 42), type := 88, pos := _, after := #[{ on := 3, ground := Ground.data }], guard := none }) rfl (fun K hK => ?_) ?_
              · refine step_load_sub rfl 88 _ rfl g 0 rfl (V8.cells ⟨sa, sb, sc, sd, se, sf, sg, sh⟩).toList _ (by exact HST.out) Tryd.underlying88 rfl (by kernel_rfl) ?_
                refine hK _ _ ?_
                clear hK K
                simp only [Act.put, List.setIfInBounds_toArray, List.set_cons_zero, List.set_cons_succ]
                refine wpAny_ready (rs := [8]) (by kernel_rfl) (by simp) ?_
                refine AllReady.cons (o := { dst := some 47, op := Op.load 89 (Operand.tmp 46), type := 89, pos := _, after := #[{ on := 7, ground := Ground.data }], guard := none }) rfl (fun K hK => ?_) AllReady.nil
                refine step_load_sub rfl 89 _ rfl g 8 rfl (R.map cel) _ (by exact hr0) hu64 rfl hi64 ?_
                refine hK _ _ ?_
                clear hK K
                simp only [Act.put, List.setIfInBounds_toArray, List.set_cons_zero, List.set_cons_succ]
                refine wpAny_ready (rs := [9]) (by kernel_rfl) (by simp) ?_
                refine AllReady.cons (o := { dst := some 48, op := Op.call { callee := Callee.value (Operand.func 51), args := #[Operand.tmp 43, Operand.tmp 47], argTypes := #[88, 89] }, type := 88, pos := _, after := #[{ on := 4, ground := Ground.data }, { on := 8, ground := Ground.data }], guard := none }) rfl (fun K hK => ?_) AllReady.nil
                go_simp
                go_wp2_with (go_at_call 51; refine (HMIX2.out _ (by exact HGW.out)).mono ?_; rintro e' w5 ⟨rfl, hB5⟩; have HB5 : Hid (Below wc.heap.size wc w5) := (⟨hB5.os, hB5.tape, hB5.output, hB5.size, hB5.block⟩ : Below wc.heap.size wc w5); have HX5 : Hid (Box w5 g 91 (hcells ⟨sa, sb, sc, sd, se, sf, sg, sh⟩ R M)) := HBX.out.below HB5.out hglt; clear hB5)
                refine wpAny_take (i := 10) (oi := { dst := some 49, op := Op.nilCheck (Operand.tmp 39), type := 0, pos := _, after := #[{ on := 0, ground := Ground.data }, { on := 0, ground := Ground.phase }, { on := 1, ground := Ground.phase }, { on := 2, ground := Ground.phase }, { on := 3, ground := Ground.phase }, { on := 4, ground := Ground.phase }, { on := 5, ground := Ground.phase }, { on := 6, ground := Ground.phase }, { on := 7, ground := Ground.phase }, { on := 8, ground := Ground.phase }, { on := 9, ground := Ground.phase }], guard := none }) (v := ?vv8) rfl (by kernel_rfl) (by kernel_rfl) (by kernel_rfl) (fun _ _ _ h => h) (Or.inl ⟨by rfl, ?hy8⟩) ?rs8
                case hy8 => (intro w; go_simp; try with_reducible rfl)
                simp only [Act.put, List.setIfInBounds_toArray, List.set_cons_zero, List.set_cons_succ]
                refine wpAny_take (i := 11) (oi := { dst := some 50, op := Op.fieldAddr 91 (Operand.tmp 49) 0, type := 0, pos := _, after := #[{ on := 10, ground := Ground.data }, { on := 0, ground := Ground.phase }, { on := 1, ground := Ground.phase }, { on := 2, ground := Ground.phase }, { on := 3, ground := Ground.phase }, { on := 4, ground := Ground.phase }, { on := 5, ground := Ground.phase }, { on := 6, ground := Ground.phase }, { on := 7, ground := Ground.phase }, { on := 8, ground := Ground.phase }, { on := 9, ground := Ground.phase }], guard := none }) (v := ?vv9) rfl (by kernel_rfl) (by kernel_rfl) (by kernel_rfl) (fun _ _ _ h => h) (Or.inl ⟨by rfl, ?hy9⟩) ?rs9
                case hy9 => (intro w; go_simp; try with_reducible rfl)
                simp only [Act.put, List.setIfInBounds_toArray, List.set_cons_zero, List.set_cons_succ]
                refine wpAny_ready (rs := [12]) (by kernel_rfl) (by simp) ?_
                refine AllReady.cons (o := { dst := none, op := Op.store 88 (Operand.tmp 50) (Operand.tmp 48), type := 0, pos := _, after := #[{ on := 11, ground := Ground.data }, { on := 9, ground := Ground.data }, { on := 9, ground := Ground.chain }, { on := 0, ground := Ground.phase }, { on := 1, ground := Ground.phase }, { on := 2, ground := Ground.phase }, { on := 3, ground := Ground.phase }, { on := 4, ground := Ground.phase }, { on := 5, ground := Ground.phase }, { on := 6, ground := Ground.phase }, { on := 7, ground := Ground.phase }, { on := 8, ground := Ground.phase }, { on := 9, ground := Ground.phase }], guard := none }) rfl (fun K hK => ?_) AllReady.nil
                refine step_store_sub rfl 88 _ _ rfl g 0 NC rfl rfl 91 _ HX5.out (by rw [hNs]; kernel_rfl) (by rw [hNs, hcells_size _ _ _ hR64]; decide) hone ?_
                refine hK _ _ ?_
                clear hK K
                refine wpAny_done (by kernel_rfl) ?_ _
                go_wp2_with fail
                go_roundg (gk - k)
                case measure => omega
                case rel =>
                  have hx : Box (w5.setRow g (over (hcells ⟨sa, sb, sc, sd, se, sf, sg, sh⟩ R M) 0 NC.toList)) g 91 (hcells ⟨na, nb, nc, nd, ne, nf, ng, nh⟩ R M) := by rw [HOV.out]; exact setRow_heap _ _ _ _ _ _ HX5.out
                  have hw : wr.grownBy (w5.setRow g (over (hcells ⟨sa, sb, sc, sd, se, sf, sg, sh⟩ R M) 0 NC.toList)) (some g) := wide_trans (wide_trans HG3.out (wide_below HB5.out)) (wide_row _)
                  refine ⟨zs ++ rs.take k, rs.drop k, A2, c2, ?_, ?_, rfl, hgc2, HDN.out _ hw, ?_, wide_trans HGr.out hw⟩
                  · rw [List.append_assoc, List.take_append_drop]; exact HZ.out
                  · rw [List.length_drop, HRl.out]
                  · rw [← List.append_assoc, ← HU.out]
                    refine ⟨R, HWH.out.1, ?_⟩
                    rw [HWH.out.2, List.length_append, HPL.out, ← HL.out, ← HMM.out]
                    exact hx
              · refine AllReady.cons (o := { dst := some 47, op := Op.load 89 (Operand.tmp 46), type := 89, pos := _, after := #[{ on := 7, ground := Ground.data }], guard := none }) rfl (fun K hK => ?_) AllReady.nil
                refine step_load_sub rfl 89 _ rfl g 8 rfl (R.map cel) _ (by exact hr0) hu64 rfl hi64 ?_
                refine hK _ _ ?_
                clear hK K
                simp only [Act.put, List.setIfInBounds_toArray, List.set_cons_zero, List.set_cons_succ]
                refine wpAny_ready (rs := [4]) (by kernel_rfl) (by simp) ?_
                refine AllReady.cons (o := { dst := some 43, op := Op.load 88 (Operand.tmp 42), type := 88, pos := _, after := #[{ on := 3, ground := Ground.data }], guard := none }) rfl (fun K hK => ?_) AllReady.nil
                refine step_load_sub rfl 88 _ rfl g 0 rfl (V8.cells ⟨sa, sb, sc, sd, se, sf, sg, sh⟩).toList _ (by exact HST.out) Tryd.underlying88 rfl (by kernel_rfl) ?_
                refine hK _ _ ?_
                clear hK K
                simp only [Act.put, List.setIfInBounds_toArray, List.set_cons_zero, List.set_cons_succ]
                refine wpAny_ready (rs := [9]) (by kernel_rfl) (by simp) ?_
                refine AllReady.cons (o := { dst := some 48, op := Op.call { callee := Callee.value (Operand.func 51), args := #[Operand.tmp 43, Operand.tmp 47], argTypes := #[88, 89] }, type := 88, pos := _, after := #[{ on := 4, ground := Ground.data }, { on := 8, ground := Ground.data }], guard := none }) rfl (fun K hK => ?_) AllReady.nil
                go_simp
                go_wp2_with (go_at_call 51; refine (HMIX2.out _ (by exact HGW.out)).mono ?_; rintro e' w5 ⟨rfl, hB5⟩; have HB5 : Hid (Below wc.heap.size wc w5) := (⟨hB5.os, hB5.tape, hB5.output, hB5.size, hB5.block⟩ : Below wc.heap.size wc w5); have HX5 : Hid (Box w5 g 91 (hcells ⟨sa, sb, sc, sd, se, sf, sg, sh⟩ R M)) := HBX.out.below HB5.out hglt; clear hB5)
                refine wpAny_take (i := 10) (oi := { dst := some 49, op := Op.nilCheck (Operand.tmp 39), type := 0, pos := _, after := #[{ on := 0, ground := Ground.data }, { on := 0, ground := Ground.phase }, { on := 1, ground := Ground.phase }, { on := 2, ground := Ground.phase }, { on := 3, ground := Ground.phase }, { on := 4, ground := Ground.phase }, { on := 5, ground := Ground.phase }, { on := 6, ground := Ground.phase }, { on := 7, ground := Ground.phase }, { on := 8, ground := Ground.phase }, { on := 9, ground := Ground.phase }], guard := none }) (v := ?vv10) rfl (by kernel_rfl) (by kernel_rfl) (by kernel_rfl) (fun _ _ _ h => h) (Or.inl ⟨by rfl, ?hy10⟩) ?rs10
                case hy10 => (intro w; go_simp; try with_reducible rfl)
                simp only [Act.put, List.setIfInBounds_toArray, List.set_cons_zero, List.set_cons_succ]
                refine wpAny_take (i := 11) (oi := { dst := some 50, op := Op.fieldAddr 91 (Operand.tmp 49) 0, type := 0, pos := _, after := #[{ on := 10, ground := Ground.data }, { on := 0, ground := Ground.phase }, { on := 1, ground := Ground.phase }, { on := 2, ground := Ground.phase }, { on := 3, ground := Ground.phase }, { on := 4, ground := Ground.phase }, { on := 5, ground := Ground.phase }, { on := 6, ground := Ground.phase }, { on := 7, ground := Ground.phase }, { on := 8, ground := Ground.phase }, { on := 9, ground := Ground.phase }], guard := none }) (v := ?vv11) rfl (by kernel_rfl) (by kernel_rfl) (by kernel_rfl) (fun _ _ _ h => h) (Or.inl ⟨by rfl, ?hy11⟩) ?rs11
                case hy11 => (intro w; go_simp; try with_reducible rfl)
                simp only [Act.put, List.setIfInBounds_toArray, List.set_cons_zero, List.set_cons_succ]
                refine wpAny_ready (rs := [12]) (by kernel_rfl) (by simp) ?_
                refine AllReady.cons (o := { dst := none, op := Op.store 88 (Operand.tmp 50) (Operand.tmp 48), type := 0, pos := _, after := #[{ on := 11, ground := Ground.data }, { on := 9, ground := Ground.data }, { on := 9, ground := Ground.chain }, { on := 0, ground := Ground.phase }, { on := 1, ground := Ground.phase }, { on := 2, ground := Ground.phase }, { on := 3, ground := Ground.phase }, { on := 4, ground := Ground.phase }, { on := 5, ground := Ground.phase }, { on := 6, ground := Ground.phase }, { on := 7, ground := Ground.phase }, { on := 8, ground := Ground.phase }, { on := 9, ground := Ground.phase }], guard := none }) rfl (fun K hK => ?_) AllReady.nil
                refine step_store_sub rfl 88 _ _ rfl g 0 NC rfl rfl 91 _ HX5.out (by rw [hNs]; kernel_rfl) (by rw [hNs, hcells_size _ _ _ hR64]; decide) hone ?_
                refine hK _ _ ?_
                clear hK K
                refine wpAny_done (by kernel_rfl) ?_ _
                go_wp2_with fail
                go_roundg (gk - k)
                case measure => omega
                case rel =>
                  have hx : Box (w5.setRow g (over (hcells ⟨sa, sb, sc, sd, se, sf, sg, sh⟩ R M) 0 NC.toList)) g 91 (hcells ⟨na, nb, nc, nd, ne, nf, ng, nh⟩ R M) := by rw [HOV.out]; exact setRow_heap _ _ _ _ _ _ HX5.out
                  have hw : wr.grownBy (w5.setRow g (over (hcells ⟨sa, sb, sc, sd, se, sf, sg, sh⟩ R M) 0 NC.toList)) (some g) := wide_trans (wide_trans HG3.out (wide_below HB5.out)) (wide_row _)
                  refine ⟨zs ++ rs.take k, rs.drop k, A2, c2, ?_, ?_, rfl, hgc2, HDN.out _ hw, ?_, wide_trans HGr.out hw⟩
                  · rw [List.append_assoc, List.take_append_drop]; exact HZ.out
                  · rw [List.length_drop, HRl.out]
                  · rw [← List.append_assoc, ← HU.out]
                    refine ⟨R, HWH.out.1, ?_⟩
                    rw [HWH.out.2, List.length_append, HPL.out, ← HL.out, ← HMM.out]
                    exact hx
            · have hz : ((M : Int) % 64 == 0) = false := by have := HO.out; have := HMM.out; rw [beq_eq_false_iff_ne]; omega
              have hpart := HR.out.part (p := rs.take k) (by rw [← HL.out, ← HO.out, HPL.out]; omega)
              have HP := Lib.hid hpart
              clear hpart
              go_wp2_with fail
              go_roundg (gk - k)
              case measure => omega
              case rel =>
                refine ⟨zs ++ rs.take k, rs.drop k, A2, c2, ?_, ?_, rfl, hgc2, HDN.out _ HG3.out, ?_, wide_trans HGr.out HG3.out⟩
                · rw [List.append_assoc, List.take_append_drop]; exact HZ.out
                · rw [List.length_drop, HRl.out]
                · rw [← List.append_assoc, ← HU.out]
                  refine ⟨_, HP.out.1, ?_⟩
                  rw [HP.out.2, List.length_append, HPL.out, ← HL.out, ← HMM.out, ← HO.out]
                  exact HB3.out
    · have hgk : gk = 0 := by omega
      subst hgk
      go_wp2_with fail
      go_end0
      refine ⟨rfl, ?_, HGr.out⟩
      have hrs : rs = [] := List.eq_nil_of_length_eq_zero HRl.out
      have hzy := HZ.out
      rw [hrs, List.append_nil] at hzy
      rw [← hzy, ← HU.out]
      exact HHr.out
end Go.Proofs.YtieepdhajjibpaaDoor
