
/- The contracts of Of, the program's and the document's. -/
import Derived.Test.YtieepdhajjibpaaDoorMrkRef
import Derived.Test.YtieepdhajjibpaaDoorMrkRoot
import Derived.Test.YtieepdhajjibpaaDoorMrkCount
import Derived.Test.YtieepdhajjibpaaDoorAppR
namespace Go.Proofs.YtieepdhajjibpaaDoor
open Go.RowKit

/-- The leaves of the first k parts of p bytes. -/
def lvs (xs : List UInt8) (p k : Nat) : List Dg := (List.range k).map fun i => leafD ((xs.drop (p * i)).take (longN xs.length p i))
theorem lvs_len (xs : List UInt8) (p k : Nat) : (lvs xs p k).length = k := by simp [lvs]
theorem lvs_succ (xs : List UInt8) (p k : Nat) : lvs xs p (k + 1) = lvs xs p k ++ [leafD ((xs.drop (p * k)).take (longN xs.length p k))] := by simp [lvs, List.range_succ]
theorem cntE_pos (s : Nat) (part : Int) : 0 ≤ (cntE s part).1 := by
  unfold cntE
  split
  · exact Int.le_refl _
  · split
    · exact Int.le_refl _
    · exact Int.natCast_nonneg _
/-- What Of tells. -/
def OfPost {w : World} (xs : List UInt8) (part : Int) (e : Ending) (w' : World) : Prop :=
  Below w.heap.size w w' ∧ ((∃ (p n : Nat) (A : Option Addr) (c : Nat), part = (p : Int) ∧ cntE xs.length part = ((n : Int), 0) ∧ e = .returned (.tuple #[.agg #[.int .u64 (xs.length : Int), .int .u32 (p : Int), .slice A n c], .int .i64 0]) ∧ n ≤ c ∧ DatR 32 dcs w' w.heap.size w'.heap.size A (lvs xs p n)) ∨
    ((cntE xs.length part).2 ≠ 0 ∧ e = .returned (.tuple #[.agg #[.int .u64 0, .int .u32 0, .slice none 0 0], .int .i64 (cntE xs.length part).2])))
theorem add_plain0 (d o k : Nat) : (⟨d, o, none⟩ : Addr).add k = ⟨d, o + k, none⟩ := add_plain' d o k
theorem sum_info : (Tryd.prog.info? 25).map (fun i => (i.zero, i.size, i.bytes)) = some (some (.agg z32), 32, 32) := by kernel_rfl
theorem results_cell_tmp {P : Program} {fn : Func} {p q : Tmp} {ty : TypeId} (h : fn.results = #[.cell p ty, .tmp q]) (tmps : Array Value) (w : World) (g : Nat) (t : TypeId) (cs : Array Value) (fr : Nat × Nat) (d : TypeDesc) (v : Value)
    (hp : tmps.getD p undef = .pointer (some ⟨g, 0, none⟩)) (hq : tmps.getD q undef = v) (hg : w.heap[g]? = some (.cells cs t fr))
    (hu : P.underlying ty = some d) (hd : (match d with | .struct _ | .array _ _ => true | _ => false) = true) (hi : (P.info? ty).map (·.size) = some cs.size) :
    (results fn tmps).run P w = .ok (.tuple #[.agg cs, v]) w := by
  have hp' : tmps[p]?.getD undef = .pointer (some ⟨g, 0, none⟩) := by simpa using hp
  have hq' : tmps[q]?.getD undef = v := by simpa using hq
  simp [results, h, hp', hq', asAddr, run_loadVar_row w g t ty cs fr d hg hu hd hi]

/-- How a manifest that is made stands, k parts of it made. -/
structure OSp (w wx : World) (xs : List UInt8) (s p k : Nat) (A : Option Addr) (c : Nat) : Prop where
  own : OwR 32 dcs wx 25 (w.heap.size + 2) (.slice A k c) (lvs xs p k)
  box : Box wx (w.heap.size + 1) 35 #[.int .u64 (s : Int), .int .u32 (p : Int), .slice A k c]
  res : Box wx w.heap.size 35 #[.int .u64 0, .int .u32 0, .slice none 0 0]
  bel : Below w.heap.size w wx
theorem OSp.app {w wx w7 w1 : World} {xs : List UInt8} {s p k c : Nat} {A : Option Addr} {o : Obj} (h : OSp w wx xs s p k A c) (hB : Below wx.heap.size wx w7) (hg : (w7.alloc o).grownBy w1 (Value.slice A k c).ownBlock) :
    True ∧ Box w1 (w.heap.size + 1) 35 #[.int .u64 (s : Int), .int .u32 (p : Int), .slice A k c] ∧ Box w1 w.heap.size 35 #[.int .u64 0, .int .u32 0, .slice none 0 0] ∧ Below w.heap.size w w1 := by
  have hs := h.bel.size
  have hs7 := hB.size
  have hb : ∀ k', (Value.slice A k c).ownBlock = some k' → w.heap.size + 2 ≤ k' := fun k' hk => (h.own.block k' hk).1
  refine ⟨trivial, ((h.box.below hB h.box.lt).alloc o).grown hg (fun e => by have := hb _ e.symm; omega), ((h.res.below hB h.res.lt).alloc o).grown hg (fun e => by have := hb _ e.symm; omega),
    ((h.bel.trans (hB.mono hs)).alloc (by omega) o).grown hg (by simp; omega) (fun k hk => by have := hb k hk; omega)⟩
theorem OSp.next {w w1 : World} {xs : List UInt8} {s p k k2 c c2 : Nat} {A A2 : Option Addr} (h : Box w1 (w.heap.size + 1) 35 #[.int .u64 (s : Int), .int .u32 (p : Int), .slice A k c] ∧ Box w1 w.heap.size 35 #[.int .u64 0, .int .u32 0, .slice none 0 0] ∧ Below w.heap.size w w1)
    (ho : OwR 32 dcs w1 25 (w.heap.size + 2) (.slice A2 k2 c2) (lvs xs p k2)) : OSp w (w1.setCell ⟨w.heap.size + 1, 2, none⟩ (.slice A2 k2 c2)) xs s p k2 A2 c2 := by
  refine ⟨ho.keep fun j hj => Below.heap_setCell _ _ _ j (by have := (ho.block j hj).1; show j ≠ w.heap.size + 1; omega), h.1.put 2 _, h.2.1.far (by show w.heap.size ≠ w.heap.size + 1; omega) _, h.2.2.setCell (by show w.heap.size ≤ w.heap.size + 1; omega) _⟩

set_option maxRecDepth 20000 in
set_option maxHeartbeats 2000000 in
theorem mOf_any {own : Bool} {w : World} {lo hi : Nat} {A : Option Addr} {m c : Nat} {xs : List UInt8} (part : Int) (hg : Glob w) (hd : Dat own w lo hi A xs) (hm : xs.length = m) (hmc : m ≤ c) (hhi : hi ≤ w.heap.size) (hb : m ≤ 1000000) :
    Calls Tryd.prog 17 #[.slice A m c, .int .i64 part] w (OfPost (w := w) xs part) := by
  have HCT := Lib.hid (count_any m part (by omega) )
  have hmw : IntKind.u64.wrap (m : Int) = (m : Int) := by rw [IntKind.wrap_u64]; omega
  have HG := Lib.hid hg
  have hw2 := hg.2.2
  have HD := Lib.hid hd
  have HM := Lib.hid hm
  have z35 := World.size_alloc w (.cells #[.int .u64 0, .int .u32 0, .slice none 0 0] 35)
  have HR0 : Hid (Box (w.alloc (.cells #[.int .u64 0, .int .u32 0, .slice none 0 0] 35)) w.heap.size 35 #[.int .u64 0, .int .u32 0, .slice none 0 0]) := Box.new w _ _
  have HB0 : Hid (Below w.heap.size w (w.alloc (.cells #[.int .u64 0, .int .u32 0, .slice none 0 0] 35))) := (Below.refl _ _).alloc (Nat.le_refl _) _
  have HZ35 := Lib.hid z35
  obtain ⟨cn, hcn⟩ : ∃ cn, cn = (cntE m part).1 := ⟨_, rfl⟩
  obtain ⟨ce, hce⟩ : ∃ ce, ce = (cntE m part).2 := ⟨_, rfl⟩
  rw [← hcn, ← hce] at HCT
  by_cases he : ce = 0
  · obtain ⟨n, hn⟩ : ∃ n : Nat, cn = (n : Int) := by
      refine ⟨cn.toNat, ?_⟩
      have := cntE_pos m part
      omega
    subst hn
    obtain ⟨p, hp⟩ : ∃ p : Nat, part = (p : Int) := by
      have h1 : ¬ (part < 1 ∨ 65536 < part) := fun h => by
        rw [hce, cntE, if_pos h] at he
        cases he
      exact ⟨part.toNat, by omega⟩
    subst hp he
    have hce2 : cntE m (p : Int) = ((n : Int), 0) := Prod.ext hcn.symm hce.symm
    have hpb : p ≤ 65536 := by
      rcases Nat.lt_or_ge 65536 p with h | h
      · exfalso
        unfold cntE at hce
        rw [if_pos (.inr (by omega))] at hce
        cases hce
      · exact h
    have hn1 : n ≤ 1024 := by
      by_cases hn0 : 0 < n
      · exact (cnt_ok hce2 hn0).2.2.2
      · omega
    have hpw : IntKind.u32.wrap (p : Int) = (p : Int) := by rw [IntKind.wrap_u32']; omega
    have HSP := Lib.hid (fun (i : Nat) (hi : i < n) (W : World) => span_any m p n i (by omega) hce2 hi W)
    have HCE := Lib.hid hce2
    have HFI := Lib.hid (fun (i : Nat) (hi : i < n) => And.intro (show p * i < m from span_in (cnt_ok hce2 (by omega)).1 (cnt_ok hce2 (by omega)).2.2.1 hi) (show longN m p i ≤ m - p * i from Nat.min_le_left _ _))
    clear hg hd hm hcn hce hce2 z35
    go_enter Tryd.func17, Tryd.ntmps17
    have HM0 : Hid (Box ((w.alloc (.cells #[.int .u64 0, .int .u32 0, .slice none 0 0] 35)).alloc (.cells #[.int .u64 (m : Int), .int .u32 (p : Int), .slice none 0 0] 35)) (w.heap.size + 1) 35 #[.int .u64 (m : Int), .int .u32 (p : Int), .slice none 0 0]) := by
      have h := Box.new (w.alloc (.cells #[.int .u64 0, .int .u32 0, .slice none 0 0] 35)) 35 #[.int .u64 (m : Int), .int .u32 (p : Int), .slice none 0 0]
      rw [World.size_alloc] at h
      exact h
    go_upto_region 7 with (first | (go_at_call 34; refine (HCT.out _).mono ?_; rintro e w1 ⟨rfl, rfl⟩))
    obtain ⟨W2, hW2⟩ : ∃ W2, ((w.alloc (.cells #[.int .u64 0, .int .u32 0, .slice none 0 0] 35)).alloc (.cells #[.int .u64 (m : Int), .int .u32 (p : Int), .slice none 0 0] 35)) = W2 := ⟨_, rfl⟩
    have HR2 : Hid (Box W2 w.heap.size 35 #[.int .u64 0, .int .u32 0, .slice none 0 0]) := hW2 ▸ HR0.out.alloc _
    have HB2 : Hid (Below w.heap.size w W2) := hW2 ▸ HB0.out.alloc (by simp) _
    refine wp_as (W := W2) hW2 ?_
    rw [hW2] at HM0
    clear hW2 HR0 HB0 HZ35 HCT
    go_loopg [32] n (fun gh v wx => ∃ (k c1 : Nat) (A1 : Option Addr), k + gh = n ∧ v = .int .i64 (k : Int) ∧ OSp w wx xs m p k A1 c1)
    case atStart => exact ⟨0, 0, none, by omega, rfl, OwR.nil _ _ _ _ _, HM0.out, HR2.out, HB2.out⟩
    case round =>
      clear HM0 HR2 HB2
      obtain ⟨k, c1, A1, hk, rfl, hos⟩ := hrel
      have HOS := Lib.hid hos
      clear hos
      by_cases hkn : k < n
      · have hkni : (k : Int) < (n : Int) := by omega
        obtain ⟨hz1, hz2⟩ := HFI.out k hkn
        have HSK := Lib.hid (fun W => HSP.out k hkn W)
        have hlv := lvs_succ xs p k
        rw [HM.out] at hlv
        obtain ⟨z, hz⟩ : ∃ z, z = p * k := ⟨_, rfl⟩
        obtain ⟨lg, hlg⟩ : ∃ lg, lg = longN m p k := ⟨_, rfl⟩
        rw [← hz] at hz1 hz2 HSK hlv
        rw [← hlg] at hz2 HSK hlv
        clear hz hlg
        have hl1 : ((xs.drop z).take lg).length = lg := by rw [List.length_take, List.length_drop, HM.out]; omega
        have HLF := Lib.hid (fun (V : World) (hV : Below w.heap.size w V) (A2 : Option Addr) (hA2 : A2 = A.map (·.add z)) (c2 : Nat) => leaf_any (w := V) (A := A2) (c := c2) (HG.out.below hV hw2) (hA2 ▸ ((HD.out.below hV hhi).drop z).take lg) hl1 (by have := hV.size; omega) (by omega))
        obtain ⟨lf, hlf⟩ : ∃ lf, lf = leafD ((xs.drop z).take lg) := ⟨_, rfl⟩
        rw [← hlf] at HLF hlv
        obtain ⟨d, o, hA, _⟩ := HD.out (by rw [HM.out]; omega)
        subst hA
        have hzl : IntKind.u64.wrap ((z : Int) + (lg : Int)) = (z : Int) + (lg : Int) := by rw [IntKind.wrap_u64]; omega
        have hlw : IntKind.u64.wrap (lg : Int) = (lg : Int) := by rw [IntKind.wrap_u64]; omega
        have hzc : ¬ c = z := by omega
        have hcz : ¬ z = c := by omega
        have g1 : (z : Int) ≤ (z : Int) + (lg : Int) := by omega
        have g2 : (z : Int) + (lg : Int) ≤ (c : Int) := by omega
        have g3 : z + lg ≤ c := by omega
        have g4 : (z : Int) + (lg : Int) - (z : Int) = (lg : Int) := by omega
        have g5 : ((z : Int) + (lg : Int)).toNat - z = lg := by omega
        obtain ⟨i0, hi0, hi1⟩ := Option.map_eq_some_iff.1 sum_info
        simp only [Prod.mk.injEq] at hi1
        obtain ⟨hz0, hz1', hz2'⟩ := hi1
        have HI := Lib.hid (And.intro hi0 (And.intro hz0 (And.intro hz1' hz2')))
        have HLV := Lib.hid hlv
        have HL1 := Lib.hid hl1
        clear hi0 hz0 hz1' hz2' hlv hl1 hlf
        have hsw := HOS.out.bel.size
        have hbl := HOS.out.box.lt
        go_upto_region 10 with (first | (go_at_call 35; refine (HSK.out _).mono ?_; rintro e w1 ⟨rfl, rfl⟩))
        have c2 : wr.cell? ⟨w.heap.size + 1, 2, none⟩ = some (.slice A1 k c1) := HOS.out.box.cell 2
        refine wp_region_any (by kernel_rfl) ?_
        refine wpAny_take (i := 0) (v := .pointer (some ⟨w.heap.size + 1, 2, none⟩)) rfl (by kernel_rfl) (by kernel_rfl) (by kernel_rfl) (fun _ _ _ h => h) (Or.inl ⟨by rfl, fun w' => ?_⟩) ?_
        · go_simp
        refine wpAny_take (i := 2) (v := .slice (some ⟨d, o, none⟩) m c) rfl (by kernel_rfl) (by kernel_rfl) (by kernel_rfl) (fun _ _ _ h => h) (Or.inl ⟨by rfl, fun w' => ?_⟩) ?_
        · go_simp
        refine wpAny_take (i := 3) (v := .int .u64 (z : Int)) rfl (by kernel_rfl) (by kernel_rfl) (by kernel_rfl) (fun _ _ _ h => h) (Or.inl ⟨by rfl, fun w' => ?_⟩) ?_
        · go_simp
        refine wpAny_take (i := 4) (v := .int .u64 (z : Int)) rfl (by kernel_rfl) (by kernel_rfl) (by kernel_rfl) (fun _ _ _ h => h) (Or.inl ⟨by rfl, fun w' => ?_⟩) ?_
        · go_simp
        refine wpAny_take (i := 5) (v := .int .i64 (lg : Int)) rfl (by kernel_rfl) (by kernel_rfl) (by kernel_rfl) (fun _ _ _ h => h) (Or.inl ⟨by rfl, fun w' => ?_⟩) ?_
        · go_simp
        refine wpAny_take (i := 6) (v := .int .u64 (lg : Int)) rfl (by kernel_rfl) (by kernel_rfl) (by kernel_rfl) (fun _ _ _ h => h) (Or.inl ⟨by rfl, fun w' => ?_⟩) ?_
        · go_simp
        refine wpAny_take (i := 7) (v := .int .u64 ((z : Int) + (lg : Int))) rfl (by kernel_rfl) (by kernel_rfl) (by kernel_rfl) (fun _ _ _ h => h) (Or.inl ⟨by rfl, fun w' => ?_⟩) ?_
        · go_simp
        refine wpAny_take (i := 8) (v := .slice (some ⟨d, o + z, none⟩) lg (c - z)) rfl (by kernel_rfl) (by kernel_rfl) (by kernel_rfl) (fun _ _ _ h => h) (Or.inl ⟨by rfl, fun w' => ?_⟩) ?_
        · go_simp
        simp only [Act.put, List.setIfInBounds_toArray]
        refine wpAny_ready (rs := [1, 9]) (by kernel_rfl) (by simp) ?_
        refine AllReady.cons rfl (fun K hK => ?_) (AllReady.cons rfl (fun K hK => ?_) AllReady.nil)
        · go_simp
          refine hK _ _ ?_
          clear hK K
          refine wpAny_ready (rs := [9]) (by kernel_rfl) (by simp) ?_
          refine AllReady.cons rfl (fun K hK => ?_) AllReady.nil
          go_simp
          refine (HLF.out _ (by exact HOS.out.bel.drew) _ (by rw [Option.map_some]; exact congrArg some (Eq.symm (add_plain0 d o z))) _).mono ?_
          rintro e' w7 ⟨rfl, hB7⟩
          have HB7 : Hid (Below wr.heap.size wr w7) := (⟨hB7.os, hB7.tape, hB7.output, hB7.size, hB7.block⟩ : Below wr.heap.size wr w7)
          have hs7 := HB7.out.size
          have c7 : w7.cell? ⟨w.heap.size + 1, 2, none⟩ = some (.slice A1 k c1) := (HOS.out.box.below HB7.out hbl).cell 2
          have c8 : (w7.alloc (.cells (dcs lf).toArray 25)).cell? ⟨w.heap.size + 1, 2, none⟩ = some (.slice A1 k c1) := ((HOS.out.box.below HB7.out hbl).alloc _).cell 2
          clear hB7
          dsimp only
          refine hK _ _ ?_
          clear hK K
          refine wpAny_ready (rs := [10]) (by kernel_rfl) (by simp) ?_
          refine AllReady.cons rfl (fun K hK => ?_) AllReady.nil
          refine step_lit1 rfl _ 25 _ rfl (dcs lf).toArray rfl 32 (.agg z32) i0 Tryd.underlying22 HI.out.1 HI.out.2.1 HI.out.2.2.1 (by decide) (by decide) (by simp [dcs_len]) ?_
          refine hK _ _ ?_
          clear hK K
          refine wpAny_ready (rs := [11]) (by kernel_rfl) (by simp) ?_
          refine AllReady.cons rfl (fun K hK => ?_) AllReady.nil
          refine step_appR (v := .slice A1 k c1) (A := some ⟨w7.heap.size, 0, none⟩) (m := 1) (c := 1) dcs_len (by decide) dcs_one _ rfl _ _ 22 rfl i0 (.agg z32) 32 Tryd.underlying22 HI.out.1 HI.out.2.1 HI.out.2.2.1 HI.out.2.2.2 (by decide) (by decide) (by kernel_rfl) ((HOS.out.own.below HB7.out (Nat.le_refl _)).alloc _) (by kernel_rfl) (datR_one (z := 32) (f := dcs) w7 lf 25 (dcs lf).toArray rfl) rfl (by rw [lvs_len]; omega) (by rw [World.size_alloc]; omega) ?_
          intro v8 w8 ho hgr hat
          rw [← HLV.out] at ho
          have HAP := Lib.hid (HOS.out.app HB7.out hgr)
          obtain ⟨A8, n8, c9, rfl⟩ := ho.slice
          have hn8 := ho.len
          rw [lvs_len] at hn8
          subst hn8
          have HO8 := Lib.hid ho
          obtain ⟨f8, hb8⟩ := HAP.out
          have HX8 := Lib.hid hb8
          have s8 := hb8.1.cell 2
          have t8 := hb8.1.free 2
          refine hK _ _ ?_
          clear hK K ho hgr hat
          refine wpAny_ready (rs := [12]) (by kernel_rfl) (by simp) ?_
          refine AllReady.cons rfl (fun K hK => ?_) AllReady.nil
          go_simp
          refine hK _ _ ?_
          clear hK K
          refine wpAny_ready (rs := [13]) (by kernel_rfl) (by simp) ?_
          refine AllReady.cons rfl (fun K hK => ?_) AllReady.nil
          go_simp
          refine hK _ _ ?_
          clear hK K
          refine wpAny_done (by kernel_rfl) ?_ _
          go_wp2_with fail
          go_roundg (n - (k + 1))
          case measure => omega
          case rel => exact ⟨k + 1, _, _, by omega, by go_num, OSp.next HX8.out HO8.out⟩
        · go_simp
          refine (HLF.out _ (by exact HOS.out.bel.drew) _ (by rw [Option.map_some]; exact congrArg some (Eq.symm (add_plain0 d o z))) _).mono ?_
          rintro e' w7 ⟨rfl, hB7⟩
          have HB7 : Hid (Below wr.heap.size wr w7) := (⟨hB7.os, hB7.tape, hB7.output, hB7.size, hB7.block⟩ : Below wr.heap.size wr w7)
          have hs7 := HB7.out.size
          have c7 : w7.cell? ⟨w.heap.size + 1, 2, none⟩ = some (.slice A1 k c1) := (HOS.out.box.below HB7.out hbl).cell 2
          have c8 : (w7.alloc (.cells (dcs lf).toArray 25)).cell? ⟨w.heap.size + 1, 2, none⟩ = some (.slice A1 k c1) := ((HOS.out.box.below HB7.out hbl).alloc _).cell 2
          clear hB7
          dsimp only
          refine hK _ _ ?_
          clear hK K
          refine wpAny_ready (rs := [1, 10]) (by kernel_rfl) (by simp) ?_
          refine AllReady.cons rfl (fun K hK => ?_) (AllReady.cons rfl (fun K hK => ?_) AllReady.nil)
          · go_simp
            refine hK _ _ ?_
            clear hK K
            refine wpAny_ready (rs := [10]) (by kernel_rfl) (by simp) ?_
            refine AllReady.cons rfl (fun K hK => ?_) AllReady.nil
            refine step_lit1 rfl _ 25 _ rfl (dcs lf).toArray rfl 32 (.agg z32) i0 Tryd.underlying22 HI.out.1 HI.out.2.1 HI.out.2.2.1 (by decide) (by decide) (by simp [dcs_len]) ?_
            refine hK _ _ ?_
            clear hK K
            refine wpAny_ready (rs := [11]) (by kernel_rfl) (by simp) ?_
            refine AllReady.cons rfl (fun K hK => ?_) AllReady.nil
            refine step_appR (v := .slice A1 k c1) (A := some ⟨w7.heap.size, 0, none⟩) (m := 1) (c := 1) dcs_len (by decide) dcs_one _ rfl _ _ 22 rfl i0 (.agg z32) 32 Tryd.underlying22 HI.out.1 HI.out.2.1 HI.out.2.2.1 HI.out.2.2.2 (by decide) (by decide) (by kernel_rfl) ((HOS.out.own.below HB7.out (Nat.le_refl _)).alloc _) (by kernel_rfl) (datR_one (z := 32) (f := dcs) w7 lf 25 (dcs lf).toArray rfl) rfl (by rw [lvs_len]; omega) (by rw [World.size_alloc]; omega) ?_
            intro v8 w8 ho hgr hat
            rw [← HLV.out] at ho
            have HAP := Lib.hid (HOS.out.app HB7.out hgr)
            obtain ⟨A8, n8, c9, rfl⟩ := ho.slice
            have hn8 := ho.len
            rw [lvs_len] at hn8
            subst hn8
            have HO8 := Lib.hid ho
            obtain ⟨f8, hb8⟩ := HAP.out
            have HX8 := Lib.hid hb8
            have s8 := hb8.1.cell 2
            have t8 := hb8.1.free 2
            refine hK _ _ ?_
            clear hK K ho hgr hat
            refine wpAny_ready (rs := [12]) (by kernel_rfl) (by simp) ?_
            refine AllReady.cons rfl (fun K hK => ?_) AllReady.nil
            go_simp
            refine hK _ _ ?_
            clear hK K
            refine wpAny_ready (rs := [13]) (by kernel_rfl) (by simp) ?_
            refine AllReady.cons rfl (fun K hK => ?_) AllReady.nil
            go_simp
            refine hK _ _ ?_
            clear hK K
            refine wpAny_done (by kernel_rfl) ?_ _
            go_wp2_with fail
            go_roundg (n - (k + 1))
            case measure => omega
            case rel => exact ⟨k + 1, _, _, by omega, by go_num, OSp.next HX8.out HO8.out⟩
          · refine step_lit1 rfl _ 25 _ rfl (dcs lf).toArray rfl 32 (.agg z32) i0 Tryd.underlying22 HI.out.1 HI.out.2.1 HI.out.2.2.1 (by decide) (by decide) (by simp [dcs_len]) ?_
            refine hK _ _ ?_
            clear hK K
            refine wpAny_ready (rs := [1]) (by kernel_rfl) (by simp) ?_
            refine AllReady.cons rfl (fun K hK => ?_) AllReady.nil
            go_simp
            refine hK _ _ ?_
            clear hK K
            refine wpAny_ready (rs := [11]) (by kernel_rfl) (by simp) ?_
            refine AllReady.cons rfl (fun K hK => ?_) AllReady.nil
            refine step_appR (v := .slice A1 k c1) (A := some ⟨w7.heap.size, 0, none⟩) (m := 1) (c := 1) dcs_len (by decide) dcs_one _ rfl _ _ 22 rfl i0 (.agg z32) 32 Tryd.underlying22 HI.out.1 HI.out.2.1 HI.out.2.2.1 HI.out.2.2.2 (by decide) (by decide) (by kernel_rfl) ((HOS.out.own.below HB7.out (Nat.le_refl _)).alloc _) (by kernel_rfl) (datR_one (z := 32) (f := dcs) w7 lf 25 (dcs lf).toArray rfl) rfl (by rw [lvs_len]; omega) (by rw [World.size_alloc]; omega) ?_
            intro v8 w8 ho hgr hat
            rw [← HLV.out] at ho
            have HAP := Lib.hid (HOS.out.app HB7.out hgr)
            obtain ⟨A8, n8, c9, rfl⟩ := ho.slice
            have hn8 := ho.len
            rw [lvs_len] at hn8
            subst hn8
            have HO8 := Lib.hid ho
            obtain ⟨f8, hb8⟩ := HAP.out
            have HX8 := Lib.hid hb8
            have s8 := hb8.1.cell 2
            have t8 := hb8.1.free 2
            refine hK _ _ ?_
            clear hK K ho hgr hat
            refine wpAny_ready (rs := [12]) (by kernel_rfl) (by simp) ?_
            refine AllReady.cons rfl (fun K hK => ?_) AllReady.nil
            go_simp
            refine hK _ _ ?_
            clear hK K
            refine wpAny_ready (rs := [13]) (by kernel_rfl) (by simp) ?_
            refine AllReady.cons rfl (fun K hK => ?_) AllReady.nil
            go_simp
            refine hK _ _ ?_
            clear hK K
            refine wpAny_done (by kernel_rfl) ?_ _
            go_wp2_with fail
            go_roundg (n - (k + 1))
            case measure => omega
            case rel => exact ⟨k + 1, _, _, by omega, by go_num, OSp.next HX8.out HO8.out⟩
      · have hkni : ¬ (k : Int) < (n : Int) := by omega
        obtain rfl : k = n := by omega
        have HXB : Hid (Box wr (w.heap.size + 1) 35 #[.int .u64 (m : Int), .int .u32 (p : Int), .slice A1 k c1]) := HOS.out.box
        have HRB : Hid (Box wr w.heap.size 35 #[.int .u64 0, .int .u32 0, .slice none 0 0]) := HOS.out.res
        go_wp2_with (first
          | (refine wpList_load_row rfl 35 _ rfl (w.heap.size + 1) rfl 35 #[.int .u64 (m : Int), .int .u32 (p : Int), .slice A1 k c1] (0, 0) _ HXB.out Tryd.underlying35 rfl (by kernel_rfl) ?_)
          | (refine wpList_store_row rfl 35 _ _ rfl w.heap.size #[.int .u64 (m : Int), .int .u32 (p : Int), .slice A1 k c1] rfl rfl 35 _ HRB.out (by kernel_rfl) (by kernel_rfl) (by kernel_rfl) ?_))
        refine bodyPost_ret (v := .tuple #[.agg #[.int .u64 (m : Int), .int .u32 (p : Int), .slice A1 k c1], .int .i64 0]) (results_cell_tmp Tryd.results17 _ _ w.heap.size 35 #[.int .u64 (m : Int), .int .u32 (p : Int), .slice A1 k c1] (0, 0) _ (.int .i64 0) rfl rfl (setRow_heap _ _ _ _ _ _ HRB.out) Tryd.underlying35 rfl (by kernel_rfl)) rfl ?_
        have hd := HOS.out.own.dat dcs_len
        have hcp := HOS.out.own.cap dcs_len
        refine ⟨below_row HOS.out.bel (Nat.le_refl _) _, .inl ⟨p, k, A1, c1, rfl, by rw [HM.out]; exact HCE.out, by rw [HM.out], hcp, ?_⟩⟩
        refine (DatR.keep hd (fun j h1 _ => setRow_other _ _ _ _ (by omega))).mono (by omega) ?_
        simp [World.setRow]
  · have hne : (ce != 0) = true := by rw [bne_iff_ne]; exact he
    have HNE := Lib.hid he
    have HCE := Lib.hid hce
    have hmx := HM.out
    clear hg hd hm hcn hce z35 he HZ35 hmx
    go_enter Tryd.func17, Tryd.ntmps17
    go_wp2_with (first
      | (go_at_call 34; refine (HCT.out _).mono ?_; rintro e w1 ⟨rfl, rfl⟩)
      | (refine wpList_build rfl 35 _ rfl (cells := #[.int .u64 0, .int .u32 0, .slice none 0 0]) (by kernel_rfl) ?_)
      | (refine wpList_store_row rfl 35 _ _ rfl w.heap.size #[.int .u64 0, .int .u32 0, .slice none 0 0] rfl rfl 35 _ HR0.out (by kernel_rfl) (by kernel_rfl) (by kernel_rfl) ?_))
    refine bodyPost_ret (v := .tuple #[.agg #[.int .u64 0, .int .u32 0, .slice none 0 0], .int .i64 ce]) (results_cell_tmp Tryd.results17 _ _ w.heap.size 35 #[.int .u64 0, .int .u32 0, .slice none 0 0] (0, 0) _ (.int .i64 ce) rfl rfl (setRow_heap _ _ _ _ _ _ HR0.out) Tryd.underlying35 rfl (by kernel_rfl)) rfl ?_
    exact ⟨below_row HB0.out (Nat.le_refl _) _, .inr ⟨by rw [HM.out, ← HCE.out]; exact HNE.out, by rw [HM.out, ← HCE.out]⟩⟩

/-- How a manifest that is made stands, k parts of it made. -/
structure OSr (w wx : World) (xs : List UInt8) (s p k : Nat) (A : Option Addr) (c : Nat) : Prop where
  own : OwR 32 dcs wx 25 (w.heap.size + 2) (.slice A k c) (lvs xs p k)
  box : Box wx (w.heap.size + 1) 39 #[.int .u64 (s : Int), .int .u32 (p : Int), .slice A k c]
  res : Box wx w.heap.size 39 #[.int .u64 0, .int .u32 0, .slice none 0 0]
  bel : Below w.heap.size w wx
theorem OSr.app {w wx w7 w1 : World} {xs : List UInt8} {s p k c : Nat} {A : Option Addr} {o : Obj} (h : OSr w wx xs s p k A c) (hB : Below wx.heap.size wx w7) (hg : (w7.alloc o).grownBy w1 (Value.slice A k c).ownBlock) :
    True ∧ Box w1 (w.heap.size + 1) 39 #[.int .u64 (s : Int), .int .u32 (p : Int), .slice A k c] ∧ Box w1 w.heap.size 39 #[.int .u64 0, .int .u32 0, .slice none 0 0] ∧ Below w.heap.size w w1 := by
  have hs := h.bel.size
  have hs7 := hB.size
  have hb : ∀ k', (Value.slice A k c).ownBlock = some k' → w.heap.size + 2 ≤ k' := fun k' hk => (h.own.block k' hk).1
  refine ⟨trivial, ((h.box.below hB h.box.lt).alloc o).grown hg (fun e => by have := hb _ e.symm; omega), ((h.res.below hB h.res.lt).alloc o).grown hg (fun e => by have := hb _ e.symm; omega),
    ((h.bel.trans (hB.mono hs)).alloc (by omega) o).grown hg (by simp; omega) (fun k hk => by have := hb k hk; omega)⟩
theorem OSr.next {w w1 : World} {xs : List UInt8} {s p k k2 c c2 : Nat} {A A2 : Option Addr} (h : Box w1 (w.heap.size + 1) 39 #[.int .u64 (s : Int), .int .u32 (p : Int), .slice A k c] ∧ Box w1 w.heap.size 39 #[.int .u64 0, .int .u32 0, .slice none 0 0] ∧ Below w.heap.size w w1)
    (ho : OwR 32 dcs w1 25 (w.heap.size + 2) (.slice A2 k2 c2) (lvs xs p k2)) : OSr w (w1.setCell ⟨w.heap.size + 1, 2, none⟩ (.slice A2 k2 c2)) xs s p k2 A2 c2 := by
  refine ⟨ho.keep fun j hj => Below.heap_setCell _ _ _ j (by have := (ho.block j hj).1; show j ≠ w.heap.size + 1; omega), h.1.put 2 _, h.2.1.far (by show w.heap.size ≠ w.heap.size + 1; omega) _, h.2.2.setCell (by show w.heap.size ≤ w.heap.size + 1; omega) _⟩

set_option maxRecDepth 20000 in
set_option maxHeartbeats 2000000 in
theorem refOf_any {w : World} {m : Nat} {xs : List UInt8} (part : Int) (hm : xs.length = m) (hb : m ≤ 1000000) :
    Calls Tryd.prog 18 #[.string (str xs), .int .i64 part] w (OfPost (w := w) xs part) := by
  have HCT := Lib.hid (refCount_any m part )
  have hmw : IntKind.u64.wrap (m : Int) = (m : Int) := by rw [IntKind.wrap_u64]; omega
  have hsz : (str xs).size = m := by rw [str_size, hm]
  have HM := Lib.hid hm
  have z35 := World.size_alloc w (.cells #[.int .u64 0, .int .u32 0, .slice none 0 0] 39)
  have HR0 : Hid (Box (w.alloc (.cells #[.int .u64 0, .int .u32 0, .slice none 0 0] 39)) w.heap.size 39 #[.int .u64 0, .int .u32 0, .slice none 0 0]) := Box.new w _ _
  have HB0 : Hid (Below w.heap.size w (w.alloc (.cells #[.int .u64 0, .int .u32 0, .slice none 0 0] 39))) := (Below.refl _ _).alloc (Nat.le_refl _) _
  have HZ35 := Lib.hid z35
  obtain ⟨cn, hcn⟩ : ∃ cn, cn = (cntE m part).1 := ⟨_, rfl⟩
  obtain ⟨ce, hce⟩ : ∃ ce, ce = (cntE m part).2 := ⟨_, rfl⟩
  rw [← hcn, ← hce] at HCT
  by_cases he : ce = 0
  · obtain ⟨n, hn⟩ : ∃ n : Nat, cn = (n : Int) := by
      refine ⟨cn.toNat, ?_⟩
      have := cntE_pos m part
      omega
    subst hn
    obtain ⟨p, hp⟩ : ∃ p : Nat, part = (p : Int) := by
      have h1 : ¬ (part < 1 ∨ 65536 < part) := fun h => by
        rw [hce, cntE, if_pos h] at he
        cases he
      exact ⟨part.toNat, by omega⟩
    subst hp he
    have hce2 : cntE m (p : Int) = ((n : Int), 0) := Prod.ext hcn.symm hce.symm
    have hpb : p ≤ 65536 := by
      rcases Nat.lt_or_ge 65536 p with h | h
      · exfalso
        unfold cntE at hce
        rw [if_pos (.inr (by omega))] at hce
        cases hce
      · exact h
    have hn1 : n ≤ 1024 := by
      by_cases hn0 : 0 < n
      · exact (cnt_ok hce2 hn0).2.2.2
      · omega
    have hpw : IntKind.u32.wrap (p : Int) = (p : Int) := by rw [IntKind.wrap_u32']; omega
    have HSP := Lib.hid (fun (i : Nat) (hi : i < n) (W : World) => refSpan_any m p n i (by omega) hce2 hi W)
    have HCE := Lib.hid hce2
    have HFI := Lib.hid (fun (i : Nat) (hi : i < n) => And.intro (show p * i < m from span_in (cnt_ok hce2 (by omega)).1 (cnt_ok hce2 (by omega)).2.2.1 hi) (show longN m p i ≤ m - p * i from Nat.min_le_left _ _))
    clear hm hcn hce hce2 z35
    go_enter Tryd.func18, Tryd.ntmps18
    have HM0 : Hid (Box ((w.alloc (.cells #[.int .u64 0, .int .u32 0, .slice none 0 0] 39)).alloc (.cells #[.int .u64 (m : Int), .int .u32 (p : Int), .slice none 0 0] 39)) (w.heap.size + 1) 39 #[.int .u64 (m : Int), .int .u32 (p : Int), .slice none 0 0]) := by
      have h := Box.new (w.alloc (.cells #[.int .u64 0, .int .u32 0, .slice none 0 0] 39)) 39 #[.int .u64 (m : Int), .int .u32 (p : Int), .slice none 0 0]
      rw [World.size_alloc] at h
      exact h
    go_wp2_with (first | (go_at_call 36; refine (HCT.out _).mono ?_; rintro e w1 ⟨rfl, rfl⟩))
    obtain ⟨W2, hW2⟩ : ∃ W2, ((w.alloc (.cells #[.int .u64 0, .int .u32 0, .slice none 0 0] 39)).alloc (.cells #[.int .u64 (m : Int), .int .u32 (p : Int), .slice none 0 0] 39)) = W2 := ⟨_, rfl⟩
    have HR2 : Hid (Box W2 w.heap.size 39 #[.int .u64 0, .int .u32 0, .slice none 0 0]) := hW2 ▸ HR0.out.alloc _
    have HB2 : Hid (Below w.heap.size w W2) := hW2 ▸ HB0.out.alloc (by simp) _
    refine wp_as (W := W2) hW2 ?_
    rw [hW2] at HM0
    clear hW2 HR0 HB0 HZ35 HCT
    go_loopg [9] n (fun gh v wx => ∃ (k c1 : Nat) (A1 : Option Addr), k + gh = n ∧ v = .int .i64 (k : Int) ∧ OSr w wx xs m p k A1 c1)
    case atStart => exact ⟨0, 0, none, by omega, rfl, OwR.nil _ _ _ _ _, HM0.out, HR2.out, HB2.out⟩
    case round =>
      clear HM0 HR2 HB2
      obtain ⟨k, c1, A1, hk, rfl, hos⟩ := hrel
      have HOS := Lib.hid hos
      clear hos
      by_cases hkn : k < n
      · have hkni : (k : Int) < (n : Int) := by omega
        obtain ⟨hz1, hz2⟩ := HFI.out k hkn
        have HSK := Lib.hid (fun W => HSP.out k hkn W)
        have hlv := lvs_succ xs p k
        rw [HM.out] at hlv
        obtain ⟨z, hz⟩ : ∃ z, z = p * k := ⟨_, rfl⟩
        obtain ⟨lg, hlg⟩ : ∃ lg, lg = longN m p k := ⟨_, rfl⟩
        rw [← hz] at hz1 hz2 HSK hlv
        rw [← hlg] at hz2 HSK hlv
        clear hz hlg
        have hl1 : ((xs.drop z).take lg).length = lg := by rw [List.length_take, List.length_drop, HM.out]; omega
        have HLF := Lib.hid (fun (V : World) (S : ByteArray) (hS : S = str ((xs.drop z).take lg)) => refLeaf_any S _ hS V (by rw [hl1]; omega))
        obtain ⟨lf, hlf⟩ : ∃ lf, lf = leafD ((xs.drop z).take lg) := ⟨_, rfl⟩
        rw [← hlf] at HLF hlv
        have hex : (str xs).extract z (z + lg) = str ((xs.drop z).take lg) := by
          apply ByteArray.ext
          apply Array.ext'
          simp [str, ByteArray.data_extract, List.extract_eq_take_drop, Nat.add_sub_cancel_left]
        have HEX := Lib.hid hex
        have hzw : IntKind.i64.wrap (z : Int) = (z : Int) := IntWalk.i64_in _ (by omega)
        have hzl : IntKind.i64.wrap ((z : Int) + (lg : Int)) = (z : Int) + (lg : Int) := IntWalk.i64_in _ (by omega)
        have g1 : (z : Int) ≤ (z : Int) + (lg : Int) := by omega
        have g2 : (z : Int) + (lg : Int) ≤ ((str xs).size : Int) := by rw [hsz]; omega
        have g3 : z + lg ≤ (str xs).size := by rw [hsz]; omega
        have g4 : (0 : Int) ≤ (z : Int) + (lg : Int) := by omega
        have g5 : (z : Int) + (lg : Int) ≤ (m : Int) := by omega
        have g6 : ((z : Int) + (lg : Int)).toNat = z + lg := by omega
        clear hex
        obtain ⟨i0, hi0, hi1⟩ := Option.map_eq_some_iff.1 sum_info
        simp only [Prod.mk.injEq] at hi1
        obtain ⟨hz0, hz1', hz2'⟩ := hi1
        have HI := Lib.hid (And.intro hi0 (And.intro hz0 (And.intro hz1' hz2')))
        have HLV := Lib.hid hlv
        have HL1 := Lib.hid hl1
        clear hi0 hz0 hz1' hz2' hlv hl1 hlf
        have hsw := HOS.out.bel.size
        have hbl := HOS.out.box.lt
        go_upto_region 9 with (first | (go_at_call 37; refine (HSK.out _).mono ?_; rintro e w1 ⟨rfl, rfl⟩))
        have c2 : wr.cell? ⟨w.heap.size + 1, 2, none⟩ = some (.slice A1 k c1) := HOS.out.box.cell 2
        refine wp_region_any (by kernel_rfl) ?_
        refine wpAny_take (i := 0) (v := .pointer (some ⟨w.heap.size + 1, 2, none⟩)) rfl (by kernel_rfl) (by kernel_rfl) (by kernel_rfl) (fun _ _ _ h => h) (Or.inl ⟨by rfl, fun w' => ?_⟩) ?_
        · go_simp
        refine wpAny_take (i := 2) (v := .string (str xs)) rfl (by kernel_rfl) (by kernel_rfl) (by kernel_rfl) (fun _ _ _ h => h) (Or.inl ⟨by rfl, fun w' => ?_⟩) ?_
        · go_simp
        refine wpAny_take (i := 3) (v := .int .u64 (z : Int)) rfl (by kernel_rfl) (by kernel_rfl) (by kernel_rfl) (fun _ _ _ h => h) (Or.inl ⟨by rfl, fun w' => ?_⟩) ?_
        · go_simp
        refine wpAny_take (i := 4) (v := .int .i64 (z : Int)) rfl (by kernel_rfl) (by kernel_rfl) (by kernel_rfl) (fun _ _ _ h => h) (Or.inl ⟨by rfl, fun w' => ?_⟩) ?_
        · go_simp
        refine wpAny_take (i := 5) (v := .int .u64 (z : Int)) rfl (by kernel_rfl) (by kernel_rfl) (by kernel_rfl) (fun _ _ _ h => h) (Or.inl ⟨by rfl, fun w' => ?_⟩) ?_
        · go_simp
        refine wpAny_take (i := 6) (v := .int .i64 (z : Int)) rfl (by kernel_rfl) (by kernel_rfl) (by kernel_rfl) (fun _ _ _ h => h) (Or.inl ⟨by rfl, fun w' => ?_⟩) ?_
        · go_simp
        refine wpAny_take (i := 7) (v := .int .i64 (lg : Int)) rfl (by kernel_rfl) (by kernel_rfl) (by kernel_rfl) (fun _ _ _ h => h) (Or.inl ⟨by rfl, fun w' => ?_⟩) ?_
        · go_simp
        refine wpAny_take (i := 8) (v := .int .i64 ((z : Int) + (lg : Int))) rfl (by kernel_rfl) (by kernel_rfl) (by kernel_rfl) (fun _ _ _ h => h) (Or.inl ⟨by rfl, fun w' => ?_⟩) ?_
        · go_simp
        refine wpAny_take (i := 9) (v := .string ((str xs).extract z (z + lg))) rfl (by kernel_rfl) (by kernel_rfl) (by kernel_rfl) (fun _ _ _ h => h) (Or.inl ⟨by rfl, fun w' => ?_⟩) ?_
        · go_simp
        simp only [Act.put, List.setIfInBounds_toArray]
        refine wpAny_ready (rs := [1, 10]) (by kernel_rfl) (by simp) ?_
        refine AllReady.cons rfl (fun K hK => ?_) (AllReady.cons rfl (fun K hK => ?_) AllReady.nil)
        · go_simp
          refine hK _ _ ?_
          clear hK K
          refine wpAny_ready (rs := [10]) (by kernel_rfl) (by simp) ?_
          refine AllReady.cons rfl (fun K hK => ?_) AllReady.nil
          go_simp
          refine (HLF.out _ _ HEX.out).mono ?_
          rintro e' w7 ⟨rfl, hB7⟩
          have HB7 : Hid (Below wr.heap.size wr w7) := (⟨hB7.os, hB7.tape, hB7.output, hB7.size, hB7.block⟩ : Below wr.heap.size wr w7)
          have hs7 := HB7.out.size
          have c7 : w7.cell? ⟨w.heap.size + 1, 2, none⟩ = some (.slice A1 k c1) := (HOS.out.box.below HB7.out hbl).cell 2
          have c8 : (w7.alloc (.cells (dcs lf).toArray 25)).cell? ⟨w.heap.size + 1, 2, none⟩ = some (.slice A1 k c1) := ((HOS.out.box.below HB7.out hbl).alloc _).cell 2
          clear hB7
          dsimp only
          refine hK _ _ ?_
          clear hK K
          refine wpAny_ready (rs := [11]) (by kernel_rfl) (by simp) ?_
          refine AllReady.cons rfl (fun K hK => ?_) AllReady.nil
          refine step_lit1 rfl _ 25 _ rfl (dcs lf).toArray rfl 32 (.agg z32) i0 Tryd.underlying22 HI.out.1 HI.out.2.1 HI.out.2.2.1 (by decide) (by decide) (by simp [dcs_len]) ?_
          refine hK _ _ ?_
          clear hK K
          refine wpAny_ready (rs := [12]) (by kernel_rfl) (by simp) ?_
          refine AllReady.cons rfl (fun K hK => ?_) AllReady.nil
          refine step_appR (v := .slice A1 k c1) (A := some ⟨w7.heap.size, 0, none⟩) (m := 1) (c := 1) dcs_len (by decide) dcs_one _ rfl _ _ 22 rfl i0 (.agg z32) 32 Tryd.underlying22 HI.out.1 HI.out.2.1 HI.out.2.2.1 HI.out.2.2.2 (by decide) (by decide) (by kernel_rfl) ((HOS.out.own.below HB7.out (Nat.le_refl _)).alloc _) (by kernel_rfl) (datR_one (z := 32) (f := dcs) w7 lf 25 (dcs lf).toArray rfl) rfl (by rw [lvs_len]; omega) (by rw [World.size_alloc]; omega) ?_
          intro v8 w8 ho hgr hat
          rw [← HLV.out] at ho
          have HAP := Lib.hid (HOS.out.app HB7.out hgr)
          obtain ⟨A8, n8, c9, rfl⟩ := ho.slice
          have hn8 := ho.len
          rw [lvs_len] at hn8
          subst hn8
          have HO8 := Lib.hid ho
          obtain ⟨f8, hb8⟩ := HAP.out
          have HX8 := Lib.hid hb8
          have s8 := hb8.1.cell 2
          have t8 := hb8.1.free 2
          refine hK _ _ ?_
          clear hK K ho hgr hat
          refine wpAny_ready (rs := [13]) (by kernel_rfl) (by simp) ?_
          refine AllReady.cons rfl (fun K hK => ?_) AllReady.nil
          go_simp
          refine hK _ _ ?_
          clear hK K
          refine wpAny_ready (rs := [14]) (by kernel_rfl) (by simp) ?_
          refine AllReady.cons rfl (fun K hK => ?_) AllReady.nil
          go_simp
          refine hK _ _ ?_
          clear hK K
          refine wpAny_done (by kernel_rfl) ?_ _
          go_wp2_with fail
          go_roundg (n - (k + 1))
          case measure => omega
          case rel => exact ⟨k + 1, _, _, by omega, by go_num, OSr.next HX8.out HO8.out⟩
        · go_simp
          refine (HLF.out _ _ HEX.out).mono ?_
          rintro e' w7 ⟨rfl, hB7⟩
          have HB7 : Hid (Below wr.heap.size wr w7) := (⟨hB7.os, hB7.tape, hB7.output, hB7.size, hB7.block⟩ : Below wr.heap.size wr w7)
          have hs7 := HB7.out.size
          have c7 : w7.cell? ⟨w.heap.size + 1, 2, none⟩ = some (.slice A1 k c1) := (HOS.out.box.below HB7.out hbl).cell 2
          have c8 : (w7.alloc (.cells (dcs lf).toArray 25)).cell? ⟨w.heap.size + 1, 2, none⟩ = some (.slice A1 k c1) := ((HOS.out.box.below HB7.out hbl).alloc _).cell 2
          clear hB7
          dsimp only
          refine hK _ _ ?_
          clear hK K
          refine wpAny_ready (rs := [1, 11]) (by kernel_rfl) (by simp) ?_
          refine AllReady.cons rfl (fun K hK => ?_) (AllReady.cons rfl (fun K hK => ?_) AllReady.nil)
          · go_simp
            refine hK _ _ ?_
            clear hK K
            refine wpAny_ready (rs := [11]) (by kernel_rfl) (by simp) ?_
            refine AllReady.cons rfl (fun K hK => ?_) AllReady.nil
            refine step_lit1 rfl _ 25 _ rfl (dcs lf).toArray rfl 32 (.agg z32) i0 Tryd.underlying22 HI.out.1 HI.out.2.1 HI.out.2.2.1 (by decide) (by decide) (by simp [dcs_len]) ?_
            refine hK _ _ ?_
            clear hK K
            refine wpAny_ready (rs := [12]) (by kernel_rfl) (by simp) ?_
            refine AllReady.cons rfl (fun K hK => ?_) AllReady.nil
            refine step_appR (v := .slice A1 k c1) (A := some ⟨w7.heap.size, 0, none⟩) (m := 1) (c := 1) dcs_len (by decide) dcs_one _ rfl _ _ 22 rfl i0 (.agg z32) 32 Tryd.underlying22 HI.out.1 HI.out.2.1 HI.out.2.2.1 HI.out.2.2.2 (by decide) (by decide) (by kernel_rfl) ((HOS.out.own.below HB7.out (Nat.le_refl _)).alloc _) (by kernel_rfl) (datR_one (z := 32) (f := dcs) w7 lf 25 (dcs lf).toArray rfl) rfl (by rw [lvs_len]; omega) (by rw [World.size_alloc]; omega) ?_
            intro v8 w8 ho hgr hat
            rw [← HLV.out] at ho
            have HAP := Lib.hid (HOS.out.app HB7.out hgr)
            obtain ⟨A8, n8, c9, rfl⟩ := ho.slice
            have hn8 := ho.len
            rw [lvs_len] at hn8
            subst hn8
            have HO8 := Lib.hid ho
            obtain ⟨f8, hb8⟩ := HAP.out
            have HX8 := Lib.hid hb8
            have s8 := hb8.1.cell 2
            have t8 := hb8.1.free 2
            refine hK _ _ ?_
            clear hK K ho hgr hat
            refine wpAny_ready (rs := [13]) (by kernel_rfl) (by simp) ?_
            refine AllReady.cons rfl (fun K hK => ?_) AllReady.nil
            go_simp
            refine hK _ _ ?_
            clear hK K
            refine wpAny_ready (rs := [14]) (by kernel_rfl) (by simp) ?_
            refine AllReady.cons rfl (fun K hK => ?_) AllReady.nil
            go_simp
            refine hK _ _ ?_
            clear hK K
            refine wpAny_done (by kernel_rfl) ?_ _
            go_wp2_with fail
            go_roundg (n - (k + 1))
            case measure => omega
            case rel => exact ⟨k + 1, _, _, by omega, by go_num, OSr.next HX8.out HO8.out⟩
          · refine step_lit1 rfl _ 25 _ rfl (dcs lf).toArray rfl 32 (.agg z32) i0 Tryd.underlying22 HI.out.1 HI.out.2.1 HI.out.2.2.1 (by decide) (by decide) (by simp [dcs_len]) ?_
            refine hK _ _ ?_
            clear hK K
            refine wpAny_ready (rs := [1]) (by kernel_rfl) (by simp) ?_
            refine AllReady.cons rfl (fun K hK => ?_) AllReady.nil
            go_simp
            refine hK _ _ ?_
            clear hK K
            refine wpAny_ready (rs := [12]) (by kernel_rfl) (by simp) ?_
            refine AllReady.cons rfl (fun K hK => ?_) AllReady.nil
            refine step_appR (v := .slice A1 k c1) (A := some ⟨w7.heap.size, 0, none⟩) (m := 1) (c := 1) dcs_len (by decide) dcs_one _ rfl _ _ 22 rfl i0 (.agg z32) 32 Tryd.underlying22 HI.out.1 HI.out.2.1 HI.out.2.2.1 HI.out.2.2.2 (by decide) (by decide) (by kernel_rfl) ((HOS.out.own.below HB7.out (Nat.le_refl _)).alloc _) (by kernel_rfl) (datR_one (z := 32) (f := dcs) w7 lf 25 (dcs lf).toArray rfl) rfl (by rw [lvs_len]; omega) (by rw [World.size_alloc]; omega) ?_
            intro v8 w8 ho hgr hat
            rw [← HLV.out] at ho
            have HAP := Lib.hid (HOS.out.app HB7.out hgr)
            obtain ⟨A8, n8, c9, rfl⟩ := ho.slice
            have hn8 := ho.len
            rw [lvs_len] at hn8
            subst hn8
            have HO8 := Lib.hid ho
            obtain ⟨f8, hb8⟩ := HAP.out
            have HX8 := Lib.hid hb8
            have s8 := hb8.1.cell 2
            have t8 := hb8.1.free 2
            refine hK _ _ ?_
            clear hK K ho hgr hat
            refine wpAny_ready (rs := [13]) (by kernel_rfl) (by simp) ?_
            refine AllReady.cons rfl (fun K hK => ?_) AllReady.nil
            go_simp
            refine hK _ _ ?_
            clear hK K
            refine wpAny_ready (rs := [14]) (by kernel_rfl) (by simp) ?_
            refine AllReady.cons rfl (fun K hK => ?_) AllReady.nil
            go_simp
            refine hK _ _ ?_
            clear hK K
            refine wpAny_done (by kernel_rfl) ?_ _
            go_wp2_with fail
            go_roundg (n - (k + 1))
            case measure => omega
            case rel => exact ⟨k + 1, _, _, by omega, by go_num, OSr.next HX8.out HO8.out⟩
      · have hkni : ¬ (k : Int) < (n : Int) := by omega
        obtain rfl : k = n := by omega
        have HXB : Hid (Box wr (w.heap.size + 1) 39 #[.int .u64 (m : Int), .int .u32 (p : Int), .slice A1 k c1]) := HOS.out.box
        have HRB : Hid (Box wr w.heap.size 39 #[.int .u64 0, .int .u32 0, .slice none 0 0]) := HOS.out.res
        go_wp2_with (first
          | (refine wpList_load_row rfl 39 _ rfl (w.heap.size + 1) rfl 39 #[.int .u64 (m : Int), .int .u32 (p : Int), .slice A1 k c1] (0, 0) _ HXB.out Tryd.underlying39 rfl (by kernel_rfl) ?_)
          | (refine wpList_store_row rfl 39 _ _ rfl w.heap.size #[.int .u64 (m : Int), .int .u32 (p : Int), .slice A1 k c1] rfl rfl 39 _ HRB.out (by kernel_rfl) (by kernel_rfl) (by kernel_rfl) ?_))
        refine bodyPost_ret (v := .tuple #[.agg #[.int .u64 (m : Int), .int .u32 (p : Int), .slice A1 k c1], .int .i64 0]) (results_cell_tmp Tryd.results18 _ _ w.heap.size 39 #[.int .u64 (m : Int), .int .u32 (p : Int), .slice A1 k c1] (0, 0) _ (.int .i64 0) rfl rfl (setRow_heap _ _ _ _ _ _ HRB.out) Tryd.underlying39 rfl (by kernel_rfl)) rfl ?_
        have hd := HOS.out.own.dat dcs_len
        have hcp := HOS.out.own.cap dcs_len
        refine ⟨below_row HOS.out.bel (Nat.le_refl _) _, .inl ⟨p, k, A1, c1, rfl, by rw [HM.out]; exact HCE.out, by rw [HM.out], hcp, ?_⟩⟩
        refine (DatR.keep hd (fun j h1 _ => setRow_other _ _ _ _ (by omega))).mono (by omega) ?_
        simp [World.setRow]
  · have hne : (ce != 0) = true := by rw [bne_iff_ne]; exact he
    have HNE := Lib.hid he
    have HCE := Lib.hid hce
    have hmx := HM.out
    clear hm hcn hce z35 he HZ35 hmx
    go_enter Tryd.func18, Tryd.ntmps18
    go_wp2_with (first
      | (go_at_call 36; refine (HCT.out _).mono ?_; rintro e w1 ⟨rfl, rfl⟩)
      | (refine wpList_build rfl 39 _ rfl (cells := #[.int .u64 0, .int .u32 0, .slice none 0 0]) (by kernel_rfl) ?_)
      | (refine wpList_store_row rfl 39 _ _ rfl w.heap.size #[.int .u64 0, .int .u32 0, .slice none 0 0] rfl rfl 39 _ HR0.out (by kernel_rfl) (by kernel_rfl) (by kernel_rfl) ?_))
    refine bodyPost_ret (v := .tuple #[.agg #[.int .u64 0, .int .u32 0, .slice none 0 0], .int .i64 ce]) (results_cell_tmp Tryd.results18 _ _ w.heap.size 39 #[.int .u64 0, .int .u32 0, .slice none 0 0] (0, 0) _ (.int .i64 ce) rfl rfl (setRow_heap _ _ _ _ _ _ HR0.out) Tryd.underlying39 rfl (by kernel_rfl)) rfl ?_
    exact ⟨below_row HB0.out (Nat.le_refl _) _, .inr ⟨by rw [HM.out, ← HCE.out]; exact HNE.out, by rw [HM.out, ← HCE.out]⟩⟩
end Go.Proofs.YtieepdhajjibpaaDoor
