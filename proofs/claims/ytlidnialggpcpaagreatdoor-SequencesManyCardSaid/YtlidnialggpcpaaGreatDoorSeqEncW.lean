
/- The contract of the program's encode. -/
import Derived.Test.YtlidnialggpcpaaGreatDoorSeqEnc
namespace Go.Proofs.YtlidnialggpcpaaGreatDoor
open Go.RowKit

/-- What encode answers. -/
def EncPost (qs : List Sq) (w : World) (e : Ending) (w' : World) : Prop :=
  Below w.heap.size w w' ∧ ((∀ q ∈ qs, okQ q = true) ∧ (∃ v, e = .returned (.tuple #[v, .int .i64 0]) ∧ OwR 9 Cq.list w' 146 w.heap.size v (qs.map cqOf)) ∨
    (¬ ∀ q ∈ qs, okQ q = true) ∧ e = .returned (.tuple #[.slice none 0 0, .int .i64 1]))
theorem index_nums (a b c : Int) (q : Sq) {k : Nat} (hk : k < 3) (W : World) (ha : a = (q.l : Int)) (hb : b = (q.o : Int)) (hc : c = (q.m : Int)) :
    (Instr.index 142 (.agg #[.int .u32 a, .int .u32 b, .int .u32 c]) (.int .i64 (k : Int))).run Tryz.prog W = .ok (.int .u32 (q.at k : Int)) W := by
  obtain ⟨i0, hi0, hi1⟩ := Option.map_eq_some_iff.1 (show (Tryz.prog.info? 43).map (fun i => (i.zero, i.size, i.bytes)) = some (some (.int .u32 0), 1, 4) by kernel_rfl)
  simp only [Prod.mk.injEq] at hi1
  obtain ⟨hz0, hz1, hz2⟩ := hi1
  subst ha hb hc
  rcases (show k = 0 ∨ k = 1 ∨ k = 2 by omega) with rfl | rfl | rfl <;> simp [Instr.index, run_underlying Tryz.underlying142, asIntOf, sizeOf, typeInfo, part, go_sem, hi0, hz1, Sq.at]
section
variable {B : Nat} {w : World} {lo hi n c : Nat} {A : Option Addr} {qs : List Sq}
/-- What stands in encode when i sequences have been coded, and k values of the next. -/
structure EnI (B : Nat) (w wx : World) (lo hi : Nat) (A : Option Addr) (qs : List Sq) (d i k : Nat) : Prop where
  gs : GS B wx
  da : DatR 3 scell wx lo hi A qs
  ow : OwR 9 Cq.list wx 146 w.heap.size (.slice (some ⟨d, 0, none⟩) qs.length qs.length) (encR qs i k)
  be : Below w.heap.size w wx
  ok : ∀ j (h : j < qs.length), j < i → okQ qs[j] = true
set_option maxRecDepth 100000 in
set_option maxHeartbeats 4000000 in
theorem encode_any (hgl : GS B w) (hd : DatR 3 scell w lo hi A qs) (hhi : hi ≤ w.heap.size) (hn : qs.length = n) (hn2 : n ≤ 100000) (hsm : ∀ q ∈ qs, q.Small) :
    Calls Tryz.prog 32 #[.slice A n c] w (EncPost qs w) := by
  have hBw := hgl.size
  have HG := Lib.hid hgl
  have HD := Lib.hid hd
  have HN := Lib.hid hn
  have HSm := Lib.hid hsm
  obtain ⟨i0, hi0, hi1⟩ := Option.map_eq_some_iff.1 coded_info
  simp only [Prod.mk.injEq] at hi1
  obtain ⟨hq0, hq1, hq2⟩ := hi1
  have HI := Lib.hid (And.intro hi0 (And.intro hq0 (And.intro hq1 hq2)))
  clear hgl hd hn hsm hi0 hq0 hq1 hq2
  go_enter Tryz.func32, Tryz.ntmps32
  go_wp2_with (at_make; refine wpList_make_full _ rfl _ _ 90 rfl w.heap.size 146 i0 (.agg #[.int .i64 0, .int .u32 0, .int .i64 0, .int .i64 0, .int .u32 0, .int .i64 0, .int .i64 0, .int .u32 0, .int .i64 0]) 9 Tryz.underlying90 HI.out.1 HI.out.2.1 HI.out.2.2.1 .i64 .i64 _ _ n rfl rfl rfl rfl ?_ ?_ ?_ ?_)
  · rw [HI.out.2.2.2]; omega
  · unfold maxLen; omega
  · exact Nat.le_refl _
  intro w1 ho hg
  have ho1 := OwR.made (f := Cq.list) (x := (⟨⟨0, 0, 0⟩, ⟨0, 0, 0⟩, ⟨0, 0, 0⟩⟩ : Cq)) Cq.list_len (by decide) rfl ho
  have hb1 : Below w.heap.size w w1 := (Below.refl _ _).grown hg (Nat.le_refl _) (by simp)
  obtain ⟨d, hd⟩ : ∃ d, d = w.heap.size := ⟨_, rfl⟩
  have HE0 : Hid (EnI B w w1 lo hi A qs d 0 0) := by
    refine ⟨HG.out.below hb1 hBw, HD.out.below hb1 hhi, ?_, hb1, fun j _ h => absurd h (by omega)⟩
    rw [encR_zero, hd, HN.out]
    exact ho1
  have hdz : d < w1.heap.size := by have := (ho1.block w.heap.size rfl).2; omega
  rw [← hd]
  have hdw : w.heap.size ≤ d := by omega
  clear ho ho1 hg hb1 HG HD HI hd
  go_wp2_with fail
  go_loopg [5, 6, 7, 8, 9, 10, 11, 12, 13, 14, 15, 21, 34] n (fun gh i5 i6 i7 i8 i9 i10 i11 i12 i13 i14 i15 ii i34 wx => ∃ i : Nat, i + gh = n ∧ ii = .int .i64 (i : Int) ∧ d < wx.heap.size ∧ Hid (EnI B w wx lo hi A qs d i 0))
  case atStart => exact ⟨0, by omega, rfl, hdz, HE0⟩
  case round =>
    obtain ⟨i, hi', rfl, hdx, HE⟩ := hrel
    have HK := Lib.hid hi'
    have hin : i ≤ n := by omega
    clear hi' HE0
    by_cases hlt : i < n
    · obtain ⟨g', rfl⟩ : ∃ g', gk = g' + 1 := ⟨gk - 1, by have := HK.out; omega⟩
      have hki : (i : Int) < (n : Int) := by omega
      have hil : i < qs.length := by have := HN.out; omega
      obtain ⟨dd, oo, rfl, hd1, hd2, hc⟩ := HE.out.da.seq (by omega)
      obtain ⟨x0, x1, x2⟩ := hc i hil
      have hqs : qs.getD i ⟨0, 0, 0⟩ = qs[i] := by rw [List.getD_eq_getElem?_getD, List.getElem?_eq_getElem hil]; rfl
      have hsmall := HSm.out qs[i] (List.getElem_mem hil)
      obtain ⟨q, hq⟩ : ∃ q, q = qs[i] := ⟨_, rfl⟩
      rw [← hq] at x0 x1 x2 hqs hsmall
      have HQ := Lib.hid (And.intro hq hqs)
      obtain ⟨hs0, hs1, hs2⟩ := hsmall
      obtain ⟨V1, hV1⟩ : ∃ V1, V1 = wr.alloc (.cells #[.int .u32 (q.l : Int), .int .u32 (q.m : Int), .int .u32 (q.o : Int)] 47) := ⟨_, rfl⟩
      have hbv1 : Below wr.heap.size wr V1 := by rw [hV1]; exact (Below.refl _ _).alloc (Nat.le_refl _) _
      have hxv1 : Box V1 wr.heap.size 47 #[.int .u32 (q.l : Int), .int .u32 (q.m : Int), .int .u32 (q.o : Int)] := by rw [hV1]; exact Box.new wr _ _
      have y0 := hxv1.cell 0
      have y1 := hxv1.cell 1
      have y2 := hxv1.cell 2
      simp at y0 y1 y2
      obtain ⟨V2, hV2⟩ : ∃ V2, V2 = V1.alloc (.cells #[.int .u32 (q.l : Int), .int .u32 (q.o : Int), .int .u32 (q.m : Int)] 142) := ⟨_, rfl⟩
      have hbv2 : Below wr.heap.size wr V2 := by rw [hV2]; exact hbv1.alloc hbv1.size _
      have hxv2 : Box V2 V1.heap.size 142 #[.int .u32 (q.l : Int), .int .u32 (q.o : Int), .int .u32 (q.m : Int)] := by rw [hV2]; exact Box.new V1 _ _
      have z0 := hxv2.cell 0
      have z1 := hxv2.cell 1
      have z2 := hxv2.cell 2
      simp at z0 z1 z2
      have HE2 : Hid (EnI B w V2 lo hi (some ⟨dd, oo, none⟩) qs d i 0) :=
        ⟨HE.out.gs.below hbv2 HE.out.gs.size, HE.out.da.below hbv2 (by have := HE.out.be.size; omega), HE.out.ow.below hbv2 (Nat.le_refl _), HE.out.be.trans (hbv2.mono HE.out.be.size), HE.out.ok⟩
      have hdV : d < V2.heap.size := by have := hbv2.size; omega
      clear hxv1 hxv2 hbv1 hbv2 hc hq hqs HE
      go_upto_region 5 with (fail)
      rw [← hV1]
      clear hV1 x0 x1 x2
      go_upto_region 6 with (fail)
      rw [← hV2]
      clear hV2 y0 y1 y2
      go_wp2_with fail
      clear z0 z1 z2
      go_loopg [8, 9, 10, 11, 12, 13, 14, 15, 34] 3 (fun gh i8 i9 i10 i11 i12 i13 i14 i15 i34 wx => ∃ k : Nat, k + gh = 3 ∧ i34 = .int .i64 (k : Int) ∧ d < wx.heap.size ∧ Hid (EnI B w wx lo hi (some ⟨dd, oo, none⟩) qs d i k ∧ ∀ j, j < k → (cd.ofN (j : Int) (q.at j)).2.2 = 0))
      case atStart => exact ⟨0, rfl, rfl, hdV, Lib.hid ⟨HE2.out, fun j h => absurd h (by omega)⟩⟩
      case round =>
        obtain ⟨k, hk', rfl, hdx2, HE⟩ := hrel
        have HK2 := Lib.hid hk'
        have hk3 : k ≤ 3 := by omega
        clear hk' HE2
        by_cases hlt2 : k < 3
        · obtain ⟨g2, rfl⟩ : ∃ g2, gk = g2 + 1 := ⟨gk - 1, by have := HK2.out; omega⟩
          have hkk : (k : Int) < 3 := by omega
          have hvi := fun W => index_nums (q.l : Int) (q.o : Int) (q.m : Int) q hlt2 W rfl rfl rfl
          have hvs : q.at k < 4294967296 := by
            rcases (show k = 0 ∨ k = 1 ∨ k = 2 by omega) with rfl | rfl | rfl
            · exact hs0
            · exact hs2
            · exact hs1
          have HOf : Hid (∀ W, cd.Glob W → Calls Tryz.prog 63 #[.int .i64 (k : Int), .int .u32 (q.at k : Int)] W fun e w' => e = .returned (.tuple #[.int .i64 ((cd.ofN (k : Int) (q.at k)).1 : Int), .int .u32 ((cd.ofN (k : Int) (q.at k)).2.1 : Int), .int .i64 ((cd.ofN (k : Int) (q.at k)).2.2 : Int)]) ∧ W = w') := fun W hW => cd.of_any (k : Int) (q.at k) W hW hvs
          by_cases herr : (cd.ofN (k : Int) (q.at k)).2.2 = 0
          · obtain ⟨hcv, _⟩ := cvOf_ok hlt2 herr
            have hcc := hcv.c
            have hcode : cd.codeN (k : Int) ((cvOf k (q.at k)).c : Int) = (cd.beginN k (cvOf k (q.at k)).c, (cvOf k (q.at k)).b, 0) := by
              unfold cd.codeN
              rw [if_neg (by omega), show ((k : Nat) : Int).toNat = k by omega, show (((cvOf k (q.at k)).c : Nat) : Int).toNat = (cvOf k (q.at k)).c by omega, if_neg (by have : cd.lastN k = lastN k := rfl; omega), hcv.b]
            have HCd : Hid (∀ W, cd.Glob W → Calls Tryz.prog 64 #[.int .i64 (k : Int), .int .i64 ((cvOf k (q.at k)).c : Int)] W fun e w' => e = .returned (.tuple #[.int .u32 (cd.beginN k (cvOf k (q.at k)).c : Int), .int .i64 ((cvOf k (q.at k)).b : Int), .int .i64 0]) ∧ Below W.heap.size W w') := fun W hW => by
              have := cd.code_any (k : Int) ((cvOf k (q.at k)).c : Int) W hW
              rw [hcode] at this
              exact this
            obtain ⟨cv, hcveq⟩ : ∃ cv, cv = cvOf k (q.at k) := ⟨_, rfl⟩
            have e1 : (cd.ofN (k : Int) (q.at k)).1 = cv.c := by rw [hcveq]; rfl
            have e2 : (cd.ofN (k : Int) (q.at k)).2.1 = cv.x := by rw [hcveq]; rfl
            rw [e1, e2, herr] at HOf
            rw [← hcveq] at HCd
            have hcat : (cqOf q).at k = cv := by rw [cqOf_at q hlt2, hcveq]
            have HCat := Lib.hid (And.intro hcat herr)
            clear hcode hcv hcc hcveq e1 e2 hcat herr
            go_wp2_with (refine (HOf.out _ HE.out.1.gs.c).mono ?_; rintro e' w' ⟨rfl, rfl⟩)
            refine (HCd.out _ HE.out.1.gs.c).mono ?_
            rintro e w3 ⟨rfl, hB3⟩
            have hgs3 := HE.out.1.gs.below hB3 HE.out.1.gs.size
            have hda3 := HE.out.1.da.below hB3 (by have := HE.out.1.be.size; omega)
            have how3 := HE.out.1.ow.below hB3 (Nat.le_refl _)
            have hbe3 := HE.out.1.be.trans (hB3.mono HE.out.1.be.size)
            have hil2 : i < (encR qs i k).length := by rw [encR_len]; exact hil
            have hri : (encR qs i k)[i] = (cqOf q).part k := by
              rw [encR_get, if_neg (by omega), if_pos rfl, HQ.out.2]
            obtain ⟨⟨v0, v1, v2, m0, m1, m2⟩, f0, f1, f2⟩ := how3.cellsC i k hil2 hlt2
            have hput := how3.putC i k hil2 hlt2 (cqOf q) hri
            have hset := encR_set qs i k hil
            rw [HQ.out.2] at hset
            rw [hset, HCat.out.1] at hput
            have hz3 := hB3.size
            have HF : Hid (EnI B w (((w3.setCell ⟨d, i * 9 + k * 3, none⟩ (.int .i64 (cv.c : Int))).setCell ⟨d, i * 9 + k * 3 + 1, none⟩ (.int .u32 (cv.x : Int))).setCell ⟨d, i * 9 + k * 3 + 2, none⟩ (.int .i64 (cv.b : Int))) lo hi (some ⟨dd, oo, none⟩) qs d i (k + 1) ∧ ∀ j, j < k + 1 → (cd.ofN (j : Int) (q.at j)).2.2 = 0) := by
              have hn : ∀ j, j ≠ d → (((w3.setCell ⟨d, i * 9 + k * 3, none⟩ (.int .i64 (cv.c : Int))).setCell ⟨d, i * 9 + k * 3 + 1, none⟩ (.int .u32 (cv.x : Int))).setCell ⟨d, i * 9 + k * 3 + 2, none⟩ (.int .i64 (cv.b : Int))).heap[j]? = w3.heap[j]? := fun j hj => by
                rw [Below.heap_setCell _ _ _ j hj, Below.heap_setCell _ _ _ j hj, Below.heap_setCell _ _ _ j hj]
              refine ⟨⟨hgs3.keep (fun j hj => hn j (by omega)) (by simp [World.setCell]), hda3.keep fun j _ hj => hn j (by omega), hput, ((hbe3.setCell (show w.heap.size ≤ d from hdw) _).setCell (show w.heap.size ≤ d from hdw) _).setCell (show w.heap.size ≤ d from hdw) _, HE.out.1.ok⟩, fun j hj => ?_⟩
              by_cases e : j = k
              · rw [e]; exact HCat.out.2
              · exact HE.out.2 j (by omega)
            have hin2 : (i : Int) < (n : Int) := hki
            clear hgs3 hda3 how3 hbe3 hri hput hset hB3 HE HOf HCd hvi
            go_wp2_with fail
            go_roundg g2
            case rel => exact ⟨k + 1, by have := HK2.out; omega, by go_num, by simp [World.setCell]; omega, HF⟩
            case measure => omega
          · have herr2 : (((cd.ofN (k : Int) (q.at k)).2.2 : Int) != 0) = true := by simp; omega
            have HBe := Lib.hid HE.out.1.be
            have HNo : Hid (¬ ∀ q ∈ qs, okQ q = true) := Lib.hid fun h => by
              have h1 := h q (by rw [HQ.out.1]; exact List.getElem_mem hil)
              exact herr (okQ_at h1 hlt2)
            generalize (cd.ofN (k : Int) (q.at k)).2.2 = er at *
            go_wp2_with (refine (HOf.out _ HE.out.1.gs.c).mono ?_; rintro e' w' ⟨rfl, rfl⟩)
            go_ret2
            exact ⟨HBe.out, .inr ⟨HNo.out, rfl⟩⟩
        · obtain rfl : k = 3 := by omega
          have hkk : ¬ (3 : Int) < 3 := by omega
          have HF : Hid (EnI B w wr lo hi (some ⟨dd, oo, none⟩) qs d (i + 1) 0) := by
            refine ⟨HE.out.1.gs, HE.out.1.da, ?_, HE.out.1.be, fun j hj hj2 => ?_⟩
            · rw [← encR_next]; exact HE.out.1.ow
            · by_cases e : j = i
              · subst e
                have : qs[j] = q := HQ.out.1.symm
                rw [this]
                unfold okQ
                exact decide_eq_true ⟨HE.out.2 0 (by omega), HE.out.2 1 (by omega), HE.out.2 2 (by omega)⟩
              · exact HE.out.1.ok j hj (by omega)
          clear HE
          go_wp2_with fail
          go_roundg g'
          case rel => exact ⟨i + 1, by have := HK.out; omega, by go_num, hdx2, HF⟩
          case measure => omega
    · obtain rfl : i = n := by omega
      have hki : ¬ (i : Int) < (i : Int) := by omega
      have how := HE.out.ow
      rw [show encR qs i 0 = qs.map cqOf by rw [← HN.out]; exact encR_all qs, HN.out] at how
      have HF : Hid (Below w.heap.size w wr ∧ OwR 9 Cq.list wr 146 w.heap.size (.slice (some ⟨d, 0, none⟩) i i) (qs.map cqOf) ∧ ∀ q ∈ qs, okQ q = true) := by
        refine ⟨HE.out.be, how, fun q hq => ?_⟩
        obtain ⟨j, hj, rfl⟩ := List.getElem_of_mem hq
        exact HE.out.ok j hj (by have := HN.out; omega)
      clear how HE
      go_wp2_with fail
      go_ret2
      exact ⟨HF.out.1, .inl ⟨HF.out.2.2, _, rfl, HF.out.2.1⟩⟩
end
end Go.Proofs.YtlidnialggpcpaaGreatDoor
