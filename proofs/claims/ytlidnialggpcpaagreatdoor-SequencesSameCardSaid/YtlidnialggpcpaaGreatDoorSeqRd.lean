
/- The contract of the program's read: the sequences that bits tell. Made by gen-SeqRd.py. -/
import Derived.Test.YtlidnialggpcpaaGreatDoorSeqSmall
namespace Go.Proofs.YtlidnialggpcpaaGreatDoor
open Go.RowKit

/-- What read answers. -/
def RdPost (R : Except Int (List Sq)) (w : World) (e : Ending) (w' : World) : Prop :=
  Below w.heap.size w w' ∧ match R with
    | .error er => e = .returned (.tuple #[.slice none 0 0, .int .i64 er])
    | .ok q => ∃ v, e = .returned (.tuple #[v, .int .i64 0]) ∧ OwR 3 scell w' 47 w.heap.size v q
theorem body_no {ys : List UInt8} {T : T3} {n : Nat} (h : noBack ys = true) : bodyS ys T n = .error 11 := by unfold bodyS; rw [if_pos h]

section
variable {B : Nat} {w : World} {hi n : Nat} {ys : List UInt8} {x : Ts} {T : T3} {own : Bool} {lo2 hi2 m c : Nat} {A : Option Addr}
/-- What stands in the loop of read when k sequences have been read. -/
structure RdI (B : Nat) (w wx : World) (lo g a d hi n : Nat) (ys : List UInt8) (x : Ts) (T : T3) (r : Rn) : Prop where
  gs : GS B wx
  bw : BW wx lo g ys r.left
  ti : TsIn wx hi x T
  bt : Box wx w.heap.size 29 x.cells
  ba : Box wx a 120 r.s.cells
  ow : OwR 3 scell wx 47 w.heap.size (.slice (some ⟨d, 0, none⟩) n n) (upto r.q n)
  be : Below w.heap.size w wx
set_option maxRecDepth 100000 in
set_option maxHeartbeats 4000000 in
theorem rd_any (hgl : GS B w) (hx : TsIn w hi x T) (hhi : hi ≤ w.heap.size) (hT : T3Ok T) (hn0 : 0 < n) (hn : n ≤ 98047) (hd : Dat own w lo2 hi2 A ys) (hhi2 : hi2 ≤ w.heap.size) (hm : ys.length = m) (hy : ys.length ≤ 1000000000) :
    Calls Tryz.prog 21 #[x.val, .int .i64 (n : Int), .slice A m c] w (RdPost (bodyS ys T n) w) := by
  obtain ⟨W, hW⟩ : ∃ W, W = w.alloc (.cells x.cells 29) := ⟨_, rfl⟩
  have hWs : W.heap.size = w.heap.size + 1 := by rw [hW]; simp
  have HB0 : Hid (Below w.heap.size w W) := by rw [hW]; exact (Below.refl _ _).alloc (Nat.le_refl _) _
  have HX0 : Hid (Box W w.heap.size 29 x.cells) := by rw [hW]; exact Box.new w _ _
  have hdW := hd.below HB0.out hhi2
  cases hno : noBack ys with
  | true =>
    rw [body_no hno]
    have HN := Lib.hid (newBack_no (c := c) hdW hm (by omega) hno)
    clear hd hdW hm hx hT hgl hno
    unfold Ts.val
    go_enter Tryz.func21, Tryz.ntmps21
    go_upto_region 1 with (fail)
    change Code.wp _ _ _ _ (w.alloc (.cells x.cells 29))
    rw [← hW]
    clear hW
    go_wp2_with fail
    refine HN.out.mono ?_
    rintro e w1 ⟨rfl, rfl⟩
    go_wp2_with fail
    go_ret2
    exact ⟨HB0.out, rfl⟩
  | false =>
    have HN := Lib.hid (newBack_yes (c := c) hdW hm (by omega) (by omega) hno)
    have htop := top_lt ys (by
      rcases Nat.eq_zero_or_pos ys.length with e | e
      · rw [show noBack ys = true by simp [noBack, e]] at hno; cases hno
      · exact e)
    have hbody : bodyS ys T n = if (runS ys T (startv ys T (top ys : Int)) n).left < 0 then .error 11 else if 0 < (runS ys T (startv ys T (top ys : Int)) n).left then .error 15 else .ok (runS ys T (startv ys T (top ys : Int)) n).q := by unfold bodyS; rw [if_neg (by rw [hno]; simp)]
    obtain ⟨R, hR⟩ : ∃ R, R = bodyS ys T n := ⟨_, rfl⟩
    rw [← hR]
    rw [hbody] at hR
    have HX := Lib.hid hx
    have HT := Lib.hid hT
    have HG := Lib.hid hgl
    have hBw := hgl.size
    clear hd hdW hm hx hT hgl hno hbody
    obtain ⟨p, hp⟩ : ∃ p, p = startv ys T (top ys : Int) := ⟨_, rfl⟩
    rw [← hp] at hR
    have HRR := Lib.hid hR
    clear hR
    unfold Ts.val
    go_enter Tryz.func21, Tryz.ntmps21
    go_upto_region 1 with (fail)
    change Code.wp _ _ _ _ (w.alloc (.cells x.cells 29))
    rw [← hW]
    clear hW
    go_wp2_with fail
    refine HN.out.mono ?_
    rintro e w1 ⟨g, rfl, hb1, hB1⟩
    have hg0 := hb1.1
    have hg1 := hb1.lt
    have HB1 := Lib.hid (HB0.out.trans (hB1.mono (by omega)))
    have hx1 := HX0.out.below hB1 (by omega)
    have HX1 := Lib.hid hx1
    have t0 := hx1.cell 0
    have t1 := hx1.cell 1
    have t2 := hx1.cell 2
    have t3 := hx1.cell 3
    have t4 := hx1.cell 4
    have t5 := hx1.cell 5
    simp [Ts.cells] at t0 t1 t2 t3 t4 t5
    have HSt := Lib.hid (startT_any hb1 (by omega) (fun k hk => HX.out.l k hk) (fun k hk => by have := (HT.out.tb hk).lg; omega))
    clear hb1 hB1 hx1 HX0 HB0 HN
    unfold Ts.val at HSt
    go_wp2_with fail
    refine HSt.out.mono ?_
    rintro e w2 ⟨rfl, hb2, hg2⟩
    have hstv := startv_eq ys T (top ys : Int)
    obtain ⟨s0, hs0⟩ : ∃ s0 : St, s0 = ⟨startX ys T (top ys : Int) 0, startX ys T (top ys : Int) 1, startX ys T (top ys : Int) 2⟩ := ⟨_, rfl⟩
    rw [← hs0] at hstv
    have hso : StOk T s0 := by
      have := HT.out.start ys (top ys : Int)
      rw [hstv] at this
      exact this
    have hsl := startL_le ys T (top ys : Int) 3
    obtain ⟨lf, hlf⟩ : ∃ lf, lf = startL ys T (top ys : Int) 3 := ⟨_, rfl⟩
    rw [← hlf] at hstv hsl hb2
    rw [← hp] at hstv
    have hpl : p.2 = lf := by rw [hstv]
    have hpo : StOk T p.1 := by rw [hstv]; exact hso
    have hrn : runS ys T p 0 = ⟨[], s0, lf⟩ := by rw [hstv]; rfl
    have e0 : startX ys T (top ys : Int) 0 = s0.l := by rw [hs0]
    have e1 : startX ys T (top ys : Int) 1 = s0.o := by rw [hs0]
    have e2 : startX ys T (top ys : Int) 2 = s0.m := by rw [hs0]
    rw [e0, e1, e2]
    have hB2 : Below w.heap.size w w2 := HB1.out.grown hg2 HB1.out.size (fun k hk => by injection hk with hk; omega)
    have HB2 := Lib.hid hB2
    have HX2 := Lib.hid (HX1.out.grown hg2 (by intro h; injection h with h; omega))
    have hz2 := hg2.size
    have hz1 := HB1.out.size
    have HB := Lib.hid hb2
    have hgw2 : g < w2.heap.size := by omega
    have HFa := Lib.hid (And.intro hpl (And.intro hpo hrn))
    clear hb2 hB2 hg2 hs0 hlf hp hstv hpl hpo hrn e0 e1 e2 HSt HX1 HB1 t0 t1 t2 t3 t4 t5 hso
    go_upto_region 5 with (fail)
    obtain ⟨W3, hW3⟩ : ∃ W3, W3 = w2.alloc (.cells s0.cells 120) := ⟨_, rfl⟩
    change Code.wp _ _ _ _ (w2.alloc (.cells s0.cells 120))
    rw [← hW3]
    have HZ3 : Hid (W3.heap.size = w2.heap.size + 1) := by rw [hW3]; exact World.size_alloc _ _
    have HA3 : Hid (Box W3 w2.heap.size 120 s0.cells) := by rw [hW3]; exact Box.new w2 _ _
    have HB3 : Hid (BW W3 (w.heap.size + 1) g ys lf) := by rw [hW3, ← hWs]; exact HB.out.keep fun j _ hj => Below.heap_alloc _ _ j (by omega)
    have HX3 : Hid (Box W3 w.heap.size 29 x.cells) := by rw [hW3]; exact HX2.out.alloc _
    have HBz : Hid (Below w.heap.size w W3) := by rw [hW3]; exact HB2.out.alloc HB2.out.size _
    clear hW3 HB HX2 HB2
    obtain ⟨i0, hi0, hi1⟩ := Option.map_eq_some_iff.1 seq_info
    simp only [Prod.mk.injEq] at hi1
    obtain ⟨hq0, hq1, hq2⟩ := hi1
    have HI := Lib.hid (And.intro hi0 (And.intro hq0 (And.intro hq1 hq2)))
    clear hi0 hq0 hq1 hq2
    go_wp2_with (at_make; refine wpList_make_full _ rfl _ _ 24 rfl W3.heap.size 47 i0 (.agg #[.int .u32 0, .int .u32 0, .int .u32 0]) 3 Tryz.underlying24 HI.out.1 HI.out.2.1 HI.out.2.2.1 .i64 .i64 _ _ n rfl rfl rfl rfl ?_ ?_ ?_ ?_)
    · rw [HI.out.2.2.2]; omega
    · unfold maxLen; omega
    · exact Nat.le_refl _
    intro w4 ho hg
    have ho1 := OwR.made (f := scell) (x := (⟨0, 0, 0⟩ : Sq)) scell_len (by decide) rfl ho
    rw [← upto_nil n] at ho1
    have hz4 := hg.size
    have HR0 : Hid (RdI B w w4 (w.heap.size + 1) g w2.heap.size W3.heap.size hi n ys x T (runS ys T p 0)) := by
      rw [HFa.out.2.2]
      have hb4 : Below w.heap.size w w4 := HBz.out.grown hg HBz.out.size (by simp)
      exact ⟨HG.out.below hb4 hBw, HB3.out.keep fun j _ hj => hg.block j (by have := HZ3.out; omega) (by simp), HX.out.below hb4 hhi, HX3.out.grown hg (by simp), HA3.out.grown hg (by simp), ho1.mono (show w.heap.size ≤ W3.heap.size by have := HZ3.out; omega), hb4⟩
    have hW4 : W3.heap.size < w4.heap.size := (ho1.block W3.heap.size rfl).2
    obtain ⟨d, hd⟩ : ∃ d, d = W3.heap.size := ⟨_, rfl⟩
    obtain ⟨a, ha⟩ : ∃ a, a = w2.heap.size := ⟨_, rfl⟩
    rw [← hd, ← ha] at HR0
    rw [← hd, ← ha]
    have had : a < d := by have := HZ3.out; omega
    have hga : g < a := by have := HZ3.out; omega
    have hdz : d < w4.heap.size := by have := HZ3.out; omega
    clear ho ho1 hg HB3 HA3 HX3 HBz HX hd ha hz4 hW4 HI HG
    go_wp2_with fail
    go_loopg [9, 12, 28] n (fun gh i9 i12 i wx => ∃ k : Nat, k + gh = n ∧ i = .int .i64 (k : Int) ∧ d < wx.heap.size ∧ Hid (RdI B w wx (w.heap.size + 1) g a d hi n ys x T (runS ys T p k)))
    case atStart => exact ⟨0, by omega, rfl, hdz, HR0⟩
    case round =>
      obtain ⟨k, hk, rfl, hdx, HR⟩ := hrel
      have HK := Lib.hid hk
      have hkn : k ≤ n := by omega
      have hrl := run_le ys T p k
      rw [HFa.out.1] at hrl
      have hrq := run_len ys T p k
      have hro := run_ok (xs := ys) HT.out HFa.out.2.1 k
      have hrs : runS ys T p (k + 1) = ⟨(runS ys T p k).q ++ [(seqv ys T (preS ys T k (runS ys T p k)).1 (preS ys T k (runS ys T p k)).2).1], (preS ys T k (runS ys T p k)).1, (seqv ys T (preS ys T k (runS ys T p k)).1 (preS ys T k (runS ys T p k)).2).2⟩ := rfl
      clear hk HR0
      by_cases hlt : k < n
      · obtain ⟨g', rfl⟩ : ∃ g', gk = g' + 1 := ⟨gk - 1, by have := HK.out; omega⟩
        have hki : (k : Int) < (n : Int) := by omega
        obtain ⟨r, hr⟩ : ∃ r, r = runS ys T p k := ⟨_, rfl⟩
        rw [← hr] at HR hrl hrq hro hrs
        obtain ⟨q, s, l⟩ := r
        simp only at hrl hrq hro hrs
        have HRs := Lib.hid hrs
        have hgz := HR.out.be.size
        have t0 := HR.out.bt.cell 0
        have t1 := HR.out.bt.cell 1
        have t2 := HR.out.bt.cell 2
        have t3 := HR.out.bt.cell 3
        have t4 := HR.out.bt.cell 4
        have t5 := HR.out.bt.cell 5
        simp [Ts.cells] at t0 t1 t2 t3 t4 t5
        have a0 := HR.out.ba.cell 0
        have a1 := HR.out.ba.cell 1
        have a2 := HR.out.ba.cell 2
        simp [St.cells] at a0 a1 a2
        have HO := Lib.hid (And.intro hrq hro)
        clear hr hrs hrq hro
        by_cases h0 : k = 0
        · have hpre : preS ys T k ⟨q, s, l⟩ = (s, l) := by unfold preS; rw [if_pos h0]
          rw [hpre] at HRs
          have hnp : ¬ (0 : Int) < (k : Int) := by omega
          have HZ := Lib.hid h0
          clear h0 hpre
          have HQ := HR
          have hl5 : -1000000000 ≤ l := by omega
          clear HR t0 t1 t2 t3 t4 t5 a0 a1 a2
          have HSq := Lib.hid (sequence_any (left := l) (s := s) HQ.out.gs HQ.out.bw (by omega) (by omega) HQ.out.ti (by omega) (by omega) HT.out HO.out.2)
          rw [seqv_eq] at HRs
          obtain ⟨q1, hq1⟩ : ∃ q1 : Sq, q1 = ⟨seqX ys T s l 2, seqX ys T s l 1, seqX ys T s l 0⟩ := ⟨_, rfl⟩
          have e0 : seqX ys T s l 2 = q1.l := by rw [hq1]
          have e1 : seqX ys T s l 1 = q1.m := by rw [hq1]
          have e2 : seqX ys T s l 0 = q1.o := by rw [hq1]
          rw [← hq1] at HRs
          rw [e0, e1, e2] at HSq
          obtain ⟨l1, hl1⟩ : ∃ l1, l1 = seqL ys T s l 3 := ⟨_, rfl⟩
          rw [← hl1] at HRs HSq
          unfold Ts.val St.cells at HSq
          have t0 := HQ.out.bt.cell 0
          have t1 := HQ.out.bt.cell 1
          have t2 := HQ.out.bt.cell 2
          have t3 := HQ.out.bt.cell 3
          have t4 := HQ.out.bt.cell 4
          have t5 := HQ.out.bt.cell 5
          simp [Ts.cells] at t0 t1 t2 t3 t4 t5
          have a0 := HQ.out.ba.cell 0
          have a1 := HQ.out.ba.cell 1
          have a2 := HQ.out.ba.cell 2
          simp [St.cells] at a0 a1 a2
          have hqn : k < (upto q n).length := by rw [upto_len q n (by have := HO.out.1; omega)]; exact hlt
          clear hl1 hq1 e0 e1 e2
          go_wp2_with fail
          refine HSq.out.mono ?_
          rintro e wm ⟨rfl, hbm, hgm⟩
          have hom := HQ.out.ow.grown hgm (.inr (by intro h; injection h with h; have h' : d = g := h; omega))
          obtain ⟨⟨z0, z1, z2⟩, y0, y1, y2⟩ := hom.cellsS k hqn
          have hbel : Below w.heap.size w wm := HQ.out.be.grown hgm HQ.out.be.size (fun j hj => by injection hj with hj; omega)
          have hop := hom.putS k hqn q1
          have hups := upto_set q q1 n (by have := HO.out.1; omega)
          rw [HO.out.1] at hups
          rw [show (upto (Rn.mk q s l).q n) = upto q n from rfl, hups] at hop
          have hn : ∀ j, j ≠ d → (((wm.setCell ⟨d, k * 3, none⟩ (.int .u32 (q1.l : Int))).setCell ⟨d, k * 3 + 1, none⟩ (.int .u32 (q1.m : Int))).setCell ⟨d, k * 3 + 2, none⟩ (.int .u32 (q1.o : Int))).heap[j]? = wm.heap[j]? := fun j hj => by
              rw [Below.heap_setCell _ _ _ j hj, Below.heap_setCell _ _ _ j hj, Below.heap_setCell _ _ _ j hj]
          have HF : Hid (RdI B w (((wm.setCell ⟨d, k * 3, none⟩ (.int .u32 (q1.l : Int))).setCell ⟨d, k * 3 + 1, none⟩ (.int .u32 (q1.m : Int))).setCell ⟨d, k * 3 + 2, none⟩ (.int .u32 (q1.o : Int))) (w.heap.size + 1) g a d hi n ys x T ⟨q ++ [q1], s, l1⟩) := by
            refine ⟨(HQ.out.gs.grown hgm (fun j hj => by injection hj with hj; omega)).keep (fun j hj => hn j (by omega)) (by simp [World.setCell]), hbm.keep fun j _ hj => hn j (by omega), (HQ.out.ti.keep fun j hj => hgm.block j (by omega) (by intro h; injection h with h; omega)).keep fun j hj => hn j (by omega), (HQ.out.bt.grown hgm (by intro h; injection h with h; omega)).keep (hn _ (by omega)), (HQ.out.ba.grown hgm (by intro h; injection h with h; omega)).keep (hn _ (by omega)), hop, ((hbel.setCell (show w.heap.size ≤ d by omega) _).setCell (show w.heap.size ≤ d by omega) _).setCell (show w.heap.size ≤ d by omega) _⟩
          rw [← HRs.out] at HF
          have hdm := hgm.size
          clear hups hom hbel hop hn hbm hgm HSq HQ t0 t1 t2 t3 t4 t5 a0 a1 a2
          go_wp2_with fail
          go_roundg g'
          case rel => exact ⟨k + 1, by have := HK.out; omega, by go_num, by simp [World.setCell]; omega, HF⟩
          case measure => omega
        · have hpre : preS ys T k ⟨q, s, l⟩ = nextv ys T s l := by unfold preS; rw [if_neg h0]
          rw [hpre] at HRs
          have hkp : (0 : Int) < (k : Int) := by omega
          have hnok := HT.out.next HO.out.2 ys l
          have hnle := nextv_le ys T s l
          have HNx := Lib.hid (nextT_any (left := l) (s := s) HR.out.gs HR.out.bw (by omega) (by omega) HR.out.ti (by omega) (by omega) HT.out HO.out.2)
          rw [nextv_eq] at hnok HRs hnle
          dsimp only at hnok hnle
          obtain ⟨s', hs'⟩ : ∃ s' : St, s' = ⟨nextX ys T s l 0, nextX ys T s l 2, nextX ys T s l 1⟩ := ⟨_, rfl⟩
          have e0 : nextX ys T s l 0 = s'.l := by rw [hs']
          have e1 : nextX ys T s l 2 = s'.o := by rw [hs']
          have e2 : nextX ys T s l 1 = s'.m := by rw [hs']
          rw [← hs'] at hnok HRs
          rw [e0, e1, e2] at HNx
          obtain ⟨l', hl'⟩ : ∃ l', l' = nextL ys T s l 3 := ⟨_, rfl⟩
          rw [← hl'] at HRs HNx hnle
          unfold Ts.val St.cells at HNx
          clear hl' e0 e1 e2 hs'
          go_upto_region 10 with (fail)
          go_wp2_with fail
          refine HNx.out.mono ?_
          rintro e wn ⟨rfl, hbn, hgn⟩
          have hba := HR.out.ba.grown hgn (by intro h; injection h with h; omega)
          have b0 := hba.cell 0
          have b1 := hba.cell 1
          have b2 := hba.cell 2
          have c0 := hba.free 0
          have c1 := hba.free 1
          have c2 := hba.free 2
          simp [St.cells] at b0 b1 b2
          have hb5 : Below w.heap.size w wn := HR.out.be.grown hgn HR.out.be.size (fun j hj => by injection hj with hj; omega)
          have hq5 : RdI B w (((wn.setCell ⟨a, 0, none⟩ (.int .i64 (s'.l : Int))).setCell ⟨a, 1, none⟩ (.int .i64 (s'.o : Int))).setCell ⟨a, 2, none⟩ (.int .i64 (s'.m : Int))) (w.heap.size + 1) g a d hi n ys x T ⟨q, s', l'⟩ := by
            have hn : ∀ j, j ≠ a → (((wn.setCell ⟨a, 0, none⟩ (.int .i64 (s'.l : Int))).setCell ⟨a, 1, none⟩ (.int .i64 (s'.o : Int))).setCell ⟨a, 2, none⟩ (.int .i64 (s'.m : Int))).heap[j]? = wn.heap[j]? := fun j hj => by
              rw [Below.heap_setCell _ _ _ j hj, Below.heap_setCell _ _ _ j hj, Below.heap_setCell _ _ _ j hj]
            refine ⟨(HR.out.gs.grown hgn (fun j hj => by injection hj with hj; omega)).keep (fun j hj => hn j (by omega)) (by simp [World.setCell]), hbn.keep fun j _ hj => hn j (by omega), (HR.out.ti.keep fun j hj => hgn.block j (by omega) (by intro h; injection h with h; omega)).keep fun j hj => hn j (by omega), (HR.out.bt.grown hgn (by intro h; injection h with h; omega)).keep (hn _ (by omega)), ((hba.put 0 _).put 1 _).put 2 _, ?_, ((hb5.setCell (show w.heap.size ≤ a by omega) _).setCell (show w.heap.size ≤ a by omega) _).setCell (show w.heap.size ≤ a by omega) _⟩
            refine (HR.out.ow.grown hgn (.inr (by intro h; injection h with h; have h' : d = g := h; omega))).keep fun j hj => hn j ?_
            injection hj with hj
            have h' : d = j := hj
            omega
          have hsz5 : (((wn.setCell ⟨a, 0, none⟩ (.int .i64 (s'.l : Int))).setCell ⟨a, 1, none⟩ (.int .i64 (s'.o : Int))).setCell ⟨a, 2, none⟩ (.int .i64 (s'.m : Int))).heap.size = wn.heap.size := by simp [World.setCell]
          have hdn := hgn.size
          have HQ := Lib.hid hq5
          clear hq5 hbn hgn hba hb5 HNx hpre HR t0 t1 t2 t3 t4 t5 a0 a1 a2
          go_upto_region 11 with (fail)
          generalize ((wn.setCell ⟨a, 0, none⟩ (.int .i64 (s'.l : Int))).setCell ⟨a, 1, none⟩ (.int .i64 (s'.o : Int))).setCell ⟨a, 2, none⟩ (.int .i64 (s'.m : Int)) = wx at *
          have hdx5 : d < wx.heap.size := by omega
          clear hsz5 hdn b0 b1 b2 c0 c1 c2 hdx
          have hl5 : -1000000000 ≤ l' := by omega
          have HSq := Lib.hid (sequence_any (left := l') (s := s') HQ.out.gs HQ.out.bw (by omega) (by omega) HQ.out.ti (by omega) (by omega) HT.out hnok)
          rw [seqv_eq] at HRs
          obtain ⟨q1, hq1⟩ : ∃ q1 : Sq, q1 = ⟨seqX ys T s' l' 2, seqX ys T s' l' 1, seqX ys T s' l' 0⟩ := ⟨_, rfl⟩
          have e0 : seqX ys T s' l' 2 = q1.l := by rw [hq1]
          have e1 : seqX ys T s' l' 1 = q1.m := by rw [hq1]
          have e2 : seqX ys T s' l' 0 = q1.o := by rw [hq1]
          rw [← hq1] at HRs
          rw [e0, e1, e2] at HSq
          obtain ⟨l1, hl1⟩ : ∃ l1, l1 = seqL ys T s' l' 3 := ⟨_, rfl⟩
          rw [← hl1] at HRs HSq
          unfold Ts.val St.cells at HSq
          have t0 := HQ.out.bt.cell 0
          have t1 := HQ.out.bt.cell 1
          have t2 := HQ.out.bt.cell 2
          have t3 := HQ.out.bt.cell 3
          have t4 := HQ.out.bt.cell 4
          have t5 := HQ.out.bt.cell 5
          simp [Ts.cells] at t0 t1 t2 t3 t4 t5
          have a0 := HQ.out.ba.cell 0
          have a1 := HQ.out.ba.cell 1
          have a2 := HQ.out.ba.cell 2
          simp [St.cells] at a0 a1 a2
          have hqn : k < (upto q n).length := by rw [upto_len q n (by have := HO.out.1; omega)]; exact hlt
          clear hl1 hq1 e0 e1 e2
          go_wp2_with fail
          refine HSq.out.mono ?_
          rintro e wm ⟨rfl, hbm, hgm⟩
          have hom := HQ.out.ow.grown hgm (.inr (by intro h; injection h with h; have h' : d = g := h; omega))
          obtain ⟨⟨z0, z1, z2⟩, y0, y1, y2⟩ := hom.cellsS k hqn
          have hbel : Below w.heap.size w wm := HQ.out.be.grown hgm HQ.out.be.size (fun j hj => by injection hj with hj; omega)
          have hop := hom.putS k hqn q1
          have hups := upto_set q q1 n (by have := HO.out.1; omega)
          rw [HO.out.1] at hups
          rw [show (upto (Rn.mk q s' l').q n) = upto q n from rfl, hups] at hop
          have hn : ∀ j, j ≠ d → (((wm.setCell ⟨d, k * 3, none⟩ (.int .u32 (q1.l : Int))).setCell ⟨d, k * 3 + 1, none⟩ (.int .u32 (q1.m : Int))).setCell ⟨d, k * 3 + 2, none⟩ (.int .u32 (q1.o : Int))).heap[j]? = wm.heap[j]? := fun j hj => by
              rw [Below.heap_setCell _ _ _ j hj, Below.heap_setCell _ _ _ j hj, Below.heap_setCell _ _ _ j hj]
          have HF : Hid (RdI B w (((wm.setCell ⟨d, k * 3, none⟩ (.int .u32 (q1.l : Int))).setCell ⟨d, k * 3 + 1, none⟩ (.int .u32 (q1.m : Int))).setCell ⟨d, k * 3 + 2, none⟩ (.int .u32 (q1.o : Int))) (w.heap.size + 1) g a d hi n ys x T ⟨q ++ [q1], s', l1⟩) := by
            refine ⟨(HQ.out.gs.grown hgm (fun j hj => by injection hj with hj; omega)).keep (fun j hj => hn j (by omega)) (by simp [World.setCell]), hbm.keep fun j _ hj => hn j (by omega), (HQ.out.ti.keep fun j hj => hgm.block j (by omega) (by intro h; injection h with h; omega)).keep fun j hj => hn j (by omega), (HQ.out.bt.grown hgm (by intro h; injection h with h; omega)).keep (hn _ (by omega)), (HQ.out.ba.grown hgm (by intro h; injection h with h; omega)).keep (hn _ (by omega)), hop, ((hbel.setCell (show w.heap.size ≤ d by omega) _).setCell (show w.heap.size ≤ d by omega) _).setCell (show w.heap.size ≤ d by omega) _⟩
          rw [← HRs.out] at HF
          have hdm := hgm.size
          clear hups hom hbel hop hn hbm hgm HSq HQ t0 t1 t2 t3 t4 t5 a0 a1 a2
          go_wp2_with fail
          go_roundg g'
          case rel => exact ⟨k + 1, by have := HK.out; omega, by go_num, by simp [World.setCell]; omega, HF⟩
          case measure => omega
      · obtain rfl : k = n := by omega
        have hki : ¬ (k : Int) < (k : Int) := by omega
        obtain ⟨r, hr⟩ : ∃ r, r = runS ys T p k := ⟨_, rfl⟩
        have hRR := HRR.out
        rw [← hr] at HR hrl hrq hRR
        obtain ⟨q, s, l⟩ := r
        simp only at hrl hrq hRR
        have HLf := Lib.hid (left_any HR.out.bw)
        have ho := HR.out.ow
        rw [show (upto (Rn.mk q s l).q k) = q from upto_all q k hrq] at ho
        have HF := Lib.hid (And.intro HR.out.be ho)
        simp only at HLf
        clear hr hrs hro ho HR HRR hrl hrq
        by_cases hneg : l < 0
        · have hR' := Lib.hid (hRR.trans (if_pos hneg))
          clear hRR
          go_wp2_with (refine HLf.out.mono ?_; rintro e w' ⟨rfl, rfl⟩)
          go_ret2
          rw [hR'.out]
          exact ⟨HF.out.1, rfl⟩
        · by_cases hpos : 0 < l
          · have hR' := Lib.hid (hRR.trans ((if_neg hneg).trans (if_pos hpos)))
            clear hRR
            go_wp2_with (refine HLf.out.mono ?_; rintro e w' ⟨rfl, rfl⟩)
            go_ret2
            rw [hR'.out]
            exact ⟨HF.out.1, rfl⟩
          · have hR' := Lib.hid (hRR.trans ((if_neg hneg).trans (if_neg hpos)))
            clear hRR
            go_wp2_with (refine HLf.out.mono ?_; rintro e w' ⟨rfl, rfl⟩)
            go_ret2
            rw [hR'.out]
            exact ⟨HF.out.1, _, rfl, HF.out.2⟩
end
end Go.Proofs.YtlidnialggpcpaaGreatDoor
