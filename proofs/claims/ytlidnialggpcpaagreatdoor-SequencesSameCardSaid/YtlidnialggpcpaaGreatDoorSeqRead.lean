
/- The contract of the program's Read. -/
import Derived.Test.YtlidnialggpcpaaGreatDoorSeqTbs
import Derived.Test.YtlidnialggpcpaaGreatDoorSeqErr
import Derived.Test.YtlidnialggpcpaaGreatDoorSeqRd
import Derived.Test.YtlidnialggpcpaaGreatDoorSeqCopied
import Derived.Test.YtlidnialggpcpaaGreatDoorPileA
namespace Go.Proofs.YtlidnialggpcpaaGreatDoor
open Go.RowKit

/-- What Read answers; the tables lie in w'. -/
def ReadPost13 (R : Except Int (List Sq × Option T3)) (w : World) (e : Ending) (w' : World) : Prop :=
  Below w.heap.size w w' ∧ match R with
    | .error er => e = .returned (.tuple #[.slice none 0 0, zeroTs, .int .i64 er])
    | .ok (q, T) => ∃ v x, e = .returned (.tuple #[v, Ts.val x, .int .i64 0]) ∧ OwR 3 scell w' 47 w.heap.size v q ∧ ∀ T', T = some T' → TsIn w' w'.heap.size x T' ∧ T3Ok T'

section
variable {own : Bool} {B : Nat} {w : World} {lo hi hi2 m c : Nat} {A : Option Addr} {xs : List UInt8} {x0 : Ts}
set_option maxRecDepth 100000 in
set_option maxHeartbeats 16000000 in
theorem read13_any (hgl : GS B w) (hd : Dat own w lo hi A xs) (hhi : hi ≤ w.heap.size) (hm : xs.length = m) (hl : xs.length ≤ 1000000000) (hold : ∀ k, k < 3 → OldT w hi2 (x0.A k) (x0.n k)) (hhi2 : hi2 ≤ w.heap.size)
    (hmo : ∀ n f r, countS xs = .ok (n, f :: r) → n ≠ 0 → ∀ k, k < 3 → md f.toNat k = 3 → x0.n k = 0) :
    Calls Tryz.prog 8 #[.slice A m c, x0.val] w (ReadPost13 (readS xs) w) := by
  obtain ⟨W, hW⟩ : ∃ W, W = (w.alloc (.cells x0.cells 29)).alloc (.cells #[.int .i64 0, .slice none 0 0, .int .i64 0, .slice none 0 0, .int .i64 0, .slice none 0 0] 29) := ⟨_, rfl⟩
  have hb : Below w.heap.size w W := by rw [hW]; exact ((Below.refl _ _).alloc (Nat.le_refl _) _).alloc (by simp) _
  have hWs : W.heap.size = w.heap.size + 2 := by rw [hW]; simp
  have hbt : Box W w.heap.size 29 x0.cells := by rw [hW]; exact (Box.new w _ _).alloc _
  have hbx : Box W (w.heap.size + 1) 29 #[.int .i64 0, .slice none 0 0, .int .i64 0, .slice none 0 0, .int .i64 0, .slice none 0 0] := by
    rw [hW]
    have := Box.new (w.alloc (.cells x0.cells 29)) 29 #[.int .i64 0, .slice none 0 0, .int .i64 0, .slice none 0 0, .int .i64 0, .slice none 0 0]
    rw [World.size_alloc] at this
    exact this
  have HRd := Lib.hid (cu.reader_any (c := c) (hd.below hb hhi) hm (by omega) (by omega))
  have HG := Lib.hid hgl
  have hBw := hgl.size
  have HB := Lib.hid hb
  have HX := Lib.hid hbx
  have HT := Lib.hid hbt
  have HO := Lib.hid hold
  have HM := Lib.hid hmo
  have HL := Lib.hid hl
  obtain ⟨R, hR⟩ : ∃ R, R = readS xs := ⟨_, rfl⟩
  rw [← hR]
  have HR := Lib.hid hR
  clear hgl hd hm hb hbx hbt hold hmo hl hR
  unfold Ts.val
  go_enter Tryz.func8, Tryz.ntmps8
  go_upto_region 1 with (fail)
  change Code.wp _ _ _ _ ((w.alloc (.cells x0.cells 29)).alloc (.cells #[.int .i64 0, .slice none 0 0, .int .i64 0, .slice none 0 0, .int .i64 0, .slice none 0 0] 29))
  rw [← hW]
  clear hW
  go_wp2_with fail
  refine HRd.out.mono ?_
  rintro e w1 ⟨g, rfl, hWg, hrd, hB1⟩
  have hgl1 := hrd.lt
  have HC := Lib.hid (count_any hrd)
  have HB1 := Lib.hid (HB.out.trans (hB1.mono (by omega)))
  have HX1 := Lib.hid (HX.out.below hB1 (by omega))
  have HT1 := Lib.hid (HT.out.below hB1 (by omega))
  have hz1 := hB1.size
  clear hrd hB1 HX HT HB HRd
  go_wp2_with fail
  refine HC.out.mono ?_
  rintro e w2 ⟨hs2, h2⟩
  have HB2 := Lib.hid (HB1.out.grown hs2.1 HB1.out.size (fun j hj => by injection hj with hj; omega))
  have HX2 := Lib.hid (HX1.out.grown hs2.1 (by intro h; injection h with h; omega))
  have HT2 := Lib.hid (HT1.out.grown hs2.1 (by intro h; injection h with h; omega))
  have hz2 : w2.heap.size = w1.heap.size := hs2.2
  have HZ2 := Lib.hid hz2
  have hw2 : w.heap.size + 2 ≤ w2.heap.size := by omega
  have hgw2 : g < w2.heap.size := by omega
  have hRE := HR.out
  rw [readS_eq] at hRE
  obtain ⟨⟨c0, c1, c2, c3, c4, c5⟩, f0, f1, f2, f3, f4, f5⟩ := box6 HX2.out
  cases hcn : countS xs with
  | error er =>
    rw [hcn] at h2 hRE
    obtain ⟨z, rfl⟩ := h2
    have her := countS_err hcn
    have hne : ((er : Int) != 0) = true := by simpa using her
    have HRE := Lib.hid hRE
    have HBE := HB2
    clear hs2 hRE hcn hz2 HC HB1 HX1 HT1
    go_wp2_with fail
    refine bodyPost_ret (v := .tuple #[.slice none 0 0, zeroTs, .int .i64 er]) (by simp [results, Tryz.results8, go_sem, zeroTs, c0, c1, c2, c3, c4, c5]) rfl ⟨?_, by rw [HRE.out]⟩
    exact (((((HBE.out.setCell (by show w.heap.size ≤ w.heap.size + 1; omega) _).setCell (by show w.heap.size ≤ w.heap.size + 1; omega) _).setCell (by show w.heap.size ≤ w.heap.size + 1; omega) _).setCell (by show w.heap.size ≤ w.heap.size + 1; omega) _).setCell (by show w.heap.size ≤ w.heap.size + 1; omega) _).setCell (by show w.heap.size ≤ w.heap.size + 1; omega) _
  | ok p =>
    obtain ⟨n, r⟩ := p
    rw [hcn] at h2 hRE
    dsimp only at hRE
    obtain ⟨rfl, hrd2⟩ := h2
    obtain ⟨hn98, hrl⟩ := count_le hcn
    have hrb : r.length ≤ 1000000000 := by have := HL.out; omega
    have HLf := Lib.hid (cu.rd_left hrd2)
    by_cases hn0 : n = 0
    · subst hn0
      rw [if_pos rfl] at hRE
      by_cases hr0 : 0 < r.length
      · rw [if_pos hr0] at hRE
        have HRE := Lib.hid hRE
        have HBE := HB2
        have hri : (0 : Int) < (r.length : Int) := by omega
        clear hs2 hRE hcn hz2 HC HB1 HX1 HT1 hrd2
        go_wp2_with (refine HLf.out.mono ?_; rintro e' w' ⟨rfl, rfl⟩)
        refine bodyPost_ret (v := .tuple #[.slice none 0 0, zeroTs, .int .i64 15]) (by simp [results, Tryz.results8, go_sem, zeroTs, c0, c1, c2, c3, c4, c5]) rfl ⟨?_, by rw [HRE.out]⟩
        exact (((((HBE.out.setCell (by show w.heap.size ≤ w.heap.size + 1; omega) _).setCell (by show w.heap.size ≤ w.heap.size + 1; omega) _).setCell (by show w.heap.size ≤ w.heap.size + 1; omega) _).setCell (by show w.heap.size ≤ w.heap.size + 1; omega) _).setCell (by show w.heap.size ≤ w.heap.size + 1; omega) _).setCell (by show w.heap.size ≤ w.heap.size + 1; omega) _
      · rw [if_neg hr0] at hRE
        have HRE := Lib.hid hRE
        have hri : ¬ (0 : Int) < (r.length : Int) := by omega
        have hr0' : r.length = 0 := by omega
        have HCp := Lib.hid (copied_any (w := w2) (hi := hi2) (x := x0) (fun k hk => by
          rcases HO.out k hk with q | ⟨a, es, q1, q2, q3⟩
          · exact .inl q
          · exact .inr ⟨a, es, q1, q2.below HB2.out hhi2, q3⟩) (by have := HB2.out.size; omega))
        obtain ⟨⟨t0, t1, t2, t3, t4, t5⟩, _⟩ := box6 HT2.out
        unfold Ts.val at HCp
        clear hs2 hRE hcn hz2 HC HB1 HX1 HT1 hrd2
        go_wp2_with (refine HLf.out.mono ?_; rintro e' w' ⟨rfl, rfl⟩)
        refine HCp.out.mono ?_
        rintro e w3 ⟨y, rfl, hB3⟩
        have HBE := Lib.hid (HB2.out.trans (hB3.mono HB2.out.size))
        have hx3 := HX2.out.below hB3 (by have := HZ2.out; omega)
        clear hB3 HCp c0 c1 c2 c3 c4 c5 f0 f1 f2 f3 f4 f5 t0 t1 t2 t3 t4 t5
        obtain ⟨⟨c0, c1, c2, c3, c4, c5⟩, f0, f1, f2, f3, f4, f5⟩ := box6 hx3
        clear hx3
        go_wp2_with fail
        rw [HRE.out]
        refine bodyPost_ret (v := .tuple #[.slice none 0 0, y.val, .int .i64 0]) (by simp [results, Tryz.results8, go_sem, Ts.val, c0, c1, c2, c3, c4, c5]) rfl ⟨?_, .slice none 0 0, y, rfl, OwR.nil _ _ _ _ _, fun T' h => by cases h⟩
        exact (((((HBE.out.setCell (by show w.heap.size ≤ w.heap.size + 1; omega) _).setCell (by show w.heap.size ≤ w.heap.size + 1; omega) _).setCell (by show w.heap.size ≤ w.heap.size + 1; omega) _).setCell (by show w.heap.size ≤ w.heap.size + 1; omega) _).setCell (by show w.heap.size ≤ w.heap.size + 1; omega) _).setCell (by show w.heap.size ≤ w.heap.size + 1; omega) _
    · rw [if_neg hn0] at hRE
      have hn0b : ((n : Int) == 0) = false := by simp; omega
      have hg2 : GS B w2 := HG.out.below HB2.out hBw
      have HG2 := Lib.hid hg2
      have HTb : Hid (Calls Tryz.prog 20 #[.pointer (some ⟨g, 0, none⟩), x0.val] w2 (TbsPost true (readM r) w2 W.heap.size g)) := by
        rcases r with _ | ⟨f, rr⟩
        · exact tables_none hrd2
        · exact tables_some hg2.t hrd2 (by omega) hrb (fun k hk hm3 => HM.out n f rr hcn hn0 k hk hm3)
      obtain ⟨⟨t0, t1, t2, t3, t4, t5⟩, _⟩ := box6 HT2.out
      unfold Ts.val at HTb
      have hge : (n : Int) ≠ 0 := by omega
      have hnlt : ¬ (n : Int) < 0 := by omega
      have HRE0 := Lib.hid hRE
      clear hs2 hcn hz2 HC HB1 HX1 HT1 hrd2 hg2 hrl HLf hRE
      go_wp2_with fail
      refine HTb.out.mono ?_
      rintro e w3 ⟨hg3, h3⟩
      have hb3 : Below w.heap.size w w3 := HB2.out.grown hg3 HB2.out.size (fun j hj => by injection hj with hj; omega)
      have HB3 := Lib.hid hb3
      have hx3 := HX2.out.grown hg3 (by intro h; injection h with h; omega)
      have hz3 := hg3.size
      clear c0 c1 c2 c3 c4 c5 f0 f1 f2 f3 f4 f5 t0 t1 t2 t3 t4 t5 HX2 HT2 HTb
      have hRE := HRE0.out
      clear HRE0
      cases hrm : readM r with
      | error er =>
        rw [hrm] at h3 hRE
        dsimp only at hRE
        obtain rfl := h3
        have her := readM_err hrm
        have hne : ((er : Int) != 0) = true := by simpa using her
        have HRE := Lib.hid hRE
        have HBE := Lib.hid (hb3.alloc hb3.size (.cells #[.int .i64 0, .slice none 0 0, .int .i64 0, .slice none 0 0, .int .i64 0, .slice none 0 0] 29))
        obtain ⟨⟨c0, c1, c2, c3, c4, c5⟩, f0, f1, f2, f3, f4, f5⟩ := box6 (hx3.alloc (.cells #[.int .i64 0, .slice none 0 0, .int .i64 0, .slice none 0 0, .int .i64 0, .slice none 0 0] 29))
        clear hRE hrm hb3 hx3 hg3
        unfold zeroTs
        go_wp2_with fail
        refine bodyPost_ret (v := .tuple #[.slice none 0 0, zeroTs, .int .i64 er]) (by simp [results, Tryz.results8, go_sem, zeroTs, c0, c1, c2, c3, c4, c5]) rfl ⟨?_, by rw [HRE.out]⟩
        exact (((((HBE.out.setCell (by show w.heap.size ≤ w.heap.size + 1; omega) _).setCell (by show w.heap.size ≤ w.heap.size + 1; omega) _).setCell (by show w.heap.size ≤ w.heap.size + 1; omega) _).setCell (by show w.heap.size ≤ w.heap.size + 1; omega) _).setCell (by show w.heap.size ≤ w.heap.size + 1; omega) _).setCell (by show w.heap.size ≤ w.heap.size + 1; omega) _
      | ok p =>
        obtain ⟨T, r3⟩ := p
        rw [hrm] at h3 hRE
        dsimp only at hRE
        obtain ⟨x, A3, c3', rfl, hpt, hc3, hd3⟩ := h3
        have hti : TsIn w3 w3.heap.size x T := hpt.all
        have HPt := Lib.hid hpt
        obtain ⟨hT, hr3⟩ := readM_ok hrm
        have hg3' := HG2.out.grown hg3 (fun j hj => by injection hj with hj; omega)
        obtain ⟨W4, hW4⟩ : ∃ W4, W4 = w3.alloc (.cells x.cells 29) := ⟨_, rfl⟩
        have hb4 : Below w3.heap.size w3 W4 := by rw [hW4]; exact (Below.refl _ _).alloc (Nat.le_refl _) _
        have hz4 : W4.heap.size = w3.heap.size + 1 := by rw [hW4]; simp
        have hbx4 : Box W4 w3.heap.size 29 x.cells := by rw [hW4]; exact Box.new w3 _ _
        have hx4 := hx3.below hb4 (by omega)
        have hti4 := hti.below hb4 (Nat.le_refl _)
        have HRr := Lib.hid (rd_any (c := c3') (hg3'.below hb4 hg3'.size) hti4 (by omega) hT (by omega) hn98 (hd3.below hb4 (by omega)) (by omega) rfl (by omega))
        have HTi := Lib.hid (And.intro (HPt.out.grow (fun j _ hj => hb4.block j hj) hb4.size) hT)
        have HB4 := Lib.hid (hb3.trans (hb4.mono hb3.size))
        have HX4 := Lib.hid hx4
        have HBx := Lib.hid hbx4
        have HZ4 := Lib.hid hz4
        obtain ⟨⟨t0, t1, t2, t3, t4, t5⟩, _⟩ := box6 hbx4
        unfold Ts.val at HRr ⊢
        have HRE0 := Lib.hid hRE
        clear hrm hb3 hx3 hg3 hti hpt hc3 hd3 hT hr3 hg3' hb4 hbx4 hx4 hti4 hz4 hRE
        go_upto_region 10 with (fail)
        change Code.wp _ _ _ _ (w3.alloc (.cells x.cells 29))
        rw [← hW4]
        clear hW4
        go_wp2_with fail
        refine HRr.out.mono ?_
        rintro e w5 ⟨hB5, h5⟩
        have hbe5 := HB4.out.trans (hB5.mono HB4.out.size)
        have hx5 := HX4.out.below hB5 (by have := HZ4.out; omega)
        have HX5 := Lib.hid (HBx.out.below hB5 (by have := HZ4.out; omega))
        clear t0 t1 t2 t3 t4 t5
        have hRE := HRE0.out
        clear HRE0
        cases hbd : bodyS r3 T n with
        | error er =>
          rw [hbd] at h5 hRE
          dsimp only at hRE
          obtain rfl := h5
          have her := body_err hbd
          have hne : ((er : Int) != 0) = true := by simpa using her
          have HRE := Lib.hid hRE
          have HBE := Lib.hid hbe5
          obtain ⟨⟨c0, c1, c2, c3, c4, c5⟩, f0, f1, f2, f3, f4, f5⟩ := box6 hx5
          clear hRE hbd hx5 hbe5 hB5 HTi HRr HX5 HBx HX4
          go_wp2_with fail
          refine bodyPost_ret (v := .tuple #[.slice none 0 0, zeroTs, .int .i64 er]) (by simp [results, Tryz.results8, go_sem, zeroTs, c0, c1, c2, c3, c4, c5]) rfl ⟨?_, by rw [HRE.out]⟩
          exact (((((HBE.out.setCell (by show w.heap.size ≤ w.heap.size + 1; omega) _).setCell (by show w.heap.size ≤ w.heap.size + 1; omega) _).setCell (by show w.heap.size ≤ w.heap.size + 1; omega) _).setCell (by show w.heap.size ≤ w.heap.size + 1; omega) _).setCell (by show w.heap.size ≤ w.heap.size + 1; omega) _).setCell (by show w.heap.size ≤ w.heap.size + 1; omega) _
        | ok q =>
          rw [hbd] at h5 hRE
          dsimp only at hRE
          obtain ⟨v, rfl, ho⟩ := h5
          obtain ⟨A5, n5, c5', rfl⟩ := ho.slice
          have HRE := Lib.hid hRE
          have HBE := Lib.hid hbe5
          have HO5 := Lib.hid ho
          have HTi5 := Lib.hid (And.intro (HTi.out.1.grow (fun j _ hj => hB5.block j hj) hB5.size) HTi.out.2)
          obtain ⟨⟨c0, c1, c2, c3, c4, c5⟩, f0, f1, f2, f3, f4, f5⟩ := box6 hx5
          obtain ⟨⟨t0, t1, t2, t3, t4, t5⟩, _⟩ := box6 HX5.out
          clear hRE hbd hx5 hbe5 hB5 HTi HRr HX5 HBx HX4 ho
          obtain ⟨W6, hW6⟩ : ∃ W6, W6 = set6 w5 (w.heap.size + 1) (.int .i64 (x.l 0 : Int)) (.slice (x.A 0) (x.n 0) (x.c 0)) (.int .i64 (x.l 1 : Int)) (.slice (x.A 1) (x.n 1) (x.c 1)) (.int .i64 (x.l 2 : Int)) (.slice (x.A 2) (x.n 2) (x.c 2)) := ⟨_, rfl⟩
          have hfar : ∀ j, j ≠ w.heap.size + 1 → W6.heap[j]? = w5.heap[j]? := fun j hj => by rw [hW6]; exact set6_heap j hj
          have hz6 : W6.heap.size = w5.heap.size := by rw [hW6]; exact set6_size
          have hb6 : Below w.heap.size w W6 := by
            rw [hW6]
            exact (((((HBE.out.setCell (by show w.heap.size ≤ w.heap.size + 1; omega) _).setCell (by show w.heap.size ≤ w.heap.size + 1; omega) _).setCell (by show w.heap.size ≤ w.heap.size + 1; omega) _).setCell (by show w.heap.size ≤ w.heap.size + 1; omega) _).setCell (by show w.heap.size ≤ w.heap.size + 1; omega) _).setCell (by show w.heap.size ≤ w.heap.size + 1; omega) _
          have hfin : ReadPost13 R w (.returned (.tuple #[.slice A5 n5 c5', x.val, .int .i64 0])) W6.drew := by
            rw [HRE.out]
            have ho6 : OwR 3 scell W6 47 w.heap.size (.slice A5 n5 c5') q := (HO5.out.keep (w' := W6) fun j hj => hfar j (by have := (HO5.out.block j hj).1; have := HZ4.out; omega)).mono (show w.heap.size ≤ W4.heap.size by have := HB4.out.size; omega)
            have ho7 : OwR 3 scell W6.drew 47 w.heap.size (.slice A5 n5 c5') q := ho6.drawn 1
            refine ⟨hb6.drew, _, x, rfl, ho7, fun T' hT' => ?_⟩
            injection hT' with hT'
            subst hT'
            have hX := (HTi5.out.1.grow (w' := W6) (fun j hj _ => hfar j (by omega)) (by rw [hz6]; exact Nat.le_refl _)).all
            exact ⟨⟨hX.l, hX.n, hX.d⟩, HTi5.out.2⟩
          rw [hW6] at hfin
          clear hb6 hz6 hW6
          unfold set6 at hfin
          have HFin := Lib.hid hfin
          clear hfin hfar
          go_wp2_with fail
          go_region
          go_wp2_with fail
          refine bodyPost_ret (v := .tuple #[.slice A5 n5 c5', x.val, .int .i64 0]) (by simp [results, Tryz.results8, go_sem, Ts.val, c0, c1, c2, c3, c4, c5]) rfl HFin.out
end
end Go.Proofs.YtlidnialggpcpaaGreatDoor
