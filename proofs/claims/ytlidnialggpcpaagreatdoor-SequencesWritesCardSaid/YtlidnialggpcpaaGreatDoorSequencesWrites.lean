
/- SequencesWrites holds, tied to the program's text: for every sequences, every bool and every three bytes the law returns true. No condition of ours; the row's own: the package's variables read as the text lays them. -/
import Derived.Test.YtlidnialggpcpaaGreatDoorSeqLawU
import Derived.Test.YtlidnialggpcpaaGreatDoorSeqSeqs
import Derived.Test.YtlidnialggpcpaaGreatDoorSeqModel
import Derived.Test.YtlidnialggpcpaaGreatDoorPileF
namespace Go.Proofs.YtlidnialggpcpaaGreatDoor.sequencesWrites
open Go.ChangeShapes Go.WideShapes Go.ChangeAt Go.RowKit

theorem sqm_small (qs : List Sq) : ∀ p ∈ qs.map sqm, p.Small := fun p hp => by
  obtain ⟨q, _, rfl⟩ := List.mem_map.1 hp
  exact small_of (by show q.l % 131072 < _; omega) (by show 3 + q.m % 131072 < _; omega) (by show 1 + q.o % 2147483648 < _; omega)
/-- Have the first j values that all have codes? -/
def okA (ls : List Sq) (j : Nat) : Bool := (ls.take j).all okQ
theorem okA_succ (ls : List Sq) (j : Nat) (h : j < ls.length) : okA ls (j + 1) = (okA ls j && okQ ls[j]) := by
  unfold okA
  rw [List.take_succ_eq_append_getElem h, List.all_append]
  simp
theorem okA_all (ls : List Sq) : okA ls ls.length = true ↔ ∀ q ∈ ls, okQ q = true := by
  unfold okA
  rw [List.take_length, List.all_eq_true]
theorem okQ_eq (q : Sq) : okQ q = (decide ((cd.ofN 0 q.l).2.2 = 0) && decide ((cd.ofN 1 q.o).2.2 = 0) && decide ((cd.ofN 2 q.m).2.2 = 0)) := by
  unfold okQ
  rw [Bool.eq_iff_iff]
  simp [and_assoc]
theorem below_set6 {B b : Nat} {w w' : World} (hB : Below B w w') (hb : B ≤ b) (v0 v1 v2 v3 v4 v5 : Value) : Below B w ((((((w'.setCell ⟨b, 0, none⟩ v0).setCell ⟨b, 1, none⟩ v1).setCell ⟨b, 2, none⟩ v2).setCell ⟨b, 3, none⟩ v3).setCell ⟨b, 4, none⟩ v4).setCell ⟨b, 5, none⟩ v5) :=
  (((((hB.setCell hb _).setCell hb _).setCell hb _).setCell hb _).setCell hb _).setCell hb _
theorem below_drawn {B : Nat} {w w' : World} (hB : Below B w w') (hs : B ≤ w'.heap.size) (o : Obj) : Below B w (w'.alloc o).drew :=
  have h := hB.alloc hs o
  ⟨h.os, h.tape, h.output, h.size, h.block⟩
theorem box_drawn (w : World) (t : TypeId) (cs : Array Value) : Box (w.alloc (.cells cs t)).drew w.heap.size t cs := Box.new w t cs
theorem fin_set6 {W6 w8 : World} {lo b : Nat} {A : Option Addr} {ls : List Sq} (hB : Below W6.heap.size W6 w8) (hd : DatR 3 scell w8 lo w8.heap.size A ls) (hb : W6.heap.size ≤ b) (hbl : b < lo) (v0 v1 v2 v3 v4 v5 : Value) :
    DatR 3 scell ((((((w8.setCell ⟨b, 0, none⟩ v0).setCell ⟨b, 1, none⟩ v1).setCell ⟨b, 2, none⟩ v2).setCell ⟨b, 3, none⟩ v3).setCell ⟨b, 4, none⟩ v4).setCell ⟨b, 5, none⟩ v5) W6.heap.size ((((((w8.setCell ⟨b, 0, none⟩ v0).setCell ⟨b, 1, none⟩ v1).setCell ⟨b, 2, none⟩ v2).setCell ⟨b, 3, none⟩ v3).setCell ⟨b, 4, none⟩ v4).setCell ⟨b, 5, none⟩ v5).heap.size A ls ∧ Below W6.heap.size W6 ((((((w8.setCell ⟨b, 0, none⟩ v0).setCell ⟨b, 1, none⟩ v1).setCell ⟨b, 2, none⟩ v2).setCell ⟨b, 3, none⟩ v3).setCell ⟨b, 4, none⟩ v4).setCell ⟨b, 5, none⟩ v5) := by
  have hz : (set6 w8 b v0 v1 v2 v3 v4 v5).heap.size = w8.heap.size := by simp [set6, World.setCell]
  have h : DatR 3 scell (set6 w8 b v0 v1 v2 v3 v4 v5) lo w8.heap.size A ls := hd.keep fun k h1 _ => set6_heap k (by omega)
  rw [← hz] at h
  exact ⟨h.mono (by omega) (Nat.le_refl _), below_set6 hB hb _ _ _ _ _ _⟩
theorem fin_alloc {W6 w8 : World} {lo : Nat} {A : Option Addr} {ls : List Sq} (hB : Below W6.heap.size W6 w8) (hd : DatR 3 scell w8 lo w8.heap.size A ls) (hlo : W6.heap.size ≤ lo) (o : Obj) :
    DatR 3 scell (w8.alloc o) W6.heap.size (w8.alloc o).heap.size A ls ∧ Below W6.heap.size W6 (w8.alloc o) :=
  ⟨(hd.alloc (Nat.le_refl _) o).mono hlo (by simp), hB.alloc hB.size o⟩
/-- What a section of sequences is read as. -/
theorem sec_reads {qs : List Sq} {bs : List UInt8} (h : SecOk qs bs) : resQ (readS bs) = qs ∧ resE (readS bs) = 0 ∧ (∀ (x0 : Ts) (n : Nat) (f : UInt8) (r : List UInt8), countS bs = .ok (n, f :: r) → n ≠ 0 → ∀ k, k < 3 → md f.toNat k = 3 → x0.n k = 0) ∧ (qs = [] → bs.length = 1) := by
  rcases h with ⟨rfl, rfl⟩ | ⟨hne, hf, T, hr, _⟩
  · refine ⟨rfl, rfl, fun x0 n f r hc => ?_, fun _ => rfl⟩
    have e : countS [0] = .ok (0, []) := rfl
    rw [e] at hc
    injection hc with hc
    injection hc with _ h2
    cases h2
  · rw [hr]
    exact ⟨rfl, rfl, fun x0 => free_mo (x0 := x0) hf, fun h => absurd h hne⟩
set_option maxRecDepth 100000 in
set_option maxHeartbeats 8000000 in
theorem walk (a : Option Addr) (rs : List Sq) (cp : Nat) (as_ : Bool) (kb : Nat → Nat) (w : World) (hgl : GS w.heap.size w) (hd : DatR 3 scell w 0 w.heap.size a rs ∧ ∀ q ∈ rs, q.Small) (_hm : rs.length ≤ maxLen) (hkb : ∀ k, k < 3 → kb k < 256) :
    Calls Tryz.prog 4 #[.slice a rs.length cp, .bool as_, .agg (kcells kb)] w fun e w' => e = .returned (.bool true) ∧ Below w.heap.size w w' := by
  have hBw := hgl.size
  have HG := Lib.hid hgl
  have HD := Lib.hid hd
  have HKb := Lib.hid hkb
  obtain ⟨m, hmm⟩ : ∃ m, m = rs.length := ⟨_, rfl⟩
  rw [← hmm]
  have HM := Lib.hid hmm
  have hmb : m ≤ maxLen := by omega
  unfold maxLen at hmb
  obtain ⟨W0, hW0⟩ : ∃ W0, W0 = w.alloc (.cells (kcells kb) 41) := ⟨_, rfl⟩
  have hb0 : Below w.heap.size w W0 := by rw [hW0]; exact (Below.refl _ _).alloc (Nat.le_refl _) _
  have hx0 : Box W0 w.heap.size 41 (kcells kb) := by rw [hW0]; exact Box.new w _ _
  have hs0 : w.heap.size < W0.heap.size := by rw [hW0, World.size_alloc]; omega
  have HA := Lib.hid (seq_awake W0 (hgl.below hb0 hBw))
  have H0 := Lib.hid (And.intro hb0 hx0)
  clear hgl hd hmm _hm hkb hb0 hx0
  by_cases hlong : 200 < m
  · have h50 : (200 : Int) < (m : Int) := by omega
    unfold kcells at hW0 ⊢
    go_enter Tryz.func4, Tryz.ntmps4
    go_upto_region 1 with (fail)
    rw [← hW0]
    clear hW0
    go_wp2_with (go_at_call 7; refine HA.out.mono ?_; rintro e' w1 ⟨rfl, hB1⟩; have HB1 := Lib.hid (H0.out.1.trans (hB1.mono H0.out.1.size)); clear hB1)
    go_ret
    exact ⟨rfl, HB1.out⟩
  have h50 : decide ((200 : Int) < (m : Int)) = false := by simp; omega
  have hm200 : m ≤ 200 := by omega
  clear hlong hmb
  unfold kcells at hW0 ⊢
  go_enter Tryz.func4, Tryz.ntmps4
  go_upto_region 1 with (fail)
  rw [← hW0]
  clear hW0
  go_wp2_with fail
  refine HA.out.mono ?_
  rintro e w1 ⟨rfl, hB1⟩
  obtain ⟨hb0, hx0⟩ := H0.out
  have HX1 := Lib.hid (hx0.below hB1 hs0)
  have HB1 := Lib.hid (hb0.trans (hB1.mono hb0.size))
  have hs1 : w.heap.size < w1.heap.size := (hx0.below hB1 hs0).lt
  clear hb0 hx0 hB1 H0 HA
  cases as_ with
  | true =>
    obtain ⟨W2, hW2⟩ : ∃ W2, W2 = w1 := ⟨_, rfl⟩
    obtain ⟨ls, hls⟩ : ∃ ls, ls = rs := ⟨_, rfl⟩
    obtain ⟨A, hA⟩ : ∃ A, A = a := ⟨_, rfl⟩
    obtain ⟨n, hn⟩ : ∃ n, n = m := ⟨_, rfl⟩
    obtain ⟨c, hc⟩ : ∃ c, c = cp := ⟨_, rfl⟩
    have HLd : Hid (DatR 3 scell W2 0 W2.heap.size A ls) := by rw [hW2, hls, hA]; exact (HD.out.1.below HB1.out (Nat.le_refl _)).mono (Nat.le_refl _) HB1.out.size
    have HLn : Hid (ls.length = n) := by rw [hls, hn]; exact HM.out.symm
    have HLs : Hid (∀ q ∈ ls, q.Small) := by rw [hls]; exact HD.out.2
    have HX2 : Hid (Box W2 w.heap.size 41 (kcells kb)) := by rw [hW2]; exact HX1.out
    have HB2 : Hid (Below w.heap.size w W2) := by rw [hW2]; exact HB1.out
    have hn200 : n ≤ 200 := by omega
    have hs2 : w.heap.size < W2.heap.size := by rw [hW2]; exact hs1
    clear hls
    go_upto_region 9 with (fail)
    rw [← hW2, ← hA, ← hn, ← hc]
    clear hW2 hA hn hc HX1 HB1 hs1
    go_wp2_with fail
    go_loopg [9, 10, 11, 12, 13, 14, 15, 16, 17, 18, 19] n (fun gh i9 i i11 i12 i13 i14 i15 i16 i17 i18 i19 wx => ∃ j : Nat, j + gh = n ∧ i = .int .i64 (j : Int) ∧ i9 = .bool (okA ls j) ∧ Hid (Below W2.heap.size W2 wx))
    case atStart => exact ⟨0, by omega, rfl, rfl, Below.refl _ _⟩
    case round =>
      obtain ⟨j, hj, rfl, rfl, HE⟩ := hrel
      have HJ := Lib.hid hj
      have hjn : j ≤ n := by omega
      clear hj
      by_cases hlt : j < n
      · obtain ⟨g', rfl⟩ : ∃ g', gk = g' + 1 := ⟨gk - 1, by have := HJ.out; omega⟩
        have hji : (j : Int) < (n : Int) := by omega
        have hjl : j < ls.length := by have := HLn.out; omega
        obtain ⟨d1, o1, rfl, _, hd1, hc1⟩ := HLd.out.seq (by omega)
        obtain ⟨p0, p1, p2⟩ := hc1 j hjl
        have HOk := Lib.hid (okA_succ ls j hjl)
        have HSm := Lib.hid (HLs.out ls[j] (List.getElem_mem _))
        have HOe := Lib.hid (okQ_eq ls[j])
        generalize ls[j] = q at *
        have x0 := (HE.out.cell (p := ⟨d1, o1 + j * 3, none⟩) hd1).trans p0
        have x1 := (HE.out.cell (p := ⟨d1, o1 + j * 3 + 1, none⟩) hd1).trans p1
        have x2 := (HE.out.cell (p := ⟨d1, o1 + j * 3 + 2, none⟩) hd1).trans p2
        have HR0 : Hid (∀ W', Calls Tryz.prog 12 #[.int .i64 0, .int .u32 (q.l : Int)] W' fun e w' => e = .returned (cd.ansO (cd.ofN 0 q.l)) ∧ Below W'.heap.size W' w') := fun W' => cd.refOf_any 0 q.l W' HSm.out.1
        have HR1 : Hid (∀ W', Calls Tryz.prog 12 #[.int .i64 1, .int .u32 (q.o : Int)] W' fun e w' => e = .returned (cd.ansO (cd.ofN 1 q.o)) ∧ Below W'.heap.size W' w') := fun W' => cd.refOf_any 1 q.o W' HSm.out.2.2
        have HR2 : Hid (∀ W', Calls Tryz.prog 12 #[.int .i64 2, .int .u32 (q.m : Int)] W' fun e w' => e = .returned (cd.ansO (cd.ofN 2 q.m)) ∧ Below W'.heap.size W' w') := fun W' => cd.refOf_any 2 q.m W' HSm.out.2.1
        generalize cd.ofN 0 q.l = r0 at *
        generalize cd.ofN 1 q.o = r1 at *
        generalize cd.ofN 2 q.m = r2 at *
        obtain ⟨a0, b0, e0⟩ := r0
        obtain ⟨a1, b1, e1⟩ := r1
        obtain ⟨a2, b2, e2⟩ := r2
        unfold cd.ansO at HR0 HR1 HR2
        dsimp only at HR0 HR1 HR2 HOe
        have hdw : d1 < wr.heap.size := by have := HE.out.size; omega
        clear p0 p1 p2 hc1
        go_wp2_with fail
        refine (HR0.out _).mono ?_
        rintro e w3 ⟨rfl, hB3⟩
        have y2 := (hB3.cell (p := ⟨d1, o1 + j * 3 + 2, none⟩) hdw).trans x2
        have y1 := (hB3.cell (p := ⟨d1, o1 + j * 3 + 1, none⟩) hdw).trans x1
        have HB3 := Lib.hid (HE.out.trans (hB3.mono HE.out.size))
        have hdw3 : d1 < w3.heap.size := by have := hB3.size; omega
        clear hB3 x0 x1 x2
        go_wp2_with fail
        refine (HR1.out _).mono ?_
        rintro e w4 ⟨rfl, hB4⟩
        have z1 := (hB4.cell (p := ⟨d1, o1 + j * 3 + 1, none⟩) hdw3).trans y1
        have HB4 := Lib.hid (HB3.out.trans (hB4.mono HB3.out.size))
        clear hB4 y1 y2
        go_wp2_with fail
        refine (HR2.out _).mono ?_
        rintro e w5 ⟨rfl, hB5⟩
        have HB5 := Lib.hid (HB4.out.trans (hB5.mono HB4.out.size))
        clear hB5 z1 HR0 HR1 HR2 HB3 HB4
        rw [HOe.out] at HOk
        cases hb : okA ls j with
        | false =>
          rw [hb] at HOk
          go_wp2_with fail
          go_roundg g'
          case rel => exact ⟨j + 1, by have := HJ.out; omega, by go_num, by rw [HOk.out]; rfl, HB5⟩
          case measure => omega
        | true =>
          rw [hb] at HOk
          by_cases h0 : e0 = 0
          · subst h0
            by_cases h1 : e1 = 0
            · subst h1
              by_cases h2 : e2 = 0
              · subst h2
                go_wp2_with fail
                go_roundg g'
                case rel => exact ⟨j + 1, by have := HJ.out; omega, by go_num, by rw [HOk.out]; rfl, HB5⟩
                case measure => omega
              · have g2 : ((e2 : Int) == 0) = false := by simp; omega
                go_wp2_with fail
                go_roundg g'
                case rel => exact ⟨j + 1, by have := HJ.out; omega, by go_num, by rw [HOk.out]; simp [h2], HB5⟩
                case measure => omega
            · have g1 : ((e1 : Int) == 0) = false := by simp; omega
              go_wp2_with fail
              go_roundg g'
              case rel => exact ⟨j + 1, by have := HJ.out; omega, by go_num, by rw [HOk.out]; simp [h1], HB5⟩
              case measure => omega
          · have g0 : ((e0 : Int) == 0) = false := by simp; omega
            go_wp2_with fail
            go_roundg g'
            case rel => exact ⟨j + 1, by have := HJ.out; omega, by go_num, by rw [HOk.out]; simp [h0], HB5⟩
            case measure => omega
      · obtain rfl : j = n := by omega
        have hji : decide ((j : Int) < (j : Int)) = false := by simp
        have HAl := Lib.hid (okA_all ls)
        rw [HLn.out] at HAl
        have HB3 := Lib.hid (HB2.out.trans (HE.out.mono HB2.out.size))
        have HLd3 := Lib.hid ((HLd.out.below HE.out (Nat.le_refl _)).mono (Nat.le_refl _) HE.out.size)
        have HX3 := Lib.hid (HX2.out.below HE.out hs2)
        have hs3 : w.heap.size < wr.heap.size := by have := HE.out.size; omega
        have HW := Lib.hid (write13_any (c := c) (HG.out.below HB3.out hBw) HLd3.out (Nat.le_refl _) HLn.out (by omega) HLs.out)
        clear HLd HX2 HB2 hs2 HE
        go_wp2_with fail
        refine HW.out.mono ?_
        rintro e w4 ⟨hB4, ⟨hok, v4, bs, rfl, ho4, hl4, hsec⟩ | ⟨hno, rfl⟩⟩
        · rw [HAl.out.2 hok]
          obtain ⟨A4, c4, rfl, hc4, hdat⟩ := ho4.form
          have HS := Lib.hid (sec_reads hsec)
          have HB4 := Lib.hid (HB3.out.trans (hB4.mono HB3.out.size))
          have HLd4 := Lib.hid ((HLd3.out.below hB4 (Nat.le_refl _)).mono (Nat.le_refl _) hB4.size)
          have hx4 := HX3.out.below hB4 hs3
          have k0 : w4.cell? ⟨w.heap.size, 0, none⟩ = some (.int .u8 (kb 0 : Int)) := hx4.cell 0
          have k1 : w4.cell? ⟨w.heap.size, 1, none⟩ = some (.int .u8 (kb 1 : Int)) := hx4.cell 1
          have k2 : w4.cell? ⟨w.heap.size, 2, none⟩ = some (.int .u8 (kb 2 : Int)) := hx4.cell 2
          obtain ⟨N, hN⟩ : ∃ N, N = bs.length := ⟨_, rfl⟩
          rw [← hN] at hl4 hc4 ⊢
          have HN := Lib.hid hN.symm
          have HOl := Lib.hid (old_any (HG.out.below HB4.out hBw) HKb.out)
          unfold kcells Ts.val at HOl
          have HD4 := Lib.hid hdat
          have hs4 := HB4.out.size
          clear hN hx4 hdat ho4 hok hB4 HW HAl HX3 HLd3 HB3 hsec
          go_wp2_with fail
          refine HOl.out.mono ?_
          rintro e w5 ⟨x, rfl, hx5, hB5⟩
          clear HOl
          obtain ⟨W6, hW6⟩ : ∃ W6, W6 = w5.alloc (.cells x.cells 29) := ⟨_, rfl⟩
          have hb6 : Below w5.heap.size w5 W6 := by rw [hW6]; exact (Below.refl _ _).alloc (Nat.le_refl _) _
          have hx6 : Box W6 w5.heap.size 29 x.cells := by rw [hW6]; exact Box.new w5 _ _
          have hz6 : w5.heap.size < W6.heap.size := by rw [hW6, World.size_alloc]; omega
          have hb46 : Below w4.heap.size w4 W6 := hB5.trans (hb6.mono hB5.size)
          have HO6 : Hid (∀ k, k < 3 → OldP W6 (x.A k) (x.n k)) := fun k hk => (hx5 k hk).below hb6
          have hd6 := HD4.out.below hb46 (Nat.le_refl _)
          have hs6 := hb46.size
          have HD6 := Lib.hid hd6
          have HX6 := Lib.hid hx6
          have HLd6 := Lib.hid ((HLd4.out.below hb46 (Nat.le_refl _)).mono (Nat.le_refl _) hs6)
          have HB6 := Lib.hid (HB4.out.trans (hb46.mono HB4.out.size))
          have HSt : Hid (∀ W', Below W6.heap.size W6 W' → (W'.cell? ⟨w5.heap.size, 0, none⟩ = some (.int .i64 (x.l 0 : Int)) ∧ W'.cell? ⟨w5.heap.size, 1, none⟩ = some (.slice (x.A 0) (x.n 0) (x.c 0)) ∧ W'.cell? ⟨w5.heap.size, 2, none⟩ = some (.int .i64 (x.l 1 : Int)) ∧ W'.cell? ⟨w5.heap.size, 3, none⟩ = some (.slice (x.A 1) (x.n 1) (x.c 1)) ∧ W'.cell? ⟨w5.heap.size, 4, none⟩ = some (.int .i64 (x.l 2 : Int)) ∧ W'.cell? ⟨w5.heap.size, 5, none⟩ = some (.slice (x.A 2) (x.n 2) (x.c 2))) ∧ (convert 22 9 (.slice A4 N c4)).run Tryz.prog W' = .ok (.string (str bs)) W') := fun W' h => ⟨(box6 (HX6.out.below h hz6)).1, run_str (m := N) (c := c4) W' 22 Tryz.underlying22 Tryz.underlying5 (HD6.out.below h hs6) HN.out 9 Tryz.underlying9⟩
          have HMo : Hid (∀ W', Below W6.heap.size W6 W' → Calls Tryz.prog 15 #[.agg #[.int .i64 (x.l 0 : Int), .slice (x.A 0) (x.n 0) (x.c 0), .int .i64 (x.l 1 : Int), .slice (x.A 1) (x.n 1) (x.c 1), .int .i64 (x.l 2 : Int), .slice (x.A 2) (x.n 2) (x.c 2)]] W' fun e w' => ∃ y : Ts, e = .returned (.agg #[.int .i64 (y.l 0 : Int), .slice (y.A 0) (y.n 0) (y.c 0), .int .i64 (y.l 1 : Int), .slice (y.A 1) (y.n 1) (y.c 1), .int .i64 (y.l 2 : Int), .slice (y.A 2) (y.n 2) (y.c 2)]) ∧ Below W'.heap.size W' w') := fun W' h => modelOf13_any (fun k hk => (HO6.out k hk).below h)
          have HRr : Hid (∀ (y : Ts) W', Calls Tryz.prog 9 #[.string (str bs), .agg #[.int .i64 (y.l 0 : Int), .slice (y.A 0) (y.n 0) (y.c 0), .int .i64 (y.l 1 : Int), .slice (y.A 1) (y.n 1) (y.c 1), .int .i64 (y.l 2 : Int), .slice (y.A 2) (y.n 2) (y.c 2)]] W' (ReadU ls 0 W')) := fun y W' => by
            have h := (rread13_any (w := W') (x0 := y) (by have := HN.out; omega) (HS.out.2.2.1 y)).mono fun _ _ h => rread_u h
            rw [HS.out.1, HS.out.2.1] at h
            exact h
          clear hb46 hd6 hx6 hx5 hb6 hB5 HD4 HLd4 HX6 k0 k1 k2
          go_upto_region 21 with (fail)
          change Code.wp _ _ _ _ (w5.alloc (.cells x.cells 29))
          rw [← hW6]
          clear hW6
          go_cut [23, 24, 25] (fun m t f wx => ∃ (A : Option Addr) (n c q : Nat), m = .slice A n c ∧ t = .pointer (some ⟨q, 0, none⟩) ∧ f = .int .i64 0 ∧ ls.length = n ∧ DatR 3 scell wx W6.heap.size wx.heap.size A ls ∧ Below W6.heap.size W6 wx)
          case first =>
            have HB0 : Hid (Below W6.heap.size W6 W6.drew) := ⟨rfl, rfl, rfl, Nat.le_refl _, fun _ _ => rfl⟩
            have HBa : Hid (∀ o, Below W6.heap.size W6 (W6.alloc o).drew) := fun o => below_drawn (Below.refl _ _) (Nat.le_refl _) o
            go_region_held3 (fun w' => (w'.cell? ⟨w5.heap.size, 0, none⟩ = some (.int .i64 (x.l 0 : Int)) ∧ w'.cell? ⟨w5.heap.size, 1, none⟩ = some (.slice (x.A 0) (x.n 0) (x.c 0)) ∧ w'.cell? ⟨w5.heap.size, 2, none⟩ = some (.int .i64 (x.l 1 : Int)) ∧ w'.cell? ⟨w5.heap.size, 3, none⟩ = some (.slice (x.A 1) (x.n 1) (x.c 1)) ∧ w'.cell? ⟨w5.heap.size, 4, none⟩ = some (.int .i64 (x.l 2 : Int)) ∧ w'.cell? ⟨w5.heap.size, 5, none⟩ = some (.slice (x.A 2) (x.n 2) (x.c 2))) ∧ (convert 22 9 (.slice A4 N c4)).run Tryz.prog w' = .ok (.string (str bs)) w')
              (first | (with_reducible exact HSt.out _ HB0.out) | (with_reducible exact HSt.out _ (HBa.out _)) | (with_reducible exact HSt.out _ (HB0.out.alloc HB0.out.size _)) | (with_reducible exact HSt.out _ (below_set6 HB0.out hbq _ _ _ _ _ _)) | (with_reducible exact HSt.out _ (below_set6 (HB0.out.alloc HB0.out.size _) HB0.out.size _ _ _ _ _ _)))
              (first
              | (go_at_call 15; (with_reducible refine (HMo.out _ HB0.out).mono ?_); rintro e' w7 ⟨y, rfl, hB7⟩; have HB7 := Lib.hid (HB0.out.trans (hB7.mono HB0.out.size)); clear HB0; have HB0 := HB7; clear hB7 HB7)
              | (go_at_call 15; (with_reducible refine (HMo.out _ (HBa.out _)).mono ?_); rintro e' w7 ⟨y, rfl, hB7⟩; have HBx := Lib.hid ((box_drawn W6 36 #[.int .i64 0, .slice none 0 0, .int .i64 0, .slice none 0 0, .int .i64 0, .slice none 0 0]).below hB7 (by simp [World.drew])); have hbq := Nat.le_refl W6.heap.size; have HB7 := Lib.hid ((HBa.out _).trans (hB7.mono (HBa.out _).size)); clear HB0; have HB0 := HB7; clear hB7 HB7)
              | (go_at_call 9; (with_reducible refine (HRr.out _ _).mono ?_); rintro e' w8 ⟨A8, n8, c8, x8, rfl, hd8, hn8, hB8⟩; have HBy := Lib.hid (HBx.out.below hB8 HBx.out.lt); have hbl := HBx.out.lt; have HD8 := Lib.hid hd8; have HN8 := Lib.hid hn8; obtain ⟨⟨c0, c1, c2, c3, c4, c5⟩, f0, f1, f2, f3, f4, f5⟩ := box6 HBy.out; have HB8 := Lib.hid (HB0.out.trans (hB8.mono HB0.out.size)); have hsx := HB0.out.size; clear HB0; have HB0 := HB8; clear hB8 HB8 hd8 hn8)
              | (go_at_call 9; (with_reducible refine (HRr.out _ w7).mono ?_); rintro e' w8 ⟨A8, n8, c8, x8, rfl, hd8, hn8, hB8⟩; have HD8 := Lib.hid hd8; have HN8 := Lib.hid hn8; have HB8 := Lib.hid (HB0.out.trans (hB8.mono HB0.out.size)); have hsx := HB0.out.size; clear HB0; have HB0 := HB8; clear hB8 HB8 hd8 hn8)
              | (go_at_call 9; (with_reducible refine (HRr.out _ _).mono ?_); rintro e' w8 ⟨A8, n8, c8, x8, rfl, hd8, hn8, hB8⟩; have HBy := Lib.hid ((Box.new w7 36 #[.int .i64 0, .slice none 0 0, .int .i64 0, .slice none 0 0, .int .i64 0, .slice none 0 0]).below hB8 (by simp)); have HD8 := Lib.hid hd8; have HN8 := Lib.hid hn8; have hbq := HB0.out.size; obtain ⟨⟨c0, c1, c2, c3, c4, c5⟩, f0, f1, f2, f3, f4, f5⟩ := box6 HBy.out; have HB8 := Lib.hid ((HB0.out.alloc HB0.out.size _).trans (hB8.mono (by rw [World.size_alloc]; omega))); clear HB0; have HB0 := HB8; clear hB8 HB8 hd8 hn8))
            all_goals go_wp2_with fail
            all_goals go_meet
            all_goals first
              | exact ⟨A8, n8, c8, _, rfl, rfl, rfl, HN8.out, fin_set6 HB0.out HD8.out hbq hbl _ _ _ _ _ _⟩
              | exact ⟨A8, n8, c8, _, rfl, rfl, rfl, HN8.out, fin_set6 HB0.out HD8.out hbq (by rw [World.size_alloc]; omega) _ _ _ _ _ _⟩
              | exact ⟨A8, n8, c8, _, rfl, rfl, rfl, HN8.out, fin_alloc HB0.out HD8.out hsx _⟩
          case rest =>
            obtain ⟨A8, n8, c8, q8, rfl, rfl, rfl, hn8, hd8, hB8⟩ := hcut
            obtain rfl : n8 = j := by have := HLn.out; omega
            obtain ⟨⟨t0, t1, t2, t3, t4, t5⟩, _⟩ := HSt.out wc hB8
            have hs8 := hB8.size
            have HB8 := Lib.hid (HB6.out.trans (hB8.mono HB6.out.size))
            have HD8 := Lib.hid hd8
            have HE8 := Lib.hid ((HLd6.out.below hB8 (Nat.le_refl _)).mono (Nat.le_refl _) hs8)
            have HR9 : Hid (Calls Tryz.prog 8 #[.slice A4 N c4, .agg #[.int .i64 (x.l 0 : Int), .slice (x.A 0) (x.n 0) (x.c 0), .int .i64 (x.l 1 : Int), .slice (x.A 1) (x.n 1) (x.c 1), .int .i64 (x.l 2 : Int), .slice (x.A 2) (x.n 2) (x.c 2)]] wc (ReadU ls 0 wc)) := by
              have h := (read13_any (c := c4) (x0 := x) (HG.out.below HB8.out hBw) (HD6.out.below hB8 hs6) (by omega) HN.out (by have := HN.out; omega) (fun k hk => ((HO6.out k hk).below hB8).old) (Nat.le_refl _) (HS.out.2.2.1 x)).mono fun _ _ h => read_u h
              rw [HS.out.1, HS.out.2.1] at h
              exact h
            have HNe := Lib.hid HS.out.2.2.2
            clear hd8 hn8 hB8 HSt HMo HRr HO6 HD6 HLd6 HS HB6
            go_wp2_with fail
            refine HR9.out.mono ?_
            rintro e w9 ⟨A9, n9, c9, x9, rfl, hd9, hn9, hB9⟩
            obtain rfl : n9 = n8 := by have := HLn.out; omega
            obtain ⟨W10, hW10⟩ : ∃ W10, W10 = w9.alloc (.cells x9.cells 29) := ⟨_, rfl⟩
            have hb10 : Below w9.heap.size w9 W10 := by rw [hW10]; exact (Below.refl _ _).alloc (Nat.le_refl _) _
            have hs9 := hB9.size
            have hs10 := hb10.size
            have hb810 : Below wc.heap.size wc W10 := hB9.trans (hb10.mono hs9)
            have HB10 := Lib.hid (HB8.out.trans (hb810.mono HB8.out.size))
            have HSm := Lib.hid (same_yes13 (c1 := c8) (c2 := c) (HD8.out.below hb810 (Nat.le_refl _)) (HE8.out.below hb810 (Nat.le_refl _)) HLn.out (by omega) (by omega) (by omega))
            have HSp : Hid (∀ W', Below W10.heap.size W10 W' → Calls Tryz.prog 10 #[.slice A9 n9 c9, .slice A n9 c] W' fun e w' => e = .returned (.bool true) ∧ Below W'.heap.size W' w') := fun W' hB' => by
              have := hB'.size
              exact same_yes13 ((hd9.below hb10 (Nat.le_refl _)).below hB' (by omega)) ((HE8.out.below hb810 (Nat.le_refl _)).below hB' (by omega)) hn9 (by omega) (by omega) (by omega)
            clear hd9 hn9 hB9 hb10 hb810 HR9 t0 t1 t2 t3 t4 t5
            go_upto_region 23 with (fail)
            change Code.wp _ _ _ _ (w9.alloc (.cells x9.cells 29))
            rw [← hW10]
            clear hW10
            by_cases hj0 : n9 = 0
            · subst hj0
              obtain rfl : N = 1 := by
                have h1 := HNe.out (List.eq_nil_of_length_eq_zero HLn.out)
                have h2 := HN.out
                omega
              go_wp2_with (first
                | (go_at_call 10; (with_reducible refine HSm.out.mono ?_); rintro e' w15 ⟨rfl, hBs⟩; have HBs := Lib.hid hBs; clear hBs)
                | (go_at_call 10; (with_reducible refine (HSp.out _ HBs.out).mono ?_); rintro e' w16 ⟨rfl, hBt⟩; have HBt := Lib.hid ((HB10.out.trans (HBs.out.mono HB10.out.size)).trans (hBt.mono (by have := HBs.out.size; have := HB10.out.size; omega))); clear hBt))
              go_ret
              exact ⟨rfl, HBt.out⟩
            · have hj1 : (0 : Int) < (n9 : Int) := by omega
              go_wp2_with (first
                | (go_at_call 10; (with_reducible refine HSm.out.mono ?_); rintro e' w15 ⟨rfl, hBs⟩; have HBs := Lib.hid hBs; clear hBs)
                | (go_at_call 10; (with_reducible refine (HSp.out _ HBs.out).mono ?_); rintro e' w16 ⟨rfl, hBt⟩; have HBt := Lib.hid ((HB10.out.trans (HBs.out.mono HB10.out.size)).trans (hBt.mono (by have := HBs.out.size; have := HB10.out.size; omega))); clear hBt))
              go_ret
              exact ⟨rfl, HBt.out⟩
        · have hf : okA ls j = false := by
            cases h : okA ls j with
            | false => rfl
            | true => exact absurd (HAl.out.1 h) hno
          rw [hf]
          have HB4 := Lib.hid (HB3.out.trans (hB4.mono HB3.out.size))
          clear hno hf hB4 HW HAl
          go_wp2_with fail
          go_ret
          exact ⟨rfl, HB4.out⟩
  | false =>
    have HSq := Lib.hid (seqsOf_any (c := cp) (HD.out.1.below HB1.out (Nat.le_refl _)) HB1.out.size HM.out.symm (by omega) HD.out.2)
    go_wp2_with fail
    refine HSq.out.mono ?_
    rintro e W2 ⟨v2, rfl, ho2, hB2⟩
    obtain ⟨A, c, rfl, hc2, hd2⟩ := ho2.form scell_len
    obtain ⟨ls, hls⟩ : ∃ ls, ls = rs.map sqm := ⟨_, rfl⟩
    obtain ⟨n, hn⟩ : ∃ n, n = m := ⟨_, rfl⟩
    rw [← hls] at hd2 ⊢
    have hl2 : ls.length = n := by rw [hls, List.length_map, hn]; exact HM.out.symm
    rw [hl2]
    have HLd := Lib.hid (hd2.mono (Nat.zero_le _) (Nat.le_refl _))
    have HLn := Lib.hid hl2
    have HLs : Hid (∀ q ∈ ls, q.Small) := by rw [hls]; exact sqm_small rs
    have HX2 := Lib.hid (HX1.out.below hB2 hs1)
    have HB2 := Lib.hid (HB1.out.trans (hB2.mono HB1.out.size))
    have hn200 : n ≤ 200 := by omega
    have hs2 : w.heap.size < W2.heap.size := by have := hB2.size; omega
    clear hls hd2 hl2 ho2 hc2 hB2 hn HX1 HB1 hs1 HSq
    go_upto_region 9 with (fail)
    go_wp2_with fail
    go_loopg [9, 10, 11, 12, 13, 14, 15, 16, 17, 18, 19] n (fun gh i9 i i11 i12 i13 i14 i15 i16 i17 i18 i19 wx => ∃ j : Nat, j + gh = n ∧ i = .int .i64 (j : Int) ∧ i9 = .bool (okA ls j) ∧ Hid (Below W2.heap.size W2 wx))
    case atStart => exact ⟨0, by omega, rfl, rfl, Below.refl _ _⟩
    case round =>
      obtain ⟨j, hj, rfl, rfl, HE⟩ := hrel
      have HJ := Lib.hid hj
      have hjn : j ≤ n := by omega
      clear hj
      by_cases hlt : j < n
      · obtain ⟨g', rfl⟩ : ∃ g', gk = g' + 1 := ⟨gk - 1, by have := HJ.out; omega⟩
        have hji : (j : Int) < (n : Int) := by omega
        have hjl : j < ls.length := by have := HLn.out; omega
        obtain ⟨d1, o1, rfl, _, hd1, hc1⟩ := HLd.out.seq (by omega)
        obtain ⟨p0, p1, p2⟩ := hc1 j hjl
        have HOk := Lib.hid (okA_succ ls j hjl)
        have HSm := Lib.hid (HLs.out ls[j] (List.getElem_mem _))
        have HOe := Lib.hid (okQ_eq ls[j])
        generalize ls[j] = q at *
        have x0 := (HE.out.cell (p := ⟨d1, o1 + j * 3, none⟩) hd1).trans p0
        have x1 := (HE.out.cell (p := ⟨d1, o1 + j * 3 + 1, none⟩) hd1).trans p1
        have x2 := (HE.out.cell (p := ⟨d1, o1 + j * 3 + 2, none⟩) hd1).trans p2
        have HR0 : Hid (∀ W', Calls Tryz.prog 12 #[.int .i64 0, .int .u32 (q.l : Int)] W' fun e w' => e = .returned (cd.ansO (cd.ofN 0 q.l)) ∧ Below W'.heap.size W' w') := fun W' => cd.refOf_any 0 q.l W' HSm.out.1
        have HR1 : Hid (∀ W', Calls Tryz.prog 12 #[.int .i64 1, .int .u32 (q.o : Int)] W' fun e w' => e = .returned (cd.ansO (cd.ofN 1 q.o)) ∧ Below W'.heap.size W' w') := fun W' => cd.refOf_any 1 q.o W' HSm.out.2.2
        have HR2 : Hid (∀ W', Calls Tryz.prog 12 #[.int .i64 2, .int .u32 (q.m : Int)] W' fun e w' => e = .returned (cd.ansO (cd.ofN 2 q.m)) ∧ Below W'.heap.size W' w') := fun W' => cd.refOf_any 2 q.m W' HSm.out.2.1
        generalize cd.ofN 0 q.l = r0 at *
        generalize cd.ofN 1 q.o = r1 at *
        generalize cd.ofN 2 q.m = r2 at *
        obtain ⟨a0, b0, e0⟩ := r0
        obtain ⟨a1, b1, e1⟩ := r1
        obtain ⟨a2, b2, e2⟩ := r2
        unfold cd.ansO at HR0 HR1 HR2
        dsimp only at HR0 HR1 HR2 HOe
        have hdw : d1 < wr.heap.size := by have := HE.out.size; omega
        clear p0 p1 p2 hc1
        go_wp2_with fail
        refine (HR0.out _).mono ?_
        rintro e w3 ⟨rfl, hB3⟩
        have y2 := (hB3.cell (p := ⟨d1, o1 + j * 3 + 2, none⟩) hdw).trans x2
        have y1 := (hB3.cell (p := ⟨d1, o1 + j * 3 + 1, none⟩) hdw).trans x1
        have HB3 := Lib.hid (HE.out.trans (hB3.mono HE.out.size))
        have hdw3 : d1 < w3.heap.size := by have := hB3.size; omega
        clear hB3 x0 x1 x2
        go_wp2_with fail
        refine (HR1.out _).mono ?_
        rintro e w4 ⟨rfl, hB4⟩
        have z1 := (hB4.cell (p := ⟨d1, o1 + j * 3 + 1, none⟩) hdw3).trans y1
        have HB4 := Lib.hid (HB3.out.trans (hB4.mono HB3.out.size))
        clear hB4 y1 y2
        go_wp2_with fail
        refine (HR2.out _).mono ?_
        rintro e w5 ⟨rfl, hB5⟩
        have HB5 := Lib.hid (HB4.out.trans (hB5.mono HB4.out.size))
        clear hB5 z1 HR0 HR1 HR2 HB3 HB4
        rw [HOe.out] at HOk
        cases hb : okA ls j with
        | false =>
          rw [hb] at HOk
          go_wp2_with fail
          go_roundg g'
          case rel => exact ⟨j + 1, by have := HJ.out; omega, by go_num, by rw [HOk.out]; rfl, HB5⟩
          case measure => omega
        | true =>
          rw [hb] at HOk
          by_cases h0 : e0 = 0
          · subst h0
            by_cases h1 : e1 = 0
            · subst h1
              by_cases h2 : e2 = 0
              · subst h2
                go_wp2_with fail
                go_roundg g'
                case rel => exact ⟨j + 1, by have := HJ.out; omega, by go_num, by rw [HOk.out]; rfl, HB5⟩
                case measure => omega
              · have g2 : ((e2 : Int) == 0) = false := by simp; omega
                go_wp2_with fail
                go_roundg g'
                case rel => exact ⟨j + 1, by have := HJ.out; omega, by go_num, by rw [HOk.out]; simp [h2], HB5⟩
                case measure => omega
            · have g1 : ((e1 : Int) == 0) = false := by simp; omega
              go_wp2_with fail
              go_roundg g'
              case rel => exact ⟨j + 1, by have := HJ.out; omega, by go_num, by rw [HOk.out]; simp [h1], HB5⟩
              case measure => omega
          · have g0 : ((e0 : Int) == 0) = false := by simp; omega
            go_wp2_with fail
            go_roundg g'
            case rel => exact ⟨j + 1, by have := HJ.out; omega, by go_num, by rw [HOk.out]; simp [h0], HB5⟩
            case measure => omega
      · obtain rfl : j = n := by omega
        have hji : decide ((j : Int) < (j : Int)) = false := by simp
        have HAl := Lib.hid (okA_all ls)
        rw [HLn.out] at HAl
        have HB3 := Lib.hid (HB2.out.trans (HE.out.mono HB2.out.size))
        have HLd3 := Lib.hid ((HLd.out.below HE.out (Nat.le_refl _)).mono (Nat.le_refl _) HE.out.size)
        have HX3 := Lib.hid (HX2.out.below HE.out hs2)
        have hs3 : w.heap.size < wr.heap.size := by have := HE.out.size; omega
        have HW := Lib.hid (write13_any (c := c) (HG.out.below HB3.out hBw) HLd3.out (Nat.le_refl _) HLn.out (by omega) HLs.out)
        clear HLd HX2 HB2 hs2 HE
        go_wp2_with fail
        refine HW.out.mono ?_
        rintro e w4 ⟨hB4, ⟨hok, v4, bs, rfl, ho4, hl4, hsec⟩ | ⟨hno, rfl⟩⟩
        · rw [HAl.out.2 hok]
          obtain ⟨A4, c4, rfl, hc4, hdat⟩ := ho4.form
          have HS := Lib.hid (sec_reads hsec)
          have HB4 := Lib.hid (HB3.out.trans (hB4.mono HB3.out.size))
          have HLd4 := Lib.hid ((HLd3.out.below hB4 (Nat.le_refl _)).mono (Nat.le_refl _) hB4.size)
          have hx4 := HX3.out.below hB4 hs3
          have k0 : w4.cell? ⟨w.heap.size, 0, none⟩ = some (.int .u8 (kb 0 : Int)) := hx4.cell 0
          have k1 : w4.cell? ⟨w.heap.size, 1, none⟩ = some (.int .u8 (kb 1 : Int)) := hx4.cell 1
          have k2 : w4.cell? ⟨w.heap.size, 2, none⟩ = some (.int .u8 (kb 2 : Int)) := hx4.cell 2
          obtain ⟨N, hN⟩ : ∃ N, N = bs.length := ⟨_, rfl⟩
          rw [← hN] at hl4 hc4 ⊢
          have HN := Lib.hid hN.symm
          have HOl := Lib.hid (old_any (HG.out.below HB4.out hBw) HKb.out)
          unfold kcells Ts.val at HOl
          have HD4 := Lib.hid hdat
          have hs4 := HB4.out.size
          clear hN hx4 hdat ho4 hok hB4 HW HAl HX3 HLd3 HB3 hsec
          go_wp2_with fail
          refine HOl.out.mono ?_
          rintro e w5 ⟨x, rfl, hx5, hB5⟩
          clear HOl
          obtain ⟨W6, hW6⟩ : ∃ W6, W6 = w5.alloc (.cells x.cells 29) := ⟨_, rfl⟩
          have hb6 : Below w5.heap.size w5 W6 := by rw [hW6]; exact (Below.refl _ _).alloc (Nat.le_refl _) _
          have hx6 : Box W6 w5.heap.size 29 x.cells := by rw [hW6]; exact Box.new w5 _ _
          have hz6 : w5.heap.size < W6.heap.size := by rw [hW6, World.size_alloc]; omega
          have hb46 : Below w4.heap.size w4 W6 := hB5.trans (hb6.mono hB5.size)
          have HO6 : Hid (∀ k, k < 3 → OldP W6 (x.A k) (x.n k)) := fun k hk => (hx5 k hk).below hb6
          have hd6 := HD4.out.below hb46 (Nat.le_refl _)
          have hs6 := hb46.size
          have HD6 := Lib.hid hd6
          have HX6 := Lib.hid hx6
          have HLd6 := Lib.hid ((HLd4.out.below hb46 (Nat.le_refl _)).mono (Nat.le_refl _) hs6)
          have HB6 := Lib.hid (HB4.out.trans (hb46.mono HB4.out.size))
          have HSt : Hid (∀ W', Below W6.heap.size W6 W' → (W'.cell? ⟨w5.heap.size, 0, none⟩ = some (.int .i64 (x.l 0 : Int)) ∧ W'.cell? ⟨w5.heap.size, 1, none⟩ = some (.slice (x.A 0) (x.n 0) (x.c 0)) ∧ W'.cell? ⟨w5.heap.size, 2, none⟩ = some (.int .i64 (x.l 1 : Int)) ∧ W'.cell? ⟨w5.heap.size, 3, none⟩ = some (.slice (x.A 1) (x.n 1) (x.c 1)) ∧ W'.cell? ⟨w5.heap.size, 4, none⟩ = some (.int .i64 (x.l 2 : Int)) ∧ W'.cell? ⟨w5.heap.size, 5, none⟩ = some (.slice (x.A 2) (x.n 2) (x.c 2))) ∧ (convert 22 9 (.slice A4 N c4)).run Tryz.prog W' = .ok (.string (str bs)) W') := fun W' h => ⟨(box6 (HX6.out.below h hz6)).1, run_str (m := N) (c := c4) W' 22 Tryz.underlying22 Tryz.underlying5 (HD6.out.below h hs6) HN.out 9 Tryz.underlying9⟩
          have HMo : Hid (∀ W', Below W6.heap.size W6 W' → Calls Tryz.prog 15 #[.agg #[.int .i64 (x.l 0 : Int), .slice (x.A 0) (x.n 0) (x.c 0), .int .i64 (x.l 1 : Int), .slice (x.A 1) (x.n 1) (x.c 1), .int .i64 (x.l 2 : Int), .slice (x.A 2) (x.n 2) (x.c 2)]] W' fun e w' => ∃ y : Ts, e = .returned (.agg #[.int .i64 (y.l 0 : Int), .slice (y.A 0) (y.n 0) (y.c 0), .int .i64 (y.l 1 : Int), .slice (y.A 1) (y.n 1) (y.c 1), .int .i64 (y.l 2 : Int), .slice (y.A 2) (y.n 2) (y.c 2)]) ∧ Below W'.heap.size W' w') := fun W' h => modelOf13_any (fun k hk => (HO6.out k hk).below h)
          have HRr : Hid (∀ (y : Ts) W', Calls Tryz.prog 9 #[.string (str bs), .agg #[.int .i64 (y.l 0 : Int), .slice (y.A 0) (y.n 0) (y.c 0), .int .i64 (y.l 1 : Int), .slice (y.A 1) (y.n 1) (y.c 1), .int .i64 (y.l 2 : Int), .slice (y.A 2) (y.n 2) (y.c 2)]] W' (ReadU ls 0 W')) := fun y W' => by
            have h := (rread13_any (w := W') (x0 := y) (by have := HN.out; omega) (HS.out.2.2.1 y)).mono fun _ _ h => rread_u h
            rw [HS.out.1, HS.out.2.1] at h
            exact h
          clear hb46 hd6 hx6 hx5 hb6 hB5 HD4 HLd4 HX6 k0 k1 k2
          go_upto_region 21 with (fail)
          change Code.wp _ _ _ _ (w5.alloc (.cells x.cells 29))
          rw [← hW6]
          clear hW6
          go_cut [23, 24, 25] (fun m t f wx => ∃ (A : Option Addr) (n c q : Nat), m = .slice A n c ∧ t = .pointer (some ⟨q, 0, none⟩) ∧ f = .int .i64 0 ∧ ls.length = n ∧ DatR 3 scell wx W6.heap.size wx.heap.size A ls ∧ Below W6.heap.size W6 wx)
          case first =>
            have HB0 : Hid (Below W6.heap.size W6 W6.drew) := ⟨rfl, rfl, rfl, Nat.le_refl _, fun _ _ => rfl⟩
            have HBa : Hid (∀ o, Below W6.heap.size W6 (W6.alloc o).drew) := fun o => below_drawn (Below.refl _ _) (Nat.le_refl _) o
            go_region_held3 (fun w' => (w'.cell? ⟨w5.heap.size, 0, none⟩ = some (.int .i64 (x.l 0 : Int)) ∧ w'.cell? ⟨w5.heap.size, 1, none⟩ = some (.slice (x.A 0) (x.n 0) (x.c 0)) ∧ w'.cell? ⟨w5.heap.size, 2, none⟩ = some (.int .i64 (x.l 1 : Int)) ∧ w'.cell? ⟨w5.heap.size, 3, none⟩ = some (.slice (x.A 1) (x.n 1) (x.c 1)) ∧ w'.cell? ⟨w5.heap.size, 4, none⟩ = some (.int .i64 (x.l 2 : Int)) ∧ w'.cell? ⟨w5.heap.size, 5, none⟩ = some (.slice (x.A 2) (x.n 2) (x.c 2))) ∧ (convert 22 9 (.slice A4 N c4)).run Tryz.prog w' = .ok (.string (str bs)) w')
              (first | (with_reducible exact HSt.out _ HB0.out) | (with_reducible exact HSt.out _ (HBa.out _)) | (with_reducible exact HSt.out _ (HB0.out.alloc HB0.out.size _)) | (with_reducible exact HSt.out _ (below_set6 HB0.out hbq _ _ _ _ _ _)) | (with_reducible exact HSt.out _ (below_set6 (HB0.out.alloc HB0.out.size _) HB0.out.size _ _ _ _ _ _)))
              (first
              | (go_at_call 15; (with_reducible refine (HMo.out _ HB0.out).mono ?_); rintro e' w7 ⟨y, rfl, hB7⟩; have HB7 := Lib.hid (HB0.out.trans (hB7.mono HB0.out.size)); clear HB0; have HB0 := HB7; clear hB7 HB7)
              | (go_at_call 15; (with_reducible refine (HMo.out _ (HBa.out _)).mono ?_); rintro e' w7 ⟨y, rfl, hB7⟩; have HBx := Lib.hid ((box_drawn W6 36 #[.int .i64 0, .slice none 0 0, .int .i64 0, .slice none 0 0, .int .i64 0, .slice none 0 0]).below hB7 (by simp [World.drew])); have hbq := Nat.le_refl W6.heap.size; have HB7 := Lib.hid ((HBa.out _).trans (hB7.mono (HBa.out _).size)); clear HB0; have HB0 := HB7; clear hB7 HB7)
              | (go_at_call 9; (with_reducible refine (HRr.out _ _).mono ?_); rintro e' w8 ⟨A8, n8, c8, x8, rfl, hd8, hn8, hB8⟩; have HBy := Lib.hid (HBx.out.below hB8 HBx.out.lt); have hbl := HBx.out.lt; have HD8 := Lib.hid hd8; have HN8 := Lib.hid hn8; obtain ⟨⟨c0, c1, c2, c3, c4, c5⟩, f0, f1, f2, f3, f4, f5⟩ := box6 HBy.out; have HB8 := Lib.hid (HB0.out.trans (hB8.mono HB0.out.size)); have hsx := HB0.out.size; clear HB0; have HB0 := HB8; clear hB8 HB8 hd8 hn8)
              | (go_at_call 9; (with_reducible refine (HRr.out _ w7).mono ?_); rintro e' w8 ⟨A8, n8, c8, x8, rfl, hd8, hn8, hB8⟩; have HD8 := Lib.hid hd8; have HN8 := Lib.hid hn8; have HB8 := Lib.hid (HB0.out.trans (hB8.mono HB0.out.size)); have hsx := HB0.out.size; clear HB0; have HB0 := HB8; clear hB8 HB8 hd8 hn8)
              | (go_at_call 9; (with_reducible refine (HRr.out _ _).mono ?_); rintro e' w8 ⟨A8, n8, c8, x8, rfl, hd8, hn8, hB8⟩; have HBy := Lib.hid ((Box.new w7 36 #[.int .i64 0, .slice none 0 0, .int .i64 0, .slice none 0 0, .int .i64 0, .slice none 0 0]).below hB8 (by simp)); have HD8 := Lib.hid hd8; have HN8 := Lib.hid hn8; have hbq := HB0.out.size; obtain ⟨⟨c0, c1, c2, c3, c4, c5⟩, f0, f1, f2, f3, f4, f5⟩ := box6 HBy.out; have HB8 := Lib.hid ((HB0.out.alloc HB0.out.size _).trans (hB8.mono (by rw [World.size_alloc]; omega))); clear HB0; have HB0 := HB8; clear hB8 HB8 hd8 hn8))
            all_goals go_wp2_with fail
            all_goals go_meet
            all_goals first
              | exact ⟨A8, n8, c8, _, rfl, rfl, rfl, HN8.out, fin_set6 HB0.out HD8.out hbq hbl _ _ _ _ _ _⟩
              | exact ⟨A8, n8, c8, _, rfl, rfl, rfl, HN8.out, fin_set6 HB0.out HD8.out hbq (by rw [World.size_alloc]; omega) _ _ _ _ _ _⟩
              | exact ⟨A8, n8, c8, _, rfl, rfl, rfl, HN8.out, fin_alloc HB0.out HD8.out hsx _⟩
          case rest =>
            obtain ⟨A8, n8, c8, q8, rfl, rfl, rfl, hn8, hd8, hB8⟩ := hcut
            obtain rfl : n8 = j := by have := HLn.out; omega
            obtain ⟨⟨t0, t1, t2, t3, t4, t5⟩, _⟩ := HSt.out wc hB8
            have hs8 := hB8.size
            have HB8 := Lib.hid (HB6.out.trans (hB8.mono HB6.out.size))
            have HD8 := Lib.hid hd8
            have HE8 := Lib.hid ((HLd6.out.below hB8 (Nat.le_refl _)).mono (Nat.le_refl _) hs8)
            have HR9 : Hid (Calls Tryz.prog 8 #[.slice A4 N c4, .agg #[.int .i64 (x.l 0 : Int), .slice (x.A 0) (x.n 0) (x.c 0), .int .i64 (x.l 1 : Int), .slice (x.A 1) (x.n 1) (x.c 1), .int .i64 (x.l 2 : Int), .slice (x.A 2) (x.n 2) (x.c 2)]] wc (ReadU ls 0 wc)) := by
              have h := (read13_any (c := c4) (x0 := x) (HG.out.below HB8.out hBw) (HD6.out.below hB8 hs6) (by omega) HN.out (by have := HN.out; omega) (fun k hk => ((HO6.out k hk).below hB8).old) (Nat.le_refl _) (HS.out.2.2.1 x)).mono fun _ _ h => read_u h
              rw [HS.out.1, HS.out.2.1] at h
              exact h
            have HNe := Lib.hid HS.out.2.2.2
            clear hd8 hn8 hB8 HSt HMo HRr HO6 HD6 HLd6 HS HB6
            go_wp2_with fail
            refine HR9.out.mono ?_
            rintro e w9 ⟨A9, n9, c9, x9, rfl, hd9, hn9, hB9⟩
            obtain rfl : n9 = n8 := by have := HLn.out; omega
            obtain ⟨W10, hW10⟩ : ∃ W10, W10 = w9.alloc (.cells x9.cells 29) := ⟨_, rfl⟩
            have hb10 : Below w9.heap.size w9 W10 := by rw [hW10]; exact (Below.refl _ _).alloc (Nat.le_refl _) _
            have hs9 := hB9.size
            have hs10 := hb10.size
            have hb810 : Below wc.heap.size wc W10 := hB9.trans (hb10.mono hs9)
            have HB10 := Lib.hid (HB8.out.trans (hb810.mono HB8.out.size))
            have HSm := Lib.hid (same_yes13 (c1 := c8) (c2 := c) (HD8.out.below hb810 (Nat.le_refl _)) (HE8.out.below hb810 (Nat.le_refl _)) HLn.out (by omega) (by omega) (by omega))
            have HSp : Hid (∀ W', Below W10.heap.size W10 W' → Calls Tryz.prog 10 #[.slice A9 n9 c9, .slice A n9 c] W' fun e w' => e = .returned (.bool true) ∧ Below W'.heap.size W' w') := fun W' hB' => by
              have := hB'.size
              exact same_yes13 ((hd9.below hb10 (Nat.le_refl _)).below hB' (by omega)) ((HE8.out.below hb810 (Nat.le_refl _)).below hB' (by omega)) hn9 (by omega) (by omega) (by omega)
            clear hd9 hn9 hB9 hb10 hb810 HR9 t0 t1 t2 t3 t4 t5
            go_upto_region 23 with (fail)
            change Code.wp _ _ _ _ (w9.alloc (.cells x9.cells 29))
            rw [← hW10]
            clear hW10
            by_cases hj0 : n9 = 0
            · subst hj0
              obtain rfl : N = 1 := by
                have h1 := HNe.out (List.eq_nil_of_length_eq_zero HLn.out)
                have h2 := HN.out
                omega
              go_wp2_with (first
                | (go_at_call 10; (with_reducible refine HSm.out.mono ?_); rintro e' w15 ⟨rfl, hBs⟩; have HBs := Lib.hid hBs; clear hBs)
                | (go_at_call 10; (with_reducible refine (HSp.out _ HBs.out).mono ?_); rintro e' w16 ⟨rfl, hBt⟩; have HBt := Lib.hid ((HB10.out.trans (HBs.out.mono HB10.out.size)).trans (hBt.mono (by have := HBs.out.size; have := HB10.out.size; omega))); clear hBt))
              go_ret
              exact ⟨rfl, HBt.out⟩
            · have hj1 : (0 : Int) < (n9 : Int) := by omega
              go_wp2_with (first
                | (go_at_call 10; (with_reducible refine HSm.out.mono ?_); rintro e' w15 ⟨rfl, hBs⟩; have HBs := Lib.hid hBs; clear hBs)
                | (go_at_call 10; (with_reducible refine (HSp.out _ HBs.out).mono ?_); rintro e' w16 ⟨rfl, hBt⟩; have HBt := Lib.hid ((HB10.out.trans (HBs.out.mono HB10.out.size)).trans (hBt.mono (by have := HBs.out.size; have := HB10.out.size; omega))); clear hBt))
              go_ret
              exact ⟨rfl, HBt.out⟩
        · have hf : okA ls j = false := by
            cases h : okA ls j with
            | false => rfl
            | true => exact absurd (HAl.out.1 h) hno
          rw [hf]
          have HB4 := Lib.hid (HB3.out.trans (hB4.mono HB3.out.size))
          clear hno hf hB4 HW HAl
          go_wp2_with fail
          go_ret
          exact ⟨rfl, HB4.out⟩

set_option maxRecDepth 100000 in
theorem lifted (os : Os) (started : os.Started) (H : Type) (enc : TypeId × Value → H) :
    ReturnsInHanded {} Tryz.checked os 4 .any (fun w args => (Rows.sequencesWritesSpec.pre enc Tryz.prog Tryz.f4 [] false w args ∧ laidMetH Tryz.prog laidL w) ∧ sizedMet enc Tryz.prog Tryz.f4 (OpenSpec.ofChange Rows.sequencesWritesSpec) false w args)
      (Rows.sequencesWritesSpec.post enc Tryz.prog Tryz.f4 false true false false) := by
  refine returnsInHanded_of_change_and (C := Tryz.checked) (X := fun w _ => laidMetH Tryz.prog laidL w) (fun _ _ _ hh h => h.of_heap hh) own started (by kernel_rfl) Tryz.func4
    (ChangeSpec.witness_shaped (enc := enc) (C := Tryz.checked) (os := os) (X := fun w _ => laidMetH Tryz.prog laidL w) false (World.doorLaid Tryz.prog 400 os) #[.slice none 0 0, .bool false, .agg #[.int .u8 0, .int .u8 0, .int .u8 0]] 8 rfl (World.shaped_of_RefB (by kernel_rfl) (by kernel_rfl)) (by kernel_rfl) (by kernel_rfl) (by kernel_rfl) (door_met os _)) ?_
  intro W base args ds gs before hval0 hW _ _ hL _
  have hval : ∀ (j : Nat) t v, Tryz.f4.params[j]? = some t → args[j]? = some v → Value.okWide Tryz.prog W .any base t v := hval0
  have hW' := hW
  obtain ⟨p, q, hA0, hV, rfl, hfz, hnd⟩ := hW
  have hA : DataW.TrodAll enc Tryz.prog W 0 (fun _ => true) true Tryz.f4.params.toList args.toList ds p := hA0
  rw [Tryz.params4] at hA hval
  obtain ⟨v0, vs0, d0, ds0, p0, q0, hargs, rfl, rfl, h0, r0⟩ := trodAll_cons hA
  obtain ⟨v1, vs1, d1, ds1, p1, q1, rfl, rfl, rfl, h1, r1⟩ := trodAll_cons r0
  obtain ⟨v2, vs2, d2, ds2, p2, q2, rfl, rfl, rfl, h2, r2⟩ := trodAll_cons r1
  obtain ⟨rfl, rfl, rfl⟩ := trodAll_nil r2
  obtain rfl : args = #[v0, v1, v2] := by cases args; simp_all
  obtain ⟨rfl, rfl⟩ := trodVars_none hV
  obtain ⟨a0, len0, cap0, rfl⟩ := okWide_slice Tryz.underlying24 (hval 0 24 v0 rfl rfl)
  have k0 := h0
  have lt0 : ∀ x ∈ p0, x.block < W.heap.size := by obtain ⟨m, hm⟩ := k0; exact DataW.trod_lt m _ _ _ hm
  obtain ⟨rs0, rfl, hl0, hm0, hd0⟩ := seqs_of h0
  obtain ⟨n1, rfl, rfl, rfl⟩ := open_bool Tryz.underlying4 (hval 1 4 v1 rfl rfl) h1
  have k2 := h2
  have lt2 : ∀ x ∈ p2, x.block < W.heap.size := by obtain ⟨m, hm⟩ := k2; exact DataW.trod_lt m _ _ _ hm
  obtain ⟨q2x, rfl, hq2x⟩ := kinds_of (hval 2 41 v2 rfl rfl) h2
  clear hA0 hval0
  refine (walk a0 rs0 cap0 n1 q2x W (glob_of_laid hL) hd0 (by omega) hq2x).mono fun e W' ⟨he, bel⟩ => ?_
  subst he
  exact ⟨_, rfl, _, _, _, [], _, [], hW', trodAll_mk1 (shut_bool Tryz.underlying4 _), (trodAll_cons_mk (Below.trod laidOut (by kernel_rfl) (of_decide_eq_true (by kernel_rfl)) k0 bel lt0) (trodAll_cons_mk (shut_bool Tryz.underlying4 n1) (trodAll_cons_mk (Below.trod laidOut (by kernel_rfl) (of_decide_eq_true (by kernel_rfl)) k2 bel lt2) trodAll_mk0))), rfl, bel.frame _, fun h => by cases h⟩

theorem over : Rows.sequencesWritesRow.holds Tryz.pinned (OpenSpec.ofChange Rows.sequencesWritesSpec) :=
  OpenClaim.holds_of_wide 4 Tryz.f4 rfl rfl rfl rfl rfl rfl rfl ⟨rfl, rfl, rfl, rfl, rfl⟩ rfl rfl rfl rfl rfl (by kernel_rfl) Tryz.func4 (by kernel_rfl)
    (of_decide_eq_true (by kernel_rfl)) (by unfold Func.isWrapper; first | (rw [if_pos (by decide +kernel)]; kernel_rfl) | (rw [if_neg (by decide +kernel)]; exact ⟨rfl, rfl⟩))
    (fun os started H enc _ => lifted os started H enc)

/-- ████ THE STATEMENT ████ -/
theorem proved : Rows.SequencesWritesCardSaid :=
  Claim7.holds_tied_plain_at .later [] [.data, .data, .data, .data, .data, .data, .data, .data] true Rows.sequencesWritesCard.stood.harness false
    over (fun _ h => by cases h) (by kernel_rfl) (fun _ h => by cases h) sequencesWrites_row_tie rfl ⟨rfl, rfl⟩ (by kernel_rfl) rfl
    (fun f fn hf hfn => by
      obtain rfl : f = 4 := Option.some.inj ((show Tryz.prog.funcNamed Rows.sequencesWritesRow.func = some 4 by kernel_rfl).symm.trans hf) |>.symm
      obtain rfl : fn = Tryz.f4 := (Option.some.inj (Tryz.func4.symm.trans hfn)).symm
      exact ⟨by kernel_rfl, fun j t ht => by
        rw [Tryz.params4] at ht
        have hm : t ∈ [24, 4, 41] := by
          have := Array.mem_of_getElem? ht
          simp at this
          simpa using this
        have hall : ([24, 4, 41].all fun u => !Tryz.prog.wantsStandIn u) = true := by kernel_rfl
        exact (show Tryz.prog.wantsStandIn t = false by simpa using List.all_eq_true.1 hall t hm)⟩)
    (by kernel_rfl)
#print axioms proved
end Go.Proofs.YtlidnialggpcpaaGreatDoor.sequencesWrites
