
/- The contract of the program's readTables. -/
import Derived.Test.YtlidnialggpcpaaGreatDoorSeqTabs
namespace Go.Proofs.YtlidnialggpcpaaGreatDoor
open Go.RowKit

section
variable {own : Bool} {B : Nat} {w : World} {lo g : Nat} {xs : List UInt8} {x0 : Ts} {f : UInt8} {r : List UInt8}
theorem and_threeI (n : Int) : bits .and .i64 n 3 = n % 4 := by
  have h7 : (BitVec.ofInt 64 3).toNat = 2 ^ 2 - 1 := by decide
  have key : (BitVec.ofInt 64 n &&& BitVec.ofInt 64 3).toNat = (n % ((2 ^ 64 : Nat) : Int)).toNat % 2 ^ 2 := by
    rw [BitVec.toNat_and, BitVec.toNat_ofInt, h7, Nat.and_two_pow_sub_one_eq_mod]
  show IntKind.i64.wrap ((BitVec.ofInt 64 n &&& BitVec.ofInt 64 3).toNat : Nat) = n % 4
  rw [key, IntKind.wrap_i64]
  omega
theorem and_three (m : Nat) : bits .and .i64 (m : Int) 3 = ((m % 4 : Nat) : Int) := by rw [and_threeI]; omega
theorem box6 {b : Nat} {t : TypeId} {v0 v1 v2 v3 v4 v5 : Value} (h : Box w b t #[v0, v1, v2, v3, v4, v5]) :
    (w.cell? ⟨b, 0, none⟩ = some v0 ∧ w.cell? ⟨b, 1, none⟩ = some v1 ∧ w.cell? ⟨b, 2, none⟩ = some v2 ∧ w.cell? ⟨b, 3, none⟩ = some v3 ∧ w.cell? ⟨b, 4, none⟩ = some v4 ∧ w.cell? ⟨b, 5, none⟩ = some v5) ∧
    (w.frozen? ⟨b, 0, none⟩ = false ∧ w.frozen? ⟨b, 1, none⟩ = false ∧ w.frozen? ⟨b, 2, none⟩ = false ∧ w.frozen? ⟨b, 3, none⟩ = false ∧ w.frozen? ⟨b, 4, none⟩ = false ∧ w.frozen? ⟨b, 5, none⟩ = false) :=
  ⟨⟨h.cell 0, h.cell 1, h.cell 2, h.cell 3, h.cell 4, h.cell 5⟩, h.free 0, h.free 1, h.free 2, h.free 3, h.free 4, h.free 5⟩
/-- Six cells are stored. -/
def set6 (w : World) (b : Nat) (v0 v1 v2 v3 v4 v5 : Value) : World := (((((w.setCell ⟨b, 0, none⟩ v0).setCell ⟨b, 1, none⟩ v1).setCell ⟨b, 2, none⟩ v2).setCell ⟨b, 3, none⟩ v3).setCell ⟨b, 4, none⟩ v4).setCell ⟨b, 5, none⟩ v5
theorem set6_heap {b : Nat} {v0 v1 v2 v3 v4 v5 : Value} (j : Nat) (hj : j ≠ b) : (set6 w b v0 v1 v2 v3 v4 v5).heap[j]? = w.heap[j]? := by
  unfold set6
  rw [Below.heap_setCell _ _ _ j hj, Below.heap_setCell _ _ _ j hj, Below.heap_setCell _ _ _ j hj, Below.heap_setCell _ _ _ j hj, Below.heap_setCell _ _ _ j hj, Below.heap_setCell _ _ _ j hj]
theorem set6_size {b : Nat} {v0 v1 v2 v3 v4 v5 : Value} : (set6 w b v0 v1 v2 v3 v4 v5).heap.size = w.heap.size := by simp [set6, World.setCell]
theorem grown_set6 {wa : World} {row : Option Nat} {b : Nat} {v0 v1 v2 v3 v4 v5 : Value} (h : wa.grownBy w row) (hb : wa.heap.size ≤ b) : wa.grownBy (set6 w b v0 v1 v2 v3 v4 v5) row :=
  grown_set (grown_set (grown_set (grown_set (grown_set (grown_set h hb _) hb _) hb _) hb _) hb _) hb _
set_option maxRecDepth 100000 in
set_option maxHeartbeats 2000000 in
theorem tables_none (h : cu.RD own w lo g [] 0) :
    Calls Tryz.prog 20 #[.pointer (some ⟨g, 0, none⟩), x0.val] w (TbsPost own (.error 10) w lo g) := by
  have hglt := h.lt
  obtain ⟨W, hW⟩ : ∃ W, W = (w.alloc (.cells x0.cells 29)).alloc (.cells #[.int .i64 0, .slice none 0 0, .int .i64 0, .slice none 0 0, .int .i64 0, .slice none 0 0] 29) := ⟨_, rfl⟩
  have hb : Below w.heap.size w W := by rw [hW]; exact ((Below.refl _ _).alloc (Nat.le_refl _) _).alloc (by simp) _
  have hbx : Box W (w.heap.size + 1) 29 #[.int .i64 0, .slice none 0 0, .int .i64 0, .slice none 0 0, .int .i64 0, .slice none 0 0] := by
    rw [hW]
    have := Box.new (w.alloc (.cells x0.cells 29)) 29 #[.int .i64 0, .slice none 0 0, .int .i64 0, .slice none 0 0, .int .i64 0, .slice none 0 0]
    rw [World.size_alloc] at this
    exact this
  have HN := Lib.hid (num_none 1 (h.below hb hglt) (by omega) (by omega) (by simp))
  have HB := Lib.hid hb
  have HX := Lib.hid hbx
  clear h hb hbx
  unfold Ts.val
  go_enter Tryz.func20, Tryz.ntmps20
  go_upto_region 1 with (fail)
  change Code.wp _ _ _ _ ((w.alloc (.cells x0.cells 29)).alloc (.cells #[.int .i64 0, .slice none 0 0, .int .i64 0, .slice none 0 0, .int .i64 0, .slice none 0 0] 29))
  rw [← hW]
  clear hW
  go_wp2_with fail
  refine HN.out.mono ?_
  rintro e w1 ⟨rfl, hr, hs⟩
  have HE := Lib.hid (cu.rd_err hr)
  have HG := Lib.hid (grown_then (grown_of_below HB.out _) hs.1)
  have hbx := HX.out.grown hs.1 (by intro h; injection h with h; omega)
  obtain ⟨⟨c0, c1, c2, c3, c4, c5⟩, f0, f1, f2, f3, f4, f5⟩ := box6 hbx
  clear hr hs hbx
  go_wp2_with (refine HE.out.mono ?_; rintro e' w' ⟨rfl, rfl⟩)
  refine bodyPost_ret (v := .tuple #[zeroTs, .slice none 0 0, .int .i64 10]) (by simp [results, Tryz.results20, go_sem, zeroTs, c0, c1, c2, c3, c4, c5]) rfl ⟨?_, rfl⟩
  exact grown_set6 HG.out (by omega)
/-- What stands in the loop of readTables behind k tables. -/
structure TbI (own : Bool) (B : Nat) (w wx : World) (lo g : Nat) (x0 : Ts) (m : Nat) (rr : List UInt8) (k : Nat) (A : Option Addr) (n c : Nat) : Prop where
  gs : Glob B wx
  bt : Box wx w.heap.size 29 x0.cells
  br : Box wx (w.heap.size + 1) 29 #[.int .i64 0, .slice none 0 0, .int .i64 0, .slice none 0 0, .int .i64 0, .slice none 0 0]
  gr : w.grownBy wx (some g)
  ex : ∃ (x : Ts) (ts : List Tb) (xs : List UInt8), rts m rr k = .ok (ts, xs) ∧ Box wx (w.heap.size + 1 + 1) 29 (x.part k) ∧ PartIn wx (w.heap.size + 3) x ts ∧ Dat own wx lo g A xs ∧ xs.length = n ∧ n ≤ c ∧ n ≤ 1000000000
set_option maxRecDepth 100000 in
set_option maxHeartbeats 4000000 in
theorem tables_some (hgl : Glob B w) (h : cu.RD own w lo g (f :: r) 0) (hB : B ≤ g) (hl : (f :: r).length ≤ 1000000000) (hold : ∀ k, k < 3 → md f.toNat k = 3 → x0.n k = 0) :
    Calls Tryz.prog 20 #[.pointer (some ⟨g, 0, none⟩), x0.val] w (TbsPost own (readM (f :: r)) w lo g) := by
  have hglt := h.lt
  obtain ⟨W, hW⟩ : ∃ W, W = (w.alloc (.cells x0.cells 29)).alloc (.cells #[.int .i64 0, .slice none 0 0, .int .i64 0, .slice none 0 0, .int .i64 0, .slice none 0 0] 29) := ⟨_, rfl⟩
  have hb : Below w.heap.size w W := by rw [hW]; exact ((Below.refl _ _).alloc (Nat.le_refl _) _).alloc (by simp) _
  have hWs : W.heap.size = w.heap.size + 2 := by rw [hW]; simp
  have hbt : Box W w.heap.size 29 x0.cells := by rw [hW]; exact (Box.new w _ _).alloc _
  have hbx : Box W (w.heap.size + 1) 29 #[.int .i64 0, .slice none 0 0, .int .i64 0, .slice none 0 0, .int .i64 0, .slice none 0 0] := by
    rw [hW]
    have := Box.new (w.alloc (.cells x0.cells 29)) 29 #[.int .i64 0, .slice none 0 0, .int .i64 0, .slice none 0 0, .int .i64 0, .slice none 0 0]
    rw [World.size_alloc] at this
    exact this
  have HN := Lib.hid (num_one (h.below hb hglt))
  have hf8 := f.toNat_lt
  have hgs := hgl.size
  have HGl := Lib.hid hgl
  have HB := Lib.hid hb
  have HX := Lib.hid hbx
  have HT := Lib.hid hbt
  have hRM : readM (f :: r) = if f.toNat % 4 ≠ 0 then .error 11 else readTs f.toNat r := rfl
  obtain ⟨R, hR⟩ : ∃ R, R = readM (f :: r) := ⟨_, rfl⟩
  rw [← hR]
  rw [hRM] at hR
  simp only [List.length_cons] at hl
  clear h hb hbx hbt hgl hRM
  generalize f.toNat = m at *
  have hw1 : IntKind.i64.wrap (m : Int) = (m : Int) := IntWalk.i64_in _ (by omega)
  have hand : bits .and .i64 (m : Int) 3 = ((m % 4 : Nat) : Int) := and_three m
  have HRR := Lib.hid hR
  clear hR
  unfold Ts.val
  go_enter Tryz.func20, Tryz.ntmps20
  go_upto_region 1 with (fail)
  change Code.wp _ _ _ _ ((w.alloc (.cells x0.cells 29)).alloc (.cells #[.int .i64 0, .slice none 0 0, .int .i64 0, .slice none 0 0, .int .i64 0, .slice none 0 0] 29))
  rw [← hW]
  clear hW
  go_wp2_with fail
  refine HN.out.mono ?_
  rintro e w1 ⟨rfl, hr, hs⟩
  have HE := Lib.hid (cu.rd_err hr)
  have HG := Lib.hid (grown_then (grown_of_below HB.out _) hs.1)
  have hbx := HX.out.grown hs.1 (by intro h; injection h with h; omega)
  have HX1 := Lib.hid hbx
  have HT1 := Lib.hid (HT.out.grown hs.1 (by intro h; injection h with h; omega))
  have hz1 : w1.heap.size = w.heap.size + 2 := by rw [hs.2, hWs]
  have HZ1 := Lib.hid hz1
  have HD := Lib.hid hr
  by_cases h4 : m % 4 = 0
  · rw [if_neg (by omega)] at HRR
    rw [h4] at hand
    have hbz : w1.heap.size = w.heap.size + 1 + 1 := hz1
    clear hr hs hbx hz1
    go_upto_region 8 with (refine HE.out.mono ?_; rintro e' w' ⟨rfl, rfl⟩)
    obtain ⟨W2, hW2⟩ : ∃ W2, W2 = w1.alloc (.cells #[.int .i64 0, .slice none 0 0, .int .i64 0, .slice none 0 0, .int .i64 0, .slice none 0 0] 29) := ⟨_, rfl⟩
    rw [← hW2]
    have hbn : Box W2 (w.heap.size + 1 + 1) 29 #[.int .i64 0, .slice none 0 0, .int .i64 0, .slice none 0 0, .int .i64 0, .slice none 0 0] := by
      rw [hW2, ← HZ1.out]; exact Box.new w1 _ _
    have hb2 : Below w1.heap.size w1 W2 := by rw [hW2]; exact (Below.refl _ _).alloc (Nat.le_refl _) _
    have hd2 := HD.out.below hb2 (by have := HZ1.out; omega)
    have HLf := Lib.hid (cu.rd_left hd2)
    have HBy := Lib.hid (cu.bytes_any (m := (r.length : Int)) hd2)
    have etk : cu.tk r 0 (r.length : Int) (decide ((0 : Int) ≤ (r.length : Int))) = ([], 0, r) := by
      unfold cu.tk
      rw [if_neg (by omega), if_neg (by simp), if_neg (by omega), show ((r.length : Nat) : Int).toNat = r.length by omega, List.drop_length, List.take_length]
    rw [etk] at HBy
    have HI0 := Lib.hid (And.intro (HG.out.trans (grown_of_below hb2 _)) (And.intro (HT1.out.below hb2 (by have := HZ1.out; omega)) (And.intro (HX1.out.below hb2 (by have := HZ1.out; omega)) hbn)))
    have HZ2 : Hid (W2.heap.size = w1.heap.size + 1) := by rw [hW2]; exact World.size_alloc _ _
    clear hW2 hbn hb2 hd2 etk HX1 HT1 HD
    go_wp2_with (first
      | (go_at_call 18; refine HLf.out.mono ?_; rintro e' w' ⟨rfl, rfl⟩))
    refine HBy.out.mono ?_
    rintro e w3 ⟨v, rfl, ⟨A, c, rfl, hc, hd3⟩, _, hs3⟩
    have HZ3 : Hid (w3.heap.size = W2.heap.size) := hs3.2
    have HI1 : Hid (TbI own B w w3 lo g x0 m r 0 A r.length c) := by
      obtain ⟨q0, q1, q2, q3⟩ := HI0.out
      have hne : ∀ j, g < j → some j ≠ some g := fun j hj h => by injection h with h; omega
      have hg3 := grown_then q0 hs3.1
      exact ⟨HGl.out.grown hg3 (fun j hj => by injection hj with hj; omega), q1.grown hs3.1 (hne _ (by omega)), q2.grown hs3.1 (hne _ (by omega)), hg3, ⟨fun _ => 0, fun _ => none, fun _ => 0, fun _ => 0⟩, [], r, rfl, q3.grown hs3.1 (hne _ (by omega)), fun j hj => by simp at hj, hd3, rfl, hc, by omega⟩
    clear hc hd3 hs3 HI0 HBy HLf hw1 hand
    go_wp2_with fail
    go_loopg [10, 11, 12, 13, 14, 15, 33] 3 (fun gh i10 i11 i12 i13 i14 i15 i wx => ∃ (k : Nat) (A : Option Addr) (n c : Nat), k + gh = 3 ∧ i = .int .i64 (k : Int) ∧ i10 = .slice A n c ∧ w.heap.size + 3 ≤ wx.heap.size ∧ Hid (TbI own B w wx lo g x0 m r k A n c))
    case atStart => exact ⟨0, A, r.length, c, rfl, rfl, rfl, by have := HZ3.out; have := HZ2.out; have := HZ1.out; omega, HI1⟩
    case round =>
      obtain ⟨k, A, n, c, hk, rfl, rfl, hwx, HI⟩ := hrel
      have HK := Lib.hid hk
      have hk3 : k ≤ 3 := by omega
      clear hk HI1
      by_cases hlt : k < 3
      · obtain ⟨g', rfl⟩ : ∃ g', gk = g' + 1 := ⟨gk - 1, by have := HK.out; omega⟩
        have hki : (k : Int) < 3 := by omega
        obtain ⟨x, ts, xs, hrt, hbx, hpi, hdx, hnx, hnc, hnb⟩ := HI.out.ex
        have hmd := md_lt m k
        have hmp := mode_place (m := m) hlt
        have HPl : Hid (∀ W, Calls Tryz.prog 47 #[.int .i64 (k : Int)] W fun e w' => e = .returned (.int .i64 ((2 * (3 - k) : Nat) : Int)) ∧ W = w') := fun W => place_any k W hlt
        have hga := HI.out.gr.size
        have HRd := Lib.hid (readT_any (E := x0.A k) (ne := x0.n k) (ce := x0.c k) (c := c) (md m k) (x0.l k : Int) HI.out.gs hlt hdx (by omega) hnx (by omega) hmd (hold k hlt))
        have t0 := (HI.out.bt.cell (k * 2)).trans (x0.at hlt).1
        have t1 := (HI.out.bt.cell (k * 2 + 1)).trans (x0.at hlt).2
        obtain ⟨P, hP⟩ : ∃ P, P = 2 * (3 - k) := ⟨_, rfl⟩
        rw [← hP] at hmp HPl
        have hP6 : P ≤ 6 := by omega
        have hand := and_threeI ((m : Int) / 2 ^ P)
        rw [hmp] at hand
        clear hP hmp
        go_wp2_with (go_at_call 47; refine (HPl.out _).mono ?_; rintro e' w' ⟨rfl, rfl⟩)
        refine HRd.out.mono ?_
        rintro e w1' ⟨hB1, h1⟩
        have hlts : ts.length = k := rts_len hrt
        have hgr1 := HI.out.gr.trans (grown_of_below hB1 _)
        have hbr1 := HI.out.br.below hB1 (by omega)
        have hbt1 := HI.out.bt.below hB1 (by omega)
        have hbn1 := hbx.below hB1 (by omega)
        have hsz1 := hB1.size
        cases hq : readT k (md m k) xs with
        | error er =>
          have her := readT_err hq
          have hne : ((er : Int) != 0) = true := by simpa using her
          rw [hq] at h1
          obtain rfl := h1
          have HRz : Hid (R = .error er) := by
            have h2 : rts m r (k + 1) = .error er := by rw [rts, hrt]; dsimp only; rw [hq]
            have h3 := rts_err (j := 2 - k) h2
            rw [show k + 1 + (2 - k) = 3 by omega] at h3
            rcases rts_all (show m < 256 by omega) r with ⟨e2, h4', h5⟩ | ⟨t0', t1', t2', r', h4', h5⟩
            · rw [h3] at h4'
              injection h4' with h4'
              exact Lib.hid (by rw [HRR.out, h5, h4'])
            · rw [h3] at h4'
              cases h4'
          have hb9 : Below w1'.heap.size w1' (w1'.alloc (.cells #[.int .i64 0, .slice none 0 0] 27)) := (Below.refl _ _).alloc (Nat.le_refl _) _
          have HGz := Lib.hid (hgr1.trans (grown_of_below hb9 _))
          obtain ⟨⟨c0, c1, c2, c3, c4, c5⟩, f0, f1, f2, f3, f4, f5⟩ := box6 (hbr1.below hb9 (by omega))
          clear hB1 hq hrt hbx hpi hdx HI HRd t0 t1 hand hgr1 hbr1 hbt1 hbn1 hb9 HRR HPl
          go_wp2_with fail
          refine bodyPost_ret (v := .tuple #[zeroTs, .slice none 0 0, .int .i64 er]) (by simp [results, Tryz.results20, go_sem, zeroTs, c0, c1, c2, c3, c4, c5]) rfl ⟨grown_set6 HGz.out (by omega), by rw [HRz.out]⟩
        | ok p =>
          obtain ⟨t, u⟩ := p
          rw [hq] at h1
          obtain ⟨v1, rfl, ho1⟩ := h1
          obtain ⟨htok, hu⟩ := readT_ok hlt hq
          obtain ⟨A1, c1, rfl, hc1, hd1⟩ := ho1.form ecell_len
          have hb9 : Below w1'.heap.size w1' (w1'.alloc (.cells #[.int .i64 (t.lg : Int), .slice A1 t.es.length c1] 27)) := (Below.refl _ _).alloc (Nat.le_refl _) _
          have hbox := Box.new w1' 27 #[.int .i64 (t.lg : Int), .slice A1 t.es.length c1]
          have hsz9 : (w1'.alloc (.cells #[.int .i64 (t.lg : Int), .slice A1 t.es.length c1] 27)).heap.size = w1'.heap.size + 1 := by simp
          have hba : Below wr.heap.size wr (w1'.alloc (.cells #[.int .i64 (t.lg : Int), .slice A1 t.es.length c1] 27)) := hB1.alloc hsz1 _
          obtain ⟨W9, hW9⟩ : ∃ W9, W9 = w1'.alloc (.cells #[.int .i64 (t.lg : Int), .slice A1 t.es.length c1] 27) := ⟨_, rfl⟩
          rw [← hW9] at hb9 hbox hsz9 hba
          have hn9 := hbn1.below hb9 (by omega)
          have hpt := x.part_at hlt
          have s0 := (hn9.cell (k * 2)).trans hpt.1
          have s1 := (hn9.cell (k * 2 + 1)).trans hpt.2
          have s2 := hn9.free (k * 2)
          have s3 := hn9.free (k * 2 + 1)
          obtain ⟨q0, q1, _, _⟩ := box2 hbox
          have hset := x.part_with hlt t.lg A1 t.es.length c1
          have hrt2 : rts m r (k + 1) = .ok (ts ++ [t], xs.drop u) := by rw [rts, hrt]; dsimp only; rw [hq]
          have hF : ∀ A' c', A' = (if c = u then A else A.map (·.add u)) → c' = c - u → Hid (TbI own B w ((W9.setCell ⟨w.heap.size + 1 + 1, k * 2, none⟩ (.int .i64 (t.lg : Int))).setCell ⟨w.heap.size + 1 + 1, k * 2 + 1, none⟩ (.slice A1 t.es.length c1)) lo g x0 m r (k + 1) A' (n - u) c') := fun A' c' hA' hc' => by
            have hn : ∀ j, j ≠ w.heap.size + 1 + 1 → ((W9.setCell ⟨w.heap.size + 1 + 1, k * 2, none⟩ (.int .i64 (t.lg : Int))).setCell ⟨w.heap.size + 1 + 1, k * 2 + 1, none⟩ (.slice A1 t.es.length c1)).heap[j]? = W9.heap[j]? := fun j hj => by
              rw [Below.heap_setCell _ _ _ j hj, Below.heap_setCell _ _ _ j hj]
            have hsz' : ((W9.setCell ⟨w.heap.size + 1 + 1, k * 2, none⟩ (.int .i64 (t.lg : Int))).setCell ⟨w.heap.size + 1 + 1, k * 2 + 1, none⟩ (.slice A1 t.es.length c1)).heap.size = W9.heap.size := by simp [World.setCell]
            refine ⟨(HI.out.gs.below hba (by omega)).keep (fun j hj => hn j (by omega)) (by rw [hsz']; exact (HI.out.gs.below hba (by omega)).size), (HI.out.bt.below hba (by omega)).keep (hn _ (by omega)), (HI.out.br.below hba (by omega)).keep (hn _ (by omega)), grown_set (grown_set (HI.out.gr.trans (grown_of_below hba _)) (by show w.heap.size ≤ w.heap.size + 1 + 1; omega) _) (by show w.heap.size ≤ w.heap.size + 1 + 1; omega) _, x.with k t.lg A1 t.es.length c1, ts ++ [t], xs.drop u, hrt2, ?_, ?_, ?_, ?_, ?_, ?_⟩
            · have := (hn9.put (k * 2) (.int .i64 (t.lg : Int))).put (k * 2 + 1) (.slice A1 t.es.length c1)
              rw [hset] at this
              exact this
            · have hp9 : PartIn W9 (w.heap.size + 3) x ts := hpi.grow (fun j _ hj => hba.block j hj) (by have := hba.size; omega)
              have hd9 : DatR 3 ecell W9 (w.heap.size + 3) W9.heap.size A1 t.es := (hd1.below hb9 (Nat.le_refl _)).mono hwx (by omega)
              have hsn := hp9.snoc (c := c1) hd9
              rw [hlts] at hsn
              exact hsn.grow (fun j hj _ => hn j (by omega)) (by rw [hsz']; exact Nat.le_refl _)
            · rw [hA']
              exact ((hdx.below hba (by omega)).cut (by omega)).keep fun j _ hj => hn j (by omega)
            · rw [List.length_drop]; omega
            · omega
            · omega
          have hun : (u : Int) ≤ (n : Int) := by omega
          have hnu : (n : Int) - (u : Int) = ((n - u : Nat) : Int) := by omega
          have hnc' : (n : Int) ≤ (c : Int) := by omega
          clear hB1 hq hrt hbx hpi hdx HI HRd t0 t1 hand hgr1 hbr1 hbt1 hbn1 hb9 hbox ho1 hd1 hn9 hpt hset hrt2 hba HPl
          go_upto_region 16 with (fail)
          rw [← hW9]
          clear hW9
          have hW9z := hsz9
          by_cases hcu : c = u
          · have HF := hF A 0 (by rw [if_pos hcu]) (by omega)
            have hcui : (c : Int) = (u : Int) := by omega
            go_wp2_with fail
            go_roundg g'
            case rel => exact ⟨k + 1, A, n - u, 0, by have := HK.out; omega, by go_num, rfl, by simp [World.setCell]; omega, HF⟩
            case measure => omega
          · have HF := hF (A.map (·.add u)) (c - u) (by rw [if_neg hcu]) rfl
            have hcui : ¬ (c : Int) = (u : Int) := by omega
            go_wp2_with fail
            go_roundg g'
            case rel => exact ⟨k + 1, A.map (·.add u), n - u, c - u, by have := HK.out; omega, by go_num, rfl, by simp [World.setCell]; omega, HF⟩
            case measure => omega
      · obtain rfl : k = 3 := by omega
        have hki : ¬ (3 : Int) < 3 := by omega
        obtain ⟨x, ts, xs, hrt, hbx, hpi, hdx, hnx, hnc, hnb⟩ := HI.out.ex
        rw [x.part_all] at hbx
        obtain ⟨T, hT, hTi⟩ : ∃ T, readTs m r = .ok (T, xs) ∧ TsIn wr wr.heap.size x T := by
          rcases rts_all (show m < 256 by omega) r with ⟨e2, h4', h5⟩ | ⟨t0', t1', t2', r', h4', h5⟩
          · rw [hrt] at h4'
            cases h4'
          · rw [hrt] at h4'
            injection h4' with h4'
            injection h4' with h6 h7
            subst h6 h7
            exact ⟨_, h5, hpi.all⟩
        obtain ⟨⟨s0, s1, s2, s3, s4, s5⟩, _⟩ := box6 hbx
        obtain ⟨⟨c0, c1, c2, c3, c4, c5⟩, f0, f1, f2, f3, f4, f5⟩ := box6 HI.out.br
        have hbz : w.heap.size + 1 ≠ w.heap.size + 1 + 1 := by omega
        have hfin : TbsPost own (.ok (T, xs)) w lo g (.returned (.tuple #[x.val, .slice A n c, .int .i64 0])) (set6 wr (w.heap.size + 1) (.int .i64 (x.l 0 : Int)) (.slice (x.A 0) (x.n 0) (x.c 0)) (.int .i64 (x.l 1 : Int)) (.slice (x.A 1) (x.n 1) (x.c 1)) (.int .i64 (x.l 2 : Int)) (.slice (x.A 2) (x.n 2) (x.c 2))) := by
          refine ⟨grown_set6 HI.out.gr (by omega), x, A, c, by rw [hnx], ?_, by omega, hdx.keep fun j _ hj => set6_heap j (by omega)⟩
          have hq := (hpi.grow (w' := set6 wr (w.heap.size + 1) (.int .i64 (x.l 0 : Int)) (.slice (x.A 0) (x.n 0) (x.c 0)) (.int .i64 (x.l 1 : Int)) (.slice (x.A 1) (x.n 1) (x.c 1)) (.int .i64 (x.l 2 : Int)) (.slice (x.A 2) (x.n 2) (x.c 2))) (fun j hj _ => set6_heap j (by omega)) (by rw [set6_size]; exact Nat.le_refl _))
          rcases rts_all (show m < 256 by omega) r with ⟨e2, h4', h5⟩ | ⟨t0', t1', t2', r', h4', h5⟩
          · rw [hrt] at h4'
            cases h4'
          · rw [hrt] at h4'
            injection h4' with h4'
            injection h4' with h6 h7
            subst h6 h7
            rw [hT] at h5
            injection h5 with h5
            injection h5 with h5 _
            subst h5
            exact hq.low (by omega)
        have HFin := Lib.hid hfin
        have HTs := Lib.hid (HRR.out.trans hT)
        clear hrt hbx hpi hdx hnx hT hTi HI HRR hfin
        go_wp2_with fail
        rw [HTs.out]
        refine bodyPost_ret (v := .tuple #[x.val, .slice A n c, .int .i64 0]) (by simp [results, Tryz.results20, go_sem, Ts.val, c0, c1, c2, c3, c4, c5]) rfl HFin.out
  · rw [if_pos h4] at HRR
    have hne : ((m % 4 : Nat) : Int) ≠ 0 := by omega
    have hneb : (((m % 4 : Nat) : Int) == 0) = false := by simp; omega
    obtain ⟨⟨c0, c1, c2, c3, c4, c5⟩, f0, f1, f2, f3, f4, f5⟩ := box6 hbx
    clear hr hs hbx hz1 h4
    generalize m % 4 = q at *
    go_wp2_with (refine HE.out.mono ?_; rintro e' w' ⟨rfl, rfl⟩)
    refine bodyPost_ret (v := .tuple #[zeroTs, .slice none 0 0, .int .i64 11]) (by simp [results, Tryz.results20, go_sem, zeroTs, c0, c1, c2, c3, c4, c5]) rfl ⟨grown_set6 HG.out (by omega), by rw [HRR.out]⟩
end
end Go.Proofs.YtlidnialggpcpaaGreatDoor
