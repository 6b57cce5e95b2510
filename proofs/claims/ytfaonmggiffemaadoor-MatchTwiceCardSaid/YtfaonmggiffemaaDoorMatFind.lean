
/- The contract of Find: refused, without sequences, or a plan. -/
import Derived.Test.YtfaonmggiffemaaDoorMatPlan
import Derived.Deep.RegionHeld3
namespace Go.Proofs.YtfaonmggiffemaaDoor
open Go.RowKit

/-- What a level spends. -/
def effN (k i : Nat) : Nat := (([[0, 0, 0], [262144, 1, 4], [524288, 2, 4], [1048576, 4, 4], [2097152, 8, 128], [4194304, 16, 256], [4194304, 32, 512], [4194304, 64, 1024], [4194304, 128, 2048], [4194304, 256, 4096]] : List (List Nat)).getD k []).getD i 0
theorem effN_ok : ∀ k, k < 10 → 1 ≤ k → (262144 ≤ effN k 0 ∧ effN k 0 ≤ 4194304) ∧ (1 ≤ effN k 1 ∧ effN k 1 ≤ 1000) ∧ (1 ≤ effN k 2 ∧ effN k 2 ≤ 10000) := by decide +kernel
/-- The table of them, as it is laid. -/
def Glob (W : World) : Prop := (∀ k, k < 10 → ∀ i, i < 3 → W.cell? ⟨0, k * 3 + i, none⟩ = some (.int .i64 (effN k i : Nat))) ∧ 0 < W.heap.size
theorem Glob.below {w w' : World} (h : Glob w) {B : Nat} (hb : Below B w w') (hB : 0 < B) : Glob w' :=
  ⟨fun k hk i hi => (hb.cell (p := ⟨0, k * 3 + i, none⟩) hB).trans (h.1 k hk i hi), Nat.lt_of_lt_of_le h.2 hb.size⟩

/-- What Find answers where it may answer: sequences that make the bytes from fr on, below t; there is one, if eight and more are all alike. -/
def FPost (xs : List UInt8) (fr t lv : Nat) (w : World) (e : Ending) (w' : World) : Prop :=
  (∃ (v : Value) (L : List MSq) (b : Nat), e = .returned (.tuple #[v, .int .i64 (b : Int), .int .i64 0]) ∧ ∃ q : Nat, q + b = t ∧ OwR 3 MSq.cells w' 45 w.heap.size v L ∧ MkP xs t fr L q ∧ (lv = 0 → L = []) ∧
    (1 ≤ lv → fr + 8 ≤ t → (∀ i, fr ≤ i → i < t → xs.getD i 0 = xs.getD fr 0) → L ≠ [])) ∧ Below w.heap.size w w'
/-- It may not be. -/
def Bad (n : Nat) (fr t lv : Int) : Prop := fr < 0 ∨ t < fr ∨ (n : Int) < t ∨ lv < 0 ∨ 9 < lv

set_option maxRecDepth 100000 in
set_option maxHeartbeats 1000000 in
theorem find_no (A : Option Addr) (n c : Nat) (fr t lv : Int) (w : World) (h : Bad n fr t lv) :
    Calls Tryd.prog 8 #[.slice A n c, .int .i64 fr, .int .i64 t, .int .i64 lv] w fun e w' => e = .returned (.tuple #[.slice none 0 0, .int .i64 0, .int .i64 1]) ∧ Below w.heap.size w w' := by
  have HH := Lib.hid h
  clear h
  by_cases h1 : fr < 0
  · go_enter Tryd.func8, Tryd.ntmps8
    go_wp2_with fail
    go_ret3
    exact ⟨rfl, Below.refl _ _⟩
  by_cases h2 : t < fr
  · go_enter Tryd.func8, Tryd.ntmps8
    go_wp2_with fail
    go_ret3
    exact ⟨rfl, Below.refl _ _⟩
  by_cases h3 : (n : Int) < t
  · go_enter Tryd.func8, Tryd.ntmps8
    go_wp2_with fail
    go_ret3
    exact ⟨rfl, Below.refl _ _⟩
  by_cases h4 : lv < 0
  · go_enter Tryd.func8, Tryd.ntmps8
    go_wp2_with fail
    go_ret3
    exact ⟨rfl, Below.refl _ _⟩
  have h5 : (10 : Int) ≤ lv := by rcases HH.out with h | h | h | h | h <;> omega
  go_enter Tryd.func8, Tryd.ntmps8
  go_wp2_with fail
  go_ret3
  exact ⟨rfl, Below.refl _ _⟩

set_option maxRecDepth 100000 in
set_option maxHeartbeats 1000000 in
theorem find_nil (A : Option Addr) (xs : List UInt8) (n c : Nat) (fr t : Nat) (w : World) (hm : n ≤ 262144) (h1 : fr ≤ t) (h2 : t ≤ n) :
    Calls Tryd.prog 8 #[.slice A n c, .int .i64 (fr : Int), .int .i64 (t : Int), .int .i64 0] w (FPost xs fr t 0 w) := by
  obtain ⟨b, hb⟩ : ∃ b, fr + b = t := ⟨t - fr, by omega⟩
  have HBB := Lib.hid hb
  have hbi : (t : Int) - (fr : Int) = (b : Int) := by omega
  have hbm : b ≤ 262144 := by omega
  have c1 : ¬ (fr : Int) < 0 := by omega
  have c2 : ¬ (t : Int) < (fr : Int) := by omega
  have c3 : ¬ (n : Int) < (t : Int) := by omega
  clear hb
  go_enter Tryd.func8, Tryd.ntmps8
  go_wp2_with fail
  go_ret3
  exact ⟨⟨_, [], b, rfl, fr, HBB.out, OwR.nil _ _ _ _ _, rfl, fun _ => rfl, fun h => absurd h (by decide)⟩, Below.refl _ _⟩

theorem below_drawn {B : Nat} {a w : World} (h : Below B a w) (hB : B ≤ w.heap.size) (o : Obj) : Below B a (w.alloc o).drew := by
  have h1 := h.alloc hB o
  exact ⟨h1.os, h1.tape, h1.output, h1.size, h1.block⟩
theorem box_drawn (w : World) (t : TypeId) (cs : Array Value) : Box (w.alloc (.cells cs t)).drew w.heap.size t cs := Box.new w t cs
theorem box5 {w : World} {g : Nat} {t : TypeId} {a b c d e : Value} (h : Box w g t #[a, b, c, d, e]) :
    w.cell? ⟨g, 0, none⟩ = some a ∧ w.cell? ⟨g, 1, none⟩ = some b ∧ w.cell? ⟨g, 2, none⟩ = some c ∧ w.cell? ⟨g, 3, none⟩ = some d ∧ w.cell? ⟨g, 4, none⟩ = some e ∧
    w.frozen? ⟨g, 0, none⟩ = false ∧ w.frozen? ⟨g, 1, none⟩ = false ∧ w.frozen? ⟨g, 2, none⟩ = false ∧ w.frozen? ⟨g, 3, none⟩ = false ∧ w.frozen? ⟨g, 4, none⟩ = false :=
  ⟨h.cell 0, h.cell 1, h.cell 2, h.cell 3, h.cell 4, h.free 0, h.free 1, h.free 2, h.free 3, h.free 4⟩
/-- Five cells of one block, stored. -/
abbrev set5 (w : World) (g : Nat) (a b c d e : Value) : World := ((((w.setCell ⟨g, 0, none⟩ a).setCell ⟨g, 1, none⟩ b).setCell ⟨g, 2, none⟩ c).setCell ⟨g, 3, none⟩ d).setCell ⟨g, 4, none⟩ e
theorem below_set5 {B g : Nat} {w w' : World} (h : Below B w w') (hg : B ≤ g) (a b c d e : Value) : Below B w (set5 w' g a b c d e) := ((((h.setCell hg _).setCell hg _).setCell hg _).setCell hg _).setCell hg _
theorem box_set5 {w : World} {g : Nat} {t : TypeId} {x y z u v : Value} (h : Box w g t #[x, y, z, u, v]) (a b c d e : Value) : Box (set5 w g a b c d e) g t #[a, b, c, d, e] := ((((h.put 0 a).put 1 b).put 2 c).put 3 d).put 4 e
theorem dat_set5 {w : World} {g lo hi : Nat} {A : Option Addr} {B : List Nat} (h : DatE ncel w lo hi A B) (hg : g < lo) (a b c d e : Value) : DatE ncel (set5 w g a b c d e) lo hi A B := ((((h.far (.inl hg) _).far (.inl hg) _).far (.inl hg) _).far (.inl hg) _).far (.inl hg) _
theorem bk_alike {xs : List UInt8} {fr n : Nat} {B : List Nat} (h : Bk xs fr B) (hn : xs.length = n) (h8 : fr + 8 ≤ n) (hs : ∀ i, fr ≤ i → i < n → xs.getD i 0 = xs.getD fr 0) : B.getD (fr + 1) 0 ≠ 0 :=
  h.some (fr + 1) fr (by omega) (by omega) (by omega) (st_of fun i hi => by rw [hs _ (by omega) (by omega), hs (fr + 1 + i) (by omega) (by omega)])
theorem take_getD (xs : List UInt8) (t i : Nat) (h : i < t) : (xs.take t).getD i 0 = xs.getD i 0 := by
  rw [List.getD_eq_getElem?_getD, List.getD_eq_getElem?_getD, List.getElem?_take, if_pos h]

set_option maxRecDepth 100000 in
set_option maxHeartbeats 4000000 in
theorem find_plan {w : World} {lo hi : Nat} {A : Option Addr} {n c : Nat} {xs : List UInt8} (hgl : Glob w) (hd : Dat false w lo hi A xs) (hn : xs.length = n) (hc : n ≤ c) (hm : n ≤ 262144) (hhi : hi ≤ w.heap.size) (fr t k : Nat) (h1 : fr ≤ t) (h2 : t ≤ n) (hk1 : 1 ≤ k) (hk : k < 10) :
    Calls Tryd.prog 8 #[.slice A n c, .int .i64 (fr : Int), .int .i64 (t : Int), .int .i64 (k : Int)] w (FPost xs fr t k w) := by
  have HD := Lib.hid (hd.take t)
  have HN := Lib.hid hn
  have hlen : (xs.take t).length = t := by rw [List.length_take]; omega
  have HL := Lib.hid hlen
  have e0 := hgl.1 k hk 0 (by omega)
  have e1 := hgl.1 k hk 1 (by omega)
  have e2 := hgl.1 k hk 2 (by omega)
  rw [Nat.add_zero] at e0
  have HOK := Lib.hid (effN_ok k hk hk1)
  have hok := effN_ok k hk hk1
  obtain ⟨R, hR⟩ : ∃ R, R = effN k 0 := ⟨_, rfl⟩
  obtain ⟨T, hT⟩ : ∃ T, T = effN k 1 := ⟨_, rfl⟩
  obtain ⟨E, hE⟩ : ∃ E, E = effN k 2 := ⟨_, rfl⟩
  rw [← hR] at e0
  rw [← hT] at e1
  rw [← hE] at e2
  rw [← hR, ← hT, ← hE] at hok
  obtain ⟨⟨hR1, hR2⟩, ⟨hT1, hT2⟩, ⟨hE1, hE2⟩⟩ := hok
  have hw0 := hgl.2
  have c1 : ¬ (fr : Int) < 0 := by omega
  have c2 : ¬ (t : Int) < (fr : Int) := by omega
  have c3 : ¬ (n : Int) < (t : Int) := by omega
  have c4 : ¬ (k : Int) < 0 := by omega
  have c5 : ¬ (10 : Int) ≤ (k : Int) := by omega
  have c6 : ((k : Int) == 0) = false := by simp; omega
  have c7 : (k : Int) < 10 := by omega
  have c8 : max ((fr : Int) - (R : Int)) 0 = 0 := by omega
  have htc : (t : Int) ≤ (c : Int) := by omega
  clear hgl hd hn hlen hR hT hE HOK
  go_enter Tryd.func8, Tryd.ntmps8
  go_upto_region 8 with (fail)
  have hw1 : Below w.heap.size w (w.alloc (.cells #[.int .i64 (R : Int), .int .i64 (T : Int), .int .i64 (E : Int)] 35)) := (Below.refl _ _).alloc (Nat.le_refl _) _
  have hx1 : Box (w.alloc (.cells #[.int .i64 (R : Int), .int .i64 (T : Int), .int .i64 (E : Int)] 35)) w.heap.size 35 #[.int .i64 (R : Int), .int .i64 (T : Int), .int .i64 (E : Int)] := Box.new _ _ _
  have HW1 := Lib.hid hw1
  have HX1 := Lib.hid hx1
  clear hw1 hx1 e0 e1 e2 c1 c2 c3 c4 c5 c6 c7 c8 htc
  generalize w.alloc (.cells #[.int .i64 (R : Int), .int .i64 (T : Int), .int .i64 (E : Int)] 35) = w1 at *
  have HS := Lib.hid (fun W (hW : Below w1.heap.size w1 W) => backs_any (w := W) (c := c) ((HD.out.below HW1.out hhi).below hW (by have := HW1.out.size; omega)) HL.out (by omega) (by omega) (by have := HW1.out.size; have := hW.size; omega) fr h1)
  have HB0 : Hid (Below w1.heap.size w1 w1.drew) := ⟨rfl, rfl, rfl, Nat.le_refl _, fun _ _ => rfl⟩
  have HBa : Hid (∀ o, Below w1.heap.size w1 (w1.alloc o).drew) := fun o => below_drawn (Below.refl _ _) (Nat.le_refl _) o
  have hs1 : w.heap.size < w1.heap.size := HX1.out.lt
  have HC1 : Hid (∀ W, Below w1.heap.size w1 W → W.cell? ⟨w.heap.size, 0, none⟩ = some (.int .i64 (R : Int)) ∧ W.cell? ⟨w.heap.size, 1, none⟩ = some (.int .i64 (T : Int)) ∧ W.cell? ⟨w.heap.size, 2, none⟩ = some (.int .i64 (E : Int))) := fun W hW =>
    ⟨((HX1.out.below hW hs1).cell 0).trans rfl, ((HX1.out.below hW hs1).cell 1).trans rfl, ((HX1.out.below hW hs1).cell 2).trans rfl⟩
  go_cut [13] (fun p wx => ∃ (q : Nat) (A2 : Option Addr) (n2 c2 : Nat) (B : List Nat), p = .pointer (some ⟨q, 0, none⟩) ∧ Hid (Box wx q 40 #[.int .i64 (R : Int), .int .i64 (T : Int), .int .i64 (E : Int), .slice A t c, .slice A2 n2 c2]) ∧
    Hid (DatE ncel wx 0 wx.heap.size A2 B) ∧ n2 = t ∧ Hid (Bk (xs.take t) fr B) ∧ Hid (Below w1.heap.size w1 wx))
  case first =>
    go_region_held3 (fun w' => w'.cell? ⟨w.heap.size, 0, none⟩ = some (.int .i64 (R : Int)) ∧ w'.cell? ⟨w.heap.size, 1, none⟩ = some (.int .i64 (T : Int)) ∧ w'.cell? ⟨w.heap.size, 2, none⟩ = some (.int .i64 (E : Int)))
      (first | (with_reducible exact HC1.out _ HB0.out) | (with_reducible exact HC1.out _ (HBa.out _)) | (with_reducible exact HC1.out _ (HB0.out.alloc HB0.out.size _)) | (with_reducible exact HC1.out _ (below_set5 HB0.out (Nat.le_refl _) _ _ _ _ _)))
      (first
      | (go_at_call 10; (with_reducible refine (HS.out _ HB0.out).mono ?_); rintro e' w2 ⟨v, B, rfl, ho, hk, hB2⟩; obtain ⟨A2, n2, c2, rfl⟩ := ho.slice; have HO := Lib.hid ho; have HKB := Lib.hid hk; have HB2 := Lib.hid (HB0.out.trans (hB2.mono HB0.out.size)); clear HB0 ho hk hB2; have HB0 := HB2)
      | (go_at_call 10; (with_reducible refine (HS.out _ (HBa.out _)).mono ?_); rintro e' w2 ⟨v, B, rfl, ho, hk, hB2⟩; obtain ⟨A2, n2, c2, rfl⟩ := ho.slice; have HBx := Lib.hid ((box_drawn w1 40 #[.int .i64 0, .int .i64 0, .int .i64 0, .slice none 0 0, .slice none 0 0]).below hB2 (by simp [World.drew])); obtain ⟨z0, z1, z2, z3, z4, f0, f1, f2, f3, f4⟩ := box5 HBx.out; have HO := Lib.hid ho; have HKB := Lib.hid hk; have HB2 := Lib.hid ((HBa.out _).trans (hB2.mono (HBa.out _).size)); clear HB0 ho hk hB2; have HB0 := HB2))
    all_goals go_wp2_with fail
    · go_meet
      have hln := HO.out.lenA
      have hl2 := HKB.out.len
      rw [HL.out] at hl2
      exact ⟨w2.heap.size, A2, n2, c2, B, rfl, Box.new _ _ _, (HO.out.datA.alloc (Nat.le_refl _) _).mono (Nat.zero_le _) (by simp), by omega, HKB.out, HB0.out.alloc HB0.out.size _⟩
    · go_meet
      have hln := HO.out.lenA
      have hl2 := HKB.out.len
      rw [HL.out] at hl2
      exact ⟨w1.heap.size, A2, n2, c2, B, rfl, box_set5 HBx.out _ _ _ _ _, (dat_set5 HO.out.datA (by simp [World.drew]) _ _ _ _ _).mono (Nat.zero_le _) (by simp [World.setCell]), by omega, HKB.out, below_set5 HB0.out (Nat.le_refl _) _ _ _ _ _⟩
  case rest =>
    obtain ⟨q, A2, n2, c2, B, rfl, HX, HDB, rfl, HKB, HB⟩ := hcut
    have x0 := (box5 HX.out).1
    have x1 := (box5 HX.out).2.1
    have x2 := (box5 HX.out).2.2.1
    have x3 := (box5 HX.out).2.2.2.1
    have x4 := (box5 HX.out).2.2.2.2.1
    have HP := Lib.hid (plan_any (w := wc) (c := c) (c2 := c2) R T E ((HD.out.below HW1.out hhi).below HB.out (by have := HW1.out.size; omega)) HL.out (by omega) (by have := HW1.out.size; have := HB.out.size; omega) HDB.out (Nat.le_refl _) HKB.out hT1 hT2 hE1 fr h1)
    unfold fnd at HP
    go_wp2_with (go_at_call 11; refine HP.out.mono ?_; rintro e' w4 ⟨⟨v, L, b, rfl, qq, hq, ho, hm4, hl4⟩, hB4⟩; have HQ := Lib.hid hq; have HO := Lib.hid ho; have HM := Lib.hid hm4; have HLn := Lib.hid hl4; have HB4 := Lib.hid hB4; clear hq ho hm4 hl4 hB4)
    go_ret3
    have hz := HB.out.size
    refine ⟨⟨_, L, b, rfl, qq, HQ.out, HO.out.mono (by omega), HM.out.congr (fun i hi => take_getD xs _ i hi), fun h => by omega, fun _ h8 hs hL => ?_⟩, (HW1.out.trans (HB.out.mono (by omega))).trans (HB4.out.mono (by omega))⟩
    exact bk_alike HKB.out HL.out h8 (fun i h1 h2 => by rw [take_getD _ _ _ h2, take_getD _ _ _ (by omega)]; exact hs i h1 h2) (HLn.out hL (fr + 1) (by omega) (by omega))
end Go.Proofs.YtfaonmggiffemaaDoor
