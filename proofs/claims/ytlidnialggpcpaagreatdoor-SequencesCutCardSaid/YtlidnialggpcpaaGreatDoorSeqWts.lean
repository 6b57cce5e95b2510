
/- The contract of the program's writeTables. -/
import Derived.Test.YtlidnialggpcpaaGreatDoorSeqTof
import Derived.Test.YtlidnialggpcpaaGreatDoorSeqTbs
import Derived.Test.YtlidnialggpcpaaGreatDoorSeqCntW
import Derived.Test.YtlidnialggpcpaaGreatDoorSeqBef
import Derived.Test.YtlidnialggpcpaaGreatDoorSeqWtrS
namespace Go.Proofs.YtlidnialggpcpaaGreatDoor
open Go.RowKit

/-- The modes of the first k tables, in their byte. -/
def mdsW (mo : Nat → Nat) : Nat → Nat
  | 0 => 0
  | k + 1 => mdsW mo k + mo k * 2 ^ (2 * (3 - k))
/-- What is told of the first k tables. -/
def toldW (tw : Nat → List UInt8) : Nat → List UInt8
  | 0 => []
  | k + 1 => toldW tw k ++ tw k
theorem mdsW_three (mo : Nat → Nat) : mdsW mo 3 = mo 0 * 64 + mo 1 * 16 + mo 2 * 4 := by simp [mdsW]
theorem toldW_three (tw : Nat → List UInt8) : toldW tw 3 = tw 0 ++ tw 1 ++ tw 2 := by simp [toldW]
theorem mdsW_new (mo : Nat → Nat) (m : Nat) : ∀ k j, k ≤ j → mdsW (fun i => if i = j then m else mo i) k = mdsW mo k
  | 0, _, _ => rfl
  | k + 1, j, h => by rw [mdsW, mdsW, mdsW_new mo m k j (by omega), if_neg (by omega)]
theorem toldW_new (tw : Nat → List UInt8) (b : List UInt8) : ∀ k j, k ≤ j → toldW (fun i => if i = j then b else tw i) k = toldW tw k
  | 0, _, _ => rfl
  | k + 1, j, h => by rw [toldW, toldW, toldW_new tw b k j (by omega), if_neg (by omega)]
theorem mdsW_bd (mo : Nat → Nat) (h : ∀ j, j < 3 → mo j ≤ 2) {k : Nat} (hk : k < 3) : mdsW mo k ≤ 160 ∧ mdsW mo k % 2 ^ (2 * (3 - k) + 2) = 0 := by
  have h0 := h 0 (by omega)
  have h1 := h 1 (by omega)
  rcases (show k = 0 ∨ k = 1 ∨ k = 2 by omega) with rfl | rfl | rfl
  · simp [mdsW]
  · simp only [mdsW]; omega
  · simp only [mdsW]; omega
theorem or_key : ∀ k, k < 3 → ∀ M, M < 161 → ∀ m, m < 3 → M % 2 ^ (2 * (3 - k) + 2) = 0 → M ||| (m * 2 ^ (2 * (3 - k))) = M + m * 2 ^ (2 * (3 - k)) := by decide +kernel
theorem or_small13 (a b : Nat) (ha : a < 4611686018427387904) (hb : b < 4611686018427387904) : bits .or .i64 (a : Int) (b : Int) = ((a ||| b : Nat) : Int) := by
  have hx : a ||| b < 2 ^ 62 := Nat.or_lt_two_pow (by omega) (by omega)
  show IntKind.i64.wrap ((BitVec.ofInt 64 (a : Int) ||| BitVec.ofInt 64 (b : Int)).toNat : Int) = _
  rw [BitVec.toNat_or, ofInt_u64 a (by omega), ofInt_u64 b (by omega)]
  exact IntWalk.i64_in _ (by omega)
theorem or_modes {k M m : Nat} (hk : k < 3) (hM : M ≤ 160) (hd : M % 2 ^ (2 * (3 - k) + 2) = 0) (hm : m ≤ 2) : bits .or .i64 (M : Int) ((m : Int) * 2 ^ (2 * (3 - k))) = ((M + m * 2 ^ (2 * (3 - k)) : Nat) : Int) := by
  have e : ((m : Int) * 2 ^ (2 * (3 - k))) = ((m * 2 ^ (2 * (3 - k)) : Nat) : Int) := by rw [Int.natCast_mul, Int.natCast_pow]; rfl
  have hs : m * 2 ^ (2 * (3 - k)) ≤ 2 * 64 := Nat.mul_le_mul hm (by rcases (show k = 0 ∨ k = 1 ∨ k = 2 by omega) with rfl | rfl | rfl <;> decide)
  rw [e, or_small13 _ _ (by omega) (by omega), or_key k hk M (by omega) m (by omega) hd]
/-- The first k tables, told, as they lie there. -/
def WtP (w : World) (rs : List Cq) (x : Ts) (tb : Nat → Tb) (mo : Nat → Nat) (tw : Nat → List UInt8) (k : Nat) : Prop := ∀ j, j < k →
  x.l j = (tb j).lg ∧ x.n j = (tb j).es.length ∧ TOk j (tb j) ∧ WayT j (mo j) (tw j) (tb j) ∧ DatR 3 ecell w 0 w.heap.size (x.A j) (tb j).es ∧
  (∀ q ∈ rs, (∃ i, ∃ h : i < (tb j).es.length, (tb j).es[i].s = ((q.at j).c : Int)) ∧ Rea (tb j).es (q.at j).c) ∧ ((∀ q ∈ rs, ∀ p ∈ rs, (q.at j).c = (p.at j).c) → (tb j).es.length = 1) ∧ (tw j).length ≤ 100000
theorem WtP.keep {w w' : World} {rs : List Cq} {x : Ts} {tb : Nat → Tb} {mo : Nat → Nat} {tw : Nat → List UInt8} {k : Nat} (h : WtP w rs x tb mo tw k) (hd : ∀ j, j < k → DatR 3 ecell w 0 w.heap.size (x.A j) (tb j).es → DatR 3 ecell w' 0 w'.heap.size (x.A j) (tb j).es) : WtP w' rs x tb mo tw k := fun j hj =>
  let ⟨h1, h2, h3, h4, h5, h6, h7, h8⟩ := h j hj
  ⟨h1, h2, h3, h4, hd j hj h5, h6, h7, h8⟩
theorem WtP.snoc {w : World} {rs : List Cq} {x : Ts} {tb : Nat → Tb} {mo : Nat → Nat} {tw : Nat → List UInt8} {k : Nat} (h : WtP w rs x tb mo tw k) {t : Tb} {A1 : Option Addr} {c1 mode : Nat} {told : List UInt8} (h1 : TOk k t) (h2 : WayT k mode told t) (h3 : DatR 3 ecell w 0 w.heap.size A1 t.es)
    (h4 : ∀ q ∈ rs, (∃ i, ∃ h : i < t.es.length, t.es[i].s = ((q.at k).c : Int)) ∧ Rea t.es (q.at k).c) (h5 : (∀ q ∈ rs, ∀ p ∈ rs, (q.at k).c = (p.at k).c) → t.es.length = 1) (h6 : told.length ≤ 100000) :
    WtP w rs (x.with k t.lg A1 t.es.length c1) (fun i => if i = k then t else tb i) (fun i => if i = k then mode else mo i) (fun i => if i = k then told else tw i) (k + 1) := fun j hj => by
  unfold Ts.with
  dsimp only
  by_cases e : j = k
  · subst e
    rw [if_pos rfl, if_pos rfl, if_pos rfl, if_pos rfl, if_pos rfl, if_pos rfl]
    exact ⟨rfl, rfl, h1, h2, h3, h4, h5, h6⟩
  · rw [if_neg e, if_neg e, if_neg e, if_neg e, if_neg e, if_neg e]
    exact h j (by omega)
theorem part_u8 (x : Ts) (k i : Nat) (y : Int) : (x.part k)[i]? ≠ some (.int .u8 y) := fun q => by
  rcases i with _ | _ | _ | _ | _ | _ | i <;> simp [Ts.part] at q <;> split at q <;> simp at q
theorem DatR.via {α : Type} {z : Nat} {f : α → List Value} {w w' : World} {hi hi' : Nat} {A : Option Addr} {xs : List α} (h : DatR z f w 0 hi A xs) (hs : ∀ d o s, A = some ⟨d, o, s⟩ → d < hi → w'.heap[d]? = w.heap[d]?) (hh : hi ≤ hi') : DatR z f w' 0 hi' A xs := fun hx => by
  obtain ⟨d, o, hA, h1, h2, hc⟩ := h hx
  exact ⟨d, o, hA, h1, by omega, fun j hj k u hu => (World.cell?_of_block (hs d o _ hA h2)).trans (hc j hj k u hu)⟩
/-- A writer stays where a block that isn't its own turns. -/
theorem cu.WtrS.far {S : Nat → Prop} {w w' : World} {base g j : Nat} {xs : List UInt8} (h : cu.WtrS S w base g xs) (hj : S j) (he : ∀ k, k ≠ j → w'.heap[k]? = w.heap[k]?) : cu.Wtr w' base g xs := by
  obtain ⟨h1, hS, v, hb, ho, hn⟩ := h
  exact ⟨h1, v, hb.keep (he g fun e => (hS j hj).2 e.symm), ho.keepO fun k hk => he k fun e => hn j hj (by rw [hk, e])⟩
theorem wrap_mode {k m : Nat} (hk : k < 3) (hm : m ≤ 2) : wrap64 ((m : Int) * 2 ^ (2 * (3 - k))) = (m : Int) * 2 ^ (2 * (3 - k)) := by
  rcases (show k = 0 ∨ k = 1 ∨ k = 2 by omega) with rfl | rfl | rfl
  · rw [show (2 : Int) ^ (2 * (3 - 0)) = 64 by decide]
    exact IntWalk.wrap64_in _ ⟨by omega, by omega⟩
  · rw [show (2 : Int) ^ (2 * (3 - 1)) = 16 by decide]
    exact IntWalk.wrap64_in _ ⟨by omega, by omega⟩
  · rw [show (2 : Int) ^ (2 * (3 - 2)) = 4 by decide]
    exact IntWalk.wrap64_in _ ⟨by omega, by omega⟩
theorem toldW_len (tw : Nat → List UInt8) (h : ∀ j, j < 3 → (tw j).length ≤ 100000) : ∀ k, k ≤ 3 → (toldW tw k).length ≤ 100000 * k
  | 0, _ => by simp [toldW]
  | k + 1, hk => by
    have h1 := toldW_len tw h k (by omega)
    have h2 := h k (by omega)
    rw [toldW, List.length_append]
    omega
theorem WtP.tell {w : World} {rs : List Cq} {x : Ts} {tb : Nat → Tb} {mo : Nat → Nat} {tw : Nat → List UInt8} {k : Nat} (h : WtP w rs x tb mo tw k) : ∀ j, j < k → mo j ≤ 2 ∧ (tw j).length ≤ 100000 := fun j hj =>
  let ⟨_, _, _, h4, _, _, _, h8⟩ := h j hj
  ⟨h4.1, h8⟩
/-- What stands in the loop of writeTables behind k tables. -/
structure WtI (w wx : World) (rs : List Cq) (x : Ts) (tb : Nat → Tb) (mo : Nat → Nat) (tw : Nat → List UInt8) (k : Nat) (v : Value) : Prop where
  br : Box wx w.heap.size 29 #[.int .i64 0, .slice none 0 0, .int .i64 0, .slice none 0 0, .int .i64 0, .slice none 0 0]
  bt : Box wx (w.heap.size + 1) 29 (x.part k)
  ow : OwB wx 5 (w.heap.size + 2) v (toldW tw k)
  wt : WtP wx rs x tb mo tw k
  off : ∀ j, j < k → ∀ d o s, x.A j = some ⟨d, o, s⟩ → w.heap.size + 2 ≤ d ∧ d < wx.heap.size ∧ v.ownBlock ≠ some d
  be : Below w.heap.size w wx
  sz : w.heap.size + 2 ≤ wx.heap.size
  mb : ∀ j, mo j ≤ 2
  tl : ∀ j, (tw j).length ≤ 100000
section
variable {B : Nat} {w : World} {base g lo hi m c : Nat} {A : Option Addr} {rs : List Cq} {xs : List UInt8}
set_option maxRecDepth 100000 in
set_option maxHeartbeats 4000000 in
theorem writeTables_any (hgl : GS B w) (hw : cu.Wtr w base g xs) (hd : DatR 9 Cq.list w lo hi A rs) (hhi : hi ≤ w.heap.size) (hm : rs.length = m) (h0 : 0 < m) (hm2 : m ≤ 1000) (hc : ∀ n, n < 3 → ∀ q ∈ rs, (q.at n).c ≤ lastN n) (hxl : xs.length ≤ 1000000) :
    Calls Tryz.prog 35 #[.pointer (some ⟨g, 0, none⟩), .slice A m c] w fun e w' => ∃ (x : Ts) (tb : Nat → Tb) (mo : Nat → Nat) (tw : Nat → List UInt8), e = .returned x.val ∧ WtP w' rs x tb mo tw 3 ∧ cu.Wtr w' base g (xs ++ put (mdsW mo 3) 1 ++ toldW tw 3) ∧ Below base w w' := by
  obtain ⟨i0, hi0, hz0, hz1, hz2⟩ := info_parts u8_info
  have HI := Lib.hid (And.intro hi0 (And.intro hz0 (And.intro hz1 hz2)))
  have hbg := hw.1
  have hglt := hw.lt
  have hBw := hgl.size
  obtain ⟨W, hW⟩ : ∃ W, W = (w.alloc (.cells #[.int .i64 0, .slice none 0 0, .int .i64 0, .slice none 0 0, .int .i64 0, .slice none 0 0] 29)).alloc (.cells #[.int .i64 0, .slice none 0 0, .int .i64 0, .slice none 0 0, .int .i64 0, .slice none 0 0] 29) := ⟨_, rfl⟩
  have hb : Below w.heap.size w W := by rw [hW]; exact ((Below.refl _ _).alloc (Nat.le_refl _) _).alloc (by simp) _
  have hWs : W.heap.size = w.heap.size + 2 := by rw [hW]; simp
  have hbr : Box W w.heap.size 29 #[.int .i64 0, .slice none 0 0, .int .i64 0, .slice none 0 0, .int .i64 0, .slice none 0 0] := by rw [hW]; exact (Box.new w _ _).alloc _
  have hbt : Box W (w.heap.size + 1) 29 #[.int .i64 0, .slice none 0 0, .int .i64 0, .slice none 0 0, .int .i64 0, .slice none 0 0] := by
    rw [hW]
    have := Box.new (w.alloc (.cells #[.int .i64 0, .slice none 0 0, .int .i64 0, .slice none 0 0, .int .i64 0, .slice none 0 0] 29)) 29 #[.int .i64 0, .slice none 0 0, .int .i64 0, .slice none 0 0, .int .i64 0, .slice none 0 0]
    rw [World.size_alloc] at this
    exact this
  have HI0 : Hid (WtI w W rs ⟨fun _ => 0, fun _ => none, fun _ => 0, fun _ => 0⟩ (fun _ => ⟨0, []⟩) (fun _ => 0) (fun _ => []) 0 (.slice none 0 0)) :=
    ⟨hbr, hbt, OwB.nil _ _ _, fun j hj => absurd hj (by omega), fun j hj => absurd hj (by omega), hb, by omega, fun _ => by simp, fun _ => by simp⟩
  have HC := Lib.hid hc
  have HM := Lib.hid hm
  have HGl := Lib.hid hgl
  have HWr := Lib.hid hw
  have HDr := Lib.hid hd
  clear hgl hw hd hm hc hi0 hz0 hz1 hz2 hb hWs hbr hbt
  go_enter Tryz.func35, Tryz.ntmps35
  go_upto_region 2 with (fail)
  rw [← hW]
  clear hW
  go_wp2_with fail
  go_loopg [6, 7, 8, 9, 10, 11, 12] 3 (fun gh i6 i7 i8 i9 i10 i11 i wx => ∃ (k : Nat) (x : Ts) (tb : Nat → Tb) (mo : Nat → Nat) (tw : Nat → List UInt8) (Av : Option Addr) (nv cv : Nat), k + gh = 3 ∧ i = .int .i64 (k : Int) ∧ i6 = .int .i64 ((mdsW mo k : Nat) : Int) ∧ i7 = .slice Av nv cv ∧ w.heap.size + 2 ≤ wx.heap.size ∧ Hid (WtI w wx rs x tb mo tw k (.slice Av nv cv)))
  case atStart => exact ⟨0, _, _, _, _, none, 0, 0, rfl, rfl, rfl, rfl, HI0.out.sz, HI0⟩
  case round =>
    obtain ⟨k, x, tb, mo, tw, Av, nv, cv, hk, rfl, rfl, rfl, hwx, HE⟩ := hrel
    have HK := Lib.hid hk
    have hk3 : k ≤ 3 := by omega
    clear hk HI0
    by_cases hlt : k < 3
    · obtain ⟨g', rfl⟩ : ∃ g', gk = g' + 1 := ⟨gk - 1, by have := HK.out; omega⟩
      have hki : (k : Int) < 3 := by omega
      have HT := Lib.hid (tableOf_any (c := c) (HGl.out.below HE.out.be hBw) (HDr.out.below HE.out.be hhi) (by omega) HM.out h0 hm2 hlt (HC.out k hlt))
      go_wp2_with fail
      refine HT.out.mono ?_
      rintro e w1 ⟨hB1, t, A1, c1, mode, At, told, ct, rfl, hok, hlow⟩
      have hz1 := hB1.size
      have hes := hok.ok.pos
      have hmd := hok.way.1
      have hsm := hok.sm
      obtain ⟨W9, hW9⟩ : ∃ W9, W9 = w1.alloc (.cells #[.int .i64 (t.lg : Int), .slice A1 t.es.length c1] 27) := ⟨_, rfl⟩
      have hb9 : Below w1.heap.size w1 W9 := by rw [hW9]; exact (Below.refl _ _).alloc (Nat.le_refl _) _
      have hb19 : Below wr.heap.size wr W9 := hB1.trans (hb9.mono hz1)
      have hz9 : W9.heap.size = w1.heap.size + 1 := by rw [hW9]; simp
      have hx9 : Box W9 w1.heap.size 27 #[.int .i64 (t.lg : Int), .slice A1 t.es.length c1] := by rw [hW9]; exact Box.new w1 _ _
      have hbt9 := HE.out.bt.below hb19 (by omega)
      have hpt := x.part_at hlt
      have s0 := (hbt9.cell (k * 2)).trans hpt.1
      have s1 := (hbt9.cell (k * 2 + 1)).trans hpt.2
      have s2 := hbt9.free (k * 2)
      have s3 := hbt9.free (k * 2 + 1)
      obtain ⟨q0, q1, _, _⟩ := box2 hx9
      have hput := (hbt9.put (k * 2) (.int .i64 (t.lg : Int))).put (k * 2 + 1) (.slice A1 t.es.length c1)
      rw [x.part_with hlt t.lg A1 t.es.length c1] at hput
      obtain ⟨W10, hW10⟩ : ∃ W10, W10 = (W9.setCell ⟨w.heap.size + 1, k * 2, none⟩ (.int .i64 (t.lg : Int))).setCell ⟨w.heap.size + 1, k * 2 + 1, none⟩ (.slice A1 t.es.length c1) := ⟨_, rfl⟩
      rw [← hW10] at hput
      have hz10 : W10.heap.size = W9.heap.size := by rw [hW10]; simp [World.setCell]
      have hsame : ∀ j, j ≠ w.heap.size + 1 → W10.heap[j]? = W9.heap[j]? := fun j hj => by rw [hW10, Below.heap_setCell _ _ _ j hj, Below.heap_setCell _ _ _ j hj]
      have hmds := mdsW_bd mo (fun j _ => HE.out.mb j) hlt
      have hor := or_modes hlt hmds.1 hmds.2 hmd
      have hwp := wrap_mode hlt hmd
      obtain ⟨M, hM⟩ : ∃ M, M = mdsW mo k + mode * 2 ^ (2 * (3 - k)) := ⟨_, rfl⟩
      rw [← hM] at hor
      have HMd : Hid (mdsW (fun i => if i = k then mode else mo i) (k + 1) = M) := by
        rw [Hid, mdsW, mdsW_new mo mode k k (Nat.le_refl _), if_pos rfl, hM]
      have HTw : Hid (toldW (fun i => if i = k then told else tw i) (k + 1) = toldW tw k ++ told) := by
        rw [Hid, toldW, toldW_new tw told k k (Nat.le_refl _), if_pos rfl]
      clear hM hmds
      have HPl : Hid (∀ W, Calls Tryz.prog 47 #[.int .i64 (k : Int)] W fun e w' => e = .returned (.int .i64 ((2 * (3 - k) : Nat) : Int)) ∧ W = w') := fun W => place_any k W hlt
      have hd10 : Dat false W10 0 w1.heap.size At told := by
        by_cases h0 : 0 < told.length
        · have h9 : Dat false W9 0 w1.heap.size At told := hok.dat.below hb9 (Nat.le_refl _)
          have ho := h9.off (g := w.heap.size + 1) h0 (fun i y => by rw [hbt9.cell i]; exact part_u8 x k i y)
          rw [hW10]
          exact (h9.setA ho _).setA ho _
        · obtain rfl : told = [] := List.eq_nil_of_length_eq_zero (by omega)
          exact Dat.nil _ _ _ _ _
      have hbe10 : Below w.heap.size w W10 := by
        rw [hW10]
        exact ((HE.out.be.trans (hb19.mono HE.out.be.size)).setCell (by show w.heap.size ≤ w.heap.size + 1; omega) _).setCell (by show w.heap.size ≤ w.heap.size + 1; omega) _
      have hbs10 : w.heap.size + 2 ≤ W10.heap.size := by omega
      have HD10 := Lib.hid (And.intro hd10 (And.intro hbe10 hb9))
      have HW10 := Lib.hid hW10
      have HF10 := Lib.hid (And.intro hput (And.intro hz10 (And.intro hsame (And.intro hz9 (And.intro hb19 (And.intro hB1 (And.intro hok hlow)))))))
      clear hd10 hbe10
      clear hpt hbt9 hput hW10 hz10 hsame hz9 hb19 hB1 hb9 hx9 hok hlow
      go_upto_region 8 with (fail)
      rw [← hW9]
      clear hW9
      go_upto_region 9 with (fail)
      rw [← HW10.out]
      clear HW10 s0 s1 s2 s3 q0 q1
      go_upto_region 10 with (go_at_call 47; refine (HPl.out _).mono ?_; rintro e' w' ⟨rfl, rfl⟩)
      obtain ⟨hput, hz10, hsame, hz9, hb19, hB1, hok, hlow⟩ := HF10.out
      have hvlt : ∀ d, (Value.slice Av nv cv).ownBlock = some d → w.heap.size + 2 ≤ d ∧ d < wr.heap.size := HE.out.ow.block
      have how10 : OwB W10 5 (w.heap.size + 2) (.slice Av nv cv) (toldW tw k) := HE.out.ow.keepO fun d hd => (hsame d (by have := hvlt d hd; omega)).trans (hb19.block d (hvlt d hd).2)
      have HA := Lib.hid how10
      have HD := Lib.hid HD10.out.1
      have htl := toldW_len tw (fun j _ => HE.out.tl j) k hk3
      clear hput hz10 hsame hz9 hb19 hB1 hok hlow how10 hor hwp
      go_wp2_with (at_builtin; refine list_app _ rfl _ _ 22 rfl i0 Tryz.underlying22 HI.out.1 HI.out.2.1 HI.out.2.2.1 HI.out.2.2.2 rfl HA.out rfl HD.out rfl ?_ ?_ ?_)
      · omega
      · exact hbs10
      intro v5 w5 ho5 hg5 hat5
      obtain ⟨A5, n5, c5, rfl⟩ := ho5.slice
      obtain ⟨hput, hz10, hsame, hz9, hb19, hB1, hok, hlow⟩ := HF10.out
      have hz5 := hg5.size
      have hk1 : ∀ j, j < w1.heap.size → j ≠ w.heap.size + 1 → (Value.slice Av nv cv).ownBlock ≠ some j → w5.heap[j]? = w1.heap[j]? := fun j h1 h2 h3 => (hg5.block j (by omega) (fun e => h3 e.symm)).trans ((hsame j h2).trans (HD10.out.2.2.block j h1))
      have hk5 : ∀ j, j < wr.heap.size → j ≠ w.heap.size + 1 → (Value.slice Av nv cv).ownBlock ≠ some j → w5.heap[j]? = wr.heap[j]? := fun j h1 h2 h3 => (hk1 j (by omega) h2 h3).trans (hB1.block j h1)
      have HF : Hid (WtI w w5 rs (x.with k t.lg A1 t.es.length c1) (fun i => if i = k then t else tb i) (fun i => if i = k then mode else mo i) (fun i => if i = k then told else tw i) (k + 1) (.slice A5 n5 c5)) := by
        have hold : ∀ j, j ≠ k → (x.with k t.lg A1 t.es.length c1).A j = x.A j := fun j hj => by unfold Ts.with; dsimp only; rw [if_neg hj]
        have hnew : (x.with k t.lg A1 t.es.length c1).A k = A1 := by unfold Ts.with; dsimp only; rw [if_pos rfl]
        refine ⟨HE.out.br.keep (hk5 _ (by omega) (by omega) (fun e => by have := hvlt _ e; omega)), ?_, ?_, ?_, ?_, ?_, by omega, ?_, ?_⟩
        · exact hput.grown hg5 (fun e => by have := hvlt _ e.symm; omega)
        · rw [HTw.out]; exact ho5
        · refine WtP.snoc (HE.out.wt.keep fun j hj h => h.via (fun d o s e hd => ?_) (by omega)) hok.ok hok.way (hok.ent.via (fun d o s e hd => ?_) (by omega)) hok.has hok.one hok.sm
          · obtain ⟨q1, q2, q3⟩ := HE.out.off j hj d o s e
            exact hk5 d q2 (by omega) q3
          · have := hlow d o s e
            exact hk1 d hd (by omega) (fun e2 => by have := hvlt d e2; omega)
        · intro j hj d o s e
          by_cases hjk : j = k
          · subst hjk
            rw [hnew] at e
            have h1 := hlow d o s e
            obtain ⟨d', o', hA', _, hd', _⟩ := hok.ent hes
            rw [e] at hA'
            injection hA' with hA'
            injection hA' with hA1 _ _
            refine ⟨by omega, by omega, fun e2 => ?_⟩
            rcases hat5 with h5 | h5
            · rw [h5] at e2; have := hvlt d e2; omega
            · rw [h5] at e2; injection e2 with e2; omega
          · rw [hold j hjk] at e
            obtain ⟨q1, q2, q3⟩ := HE.out.off j (by omega) d o s e
            refine ⟨q1, by omega, fun e2 => ?_⟩
            rcases hat5 with h5 | h5
            · rw [h5] at e2; exact q3 e2
            · rw [h5] at e2; injection e2 with e2; omega
        · exact HD10.out.2.1.grown hg5 HD10.out.2.1.size (fun q e => by have := hvlt q e; omega)
        · intro j
          split
          · exact hmd
          · exact HE.out.mb j
        · intro j
          split
          · exact hsm
          · exact HE.out.tl j
      clear hput hz10 hsame hz9 hb19 hB1 hok hlow hk1 hk5 ho5 hg5 hat5 hz5 HE HF10 HA HD
      go_wp2_with fail
      go_roundg g'
      case rel => exact ⟨k + 1, _, _, _, _, A5, n5, c5, by have := HK.out; omega, by go_num, by rw [HMd.out], rfl, HF.out.sz, HF⟩
      case measure => omega
    · obtain rfl : k = 3 := by omega
      have hki : ¬ (3 : Int) < 3 := by omega
      have hbt := HE.out.bt
      rw [x.part_all] at hbt
      have hwr := HWr.out.below HE.out.be (Nat.le_refl _)
      have HWS := Lib.hid (cu.Wtr.beside HWr.out HE.out.be (S := fun j => w.heap.size ≤ j ∧ j < wr.heap.size) fun j hj => hj)
      have hmd3 : mdsW mo 3 ≤ 168 := by
        rw [mdsW_three]
        have h0 := HE.out.mb 0
        have h1 := HE.out.mb 1
        have h2 := HE.out.mb 2
        omega
      have htl := toldW_len tw (fun j _ => HE.out.tl j) 3 (by omega)
      obtain ⟨M, hM⟩ : ∃ M, M = mdsW mo 3 := ⟨_, rfl⟩
      rw [← hM] at hmd3 ⊢
      have HMM := Lib.hid hM
      have HN := Lib.hid (cu.wnumberS_yes M 1 HWS.out (by omega) (by omega) (by omega))
      have hmw : IntKind.u64.wrap (M : Int) = (M : Int) := by rw [IntKind.wrap_u64]; omega
      clear hM hwr hbt
      go_wp2_with fail
      refine HN.out.mono ?_
      rintro e w6 ⟨rfl, hw6, hB6, hK6⟩
      obtain ⟨A5, c5, hv5, hc5, hd5⟩ := HE.out.ow.form
      injection hv5 with hv1 hv2 hv3
      subst hv1 hv3
      have hd6 : Dat true w6 (w.heap.size + 2) wr.heap.size Av (toldW tw 3) := hd5.keep fun j h1 h2 => hK6 j ⟨by omega, h2⟩
      have HBy := Lib.hid (cu.wbytesS_any (c := cv) hw6 hd6 hv2.symm (by rw [List.length_append, put_length]; omega))
      have HK6 := Lib.hid (And.intro hB6 hK6)
      clear hw6 hB6 hK6 hd6 hd5 hc5 hv2 HN
      go_wp2_with fail
      refine HBy.out.mono ?_
      rintro e w7 ⟨rfl, hw7, hB7, hK7⟩
      have hks : ∀ j, w.heap.size ≤ j → j < wr.heap.size → w7.heap[j]? = wr.heap[j]? := fun j h1 h2 => (hK7 j ⟨h1, h2⟩).trans (HK6.out.2 j ⟨h1, h2⟩)
      have hbt7 : Box w7 (w.heap.size + 1) 29 x.cells := HE.out.bt.keep (hks _ (by omega) (by omega))
      have hbr7 := HE.out.br.keep (hks _ (Nat.le_refl _) (by omega))
      obtain ⟨⟨s0, s1, s2, s3, s4, s5⟩, _⟩ := box6 hbt7
      obtain ⟨⟨c0, c1, c2, c3, c4, c5⟩, f0, f1, f2, f3, f4, f5⟩ := box6 hbr7
      have hbz : w.heap.size ≠ w.heap.size + 1 := by omega
      obtain ⟨W8, hW8⟩ : ∃ W8, W8 = set6 w7 w.heap.size (.int .i64 (x.l 0 : Int)) (.slice (x.A 0) (x.n 0) (x.c 0)) (.int .i64 (x.l 1 : Int)) (.slice (x.A 1) (x.n 1) (x.c 1)) (.int .i64 (x.l 2 : Int)) (.slice (x.A 2) (x.n 2) (x.c 2)) := ⟨_, rfl⟩
      have hs8 : ∀ j, j ≠ w.heap.size → W8.heap[j]? = w7.heap[j]? := fun j hj => by rw [hW8]; exact set6_heap j hj
      have hz8 : W8.heap.size = w7.heap.size := by rw [hW8]; exact set6_size
      have hz7 := hB7.size
      have hz6 := HK6.out.1.size
      have hfin : WtP W8 rs x tb mo tw 3 ∧ cu.Wtr W8 base g (xs ++ put M 1 ++ toldW tw 3) ∧ Below base w W8 := by
        refine ⟨HE.out.wt.keep fun j hj h => h.via (fun d o s e hd => ?_) (by omega), hw7.far (j := w.heap.size) ⟨Nat.le_refl _, by omega⟩ hs8, ?_⟩
        · obtain ⟨q1, q2, q3⟩ := HE.out.off j hj d o s e
          exact (hs8 d (by omega)).trans (hks d (by omega) q2)
        · rw [hW8]
          exact ((((((((HE.out.be.mono (by omega)).trans HK6.out.1).trans hB7).setCell (by show base ≤ w.heap.size; omega) _).setCell (by show base ≤ w.heap.size; omega) _).setCell (by show base ≤ w.heap.size; omega) _).setCell (by show base ≤ w.heap.size; omega) _).setCell (by show base ≤ w.heap.size; omega) _).setCell (by show base ≤ w.heap.size; omega) _
      have HFin := Lib.hid hfin
      have HW8 := Lib.hid hW8
      clear hfin hs8 hz8 hz7 hz6 hks hbt7 hbr7 hw7 hB7 hK7 HE HWS HBy HK6 hW8
      go_wp2_with fail
      change bodyPost _ _ _ _ _ (set6 w7 w.heap.size (.int .i64 (x.l 0 : Int)) (.slice (x.A 0) (x.n 0) (x.c 0)) (.int .i64 (x.l 1 : Int)) (.slice (x.A 1) (x.n 1) (x.c 1)) (.int .i64 (x.l 2 : Int)) (.slice (x.A 2) (x.n 2) (x.c 2)))
      refine bodyPost_ret (v := x.val) (by simp [results, Tryz.results35, go_sem, set6, Ts.val, c0, c1, c2, c3, c4, c5]) rfl ⟨x, tb, mo, tw, rfl, ?_⟩
      rw [← HW8.out, ← HMM.out]
      exact HFin.out
end
end Go.Proofs.YtlidnialggpcpaaGreatDoor
