
/- The contract of the document's Read of sequences. Made by gen-SeqRefR.py. -/
import Derived.Test.YtlidnialggpcpaaGreatDoorSeqRefV
import Derived.Test.YtlidnialggpcpaaGreatDoorSeqRef12
import Derived.Test.YtlidnialggpcpaaGreatDoorSeqTbs
import Derived.Test.YtlidnialggpcpaaGreatDoorSeqErr
import Derived.Test.YtlidnialggpcpaaGreatDoorSeqSmall
namespace Go.Proofs.YtlidnialggpcpaaGreatDoor
open Go.RowKit

/-- What the document's Read answers. -/
def RRPost13 (R : Except Int (List Sq × Option T3)) (w : World) (e : Ending) (w' : World) : Prop :=
  Below w.heap.size w w' ∧ match R with
    | .error er => e = .returned (.tuple #[.slice none 0 0, zeroTs, .int .i64 er])
    | .ok (q, _) => ∃ v x, e = .returned (.tuple #[v, Ts.val x, .int .i64 0]) ∧ OwR 3 scell w' 47 w.heap.size v q
theorem below_set6 {w wx : World} {b : Nat} {v0 v1 v2 v3 v4 v5 : Value} (h : Below w.heap.size w wx) (hb : w.heap.size ≤ b) : Below w.heap.size w (set6 wx b v0 v1 v2 v3 v4 v5).drew :=
  ((((((h.setCell hb _).setCell hb _).setCell hb _).setCell hb _).setCell hb _).setCell hb _).drew
/-- The first of the document's tables lie there. -/
def RPart (w : World) (b : Nat) (x : Ts) (ts : List Tb) : Prop := ∀ j (h : j < ts.length), x.l j = ts[j].lg ∧ x.n j = ts[j].es.length ∧ DatR 3 rcell w b w.heap.size (x.A j) ts[j].es
theorem RPart.grow {w w' : World} {b : Nat} {x : Ts} {ts : List Tb} (h : RPart w b x ts) (hb : ∀ j, b ≤ j → j < w.heap.size → w'.heap[j]? = w.heap[j]?) (hs : w.heap.size ≤ w'.heap.size) : RPart w' b x ts := fun j hj =>
  ⟨(h j hj).1, (h j hj).2.1, ((h j hj).2.2.keep fun i h0 hi => hb i h0 hi).mono (Nat.le_refl _) hs⟩
theorem RPart.snoc {w : World} {b : Nat} {x : Ts} {ts : List Tb} {t : Tb} {A : Option Addr} {c : Nat} (h : RPart w b x ts) (hd : DatR 3 rcell w b w.heap.size A t.es) : RPart w b (x.with ts.length t.lg A t.es.length c) (ts ++ [t]) := fun j hj => by
  rcases Nat.lt_or_ge j ts.length with q | q
  · have e : (ts ++ [t])[j] = ts[j] := List.getElem_append_left q
    rw [e]
    unfold Ts.with
    dsimp only
    rw [if_neg (by omega), if_neg (by omega), if_neg (by omega)]
    exact h j q
  · have hl : j = ts.length := by simp at hj; omega
    subst hl
    have e : (ts ++ [t])[ts.length] = t := by simp
    rw [e]
    unfold Ts.with
    dsimp only
    rw [if_pos rfl, if_pos rfl, if_pos rfl]
    exact ⟨rfl, rfl, hd⟩
theorem Ts.cells_with2 (x : Ts) {k : Nat} (h : k < 3) (l : Nat) (A : Option Addr) (n c : Nat) : (x.cells.setIfInBounds (k * 2) (.int .i64 (l : Int))).setIfInBounds (k * 2 + 1) (.slice A n c) = (x.with k l A n c).cells := by
  rcases (show k = 0 ∨ k = 1 ∨ k = 2 by omega) with rfl | rfl | rfl <;> rfl
def mdc (m : Nat) : Array Value := #[.int .i64 (md m 0 : Int), .int .i64 (md m 1 : Int), .int .i64 (md m 2 : Int)]
theorem mdc_at (m : Nat) {k : Nat} (h : k < 3) : (mdc m)[k]? = some (.int .i64 (md m k : Int)) := by
  rcases (show k = 0 ∨ k = 1 ∨ k = 2 by omega) with rfl | rfl | rfl <;> rfl
/-- What stands in the loop over the document's tables behind k of them. -/
structure RtI (w wx : World) (x0 : Ts) (bm m : Nat) (r : List UInt8) (k : Nat) (xs : List UInt8) : Prop where
  bt : Box wx w.heap.size 36 x0.cells
  br : Box wx (w.heap.size + 1) 36 #[.int .i64 0, .slice none 0 0, .int .i64 0, .slice none 0 0, .int .i64 0, .slice none 0 0]
  bn : Box wx (w.heap.size + 1 + 1) 36 #[.int .i64 0, .slice none 0 0, .int .i64 0, .slice none 0 0, .int .i64 0, .slice none 0 0]
  mo : Box wx bm 3 (mdc m)
  be : Below w.heap.size w wx
  sz : bm + 2 ≤ wx.heap.size
  ex : ∃ (y : Ts) (ts : List Tb), rts m r k = .ok (ts, xs) ∧ Box wx (bm + 1) 36 y.cells ∧ RPart wx (bm + 2) y ts
/-- The document's tables. -/
structure RTsIn (w : World) (hi : Nat) (x : Ts) (T : T3) : Prop where
  l : ∀ k, k < 3 → x.l k = (T.tb k).lg
  n : ∀ k, k < 3 → x.n k = (T.tb k).es.length
  d : ∀ k, k < 3 → DatR 3 rcell w 0 hi (x.A k) (T.tb k).es
theorem RTsIn.keep {w w' : World} {hi : Nat} {x : Ts} {T : T3} (h : RTsIn w hi x T) (he : ∀ k, k < hi → w'.heap[k]? = w.heap[k]?) : RTsIn w' hi x T := ⟨h.l, h.n, fun k hk => (h.d k hk).keep fun j _ hj => he j hj⟩
theorem RTsIn.mono {w : World} {hi hi' : Nat} {x : Ts} {T : T3} (h : RTsIn w hi x T) (hB : hi ≤ hi') : RTsIn w hi' x T := ⟨h.l, h.n, fun k hk => (h.d k hk).mono (Nat.le_refl _) hB⟩
theorem RPart.all {w : World} {b : Nat} {x : Ts} {t0 t1 t2 : Tb} (h : RPart w b x [t0, t1, t2]) : RTsIn w w.heap.size x ⟨t0, t1, t2⟩ := by
  refine ⟨fun k hk => ?_, fun k hk => ?_, fun k hk => ?_⟩ <;> rcases (show k = 0 ∨ k = 1 ∨ k = 2 by omega) with rfl | rfl | rfl
  · exact (h 0 (by simp)).1
  · exact (h 1 (by simp)).1
  · exact (h 2 (by simp)).1
  · exact (h 0 (by simp)).2.1
  · exact (h 1 (by simp)).2.1
  · exact (h 2 (by simp)).2.1
  · exact (h 0 (by simp)).2.2.mono (Nat.zero_le _) (Nat.le_refl _)
  · exact (h 1 (by simp)).2.2.mono (Nat.zero_le _) (Nat.le_refl _)
  · exact (h 2 (by simp)).2.2.mono (Nat.zero_le _) (Nat.le_refl _)
/-- What stands while the document's sequences are read: its tables, the bits that are left in their box. -/
structure RlI (w wx : World) (bt bb : Nat) (y : Ts) (T : T3) (Ab : Option Addr) (cb : Nat) (xs : List UInt8) (left : Int) (M : Nat) (K : Int) : Prop where
  br : Box wx (w.heap.size + 1) 36 #[.int .i64 0, .slice none 0 0, .int .i64 0, .slice none 0 0, .int .i64 0, .slice none 0 0]
  bn : Box wx (w.heap.size + 1 + 1) 36 #[.int .i64 0, .slice none 0 0, .int .i64 0, .slice none 0 0, .int .i64 0, .slice none 0 0]
  by_ : Box wx bt 36 y.cells
  bx : Box wx bb 77 #[.slice Ab M cb, .int .i64 K]
  rb : RBit wx bb Ab cb xs left
  ti : RTsIn wx bb y T
  be : Below w.heap.size w wx
  eM : M = left.toNat
  eK : K = (left.toNat : Int) - left
theorem RlI.val_eq {w wx : World} {bt bb : Nat} {y : Ts} {T : T3} {Ab : Option Addr} {cb : Nat} {xs : List UInt8} {left : Int} {M : Nat} {K : Int} (h : RlI w wx bt bb y T Ab cb xs left M K) : bval Ab cb left = .agg #[.slice Ab M cb, .int .i64 K] := by
  unfold bval
  rw [h.eM, h.eK]
theorem RlI.below {w wx w' : World} {bt bb : Nat} {y : Ts} {T : T3} {Ab : Option Addr} {cb : Nat} {xs : List UInt8} {left : Int} {M : Nat} {K : Int} (h : RlI w wx bt bb y T Ab cb xs left M K) (hb : Below wx.heap.size wx w') : RlI w w' bt bb y T Ab cb xs left M K :=
  ⟨h.br.below hb h.br.lt, h.bn.below hb h.bn.lt, h.by_.below hb h.by_.lt, h.bx.below hb h.bx.lt, h.rb.below hb (Nat.le_of_lt h.bx.lt), h.ti.keep fun k hk => hb.block k (by have := h.bx.lt; omega), h.be.trans (hb.mono h.be.size), h.eM, h.eK⟩
/-- Some bits have been read: the box holds what is left. -/
theorem RlI.put {w wx : World} {bt bb : Nat} {y : Ts} {T : T3} {Ab : Option Addr} {cb : Nat} {xs : List UInt8} {left left' : Int} {M M' : Nat} {K K' : Int} (h : RlI w wx bt bb y T Ab cb xs left M K) (h1 : left' ≤ left) (h2 : -100000000000 ≤ left') (eM : M' = left'.toNat) (eK : K' = (left'.toNat : Int) - left') (hbb : w.heap.size + 2 < bb) (hbt : bt < bb) :
    RlI w ((wx.setCell ⟨bb, 0, none⟩ (.slice Ab M' cb)).setCell ⟨bb, 1, none⟩ (.int .i64 K')) bt bb y T Ab cb xs left' M' K' := by
  have hn : ∀ j, j ≠ bb → ((wx.setCell ⟨bb, 0, none⟩ (.slice Ab M' cb)).setCell ⟨bb, 1, none⟩ (.int .i64 K')).heap[j]? = wx.heap[j]? := fun j hj => by
    rw [Below.heap_setCell _ _ _ j hj, Below.heap_setCell _ _ _ j hj]
  have hr := h.rb.step h1 h2
  exact ⟨h.br.keep (hn _ (by omega)), h.bn.keep (hn _ (by omega)), h.by_.keep (hn _ (by omega)), (h.bx.put 0 _).put 1 _, ⟨hr.d.keep fun j _ hj => hn j (by omega), hr.c, hr.b, hr.le, hr.low⟩, h.ti.keep fun j hj => hn j (by omega), (h.be.setCell (by show w.heap.size ≤ bb; omega) _).setCell (by show w.heap.size ≤ bb; omega) _, eM, eK⟩
theorem RlI.putQ {w wx : World} {bt bb qb : Nat} {y : Ts} {T : T3} {Ab : Option Addr} {cb : Nat} {xs : List UInt8} {left : Int} {M : Nat} {K : Int} (h : RlI w wx bt bb y T Ab cb xs left M K) (hq : bb < qb) (hbt : bt < bb) (hw : w.heap.size + 2 < bb) (i : Nat) (v : Value) : RlI w (wx.setCell ⟨qb, i, none⟩ v) bt bb y T Ab cb xs left M K := by
  have hn : ∀ j, j ≠ qb → (wx.setCell ⟨qb, i, none⟩ v).heap[j]? = wx.heap[j]? := fun j hj => Below.heap_setCell _ _ _ j hj
  exact ⟨h.br.keep (hn _ (by omega)), h.bn.keep (hn _ (by omega)), h.by_.keep (hn _ (by omega)), h.bx.keep (hn _ (by omega)), ⟨h.rb.d.keep fun j _ hj => hn j (by omega), h.rb.c, h.rb.b, h.rb.le, h.rb.low⟩, h.ti.keep fun j hj => hn j (by omega), h.be.setCell (by show w.heap.size ≤ qb; omega) _, h.eM, h.eK⟩
theorem RlI.grown {w wx w' : World} {bt bb : Nat} {y : Ts} {T : T3} {Ab : Option Addr} {cb : Nat} {xs : List UInt8} {left : Int} {M : Nat} {K : Int} {row : Option Nat} (h : RlI w wx bt bb y T Ab cb xs left M K) (hg : wx.grownBy w' row) (hr : ∀ k, row = some k → bb < k) (hbt : bt < bb) (hw : w.heap.size + 2 < bb) : RlI w w' bt bb y T Ab cb xs left M K := by
  have hlt := h.bx.lt
  have hn : ∀ j, j ≤ bb → w'.heap[j]? = wx.heap[j]? := fun j hj => hg.block j (by omega) (fun e => by have := hr j e.symm; omega)
  exact ⟨h.br.keep (hn _ (by omega)), h.bn.keep (hn _ (by omega)), h.by_.keep (hn _ (by omega)), h.bx.keep (hn _ (by omega)), ⟨h.rb.d.keep fun j _ hj => hn j (by omega), h.rb.c, h.rb.b, h.rb.le, h.rb.low⟩, h.ti.keep fun j hj => hn j (by omega), h.be.grown hg h.be.size (fun k hk => by have := hr k hk; omega), h.eM, h.eK⟩
theorem err_of {m k n : Nat} {r xs : List UInt8} {ts : List Tb} {er : Int} {R : Except Int (List Sq × Option T3)} (hm : m < 256) (hrt : rts m r k = .ok (ts, xs)) (hq : readT k (md m k) xs = .error er)
    (hR : R = (match readTs m r with
      | .error e => .error e
      | .ok (T, r3) => match bodyS r3 T n with
        | .error e => .error e
        | .ok q => .ok (q, some T))) (hk : k < 3 := by omega) : R = .error er := by
  have h2 : rts m r (k + 1) = .error er := by rw [rts, hrt]; dsimp only; rw [hq]
  have h3 := rts_err (j := 2 - k) h2
  rw [show k + 1 + (2 - k) = 3 by omega] at h3
  rcases rts_all hm r with ⟨e2, h4', h5⟩ | ⟨t0', t1', t2', r', h4', h5⟩
  · rw [h3] at h4'
    injection h4' with h4'
    rw [hR, h5, h4']
  · rw [h3] at h4'
    cases h4'
section
variable {w : World} {xs : List UInt8} {x0 : Ts}
set_option maxRecDepth 100000 in
set_option maxHeartbeats 8000000 in
theorem rread13_any (hl : xs.length ≤ 100000000) (hmo : ∀ n f r, countS xs = .ok (n, f :: r) → n ≠ 0 → ∀ k, k < 3 → md f.toNat k = 3 → x0.n k = 0) :
    Calls Tryz.prog 9 #[.string (str xs), x0.val] w (RRPost13 (readS xs) w) := by
  obtain ⟨W, hW⟩ : ∃ W, W = ((w.alloc (.cells x0.cells 36)).alloc (.cells #[.int .i64 0, .slice none 0 0, .int .i64 0, .slice none 0 0, .int .i64 0, .slice none 0 0] 36)).alloc (.cells #[.int .i64 0, .slice none 0 0, .int .i64 0, .slice none 0 0, .int .i64 0, .slice none 0 0] 36) := ⟨_, rfl⟩
  have hb : Below w.heap.size w W := by rw [hW]; exact (((Below.refl _ _).alloc (Nat.le_refl _) _).alloc (by simp) _).alloc (by simp; omega) _
  have hWs : W.heap.size = w.heap.size + 3 := by rw [hW]; simp
  have hbt : Box W w.heap.size 36 x0.cells := by rw [hW]; exact ((Box.new w _ _).alloc _).alloc _
  have hbr : Box W (w.heap.size + 1) 36 #[.int .i64 0, .slice none 0 0, .int .i64 0, .slice none 0 0, .int .i64 0, .slice none 0 0] := by
    rw [hW]
    have := Box.new (w.alloc (.cells x0.cells 36)) 36 #[.int .i64 0, .slice none 0 0, .int .i64 0, .slice none 0 0, .int .i64 0, .slice none 0 0]
    rw [World.size_alloc] at this
    exact this.alloc _
  have hbn : Box W (w.heap.size + 1 + 1) 36 #[.int .i64 0, .slice none 0 0, .int .i64 0, .slice none 0 0, .int .i64 0, .slice none 0 0] := by
    rw [hW]
    have := Box.new ((w.alloc (.cells x0.cells 36)).alloc (.cells #[.int .i64 0, .slice none 0 0, .int .i64 0, .slice none 0 0, .int .i64 0, .slice none 0 0] 36)) 36 #[.int .i64 0, .slice none 0 0, .int .i64 0, .slice none 0 0, .int .i64 0, .slice none 0 0]
    rw [World.size_alloc, World.size_alloc] at this
    exact this
  have HB := Lib.hid hb
  have HT := Lib.hid hbt
  have HR := Lib.hid hbr
  have HN := Lib.hid hbn
  have HWs := Lib.hid hWs
  have HM := Lib.hid hmo
  have HL := Lib.hid hl
  obtain ⟨R, hR⟩ : ∃ R, R = readS xs := ⟨_, rfl⟩
  rw [← hR]
  have HRS := Lib.hid hR
  clear hb hbt hbr hbn hmo hl hR
  unfold Ts.val
  go_enter Tryz.func9, Tryz.ntmps9
  go_upto_region 2 with (fail)
  change Code.wp _ _ _ _ (((w.alloc (.cells x0.cells 36)).alloc (.cells #[.int .i64 0, .slice none 0 0, .int .i64 0, .slice none 0 0, .int .i64 0, .slice none 0 0] 36)).alloc (.cells #[.int .i64 0, .slice none 0 0, .int .i64 0, .slice none 0 0, .int .i64 0, .slice none 0 0] 36))
  rw [← hW]
  clear hW
  go_wp2_with fail
  refine (rcount_any (xs := xs)).mono ?_
  rintro e w1 ⟨hB1, h1⟩
  have hsW := HWs.out
  have hz1 := hB1.size
  have hbe1 := HB.out.trans (hB1.mono (by omega))
  have HT1 := Lib.hid (HT.out.below hB1 (by omega))
  have HR1 := Lib.hid (HR.out.below hB1 (by omega))
  have HN1 := Lib.hid (HN.out.below hB1 (by omega))
  have hRE := HRS.out
  rw [readS_eq] at hRE
  clear hB1 HT HR HN HB
  cases hcn : countS xs with
  | error er =>
    rw [hcn] at h1 hRE
    obtain ⟨s, z, rfl⟩ := h1
    have her := countS_err hcn
    have hne : ((er : Int) != 0) = true := by simpa using her
    have HRE := Lib.hid hRE
    obtain ⟨W2, hW2⟩ : ∃ W2, W2 = w1.alloc (.cells #[.string s, .int .i64 er] 67) := ⟨_, rfl⟩
    have hb2 : Below w1.heap.size w1 W2 := by rw [hW2]; exact (Below.refl _ _).alloc (Nat.le_refl _) _
    have hbx2 : Box W2 w1.heap.size 67 #[.string s, .int .i64 er] := by rw [hW2]; exact Box.new w1 _ _
    obtain ⟨u0, u1, _, _⟩ := box2 hbx2
    obtain ⟨⟨n0, n1, n2, n3, n4, n5⟩, _⟩ := box6 (HN1.out.below hb2 (by omega))
    obtain ⟨⟨c0, c1, c2, c3, c4, c5⟩, f0, f1, f2, f3, f4, f5⟩ := box6 (HR1.out.below hb2 (by omega))
    have HBE := Lib.hid (hbe1.trans (hb2.mono hbe1.size))
    clear hRE hcn hb2 hbx2 hbe1
    go_upto_region 3 with (fail)
    rw [← hW2]
    clear hW2
    go_wp2_with fail
    go_region
    go_wp2_with fail
    refine bodyPost_ret (v := .tuple #[.slice none 0 0, zeroTs, .int .i64 er]) (by simp [results, Tryz.results9, go_sem, zeroTs, c0, c1, c2, c3, c4, c5]) rfl ⟨below_set6 HBE.out (by omega), by rw [HRE.out]⟩
  | ok p =>
    obtain ⟨n, r⟩ := p
    rw [hcn] at h1 hRE
    dsimp only at hRE
    obtain rfl := h1
    obtain ⟨hn98, hrl⟩ := count_le hcn
    obtain ⟨W2, hW2⟩ : ∃ W2, W2 = w1.alloc (.cells #[.string (str r), .int .i64 0] 67) := ⟨_, rfl⟩
    have hb2 : Below w1.heap.size w1 W2 := by rw [hW2]; exact (Below.refl _ _).alloc (Nat.le_refl _) _
    have HZ2 : Hid (W2.heap.size = w1.heap.size + 1) := by rw [hW2]; exact World.size_alloc _ _
    have hbx2 : Box W2 w1.heap.size 67 #[.string (str r), .int .i64 0] := by rw [hW2]; exact Box.new w1 _ _
    have HX2 := Lib.hid hbx2
    have HT2 := Lib.hid (HT1.out.below hb2 (by omega))
    have HR2 := Lib.hid (HR1.out.below hb2 (by omega))
    have HN2 := Lib.hid (HN1.out.below hb2 (by omega))
    have HB2 := Lib.hid (hbe1.trans (hb2.mono hbe1.size))
    obtain ⟨u0, u1, _, _⟩ := box2 hbx2
    have hssz : (str r).size = r.length := cu.str_size r
    have HCn := Lib.hid hcn
    clear hb2 hbx2 hbe1 HT1 HR1 HN1 hcn
    go_upto_region 3 with (fail)
    rw [← hW2]
    clear hW2
    by_cases hn0 : n = 0
    · subst hn0
      rw [if_pos rfl] at hRE
      by_cases hr0 : 0 < r.length
      · rw [if_pos hr0] at hRE
        have HRE := Lib.hid hRE
        have hri : (0 : Int) < (r.length : Int) := by omega
        obtain ⟨⟨n0, n1, n2, n3, n4, n5⟩, _⟩ := box6 HN2.out
        obtain ⟨⟨c0, c1, c2, c3, c4, c5⟩, f0, f1, f2, f3, f4, f5⟩ := box6 HR2.out
        clear hRE
        go_wp2_with fail
        go_region
        go_wp2_with fail
        refine bodyPost_ret (v := .tuple #[.slice none 0 0, zeroTs, .int .i64 15]) (by simp [results, Tryz.results9, go_sem, zeroTs, c0, c1, c2, c3, c4, c5]) rfl ⟨below_set6 HB2.out (by omega), by rw [HRE.out]⟩
      · rw [if_neg hr0] at hRE
        have HRE := Lib.hid hRE
        have hr0' : r.length = 0 := by omega
        rw [hr0'] at hssz
        obtain ⟨⟨t0, t1, t2, t3, t4, t5⟩, _⟩ := box6 HT2.out
        obtain ⟨⟨c0, c1, c2, c3, c4, c5⟩, f0, f1, f2, f3, f4, f5⟩ := box6 HR2.out
        clear hRE
        go_wp2_with fail
        go_region
        go_wp2_with fail
        rw [HRE.out]
        refine bodyPost_ret (v := .tuple #[.slice none 0 0, x0.val, .int .i64 0]) (by simp [results, Tryz.results9, go_sem, Ts.val, c0, c1, c2, c3, c4, c5]) rfl ⟨below_set6 HB2.out (by omega), .slice none 0 0, x0, rfl, OwR.nil _ _ _ _ _⟩
    · rw [if_neg hn0] at hRE
      have hn0b : ((n : Int) == 0) = false := by simp; omega
      have hni : (n : Int) ≠ 0 := by omega
      have HRE0 := Lib.hid hRE
      clear hRE
      rcases r with _ | ⟨m, r2⟩
      · have HNm := Lib.hid (rnum_none 1 W2 (xs := []) (by omega) (by omega) (by simp))
        have hRE := HRE0.out
        have HRE := Lib.hid (show R = .error 10 from hRE)
        clear hRE HRE0
        go_wp2_with fail
        refine HNm.out.mono ?_
        rintro e w3 ⟨rfl, hB3⟩
        have hbe3 := HB2.out.trans (hB3.mono HB2.out.size)
        have hx3 := HX2.out.below hB3 (by have := HZ2.out; omega)
        have hn3 := HN2.out.below hB3 (by have := HZ2.out; omega)
        have hr3 := HR2.out.below hB3 (by have := HZ2.out; omega)
        have hgt : w.heap.size + 1 + 1 < w1.heap.size := by omega
        have hq : ∀ j, j ≠ w1.heap.size → ((w3.setCell ⟨w1.heap.size, 0, none⟩ (.string (str []))).setCell ⟨w1.heap.size, 1, none⟩ (.int .i64 10)).heap[j]? = w3.heap[j]? := fun j hj => by
          rw [Below.heap_setCell _ _ _ j hj, Below.heap_setCell _ _ _ j hj]
        have hx4 := (hx3.put 0 (.string (str []))).put 1 (.int .i64 10)
        have hn4 := hn3.keep (hq _ (by omega))
        have hr4 := hr3.keep (hq _ (by omega))
        have HBE := Lib.hid ((hbe3.setCell (p := ⟨w1.heap.size, 0, none⟩) (show w.heap.size ≤ w1.heap.size by omega) (.string (str []))).setCell (p := ⟨w1.heap.size, 1, none⟩) (show w.heap.size ≤ w1.heap.size by omega) (.int .i64 10))
        obtain ⟨_, _, g0, g1⟩ := box2 hx3
        clear hB3 hbe3 hn3 hr3 hq u0 u1 hx3
        go_upto_region 10 with (fail)
        generalize (w3.setCell ⟨w1.heap.size, 0, none⟩ (.string (str []))).setCell ⟨w1.heap.size, 1, none⟩ (.int .i64 10) = W4 at *
        obtain ⟨u0, u1, _, _⟩ := box2 hx4
        obtain ⟨⟨n0, n1, n2, n3, n4, n5⟩, _⟩ := box6 hn4
        obtain ⟨⟨c0, c1, c2, c3, c4, c5⟩, f0, f1, f2, f3, f4, f5⟩ := box6 hr4
        clear hx4 hn4 hr4 g0 g1
        go_wp2_with fail
        go_region
        go_wp2_with fail
        refine bodyPost_ret (v := .tuple #[.slice none 0 0, zeroTs, .int .i64 10]) (by simp [results, Tryz.results9, go_sem, zeroTs, c0, c1, c2, c3, c4, c5]) rfl ⟨below_set6 HBE.out (by omega), by rw [HRE.out]⟩
      · have HNm := Lib.hid (rnum_one W2 m r2)
        have hm8 := m.toNat_lt
        have hRE := HRE0.out
        have hRM : readM (m :: r2) = if m.toNat % 4 ≠ 0 then .error 11 else readTs m.toNat r2 := rfl
        rw [hRM] at hRE
        have hmk := fun k hk h3 => HM.out n m r2 HCn.out hn0 k hk h3
        obtain ⟨mm, hmm⟩ : ∃ mm, mm = m.toNat := ⟨_, rfl⟩
        rw [← hmm] at hRE HNm hmk hm8
        have hw1 : (mm : Int) % 4 = ((mm % 4 : Nat) : Int) := by omega
        have HRE1 := Lib.hid hRE
        have HMk := Lib.hid hmk
        clear hRE HRE0 hRM hmm hmk
        go_wp2_with fail
        refine HNm.out.mono ?_
        rintro e w3 ⟨rfl, hB3⟩
        have hbe3 := HB2.out.trans (hB3.mono HB2.out.size)
        have hx3 := HX2.out.below hB3 (by have := HZ2.out; omega)
        have hn3 := HN2.out.below hB3 (by have := HZ2.out; omega)
        have hr3 := HR2.out.below hB3 (by have := HZ2.out; omega)
        have ht3 := HT2.out.below hB3 (by have := HZ2.out; omega)
        have hgt : w.heap.size + 1 + 1 < w1.heap.size := by omega
        have hq : ∀ j, j ≠ w1.heap.size → ((w3.setCell ⟨w1.heap.size, 0, none⟩ (.string (str r2))).setCell ⟨w1.heap.size, 1, none⟩ (.int .i64 0)).heap[j]? = w3.heap[j]? := fun j hj => by
          rw [Below.heap_setCell _ _ _ j hj, Below.heap_setCell _ _ _ j hj]
        have hx4 := (hx3.put 0 (.string (str r2))).put 1 (.int .i64 0)
        have hn4 := hn3.keep (hq _ (by omega))
        have hr4 := hr3.keep (hq _ (by omega))
        have ht4 := ht3.keep (hq _ (by omega))
        have HBE := Lib.hid ((hbe3.setCell (p := ⟨w1.heap.size, 0, none⟩) (show w.heap.size ≤ w1.heap.size by omega) (.string (str r2))).setCell (p := ⟨w1.heap.size, 1, none⟩) (show w.heap.size ≤ w1.heap.size by omega) (.int .i64 0))
        have HZ43 : Hid (((w3.setCell ⟨w1.heap.size, 0, none⟩ (.string (str r2))).setCell ⟨w1.heap.size, 1, none⟩ (.int .i64 0)).heap.size = w3.heap.size) := Lib.hid (by simp [World.setCell])
        have hz3 := hB3.size
        obtain ⟨_, _, g0, g1⟩ := box2 hx3
        clear hB3 hbe3 hn3 hr3 ht3 hq u0 u1 hx3
        go_upto_region 10 with (fail)
        generalize (w3.setCell ⟨w1.heap.size, 0, none⟩ (.string (str r2))).setCell ⟨w1.heap.size, 1, none⟩ (.int .i64 0) = W4 at *
        obtain ⟨u0, u1, _, _⟩ := box2 hx4
        by_cases h4 : mm % 4 = 0
        · have hRE := HRE1.out
          rw [if_neg (by omega)] at hRE
          rw [h4] at hw1
          have HRE0 := Lib.hid hRE
          have HX4 := Lib.hid hx4
          have HN4 := Lib.hid hn4
          have HR4 := Lib.hid hr4
          have HT4 := Lib.hid ht4
          have HZ4 := Lib.hid (show w.heap.size + 4 ≤ W4.heap.size by have := HZ2.out; have := HZ43.out; omega)
          clear hx4 hn4 hr4 ht4 hRE HRE1 g0 g1
          have hd0 : (mm : Int) / 64 = (md mm 0 : Int) := by show (mm : Int) / 64 = ((mm / 64 % 4 : Nat) : Int); omega
          have hd1 : (mm : Int) / 16 % 4 = (md mm 1 : Int) := by show (mm : Int) / 16 % 4 = ((mm / 16 % 4 : Nat) : Int); omega
          have hd2 : (mm : Int) / 4 % 4 = (md mm 2 : Int) := by show (mm : Int) / 4 % 4 = ((mm / 4 % 4 : Nat) : Int); omega
          have hm0 := md_lt mm 0
          have hm1 := md_lt mm 1
          have hm2 := md_lt mm 2
          obtain ⟨Wm, hWm⟩ : ∃ Wm, Wm = W4.alloc (.cells (mdc mm) 3) := ⟨_, rfl⟩
          have hbm5 : Below W4.heap.size W4 Wm := by rw [hWm]; exact (Below.refl _ _).alloc (Nat.le_refl _) _
          have hsm : Wm.heap.size = W4.heap.size + 1 := by rw [hWm]; simp
          have HSm := Lib.hid hsm
          have hmm5 : Box Wm W4.heap.size 3 (mdc mm) := by rw [hWm]; exact Box.new W4 _ _
          have hz4 := HZ4.out
          have htm := HT4.out.below hbm5 (by omega)
          obtain ⟨⟨t0, t1, t2, t3, t4, t5⟩, _⟩ := box6 htm
          obtain ⟨W5, hW5⟩ : ∃ W5, W5 = Wm.alloc (.cells x0.cells 36) := ⟨_, rfl⟩
          have hb5 : Below W4.heap.size W4 W5 := by rw [hW5]; exact hbm5.alloc hbm5.size _
          have hx5 : Box W5 (W4.heap.size + 1) 36 x0.cells := by
            rw [hW5, ← hsm]
            exact Box.new Wm _ _
          have hm5 : Box W5 W4.heap.size 3 (mdc mm) := by rw [hW5]; exact hmm5.alloc _
          have hs5 : W5.heap.size = W4.heap.size + 2 := by rw [hW5, World.size_alloc, hsm]
          have HI0 : Hid (RtI w W5 x0 W4.heap.size mm r2 0 r2) :=
            ⟨HT4.out.below hb5 (by omega), HR4.out.below hb5 (by omega), HN4.out.below hb5 (by omega), hm5, HBE.out.trans (hb5.mono HBE.out.size), by omega, x0, [], rfl, hx5, fun j hj => by simp at hj⟩
          have hx4' := HX4.out.below hb5 (by have := HX4.out.lt; omega)
          obtain ⟨p0, p1, _, _⟩ := box2 hx4'
          clear hb5 hx5 hm5 hx4' hbm5 hmm5 htm HX4 HN4 HR4 HT4 HZ4 HBE HX2 HT2 HR2 HN2 HB2
          clear hsm hs5
          go_upto_region 15 with (fail)
          change Code.wp _ _ _ _ (W4.alloc (.cells (mdc mm) 3))
          rw [← hWm]
          clear hWm
          go_upto_region 16 with (fail)
          change Code.wp _ _ _ _ (Wm.alloc (.cells x0.cells 36))
          rw [← hW5, HSm.out]
          clear hW5 t0 t1 t2 t3 t4 t5 u0 u1 hd0 hd1 hd2 HSm
          obtain ⟨bm, hbm⟩ : ∃ bm, bm = W4.heap.size := ⟨_, rfl⟩
          rw [← hbm] at HI0 hz4 ⊢
          clear hbm
          go_wp2_with fail
          clear p0 p1 hw1 h4
          go_loopg [13, 14, 15, 16, 17] 3 (fun gh i13 i i15 i16 i17 wx => ∃ (k : Nat) (xs' : List UInt8), k + gh = 3 ∧ i = .int .i64 (k : Int) ∧ i13 = .string (str xs') ∧ Hid (RtI w wx x0 bm mm r2 k xs'))
          case atStart => exact ⟨0, r2, rfl, rfl, rfl, HI0⟩
          case round =>
            obtain ⟨k, xs', hk, rfl, rfl, HI⟩ := hrel
            have HK := Lib.hid hk
            have hk3 : k ≤ 3 := by omega
            clear hk HI0
            by_cases hlt : k < 3
            · obtain ⟨g', rfl⟩ : ∃ g', gk = g' + 1 := ⟨gk - 1, by have := HK.out; omega⟩
              have hki : (k : Int) < 3 := by omega
              have hsz := HI.out.sz
              obtain ⟨y, ts, hrt, hby, hpy⟩ := HI.out.ex
              have hxl : xs'.length ≤ r2.length := rts_le hrt
              have t0 := (HI.out.bt.cell (k * 2)).trans (x0.at hlt).1
              have t1 := (HI.out.bt.cell (k * 2 + 1)).trans (x0.at hlt).2
              have t2 := (HI.out.mo.cell k).trans (mdc_at mm hlt)
              obtain ⟨Wa, hWa⟩ : ∃ Wa, Wa = wr.alloc (.cells #[.int .i64 0, .slice none 0 0] 35) := ⟨_, rfl⟩
              have hba : Below wr.heap.size wr Wa := by rw [hWa]; exact (Below.refl _ _).alloc (Nat.le_refl _) _
              have hsa : wr.heap.size < Wa.heap.size := by rw [hWa, World.size_alloc]; omega
              have HBx : Hid (Box Wa wr.heap.size 35 #[.int .i64 0, .slice none 0 0]) := by rw [hWa]; exact Box.new wr _ _
              have a0 := (hba.cell (p := ⟨w.heap.size, k * 2, none⟩) (show w.heap.size < wr.heap.size by omega)).trans t0
              have a1 := (hba.cell (p := ⟨w.heap.size, k * 2 + 1, none⟩) (show w.heap.size < wr.heap.size by omega)).trans t1
              have a2 := (hba.cell (p := ⟨bm, k, none⟩) (show bm < wr.heap.size by omega)).trans t2
              have HBa := Lib.hid hba
              have HQ := fun W => Lib.hid (q12_any (w := W) (L := (x0.l k : Int)) (E := x0.A k) (ne := x0.n k) (ce := x0.c k) (S := str xs') (xs := xs') (md mm k) hlt rfl (by have := HL.out; simp only [List.length_cons] at hrl; omega) (md_lt mm k) (HMk.out k hlt))
              have hnw : w.heap.size ≠ wr.heap.size := by omega
              have hnb : bm ≠ wr.heap.size := by omega
              clear hba
              cases hq : readT k (md mm k) xs' with
              | error er =>
                rw [hq] at HQ
                have HQb : Hid (Calls Tryz.prog 24 #[.int .i64 (k : Int), .int .i64 (md mm k : Int), .string (str xs'), .agg #[.int .i64 (x0.l k : Int), .slice (x0.A k) (x0.n k) (x0.c k)]] wr.drew fun e w' => Below wr.heap.size wr w' ∧ e = .returned (.tuple #[.agg #[.int .i64 0, .slice none 0 0], .int .i64 0, .int .i64 er])) :=
                  (HQ wr.drew).out.mono fun e w' ⟨h1, h2⟩ => ⟨⟨h1.os, h1.tape, h1.output, h1.size, h1.block⟩, h2⟩
                have HQa : Hid (Calls Tryz.prog 24 #[.int .i64 (k : Int), .int .i64 (md mm k : Int), .string (str xs'), .agg #[.int .i64 (x0.l k : Int), .slice (x0.A k) (x0.n k) (x0.c k)]] Wa.drew fun e w' => Below Wa.heap.size Wa w' ∧ e = .returned (.tuple #[.agg #[.int .i64 0, .slice none 0 0], .int .i64 0, .int .i64 er])) :=
                  (HQ Wa.drew).out.mono fun e w' ⟨h1, h2⟩ => ⟨⟨h1.os, h1.tape, h1.output, h1.size, h1.block⟩, h2⟩
                have her := readT_err hq
                have hne : ((er : Int) != 0) = true := by simpa using her
                rw [hWa] at HQa
                have HWa := Lib.hid hWa
                clear HQ hby hpy hWa
                go_wp2_with fail
                go_region_held3 (fun w' => w'.cell? ⟨w.heap.size, k * 2, none⟩ = some (.int .i64 (x0.l k : Int)) ∧ w'.cell? ⟨w.heap.size, k * 2 + 1, none⟩ = some (.slice (x0.A k) (x0.n k) (x0.c k)) ∧ w'.cell? ⟨bm, k, none⟩ = some (.int .i64 (md mm k : Int)))
                  (first | exact ⟨t0, t1, t2⟩ | exact ⟨a0, a1, a2⟩ | exact ⟨m0, m1, m2⟩ | (rw [cell?_far _ _ hnw, cell?_far _ _ hnw, cell?_far _ _ hnw, cell?_far _ _ hnw, cell?_far _ _ hnb, cell?_far _ _ hnb]; exact ⟨m0, m1, m2⟩) | go_keep)
                  (first
                  | (go_at_call 24; refine HQb.out.mono ?_; rintro e' w1' ⟨hB1, rfl⟩; have HB1 := Lib.hid hB1; have m0 := (hB1.cell (p := ⟨w.heap.size, k * 2, none⟩) (show w.heap.size < wr.heap.size by omega)).trans t0; have m1 := (hB1.cell (p := ⟨w.heap.size, k * 2 + 1, none⟩) (show w.heap.size < wr.heap.size by omega)).trans t1; have m2 := (hB1.cell (p := ⟨bm, k, none⟩) (show bm < wr.heap.size by omega)).trans t2; clear hB1)
                  | (go_at_call 24; refine HQa.out.mono ?_; rintro e' w1' ⟨hB1, rfl⟩; rw [← HWa.out] at hB1; have HB1 := Lib.hid hB1; have m0 := (hB1.cell (p := ⟨w.heap.size, k * 2, none⟩) (show w.heap.size < Wa.heap.size by omega)).trans a0; have m1 := (hB1.cell (p := ⟨w.heap.size, k * 2 + 1, none⟩) (show w.heap.size < Wa.heap.size by omega)).trans a1; have m2 := (hB1.cell (p := ⟨bm, k, none⟩) (show bm < Wa.heap.size by omega)).trans a2; have hbxa := HBx.out.below hB1 HBx.out.lt; obtain ⟨g0, g1, f0, f1⟩ := box2 hbxa; have HBxa := Lib.hid hbxa; clear hB1 hbxa))
                all_goals first
                  | (obtain ⟨Wz, hWz⟩ : ∃ Wz, Wz = (w1'.setCell ⟨wr.heap.size, 0, none⟩ (.int .i64 0)).setCell ⟨wr.heap.size, 1, none⟩ (.slice none 0 0) := ⟨_, rfl⟩
                     rw [← hWz]
                     have hz : Below wr.heap.size wr Wz := by rw [hWz]; exact ((HBa.out.trans (HB1.out.mono HBa.out.size)).setCell (Nat.le_refl _) _).setCell (Nat.le_refl _) _
                     have hq15 : Box Wz wr.heap.size 35 #[.int .i64 0, .slice none 0 0] := by rw [hWz]; exact (HBxa.out.put 0 _).put 1 _
                     have hk15 : ∀ j, Wa.heap.size ≤ j → Wz.heap[j]? = w1'.heap[j]? := fun j hj => by rw [hWz, Below.heap_setCell _ _ _ j (by show j ≠ wr.heap.size; omega), Below.heap_setCell _ _ _ j (by show j ≠ wr.heap.size; omega)]
                     have hs15 : w1'.heap.size ≤ Wz.heap.size := by rw [hWz]; simp [World.setCell]
                     clear hWz g0 g1 f0 f1 HBxa)
                  | (obtain ⟨Wz, hWz⟩ : ∃ Wz, Wz = w1'.alloc (.cells #[.int .i64 0, .slice none 0 0] 35) := ⟨_, rfl⟩
                     rw [← hWz]
                     have hz : Below wr.heap.size wr Wz := by rw [hWz]; exact HB1.out.alloc HB1.out.size _
                     have hq15 : Box Wz w1'.heap.size 35 #[.int .i64 0, .slice none 0 0] := by rw [hWz]; exact Box.new w1' _ _
                     have hk15 : ∀ j, wr.heap.size ≤ j → j < w1'.heap.size → Wz.heap[j]? = w1'.heap[j]? := fun j _ hj => by rw [hWz]; exact Below.heap_alloc _ _ j hj
                     have hs15 : w1'.heap.size ≤ Wz.heap.size := by rw [hWz]; simp
                     clear hWz)
                all_goals
                  have HBE := Lib.hid (HI.out.be.trans (hz.mono HI.out.be.size))
                  obtain ⟨⟨n0, n1, n2, n3, n4, n5⟩, _⟩ := box6 (HI.out.bn.below hz (by omega))
                  obtain ⟨⟨c0, c1, c2, c3, c4, c5⟩, f0, f1, f2, f3, f4, f5⟩ := box6 (HI.out.br.below hz (by omega))
                  have HRE := Lib.hid (err_of (show mm < 256 by omega) hrt hq HRE0.out)
                  clear hz hq15 hk15 hs15 HI hrt hq HQa HQb m0 m1 m2 a0 a1 a2 t0 t1 t2 HBx
                  go_wp2_with fail
                  go_region
                  go_wp2_with fail
                  refine bodyPost_ret (v := .tuple #[.slice none 0 0, zeroTs, .int .i64 er]) (by simp [results, Tryz.results9, go_sem, zeroTs, c0, c1, c2, c3, c4, c5]) rfl ⟨below_set6 HBE.out (by omega), by rw [HRE.out]⟩
              | ok p =>
                obtain ⟨t, u⟩ := p
                rw [hq] at HQ
                have HQb : Hid (Calls Tryz.prog 24 #[.int .i64 (k : Int), .int .i64 (md mm k : Int), .string (str xs'), .agg #[.int .i64 (x0.l k : Int), .slice (x0.A k) (x0.n k) (x0.c k)]] wr.drew fun e w' => Below wr.heap.size wr w' ∧ ∃ A1 c1, e = .returned (.tuple #[.agg #[.int .i64 (t.lg : Int), .slice A1 t.es.length c1], .int .i64 (u : Int), .int .i64 0]) ∧ DatR 3 rcell w' wr.heap.size w'.heap.size A1 t.es) :=
                  (HQ wr.drew).out.mono fun e w' ⟨h1, v, h2, h3⟩ => by
                    obtain ⟨A1, c1, rfl, _, hd1⟩ := h3.form rcell_len
                    exact ⟨⟨h1.os, h1.tape, h1.output, h1.size, h1.block⟩, A1, c1, h2, hd1⟩
                have HQa : Hid (Calls Tryz.prog 24 #[.int .i64 (k : Int), .int .i64 (md mm k : Int), .string (str xs'), .agg #[.int .i64 (x0.l k : Int), .slice (x0.A k) (x0.n k) (x0.c k)]] Wa.drew fun e w' => Below Wa.heap.size Wa w' ∧ ∃ A1 c1, e = .returned (.tuple #[.agg #[.int .i64 (t.lg : Int), .slice A1 t.es.length c1], .int .i64 (u : Int), .int .i64 0]) ∧ DatR 3 rcell w' Wa.heap.size w'.heap.size A1 t.es) :=
                  (HQ Wa.drew).out.mono fun e w' ⟨h1, v, h2, h3⟩ => by
                    obtain ⟨A1, c1, rfl, _, hd1⟩ := h3.form rcell_len
                    exact ⟨⟨h1.os, h1.tape, h1.output, h1.size, h1.block⟩, A1, c1, h2, hd1⟩
                obtain ⟨htok, hu⟩ := readT_ok hlt hq
                have hlts : ts.length = k := rts_len hrt
                have hrt2 : rts mm r2 (k + 1) = .ok (ts ++ [t], xs'.drop u) := by rw [rts, hrt]; dsimp only; rw [hq]
                have HRt2 := Lib.hid hrt2
                have HBy := Lib.hid hby
                have HPy := Lib.hid hpy
                have hssz : (str xs').size = xs'.length := cu.str_size xs'
                have hstr : (str xs').extract u xs'.length = str (xs'.drop u) := cu.str_from xs' u _ rfl
                rw [hWa] at HQa
                have HWa := Lib.hid hWa
                clear HQ hby hpy hWa hrt2 hq hrt
                go_wp2_with fail
                go_region_held3 (fun w' => w'.cell? ⟨w.heap.size, k * 2, none⟩ = some (.int .i64 (x0.l k : Int)) ∧ w'.cell? ⟨w.heap.size, k * 2 + 1, none⟩ = some (.slice (x0.A k) (x0.n k) (x0.c k)) ∧ w'.cell? ⟨bm, k, none⟩ = some (.int .i64 (md mm k : Int)))
                  (first | exact ⟨t0, t1, t2⟩ | exact ⟨a0, a1, a2⟩ | exact ⟨m0, m1, m2⟩ | (rw [cell?_far _ _ hnw, cell?_far _ _ hnw, cell?_far _ _ hnw, cell?_far _ _ hnw, cell?_far _ _ hnb, cell?_far _ _ hnb]; exact ⟨m0, m1, m2⟩) | go_keep)
                  (first
                  | (go_at_call 24; refine HQb.out.mono ?_; rintro e' w1' ⟨hB1, A1, c1, rfl, hd1⟩; have HD1 := Lib.hid hd1; have HB1 := Lib.hid hB1; have m0 := (hB1.cell (p := ⟨w.heap.size, k * 2, none⟩) (show w.heap.size < wr.heap.size by omega)).trans t0; have m1 := (hB1.cell (p := ⟨w.heap.size, k * 2 + 1, none⟩) (show w.heap.size < wr.heap.size by omega)).trans t1; have m2 := (hB1.cell (p := ⟨bm, k, none⟩) (show bm < wr.heap.size by omega)).trans t2; clear hB1 hd1)
                  | (go_at_call 24; refine HQa.out.mono ?_; rintro e' w1' ⟨hB1, A1, c1, rfl, hd1⟩; rw [← HWa.out] at hB1 hd1; have HD1 := Lib.hid hd1; have HB1 := Lib.hid hB1; have m0 := (hB1.cell (p := ⟨w.heap.size, k * 2, none⟩) (show w.heap.size < Wa.heap.size by omega)).trans a0; have m1 := (hB1.cell (p := ⟨w.heap.size, k * 2 + 1, none⟩) (show w.heap.size < Wa.heap.size by omega)).trans a1; have m2 := (hB1.cell (p := ⟨bm, k, none⟩) (show bm < Wa.heap.size by omega)).trans a2; have hbxa := HBx.out.below hB1 HBx.out.lt; obtain ⟨g0, g1, f0, f1⟩ := box2 hbxa; have HBxa := Lib.hid hbxa; clear hB1 hbxa hd1))
                all_goals first
                  | (obtain ⟨Wz, hWz⟩ : ∃ Wz, Wz = (w1'.setCell ⟨wr.heap.size, 0, none⟩ (.int .i64 (t.lg : Int))).setCell ⟨wr.heap.size, 1, none⟩ (.slice A1 t.es.length c1) := ⟨_, rfl⟩
                     rw [← hWz]
                     obtain ⟨bp, hbp⟩ : ∃ bp, bp = wr.heap.size := ⟨_, rfl⟩
                     have hz : Below wr.heap.size wr Wz := by rw [hWz]; exact ((HBa.out.trans (HB1.out.mono HBa.out.size)).setCell (Nat.le_refl _) _).setCell (Nat.le_refl _) _
                     have hq15 : Box Wz bp 35 #[.int .i64 (t.lg : Int), .slice A1 t.es.length c1] := by rw [hWz, hbp]; exact (HBxa.out.put 0 _).put 1 _
                     have hs15 : w1'.heap.size ≤ Wz.heap.size := by rw [hWz]; simp [World.setCell]
                     have hdz : DatR 3 rcell Wz wr.heap.size Wz.heap.size A1 t.es := (HD1.out.keep fun j hj _ => by rw [hWz, Below.heap_setCell _ _ _ j (by show j ≠ wr.heap.size; omega), Below.heap_setCell _ _ _ j (by show j ≠ wr.heap.size; omega)]).mono (by omega) hs15
                     have hbpl : wr.heap.size ≤ bp := by omega
                     rw [← hbp]
                     clear hWz hbp hs15 g0 g1 f0 f1 HBxa)
                  | (obtain ⟨Wz, hWz⟩ : ∃ Wz, Wz = w1'.alloc (.cells #[.int .i64 (t.lg : Int), .slice A1 t.es.length c1] 35) := ⟨_, rfl⟩
                     rw [← hWz]
                     obtain ⟨bp, hbp⟩ : ∃ bp, bp = w1'.heap.size := ⟨_, rfl⟩
                     have hz : Below wr.heap.size wr Wz := by rw [hWz]; exact HB1.out.alloc HB1.out.size _
                     have hq15 : Box Wz bp 35 #[.int .i64 (t.lg : Int), .slice A1 t.es.length c1] := by rw [hWz, hbp]; exact Box.new w1' _ _
                     have hs15 : w1'.heap.size ≤ Wz.heap.size := by rw [hWz]; simp
                     have hdz : DatR 3 rcell Wz wr.heap.size Wz.heap.size A1 t.es := (HD1.out.keep fun j _ hj => by rw [hWz]; exact Below.heap_alloc _ _ j hj).mono (Nat.le_refl _) hs15
                     have hbpl : wr.heap.size ≤ bp := by have := HB1.out.size; omega
                     rw [← hbp]
                     clear hWz hbp hs15)
                all_goals
                  have hby := HBy.out.below hz (by omega)
                  have s0 := (hby.cell (k * 2)).trans (y.at hlt).1
                  have s1 := (hby.cell (k * 2 + 1)).trans (y.at hlt).2
                  have s2 := hby.free (k * 2)
                  have s3 := hby.free (k * 2 + 1)
                  obtain ⟨q0, q1, _, _⟩ := box2 hq15
                  have HF : Hid (RtI w ((Wz.setCell ⟨bm + 1, k * 2, none⟩ (.int .i64 (t.lg : Int))).setCell ⟨bm + 1, k * 2 + 1, none⟩ (.slice A1 t.es.length c1)) x0 bm mm r2 (k + 1) (xs'.drop u)) := by
                    have hn : ∀ j, j ≠ bm + 1 → ((Wz.setCell ⟨bm + 1, k * 2, none⟩ (.int .i64 (t.lg : Int))).setCell ⟨bm + 1, k * 2 + 1, none⟩ (.slice A1 t.es.length c1)).heap[j]? = Wz.heap[j]? := fun j hj => by
                      rw [Below.heap_setCell _ _ _ j hj, Below.heap_setCell _ _ _ j hj]
                    have hsz' : ((Wz.setCell ⟨bm + 1, k * 2, none⟩ (.int .i64 (t.lg : Int))).setCell ⟨bm + 1, k * 2 + 1, none⟩ (.slice A1 t.es.length c1)).heap.size = Wz.heap.size := by simp [World.setCell]
                    have hzs := hz.size
                    refine ⟨(HI.out.bt.below hz (by omega)).keep (hn _ (by omega)), (HI.out.br.below hz (by omega)).keep (hn _ (by omega)), (HI.out.bn.below hz (by omega)).keep (hn _ (by omega)), (HI.out.mo.below hz (by omega)).keep (hn _ (by omega)), ((HI.out.be.trans (hz.mono HI.out.be.size)).setCell (by show w.heap.size ≤ bm + 1; omega) _).setCell (by show w.heap.size ≤ bm + 1; omega) _, by omega, y.with k t.lg A1 t.es.length c1, ts ++ [t], HRt2.out, ?_, ?_⟩
                    · have := (hby.put (k * 2) (.int .i64 (t.lg : Int))).put (k * 2 + 1) (.slice A1 t.es.length c1)
                      rw [y.cells_with2 hlt] at this
                      exact this
                    · have hp9 : RPart Wz (bm + 2) y ts := HPy.out.grow (fun j _ hj => hz.block j hj) hzs
                      have hsn := hp9.snoc (c := c1) (hdz.mono (by omega) (Nat.le_refl _))
                      rw [hlts] at hsn
                      exact hsn.grow (fun j hj _ => hn j (by omega)) (by rw [hsz']; exact Nat.le_refl _)
                  have hbpn : bp ≠ bm + 1 := by omega
                  have hui : (u : Int) ≤ (xs'.length : Int) := by omega
                  clear hz hby hq15 hdz HI HQa HQb m0 m1 m2 a0 a1 a2 t0 t1 t2 HBx HBa HD1 HB1 HBy HPy HRt2
                  go_wp2_with fail
                  go_roundg g'
                  case rel => exact ⟨k + 1, xs'.drop u, by have := HK.out; omega, by go_num, rfl, HF⟩
                  case measure => omega
            · obtain rfl : k = 3 := by omega
              have hki : ¬ (3 : Int) < 3 := by omega
              obtain ⟨y, ts, hrt, hby, hpy⟩ := HI.out.ex
              have hxl : xs'.length ≤ r2.length := rts_le hrt
              obtain ⟨T, hT, hp0⟩ : ∃ T, readTs mm r2 = .ok (T, xs') ∧ RPart wr (bm + 2) y [T.t0, T.t1, T.t2] := by
                rcases rts_all (show mm < 256 by omega) r2 with ⟨e2, h4', h5⟩ | ⟨t0', t1', t2', r', h4', h5⟩
                · rw [hrt] at h4'
                  cases h4'
                · rw [hrt] at h4'
                  injection h4' with h4'
                  injection h4' with h6 h7
                  subst h6 h7
                  exact ⟨_, h5, hpy⟩
              have hTok := (readTs_ok hT).1
              have hRE := HRE0.out
              rw [hT] at hRE
              dsimp only at hRE
              have HRE1 := Lib.hid hRE
              clear hRE HRE0 hrt hpy hT
              have hxb : xs'.length ≤ 100000000 := by have := HL.out; simp only [List.length_cons] at hrl; omega
              have hszx : (str xs').size ≤ 100000000 := by rw [cu.str_size]; exact hxb
              have hsx : (str xs').data.toList = xs' := rfl
              have HY := Lib.hid hby
              have HPy := Lib.hid hp0
              have HTok := Lib.hid hTok
              have hwb := HI.out.sz
              clear hby hp0 hTok HMk HCn
              cases hno : noBack xs' with
              | true =>
                have HNw := Lib.hid (refNew_no (str xs') wr hszx (by rw [hsx]; exact hno))
                have hRE := HRE1.out
                rw [body_nob hno] at hRE
                have HRE := Lib.hid hRE
                clear hRE HRE1 hno
                go_wp2_with fail
                refine HNw.out.mono ?_
                rintro e w5 ⟨rfl, hB5⟩
                have hb5 := HI.out.be.trans (hB5.mono HI.out.be.size)
                have HBE := Lib.hid (hb5.alloc hb5.size (.cells #[.slice none 0 0, .int .i64 0] 77))
                obtain ⟨⟨n0, n1, n2, n3, n4, n5⟩, _⟩ := box6 ((HI.out.bn.below hB5 (by omega)).alloc (.cells #[.slice none 0 0, .int .i64 0] 77))
                obtain ⟨⟨c0, c1, c2, c3, c4, c5⟩, f0, f1, f2, f3, f4, f5⟩ := box6 ((HI.out.br.below hB5 (by omega)).alloc (.cells #[.slice none 0 0, .int .i64 0] 77))
                clear hB5 hb5 HI HY HPy HNw
                go_upto_region 26 with (fail)
                generalize w5.alloc (.cells #[.slice none 0 0, .int .i64 0] 77) = W6 at *
                go_wp2_with fail
                go_region
                go_wp2_with fail
                refine bodyPost_ret (v := .tuple #[.slice none 0 0, zeroTs, .int .i64 11]) (by simp [results, Tryz.results9, go_sem, zeroTs, c0, c1, c2, c3, c4, c5]) rfl ⟨below_set6 HBE.out (by omega), by rw [HRE.out]⟩
              | false =>
                have HNw := Lib.hid (refNew_yes (str xs') wr hszx (by rw [hsx]; exact hno))
                rw [hsx] at HNw
                have hbody : bodyS xs' T n = if (runS xs' T (startv xs' T (top xs' : Int)) n).left < 0 then .error 11 else if 0 < (runS xs' T (startv xs' T (top xs' : Int)) n).left then .error 15 else .ok (runS xs' T (startv xs' T (top xs' : Int)) n).q := by unfold bodyS; rw [if_neg (by rw [hno]; simp)]
                have hRE := HRE1.out
                rw [hbody] at hRE
                have htop : top xs' ≤ 8 * xs'.length := by
                  rcases Nat.eq_zero_or_pos xs'.length with e | e
                  · rw [show noBack xs' = true by simp [noBack, e]] at hno; cases hno
                  · exact Nat.le_of_lt (top_lt xs' e)
                have HRE2 := Lib.hid hRE
                clear hRE HRE1 hno hbody
                go_wp2_with fail
                refine HNw.out.mono ?_
                rintro e w5 ⟨Ab, cb, rfl, hdb, hcb, hB5⟩
                obtain ⟨W6, hW6⟩ : ∃ W6, W6 = w5.alloc (.cells #[.slice Ab (top xs') cb, .int .i64 0] 77) := ⟨_, rfl⟩
                have hb6 : Below w5.heap.size w5 W6 := by rw [hW6]; exact (Below.refl _ _).alloc (Nat.le_refl _) _
                have hbx6 : Box W6 w5.heap.size 77 #[.slice Ab (top xs') cb, .int .i64 0] := by rw [hW6]; exact Box.new w5 _ _
                have hb56 := hB5.trans (hb6.mono hB5.size)
                have hws := hB5.size
                have hL0 : RlI w W6 (bm + 1) w5.heap.size y T Ab cb xs' (top xs' : Int) (top xs') 0 := by
                  refine ⟨HI.out.br.below hb56 (by omega), HI.out.bn.below hb56 (by omega), HY.out.below hb56 (by omega), hbx6, ⟨?_, ?_, hxb, by omega, by omega⟩, ?_, HI.out.be.trans (hb56.mono HI.out.be.size), ?_, ?_⟩
                  · rw [show ((top xs' : Nat) : Int).toNat = top xs' by omega]
                    exact ((hdb.below hb6 (Nat.le_refl _)).mono (Nat.zero_le _) (Nat.le_refl _))
                  · rw [show ((top xs' : Nat) : Int).toNat = top xs' by omega]
                    exact hcb
                  · exact (HPy.out.all.keep (w' := W6) fun j hj => hb56.block j hj).mono (by omega)
                  · omega
                  · omega
                have HL0 := Lib.hid hL0
                obtain ⟨bb, hbb⟩ : ∃ bb, bb = w5.heap.size := ⟨_, rfl⟩
                rw [← hbb] at HL0
                have hbbz : bm + 2 ≤ bb := by omega
                clear hb6 hbx6 hb56 hdb hcb hB5 hL0 HI HY HPy HNw
                go_upto_region 26 with (fail)
                rw [← hW6, ← hbb]
                clear hW6 hbb
                obtain ⟨M0, hM0⟩ : ∃ M0, M0 = top xs' := ⟨_, rfl⟩
                obtain ⟨l0, hl0⟩ : ∃ l0, l0 = (top xs' : Int) := ⟨_, rfl⟩
                rw [← hl0, ← hM0] at HL0
                have HE := Lib.hid (And.intro hM0 hl0)
                rw [← hM0]
                have hl0b : 0 ≤ l0 ∧ l0 ≤ 800000000 := by omega
                clear hM0 hl0 htop
                have HSt := Lib.hid (rstart_any (A := y.A 0) (n := y.n 0) (c := y.c 0) HL0.out.rb (Nat.le_of_lt HL0.out.bx.lt) (t := T.t0) (by have := HTok.out.o0.lg; omega))
                have ey0 : y.l 0 = T.t0.lg := HL0.out.ti.l 0 (by decide)
                rw [HL0.out.val_eq, ← ey0] at HSt
                have hle0 := bread_le' xs' l0 (y.l 0 : Int)
                have hlt0 := bread_lt xs' l0 (y.l 0)
                obtain ⟨l1, hl1⟩ : ∃ l1, l1 = (bread xs' l0 (y.l 0 : Int)).2 := ⟨_, rfl⟩
                obtain ⟨X0, hX0⟩ : ∃ X0, X0 = (bread xs' l0 (y.l 0 : Int)).1 := ⟨_, rfl⟩
                rw [← hl1, ← hX0] at HSt
                rw [← hl1] at hle0
                obtain ⟨M1, hM1⟩ : ∃ M1, M1 = l1.toNat := ⟨_, rfl⟩
                obtain ⟨K1, hK1⟩ : ∃ K1, K1 = (l1.toNat : Int) - l1 := ⟨_, rfl⟩
                have eb0 : bval Ab cb l1 = .agg #[.slice Ab M1 cb, .int .i64 K1] := by unfold bval; rw [hM1, hK1]
                rw [eb0] at HSt
                have y0 := (HL0.out.by_.cell 0)
                have y1 := (HL0.out.by_.cell 1)
                simp [Ts.cells] at y0 y1
                obtain ⟨x0', x1', _, _⟩ := box2 HL0.out.bx
                have HE0 := Lib.hid (And.intro hl1 (And.intro hX0 (And.intro hM1 hK1)))
                clear hl1 hX0 hM1 hK1 eb0 ey0
                go_wp2_with fail
                refine HSt.out.mono ?_
                rintro e v0 ⟨rfl, hBv⟩
                have hp0 := HL0.out.below hBv
                obtain ⟨z0, z1, g0, g1⟩ := box2 hp0.bx
                have HL1 := Lib.hid (hp0.put (left' := l1) (by omega) (by omega) HE0.out.2.2.1 HE0.out.2.2.2 (by omega) (by omega))
                have hsz0 : bb < ((v0.setCell ⟨bb, 0, none⟩ (.slice Ab M1 cb)).setCell ⟨bb, 1, none⟩ (.int .i64 K1)).heap.size := HL1.out.bx.lt
                clear hBv hp0 y0 y1 x0' x1' HSt
                go_upto_region 29 with (fail)
                generalize (v0.setCell ⟨bb, 0, none⟩ (.slice Ab M1 cb)).setCell ⟨bb, 1, none⟩ (.int .i64 K1) = V0 at *
                clear z0 z1 g0 g1
                have HSt := Lib.hid (rstart_any (A := y.A 1) (n := y.n 1) (c := y.c 1) HL1.out.rb (Nat.le_of_lt HL1.out.bx.lt) (t := T.t1) (by have := HTok.out.o1.lg; omega))
                have ey1 : y.l 1 = T.t1.lg := HL1.out.ti.l 1 (by decide)
                rw [HL1.out.val_eq, ← ey1] at HSt
                have hle1 := bread_le' xs' l1 (y.l 1 : Int)
                have hlt1 := bread_lt xs' l1 (y.l 1)
                obtain ⟨l2, hl2⟩ : ∃ l2, l2 = (bread xs' l1 (y.l 1 : Int)).2 := ⟨_, rfl⟩
                obtain ⟨X1, hX1⟩ : ∃ X1, X1 = (bread xs' l1 (y.l 1 : Int)).1 := ⟨_, rfl⟩
                rw [← hl2, ← hX1] at HSt
                rw [← hl2] at hle1
                obtain ⟨M2, hM2⟩ : ∃ M2, M2 = l2.toNat := ⟨_, rfl⟩
                obtain ⟨K2, hK2⟩ : ∃ K2, K2 = (l2.toNat : Int) - l2 := ⟨_, rfl⟩
                have eb1 : bval Ab cb l2 = .agg #[.slice Ab M2 cb, .int .i64 K2] := by unfold bval; rw [hM2, hK2]
                rw [eb1] at HSt
                have y0 := (HL1.out.by_.cell 2)
                have y1 := (HL1.out.by_.cell 3)
                simp [Ts.cells] at y0 y1
                obtain ⟨x0', x1', _, _⟩ := box2 HL1.out.bx
                have HE1 := Lib.hid (And.intro hl2 (And.intro hX1 (And.intro hM2 hK2)))
                clear hl2 hX1 hM2 hK2 eb1 ey1
                go_wp2_with fail
                refine HSt.out.mono ?_
                rintro e v1 ⟨rfl, hBv⟩
                have hp1 := HL1.out.below hBv
                obtain ⟨z0, z1, g0, g1⟩ := box2 hp1.bx
                have HL2 := Lib.hid (hp1.put (left' := l2) (by omega) (by omega) HE1.out.2.2.1 HE1.out.2.2.2 (by omega) (by omega))
                have hsz1 : bb < ((v1.setCell ⟨bb, 0, none⟩ (.slice Ab M2 cb)).setCell ⟨bb, 1, none⟩ (.int .i64 K2)).heap.size := HL2.out.bx.lt
                clear hBv hp1 y0 y1 x0' x1' HSt
                go_upto_region 30 with (fail)
                generalize (v1.setCell ⟨bb, 0, none⟩ (.slice Ab M2 cb)).setCell ⟨bb, 1, none⟩ (.int .i64 K2) = V1 at *
                clear z0 z1 g0 g1
                have HSt := Lib.hid (rstart_any (A := y.A 2) (n := y.n 2) (c := y.c 2) HL2.out.rb (Nat.le_of_lt HL2.out.bx.lt) (t := T.t2) (by have := HTok.out.o2.lg; omega))
                have ey2 : y.l 2 = T.t2.lg := HL2.out.ti.l 2 (by decide)
                rw [HL2.out.val_eq, ← ey2] at HSt
                have hle2 := bread_le' xs' l2 (y.l 2 : Int)
                have hlt2 := bread_lt xs' l2 (y.l 2)
                obtain ⟨l3, hl3⟩ : ∃ l3, l3 = (bread xs' l2 (y.l 2 : Int)).2 := ⟨_, rfl⟩
                obtain ⟨X2, hX2⟩ : ∃ X2, X2 = (bread xs' l2 (y.l 2 : Int)).1 := ⟨_, rfl⟩
                rw [← hl3, ← hX2] at HSt
                rw [← hl3] at hle2
                obtain ⟨M3, hM3⟩ : ∃ M3, M3 = l3.toNat := ⟨_, rfl⟩
                obtain ⟨K3, hK3⟩ : ∃ K3, K3 = (l3.toNat : Int) - l3 := ⟨_, rfl⟩
                have eb2 : bval Ab cb l3 = .agg #[.slice Ab M3 cb, .int .i64 K3] := by unfold bval; rw [hM3, hK3]
                rw [eb2] at HSt
                have y0 := (HL2.out.by_.cell 4)
                have y1 := (HL2.out.by_.cell 5)
                simp [Ts.cells] at y0 y1
                obtain ⟨x0', x1', _, _⟩ := box2 HL2.out.bx
                have HE2 := Lib.hid (And.intro hl3 (And.intro hX2 (And.intro hM3 hK3)))
                clear hl3 hX2 hM3 hK3 eb2 ey2
                go_wp2_with fail
                refine HSt.out.mono ?_
                rintro e v2 ⟨rfl, hBv⟩
                have hp2 := HL2.out.below hBv
                obtain ⟨z0, z1, g0, g1⟩ := box2 hp2.bx
                have HL3 := Lib.hid (hp2.put (left' := l3) (by omega) (by omega) HE2.out.2.2.1 HE2.out.2.2.2 (by omega) (by omega))
                have hsz2 : bb < ((v2.setCell ⟨bb, 0, none⟩ (.slice Ab M3 cb)).setCell ⟨bb, 1, none⟩ (.int .i64 K3)).heap.size := HL3.out.bx.lt
                clear hBv hp2 y0 y1 x0' x1' HSt
                go_upto_region 31 with (fail)
                generalize (v2.setCell ⟨bb, 0, none⟩ (.slice Ab M3 cb)).setCell ⟨bb, 1, none⟩ (.int .i64 K3) = V2 at *
                clear z0 z1 g0 g1
                have hstv : startv xs' T l0 = (⟨X0, X1, X2⟩, l3) := by
                  have e0 : T.t0.lg = y.l 0 := (HL0.out.ti.l 0 (by decide)).symm
                  have e1 : T.t1.lg = y.l 1 := (HL0.out.ti.l 1 (by decide)).symm
                  have e2 : T.t2.lg = y.l 2 := (HL0.out.ti.l 2 (by decide)).symm
                  unfold startv
                  rw [e0, e1, e2, ← HE0.out.1, ← HE1.out.1, ← HE2.out.1, ← HE0.out.2.1, ← HE1.out.2.1, ← HE2.out.2.1]
                have hl3b : -1000000 ≤ l3 ∧ l3 ≤ 800000000 := by omega
                obtain ⟨p, hp⟩ : ∃ p, p = startv xs' T (top xs' : Int) := ⟨_, rfl⟩
                rw [← HE.out.2, hstv] at hp
                have hpo : StOk T p.1 := by
                  have := HTok.out.start xs' l0
                  rw [hstv] at this
                  rw [hp]
                  exact this
                have hRE := HRE2.out
                rw [← HE.out.2, hstv, ← hp] at hRE
                have HRE3 := Lib.hid hRE
                have HP := Lib.hid (And.intro hp hpo)
                obtain ⟨s0, hs0⟩ : ∃ s0 : St, s0 = ⟨X0, X1, X2⟩ := ⟨_, rfl⟩
                have e0 : X0 = s0.l := by rw [hs0]
                have e1 : X1 = s0.o := by rw [hs0]
                have e2 : X2 = s0.m := by rw [hs0]
                have HS0 := Lib.hid (show preS xs' T 0 (runS xs' T p 0) = (s0, l3) ∧ StOk T s0 by
                  rw [hp] at hpo
                  rw [hp, hs0]
                  exact ⟨rfl, hpo⟩)
                rw [e0, e1, e2]
                clear hRE HRE2 hp hpo hs0 e0 e1 e2 hstv HE HE0 HE1 HE2 hle0 hle1 hle2 hlt0 hlt1 hlt2 HL0 HL1 HL2
                go_upto_region 33 with (fail)
                have HR0s : Hid (RlI w V2 (bm + 1) bb y T Ab cb xs' l3 M3 K3) := HL3
                have HO0s : Hid (OwR 3 scell V2 47 (bb + 1) (.slice none 0 0) (runS xs' T p 0).q) := Lib.hid (OwR.nil _ _ _ _ _)
                have hbV : bb < V2.heap.size := HL3.out.bx.lt
                obtain ⟨i0, hi0, hi1⟩ := Option.map_eq_some_iff.1 seq_info
                simp only [Prod.mk.injEq] at hi1
                obtain ⟨hq0, hq1, hq2⟩ := hi1
                have HI := Lib.hid (And.intro hi0 (And.intro hq0 (And.intro hq1 hq2)))
                clear hi0 hq0 hq1 hq2 HL3 hsz0 hsz1 hsz2
                go_loopg [20, 21, 22, 23, 24, 25] n (fun gh i20 i21 i22 i23 i24 i25 wx => ∃ (k : Nat) (s : St) (l : Int) (M : Nat) (K : Int) (v : Value), k + gh = n ∧ i20 = .int .i64 (s.l : Int) ∧ i21 = .int .i64 (s.o : Int) ∧ i22 = .int .i64 (s.m : Int) ∧ i23 = v ∧ i24 = .int .u64 (k : Int) ∧ bb < wx.heap.size ∧ l ≤ l3 ∧ l3 - 336 * k ≤ l ∧ Hid (RlI w wx (bm + 1) bb y T Ab cb xs' l M K) ∧ Hid (OwR 3 scell wx 47 (bb + 1) v (runS xs' T p k).q) ∧ Hid ((k < n → preS xs' T k (runS xs' T p k) = (s, l) ∧ StOk T s) ∧ (k = n → l = (runS xs' T p n).left)))
                case atStart => exact ⟨0, s0, l3, M3, K3, .slice none 0 0, by omega, rfl, rfl, rfl, rfl, rfl, hbV, by omega, by omega, HR0s, HO0s, Lib.hid ⟨fun _ => HS0.out, fun h => absurd h.symm hn0⟩⟩
                case round =>
                  obtain ⟨k, s, l, M, K, v, hk, rfl, rfl, rfl, rfl, rfl, hbx, hlu, hll, HRw, HOw, HSt⟩ := hrel
                  have HK := Lib.hid hk
                  have hkn : k ≤ n := by omega
                  clear hk HR0s HO0s HS0 hbV
                  by_cases hlt : k < n
                  · obtain ⟨g', rfl⟩ : ∃ g', gk = g' + 1 := ⟨gk - 1, by have := HK.out; omega⟩
                    have hki : (k : Int) < (n : Int) := by omega
                    have hki1 : IntKind.u64.wrap ((k : Int) + 1) = (k : Int) + 1 := by rw [IntKind.wrap_u64]; omega
                    obtain ⟨hpre, hso⟩ := HSt.out.1 hlt
                    have HPre := Lib.hid hpre
                    have HSo := Lib.hid hso
                    have hrq := run_len xs' T p k
                    obtain ⟨qs, hqs⟩ : ∃ qs, qs = (runS xs' T p k).q := ⟨_, rfl⟩
                    rw [← hqs] at HOw hrq
                    have HQs := Lib.hid (And.intro hqs hrq)
                    obtain ⟨Av, nv, cv, rfl⟩ := HOw.out.slice
                    obtain ⟨qb, hqb⟩ : ∃ qb, qb = wr.heap.size := ⟨_, rfl⟩
                    obtain ⟨V0, hV0⟩ : ∃ V0, V0 = wr.alloc (.cells #[.int .u32 0, .int .u32 0, .int .u32 0] 47) := ⟨_, rfl⟩
                    have hbV0 : Below wr.heap.size wr V0 := by rw [hV0]; exact (Below.refl _ _).alloc (Nat.le_refl _) _
                    have HR0 := Lib.hid (HRw.out.below hbV0)
                    have HO0 := Lib.hid (HOw.out.below hbV0 (Nat.le_refl _))
                    have HOb : Hid (∀ j, (Value.slice Av nv cv).ownBlock = some j → j < qb) := fun j hj => by rw [hqb]; exact (HOw.out.block j hj).2
                    have HQ0 : Hid (Box V0 qb 47 #[.int .u32 0, .int .u32 0, .int .u32 0]) := by rw [hV0, hqb]; exact Box.new wr _ _
                    have hqbb : bb < qb := by omega
                    have hlb : -100000000 ≤ l := by omega
                    clear hpre hso hrq hqs hbV0 HRw HOw HSt
                    go_upto_region 36 with (fail)
                    rw [← hV0, ← hqb]
                    clear hV0 hqb
                    have HCc := Lib.hid (rvalue_any (k := 1) (by decide) HR0.out.rb (Nat.le_of_lt HR0.out.bx.lt) (HR0.out.ti.d 1 (by decide)) (Nat.le_of_lt HR0.out.bx.lt) (HTok.out.tb (k := 1) (by decide)) (HR0.out.ti.n 1 (by decide)).symm (by rw [HR0.out.ti.n 1 (by decide)]; exact HSo.out.o) (c := y.c 1) (s := s.o) (y.l 1 : Int))
                    have hle1 := cdv_le xs' 1 (T.tb 1).es s.o l
                    obtain ⟨p1, hp1⟩ : ∃ p1, p1 = (cdv xs' 1 (T.tb 1).es s.o l).2 := ⟨_, rfl⟩
                    obtain ⟨a1, ha1⟩ : ∃ a1, a1 = (cdv xs' 1 (T.tb 1).es s.o l).1 := ⟨_, rfl⟩
                    rw [← hp1, ← ha1, HR0.out.val_eq] at HCc
                    rw [← hp1] at hle1
                    obtain ⟨N1, hN1⟩ : ∃ N1, N1 = p1.toNat := ⟨_, rfl⟩
                    obtain ⟨J1, hJ1⟩ : ∃ J1, J1 = (p1.toNat : Int) - p1 := ⟨_, rfl⟩
                    have eb : bval Ab cb p1 = .agg #[.slice Ab N1 cb, .int .i64 J1] := by unfold bval; rw [hN1, hJ1]
                    rw [eb] at HCc
                    have y0 := HR0.out.by_.cell 2
                    have y1 := HR0.out.by_.cell 3
                    simp [Ts.cells] at y0 y1
                    obtain ⟨x0', x1', _, _⟩ := box2 HR0.out.bx
                    have HA1 := Lib.hid (And.intro hp1 (And.intro ha1 (And.intro hN1 hJ1)))
                    clear hp1 ha1 hN1 hJ1 eb
                    go_wp2_with fail
                    refine HCc.out.mono ?_
                    rintro e v1 ⟨rfl, hBv⟩
                    have hq1 := HR0.out.below hBv
                    obtain ⟨z0, z1, g0, g1⟩ := box2 hq1.bx
                    have hr1 := hq1.put (left' := p1) (by omega) (by omega) HA1.out.2.2.1 HA1.out.2.2.2 (by omega) (by omega)
                    have hn1 : ∀ j, j ≠ bb → ((v1.setCell ⟨bb, 0, none⟩ (.slice Ab N1 cb)).setCell ⟨bb, 1, none⟩ (.int .i64 J1)).heap[j]? = v1.heap[j]? := fun j hj => by rw [Below.heap_setCell _ _ _ j hj, Below.heap_setCell _ _ _ j hj]
                    have ho1 := (HO0.out.below hBv (Nat.le_refl _)).keep (w' := (v1.setCell ⟨bb, 0, none⟩ (.slice Ab N1 cb)).setCell ⟨bb, 1, none⟩ (.int .i64 J1)) fun j hj => hn1 j (by have := (HO0.out.block j hj).1; omega)
                    have hx1 := (HQ0.out.below hBv HQ0.out.lt).keep (hn1 _ (by omega))
                    have hst1 : ∀ j, j ≠ qb → (((v1.setCell ⟨bb, 0, none⟩ (.slice Ab N1 cb)).setCell ⟨bb, 1, none⟩ (.int .i64 J1)).setCell ⟨qb, 2, none⟩ (.int .u32 (a1 : Int))).heap[j]? = ((v1.setCell ⟨bb, 0, none⟩ (.slice Ab N1 cb)).setCell ⟨bb, 1, none⟩ (.int .i64 J1)).heap[j]? := fun j hj => Below.heap_setCell _ _ _ j hj
                    have HO1 := Lib.hid (ho1.keep fun j hj => hst1 j (by have := HOb.out j hj; omega))
                    have HQ1 := Lib.hid (hx1.put 2 (.int .u32 (a1 : Int)))
                    have HR1 := Lib.hid (hr1.putQ (by omega) (by omega) (by omega) 2 (.int .u32 (a1 : Int)))
                    have w0 := hx1.cell 2
                    have w1' := hx1.free 2
                    have hbq : bb ≠ qb := by omega
                    clear hBv hq1 hr1 hn1 ho1 y0 y1 x0' x1' HCc hx1 hst1
                    go_upto_region 37 with (fail)
                    generalize ((v1.setCell ⟨bb, 0, none⟩ (.slice Ab N1 cb)).setCell ⟨bb, 1, none⟩ (.int .i64 J1)).setCell ⟨qb, 2, none⟩ (.int .u32 (a1 : Int)) = V1 at *
                    clear z0 z1 g0 g1 w0 w1' hbq
                    have HCc := Lib.hid (rvalue_any (k := 2) (by decide) HR1.out.rb (Nat.le_of_lt HR1.out.bx.lt) (HR1.out.ti.d 2 (by decide)) (Nat.le_of_lt HR1.out.bx.lt) (HTok.out.tb (k := 2) (by decide)) (HR1.out.ti.n 2 (by decide)).symm (by rw [HR1.out.ti.n 2 (by decide)]; exact HSo.out.m) (c := y.c 2) (s := s.m) (y.l 2 : Int))
                    have hle2 := cdv_le xs' 2 (T.tb 2).es s.m p1
                    obtain ⟨p2, hp2⟩ : ∃ p2, p2 = (cdv xs' 2 (T.tb 2).es s.m p1).2 := ⟨_, rfl⟩
                    obtain ⟨a2, ha2⟩ : ∃ a2, a2 = (cdv xs' 2 (T.tb 2).es s.m p1).1 := ⟨_, rfl⟩
                    rw [← hp2, ← ha2, HR1.out.val_eq] at HCc
                    rw [← hp2] at hle2
                    obtain ⟨N2, hN2⟩ : ∃ N2, N2 = p2.toNat := ⟨_, rfl⟩
                    obtain ⟨J2, hJ2⟩ : ∃ J2, J2 = (p2.toNat : Int) - p2 := ⟨_, rfl⟩
                    have eb : bval Ab cb p2 = .agg #[.slice Ab N2 cb, .int .i64 J2] := by unfold bval; rw [hN2, hJ2]
                    rw [eb] at HCc
                    have y0 := HR1.out.by_.cell 4
                    have y1 := HR1.out.by_.cell 5
                    simp [Ts.cells] at y0 y1
                    obtain ⟨x0', x1', _, _⟩ := box2 HR1.out.bx
                    have HA2 := Lib.hid (And.intro hp2 (And.intro ha2 (And.intro hN2 hJ2)))
                    clear hp2 ha2 hN2 hJ2 eb
                    go_wp2_with fail
                    refine HCc.out.mono ?_
                    rintro e v2 ⟨rfl, hBv⟩
                    have hq2 := HR1.out.below hBv
                    obtain ⟨z0, z1, g0, g1⟩ := box2 hq2.bx
                    have hr2 := hq2.put (left' := p2) (by omega) (by omega) HA2.out.2.2.1 HA2.out.2.2.2 (by omega) (by omega)
                    have hn2 : ∀ j, j ≠ bb → ((v2.setCell ⟨bb, 0, none⟩ (.slice Ab N2 cb)).setCell ⟨bb, 1, none⟩ (.int .i64 J2)).heap[j]? = v2.heap[j]? := fun j hj => by rw [Below.heap_setCell _ _ _ j hj, Below.heap_setCell _ _ _ j hj]
                    have ho2 := (HO1.out.below hBv (Nat.le_refl _)).keep (w' := (v2.setCell ⟨bb, 0, none⟩ (.slice Ab N2 cb)).setCell ⟨bb, 1, none⟩ (.int .i64 J2)) fun j hj => hn2 j (by have := (HO1.out.block j hj).1; omega)
                    have hx2 := (HQ1.out.below hBv HQ1.out.lt).keep (hn2 _ (by omega))
                    have hst2 : ∀ j, j ≠ qb → (((v2.setCell ⟨bb, 0, none⟩ (.slice Ab N2 cb)).setCell ⟨bb, 1, none⟩ (.int .i64 J2)).setCell ⟨qb, 1, none⟩ (.int .u32 (a2 : Int))).heap[j]? = ((v2.setCell ⟨bb, 0, none⟩ (.slice Ab N2 cb)).setCell ⟨bb, 1, none⟩ (.int .i64 J2)).heap[j]? := fun j hj => Below.heap_setCell _ _ _ j hj
                    have HO2 := Lib.hid (ho2.keep fun j hj => hst2 j (by have := HOb.out j hj; omega))
                    have HQ2 := Lib.hid (hx2.put 1 (.int .u32 (a2 : Int)))
                    have HR2 := Lib.hid (hr2.putQ (by omega) (by omega) (by omega) 1 (.int .u32 (a2 : Int)))
                    have w0 := hx2.cell 1
                    have w1' := hx2.free 1
                    have hbq : bb ≠ qb := by omega
                    clear hBv hq2 hr2 hn2 ho2 y0 y1 x0' x1' HCc hx2 hst2
                    go_upto_region 38 with (fail)
                    generalize ((v2.setCell ⟨bb, 0, none⟩ (.slice Ab N2 cb)).setCell ⟨bb, 1, none⟩ (.int .i64 J2)).setCell ⟨qb, 1, none⟩ (.int .u32 (a2 : Int)) = V2 at *
                    clear z0 z1 g0 g1 w0 w1' hbq
                    have HCc := Lib.hid (rvalue_any (k := 0) (by decide) HR2.out.rb (Nat.le_of_lt HR2.out.bx.lt) (HR2.out.ti.d 0 (by decide)) (Nat.le_of_lt HR2.out.bx.lt) (HTok.out.tb (k := 0) (by decide)) (HR2.out.ti.n 0 (by decide)).symm (by rw [HR2.out.ti.n 0 (by decide)]; exact HSo.out.l) (c := y.c 0) (s := s.l) (y.l 0 : Int))
                    have hle3 := cdv_le xs' 0 (T.tb 0).es s.l p2
                    obtain ⟨p3, hp3⟩ : ∃ p3, p3 = (cdv xs' 0 (T.tb 0).es s.l p2).2 := ⟨_, rfl⟩
                    obtain ⟨a3, ha3⟩ : ∃ a3, a3 = (cdv xs' 0 (T.tb 0).es s.l p2).1 := ⟨_, rfl⟩
                    rw [← hp3, ← ha3, HR2.out.val_eq] at HCc
                    rw [← hp3] at hle3
                    obtain ⟨N3, hN3⟩ : ∃ N3, N3 = p3.toNat := ⟨_, rfl⟩
                    obtain ⟨J3, hJ3⟩ : ∃ J3, J3 = (p3.toNat : Int) - p3 := ⟨_, rfl⟩
                    have eb : bval Ab cb p3 = .agg #[.slice Ab N3 cb, .int .i64 J3] := by unfold bval; rw [hN3, hJ3]
                    rw [eb] at HCc
                    have y0 := HR2.out.by_.cell 0
                    have y1 := HR2.out.by_.cell 1
                    simp [Ts.cells] at y0 y1
                    obtain ⟨x0', x1', _, _⟩ := box2 HR2.out.bx
                    have HA3 := Lib.hid (And.intro hp3 (And.intro ha3 (And.intro hN3 hJ3)))
                    clear hp3 ha3 hN3 hJ3 eb
                    go_wp2_with fail
                    refine HCc.out.mono ?_
                    rintro e v3 ⟨rfl, hBv⟩
                    have hq3 := HR2.out.below hBv
                    obtain ⟨z0, z1, g0, g1⟩ := box2 hq3.bx
                    have hr3 := hq3.put (left' := p3) (by omega) (by omega) HA3.out.2.2.1 HA3.out.2.2.2 (by omega) (by omega)
                    have hn3 : ∀ j, j ≠ bb → ((v3.setCell ⟨bb, 0, none⟩ (.slice Ab N3 cb)).setCell ⟨bb, 1, none⟩ (.int .i64 J3)).heap[j]? = v3.heap[j]? := fun j hj => by rw [Below.heap_setCell _ _ _ j hj, Below.heap_setCell _ _ _ j hj]
                    have ho3 := (HO2.out.below hBv (Nat.le_refl _)).keep (w' := (v3.setCell ⟨bb, 0, none⟩ (.slice Ab N3 cb)).setCell ⟨bb, 1, none⟩ (.int .i64 J3)) fun j hj => hn3 j (by have := (HO2.out.block j hj).1; omega)
                    have hx3 := (HQ2.out.below hBv HQ2.out.lt).keep (hn3 _ (by omega))
                    have hst3 : ∀ j, j ≠ qb → (((v3.setCell ⟨bb, 0, none⟩ (.slice Ab N3 cb)).setCell ⟨bb, 1, none⟩ (.int .i64 J3)).setCell ⟨qb, 0, none⟩ (.int .u32 (a3 : Int))).heap[j]? = ((v3.setCell ⟨bb, 0, none⟩ (.slice Ab N3 cb)).setCell ⟨bb, 1, none⟩ (.int .i64 J3)).heap[j]? := fun j hj => Below.heap_setCell _ _ _ j hj
                    have HO3 := Lib.hid (ho3.keep fun j hj => hst3 j (by have := HOb.out j hj; omega))
                    have HQ3 := Lib.hid (hx3.put 0 (.int .u32 (a3 : Int)))
                    have HR3 := Lib.hid (hr3.putQ (by omega) (by omega) (by omega) 0 (.int .u32 (a3 : Int)))
                    have w0 := hx3.cell 0
                    have w1' := hx3.free 0
                    have hbq : bb ≠ qb := by omega
                    clear hBv hq3 hr3 hn3 ho3 y0 y1 x0' x1' HCc hx3 hst3
                    go_upto_region 39 with (fail)
                    generalize ((v3.setCell ⟨bb, 0, none⟩ (.slice Ab N3 cb)).setCell ⟨bb, 1, none⟩ (.int .i64 J3)).setCell ⟨qb, 0, none⟩ (.int .u32 (a3 : Int)) = V3 at *
                    clear z0 z1 g0 g1 w0 w1' hbq
                    have hcq := HQ3.out
                    have c0 := hcq.cell 0
                    have c1 := hcq.cell 1
                    have c2 := hcq.cell 2
                    simp at c0 c1 c2
                    have hsv : seqv xs' T s l = (⟨a3, a2, a1⟩, p3) := by
                      unfold seqv
                      have h1 := HA1.out
                      have h2 := HA2.out
                      have h3 := HA3.out
                      rw [show T.t1 = T.tb 1 from rfl, show T.t2 = T.tb 2 from rfl, show T.t0 = T.tb 0 from rfl, ← h1.1, ← h1.2.1, ← h2.1, ← h2.2.1, ← h3.1, ← h3.2.1]
                    have HSv := Lib.hid hsv
                    obtain ⟨qq, hqq⟩ : ∃ qq : Sq, qq = ⟨a3, a2, a1⟩ := ⟨_, rfl⟩
                    have HQq := Lib.hid hqq
                    have HD1 := Lib.hid (datR_one (f := scell) (z := 3) V3 qq 47 #[.int .u32 (a3 : Int), .int .u32 (a2 : Int), .int .u32 (a1 : Int)] (by rw [hqq]; rfl))
                    have HAl := Lib.hid (HO3.out.alloc (.cells #[.int .u32 (a3 : Int), .int .u32 (a2 : Int), .int .u32 (a1 : Int)] 47))
                    have hVz : bb < V3.heap.size := HR3.out.bx.lt
                    clear hcq hsv hqq
                    go_wp2_with (at_builtin; refine list_appR scell_len (by decide) scell_one _ rfl _ _ 24 rfl i0 (.agg #[.int .u32 0, .int .u32 0, .int .u32 0]) 12 Tryz.underlying24 HI.out.1 HI.out.2.1 HI.out.2.2.1 HI.out.2.2.2 rfl (by decide) rfl HAl.out rfl HD1.out rfl ?_ ?_ ?_)
                    · have := HQs.out.2; simp; omega
                    · simp; omega
                    intro v9 w9 ho9 hg9 _
                    have HO3' := HO3
                    have hown : ∀ j, (Value.slice Av nv cv).ownBlock = some j → bb < j := fun j hj => by have := (HO3'.out.block j hj).1; omega
                    have hb9 : Below V3.heap.size V3 (V3.alloc (.cells #[.int .u32 (a3 : Int), .int .u32 (a2 : Int), .int .u32 (a1 : Int)] 47)) := (Below.refl _ _).alloc (Nat.le_refl _) _
                    have HR9 := Lib.hid ((HR3.out.below hb9).grown hg9 hown (by omega) (by omega))
                    have HO9 := Lib.hid ho9
                    have hz9 : bb < w9.heap.size := HR9.out.bx.lt
                    obtain ⟨A9, n9, c9, rfl⟩ := ho9.slice
                    have hrun : runS xs' T p (k + 1) = ⟨qs ++ [qq], s, p3⟩ := by
                      rw [runS, HPre.out, ← HQs.out.1, HQq.out]
                      dsimp only
                      rw [HSv.out]
                    have HRun := Lib.hid hrun
                    have hp3b : l - 336 ≤ p3 ∧ p3 ≤ l := by omega
                    clear HO3 HO3' hown hb9 hg9 ho9 HAl HD1 c0 c1 c2 hrun HR3 HQ0 HQ1 HQ2 HQ3 HO0 HO1 HO2 HR0 HR1 HR2 HOb hVz
                    by_cases hl1 : k + 1 < n
                    · have hki2 : (k : Int) + 1 < (n : Int) := by omega
                      have HR3 := HR9
                      have HO3 := HO9
                      clear HR9 HO9
                      have HCc := Lib.hid (rnext_any (k := 0) HR3.out.rb (Nat.le_of_lt HR3.out.bx.lt) (HR3.out.ti.d 0 (by decide)) (Nat.le_of_lt HR3.out.bx.lt) (HTok.out.tb (k := 0) (by decide)) (HR3.out.ti.n 0 (by decide)).symm (by rw [HR3.out.ti.n 0 (by decide)]; exact HSo.out.l) (c := y.c 0) (s := s.l) (y.l 0 : Int))
                      have hle4 := nxv_le xs' (T.tb 0).es s.l p3
                      obtain ⟨p4, hp4⟩ : ∃ p4, p4 = (nxv xs' (T.tb 0).es s.l p3).2 := ⟨_, rfl⟩
                      obtain ⟨a4, ha4⟩ : ∃ a4, a4 = (nxv xs' (T.tb 0).es s.l p3).1 := ⟨_, rfl⟩
                      rw [← hp4, ← ha4, HR3.out.val_eq] at HCc
                      rw [← hp4] at hle4
                      obtain ⟨N4, hN4⟩ : ∃ N4, N4 = p4.toNat := ⟨_, rfl⟩
                      obtain ⟨J4, hJ4⟩ : ∃ J4, J4 = (p4.toNat : Int) - p4 := ⟨_, rfl⟩
                      have eb : bval Ab cb p4 = .agg #[.slice Ab N4 cb, .int .i64 J4] := by unfold bval; rw [hN4, hJ4]
                      rw [eb] at HCc
                      have y0 := HR3.out.by_.cell 0
                      have y1 := HR3.out.by_.cell 1
                      simp [Ts.cells] at y0 y1
                      obtain ⟨x0', x1', _, _⟩ := box2 HR3.out.bx
                      have HA4 := Lib.hid (And.intro hp4 (And.intro ha4 (And.intro hN4 hJ4)))
                      clear hp4 ha4 hN4 hJ4 eb
                      go_wp2_with fail
                      refine HCc.out.mono ?_
                      rintro e v4 ⟨rfl, hBv⟩
                      have hq4 := HR3.out.below hBv
                      obtain ⟨z0, z1, g0, g1⟩ := box2 hq4.bx
                      have hr4 := hq4.put (left' := p4) (by omega) (by omega) HA4.out.2.2.1 HA4.out.2.2.2 (by omega) (by omega)
                      have hn4 : ∀ j, j ≠ bb → ((v4.setCell ⟨bb, 0, none⟩ (.slice Ab N4 cb)).setCell ⟨bb, 1, none⟩ (.int .i64 J4)).heap[j]? = v4.heap[j]? := fun j hj => by rw [Below.heap_setCell _ _ _ j hj, Below.heap_setCell _ _ _ j hj]
                      have ho4 := (HO3.out.below hBv (Nat.le_refl _)).keep (w' := (v4.setCell ⟨bb, 0, none⟩ (.slice Ab N4 cb)).setCell ⟨bb, 1, none⟩ (.int .i64 J4)) fun j hj => hn4 j (by have := (HO3.out.block j hj).1; omega)
                      have HO4 := Lib.hid ho4
                      have HR4 := Lib.hid hr4
                      clear hBv hq4 hr4 hn4 ho4 y0 y1 x0' x1' HCc
                      go_upto_region 42 with (fail)
                      generalize (v4.setCell ⟨bb, 0, none⟩ (.slice Ab N4 cb)).setCell ⟨bb, 1, none⟩ (.int .i64 J4) = V4 at *
                      clear z0 z1 g0 g1
                      have HCc := Lib.hid (rnext_any (k := 2) HR4.out.rb (Nat.le_of_lt HR4.out.bx.lt) (HR4.out.ti.d 2 (by decide)) (Nat.le_of_lt HR4.out.bx.lt) (HTok.out.tb (k := 2) (by decide)) (HR4.out.ti.n 2 (by decide)).symm (by rw [HR4.out.ti.n 2 (by decide)]; exact HSo.out.m) (c := y.c 2) (s := s.m) (y.l 2 : Int))
                      have hle5 := nxv_le xs' (T.tb 2).es s.m p4
                      obtain ⟨p5, hp5⟩ : ∃ p5, p5 = (nxv xs' (T.tb 2).es s.m p4).2 := ⟨_, rfl⟩
                      obtain ⟨a5, ha5⟩ : ∃ a5, a5 = (nxv xs' (T.tb 2).es s.m p4).1 := ⟨_, rfl⟩
                      rw [← hp5, ← ha5, HR4.out.val_eq] at HCc
                      rw [← hp5] at hle5
                      obtain ⟨N5, hN5⟩ : ∃ N5, N5 = p5.toNat := ⟨_, rfl⟩
                      obtain ⟨J5, hJ5⟩ : ∃ J5, J5 = (p5.toNat : Int) - p5 := ⟨_, rfl⟩
                      have eb : bval Ab cb p5 = .agg #[.slice Ab N5 cb, .int .i64 J5] := by unfold bval; rw [hN5, hJ5]
                      rw [eb] at HCc
                      have y0 := HR4.out.by_.cell 4
                      have y1 := HR4.out.by_.cell 5
                      simp [Ts.cells] at y0 y1
                      obtain ⟨x0', x1', _, _⟩ := box2 HR4.out.bx
                      have HA5 := Lib.hid (And.intro hp5 (And.intro ha5 (And.intro hN5 hJ5)))
                      clear hp5 ha5 hN5 hJ5 eb
                      go_wp2_with fail
                      refine HCc.out.mono ?_
                      rintro e v5 ⟨rfl, hBv⟩
                      have hq5 := HR4.out.below hBv
                      obtain ⟨z0, z1, g0, g1⟩ := box2 hq5.bx
                      have hr5 := hq5.put (left' := p5) (by omega) (by omega) HA5.out.2.2.1 HA5.out.2.2.2 (by omega) (by omega)
                      have hn5 : ∀ j, j ≠ bb → ((v5.setCell ⟨bb, 0, none⟩ (.slice Ab N5 cb)).setCell ⟨bb, 1, none⟩ (.int .i64 J5)).heap[j]? = v5.heap[j]? := fun j hj => by rw [Below.heap_setCell _ _ _ j hj, Below.heap_setCell _ _ _ j hj]
                      have ho5 := (HO4.out.below hBv (Nat.le_refl _)).keep (w' := (v5.setCell ⟨bb, 0, none⟩ (.slice Ab N5 cb)).setCell ⟨bb, 1, none⟩ (.int .i64 J5)) fun j hj => hn5 j (by have := (HO4.out.block j hj).1; omega)
                      have HO5 := Lib.hid ho5
                      have HR5 := Lib.hid hr5
                      clear hBv hq5 hr5 hn5 ho5 y0 y1 x0' x1' HCc
                      go_upto_region 43 with (fail)
                      generalize (v5.setCell ⟨bb, 0, none⟩ (.slice Ab N5 cb)).setCell ⟨bb, 1, none⟩ (.int .i64 J5) = V5 at *
                      clear z0 z1 g0 g1
                      have HCc := Lib.hid (rnext_any (k := 1) HR5.out.rb (Nat.le_of_lt HR5.out.bx.lt) (HR5.out.ti.d 1 (by decide)) (Nat.le_of_lt HR5.out.bx.lt) (HTok.out.tb (k := 1) (by decide)) (HR5.out.ti.n 1 (by decide)).symm (by rw [HR5.out.ti.n 1 (by decide)]; exact HSo.out.o) (c := y.c 1) (s := s.o) (y.l 1 : Int))
                      have hle6 := nxv_le xs' (T.tb 1).es s.o p5
                      obtain ⟨p6, hp6⟩ : ∃ p6, p6 = (nxv xs' (T.tb 1).es s.o p5).2 := ⟨_, rfl⟩
                      obtain ⟨a6, ha6⟩ : ∃ a6, a6 = (nxv xs' (T.tb 1).es s.o p5).1 := ⟨_, rfl⟩
                      rw [← hp6, ← ha6, HR5.out.val_eq] at HCc
                      rw [← hp6] at hle6
                      obtain ⟨N6, hN6⟩ : ∃ N6, N6 = p6.toNat := ⟨_, rfl⟩
                      obtain ⟨J6, hJ6⟩ : ∃ J6, J6 = (p6.toNat : Int) - p6 := ⟨_, rfl⟩
                      have eb : bval Ab cb p6 = .agg #[.slice Ab N6 cb, .int .i64 J6] := by unfold bval; rw [hN6, hJ6]
                      rw [eb] at HCc
                      have y0 := HR5.out.by_.cell 2
                      have y1 := HR5.out.by_.cell 3
                      simp [Ts.cells] at y0 y1
                      obtain ⟨x0', x1', _, _⟩ := box2 HR5.out.bx
                      have HA6 := Lib.hid (And.intro hp6 (And.intro ha6 (And.intro hN6 hJ6)))
                      clear hp6 ha6 hN6 hJ6 eb
                      go_wp2_with fail
                      refine HCc.out.mono ?_
                      rintro e v6 ⟨rfl, hBv⟩
                      have hq6 := HR5.out.below hBv
                      obtain ⟨z0, z1, g0, g1⟩ := box2 hq6.bx
                      have hr6 := hq6.put (left' := p6) (by omega) (by omega) HA6.out.2.2.1 HA6.out.2.2.2 (by omega) (by omega)
                      have hn6 : ∀ j, j ≠ bb → ((v6.setCell ⟨bb, 0, none⟩ (.slice Ab N6 cb)).setCell ⟨bb, 1, none⟩ (.int .i64 J6)).heap[j]? = v6.heap[j]? := fun j hj => by rw [Below.heap_setCell _ _ _ j hj, Below.heap_setCell _ _ _ j hj]
                      have ho6 := (HO5.out.below hBv (Nat.le_refl _)).keep (w' := (v6.setCell ⟨bb, 0, none⟩ (.slice Ab N6 cb)).setCell ⟨bb, 1, none⟩ (.int .i64 J6)) fun j hj => hn6 j (by have := (HO5.out.block j hj).1; omega)
                      have HO6 := Lib.hid ho6
                      have HR6 := Lib.hid hr6
                      clear hBv hq6 hr6 hn6 ho6 y0 y1 x0' x1' HCc
                      go_wp2_with fail
                      go_roundg g'
                      case rel =>
                        have hnv : nextv xs' T s p3 = (⟨a4, a6, a5⟩, p6) := by
                          unfold nextv
                          have h1 := HA4.out
                          have h2 := HA5.out
                          have h3 := HA6.out
                          rw [show T.t1 = T.tb 1 from rfl, show T.t2 = T.tb 2 from rfl, show T.t0 = T.tb 0 from rfl, ← h1.1, ← h1.2.1, ← h2.1, ← h2.2.1, ← h3.1, ← h3.2.1]
                        refine ⟨k + 1, ⟨a4, a6, a5⟩, p6, N6, J6, _, by have := HK.out; omega, rfl, rfl, rfl, rfl, by go_num, HR6.out.bx.lt, by omega, by omega, HR6, ?_, Lib.hid ⟨fun _ => ?_, fun h => by omega⟩⟩
                        · rw [HRun.out]
                          exact HO6
                        · have hpre2 : preS xs' T (k + 1) (runS xs' T p (k + 1)) = (⟨a4, a6, a5⟩, p6) := by
                            unfold preS
                            rw [if_neg (by omega), HRun.out]
                            exact hnv
                          refine ⟨hpre2, ?_⟩
                          have := HTok.out.next HSo.out xs' p3
                          rw [hnv] at this
                          exact this
                      case measure => omega
                    · have hki2 : ¬ (k : Int) + 1 < (n : Int) := by omega
                      go_wp2_with fail
                      go_roundg g'
                      case rel =>
                        refine ⟨k + 1, s, p3, N3, J3, _, by have := HK.out; omega, rfl, rfl, rfl, rfl, by go_num, hz9, by omega, by omega, HR9, ?_, Lib.hid ⟨fun h => absurd h hl1, fun h => ?_⟩⟩
                        · rw [HRun.out]
                          exact HO9
                        · rw [← h, HRun.out]
                      case measure => omega
                  · obtain rfl : k = n := by omega
                    have hki : ¬ (k : Int) < (k : Int) := by omega
                    have hlf := HSt.out.2 rfl
                    have hlr : -100000000 ≤ l := by omega
                    have HLf := fun W => Lib.hid (refLeft_any Ab M cb K l W (by rw [HRw.out.eM, HRw.out.eK]; omega) (by omega) (by omega))
                    have hRE := HRE3.out
                    rw [← hlf] at hRE
                    obtain ⟨x0', x1', _, _⟩ := box2 HRw.out.bx
                    have hwbb : w.heap.size + 2 < bb := by omega
                    have HRE4 := Lib.hid hRE
                    clear hRE HRE3 hlf HSt
                    go_wp2_with fail
                    refine (HLf _).out.mono ?_
                    rintro e w9 ⟨rfl, hB9⟩
                    have HR9 := Lib.hid (HRw.out.below hB9)
                    have HO9 := Lib.hid (HOw.out.below hB9 (Nat.le_refl _))
                    have HBE := Lib.hid HR9.out.be
                    obtain ⟨⟨c0, c1, c2, c3, c4, c5⟩, f0, f1, f2, f3, f4, f5⟩ := box6 HR9.out.br
                    obtain ⟨⟨n0, n1, n2, n3, n4, n5⟩, _⟩ := box6 HR9.out.bn
                    obtain ⟨⟨t0, t1, t2, t3, t4, t5⟩, _⟩ := box6 HR9.out.by_
                    have hbmb : w.heap.size + 2 < bm + 1 := by omega
                    clear hB9 HRw HOw HLf x0' x1'
                    by_cases hneg : l < 0
                    · have hRE := HRE4.out
                      rw [if_pos hneg] at hRE
                      have HRE := Lib.hid (show R = .error 11 from hRE)
                      clear hRE HRE4 t0 t1 t2 t3 t4 t5
                      go_wp2_with fail
                      go_region
                      go_wp2_with fail
                      refine bodyPost_ret (v := .tuple #[.slice none 0 0, zeroTs, .int .i64 11]) (by simp [results, Tryz.results9, go_sem, zeroTs, c0, c1, c2, c3, c4, c5]) rfl ⟨below_set6 HBE.out (by omega), by rw [HRE.out]⟩
                    · by_cases hpos : 0 < l
                      · have hRE := HRE4.out
                        rw [if_neg hneg, if_pos hpos] at hRE
                        have HRE := Lib.hid (show R = .error 15 from hRE)
                        clear hRE HRE4 t0 t1 t2 t3 t4 t5
                        go_wp2_with fail
                        go_region
                        go_wp2_with fail
                        refine bodyPost_ret (v := .tuple #[.slice none 0 0, zeroTs, .int .i64 15]) (by simp [results, Tryz.results9, go_sem, zeroTs, c0, c1, c2, c3, c4, c5]) rfl ⟨below_set6 HBE.out (by omega), by rw [HRE.out]⟩
                      · have hRE := HRE4.out
                        rw [if_neg hneg, if_neg hpos] at hRE
                        obtain ⟨qz, hqz⟩ : ∃ qz, qz = (runS xs' T p k).q := ⟨_, rfl⟩
                        rw [← hqz] at hRE HO9
                        have HRE := Lib.hid (show R = .ok (qz, some T) from hRE)
                        obtain ⟨A9, n9, c9, rfl⟩ := HO9.out.slice
                        clear hqz
                        have hfin : RRPost13 R w (.returned (.tuple #[.slice A9 n9 c9, y.val, .int .i64 0])) (set6 w9 (w.heap.size + 1) (.int .i64 (y.l 0 : Int)) (.slice (y.A 0) (y.n 0) (y.c 0)) (.int .i64 (y.l 1 : Int)) (.slice (y.A 1) (y.n 1) (y.c 1)) (.int .i64 (y.l 2 : Int)) (.slice (y.A 2) (y.n 2) (y.c 2))).drew := by
                          rw [HRE.out]
                          have ho := (HO9.out.keep (w' := set6 w9 (w.heap.size + 1) (.int .i64 (y.l 0 : Int)) (.slice (y.A 0) (y.n 0) (y.c 0)) (.int .i64 (y.l 1 : Int)) (.slice (y.A 1) (y.n 1) (y.c 1)) (.int .i64 (y.l 2 : Int)) (.slice (y.A 2) (y.n 2) (y.c 2))) fun j hj => set6_heap j (by have := (HO9.out.block j hj).1; omega)).mono (show w.heap.size ≤ bb + 1 by omega)
                          have hbz := below_set6 (b := w.heap.size + 1) (v0 := .int .i64 (y.l 0 : Int)) (v1 := .slice (y.A 0) (y.n 0) (y.c 0)) (v2 := .int .i64 (y.l 1 : Int)) (v3 := .slice (y.A 1) (y.n 1) (y.c 1)) (v4 := .int .i64 (y.l 2 : Int)) (v5 := .slice (y.A 2) (y.n 2) (y.c 2)) HBE.out (by omega)
                          generalize set6 w9 (w.heap.size + 1) (.int .i64 (y.l 0 : Int)) (.slice (y.A 0) (y.n 0) (y.c 0)) (.int .i64 (y.l 1 : Int)) (.slice (y.A 1) (y.n 1) (y.c 1)) (.int .i64 (y.l 2 : Int)) (.slice (y.A 2) (y.n 2) (y.c 2)) = WS at *
                          exact ⟨hbz, _, y, rfl, ho.drawn 1⟩
                        unfold set6 at hfin
                        have HFin := Lib.hid hfin
                        clear hRE HRE4 hfin n0 n1 n2 n3 n4 n5
                        go_wp2_with fail
                        go_region
                        go_wp2_with fail
                        refine bodyPost_ret (v := .tuple #[.slice A9 n9 c9, y.val, .int .i64 0]) (by simp [results, Tryz.results9, go_sem, Ts.val, c0, c1, c2, c3, c4, c5]) rfl HFin.out
        · have hRE := HRE1.out
          rw [if_pos h4] at hRE
          have HRE := Lib.hid (show R = .error 11 from hRE)
          have hne : ((mm % 4 : Nat) : Int) ≠ 0 := by omega
          obtain ⟨⟨n0, n1, n2, n3, n4, n5⟩, _⟩ := box6 hn4
          obtain ⟨⟨c0, c1, c2, c3, c4, c5⟩, f0, f1, f2, f3, f4, f5⟩ := box6 hr4
          clear hx4 hn4 hr4 ht4 hRE HRE1 g0 g1
          generalize mm % 4 = qq at *
          go_wp2_with fail
          go_region
          go_wp2_with fail
          refine bodyPost_ret (v := .tuple #[.slice none 0 0, zeroTs, .int .i64 11]) (by simp [results, Tryz.results9, go_sem, zeroTs, c0, c1, c2, c3, c4, c5]) rfl ⟨below_set6 HBE.out (by omega), by rw [HRE.out]⟩

end
end Go.Proofs.YtlidnialggpcpaaGreatDoor
