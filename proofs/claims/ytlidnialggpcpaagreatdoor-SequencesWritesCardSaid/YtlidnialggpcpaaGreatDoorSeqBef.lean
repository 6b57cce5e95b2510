
/- The contract of the program's before: the states ahead of states, and the bits that lead there. -/
import Derived.Test.YtlidnialggpcpaaGreatDoorSeqLast
import Derived.Test.YtlidnialggpcpaaGreatDoorPileB
import Derived.Test.YtlidnialggpcpaaGreatDoorPileC
namespace Go.Proofs.YtlidnialggpcpaaGreatDoor
open Go.RowKit

/-- The bits that have been written behind n kinds: of offsets, matches, literals, in that order. -/
def bfB (T : T3) (f X : Nat → Nat) : Nat → List Bool
  | 0 => []
  | n + 1 => bfB T f X n ++ low (X (so (2 - n))) (entAt (T.tb (so (2 - n))).es (f (so (2 - n)))).2.1
/-- The box of states behind n kinds. -/
def bfS (s : St) (f : Nat → Nat) (n : Nat) : Array Value := #[if 2 < n then iv (f 0) else iv s.l, if 0 < n then iv (f 1) else iv s.o, if 1 < n then iv (f 2) else iv s.m]
def upd (f : Nat → Nat) (k x : Nat) : Nat → Nat := fun i => if i = k then x else f i
theorem bfB_step (T : T3) (f X : Nat → Nat) {n : Nat} (hn : n < 3) (a b : Nat) :
    bfB T (upd f (so (2 - n)) a) (upd X (so (2 - n)) b) (n + 1) = bfB T f X n ++ low b (entAt (T.tb (so (2 - n))).es a).2.1 := by
  rcases (show n = 0 ∨ n = 1 ∨ n = 2 by omega) with rfl | rfl | rfl <;> rfl
theorem bfS_step (s : St) (f : Nat → Nat) {n : Nat} (hn : n < 3) (a : Nat) : (bfS s f n).setIfInBounds (so (2 - n)) (iv a) = bfS s (upd f (so (2 - n)) a) (n + 1) := by
  rcases (show n = 0 ∨ n = 1 ∨ n = 2 by omega) with rfl | rfl | rfl <;> rfl
theorem bfS_at (s : St) (f : Nat → Nat) {n : Nat} (hn : n < 3) : (bfS s f n)[so (2 - n)]? = some (iv (s.at (so (2 - n)))) := by
  rcases (show n = 0 ∨ n = 1 ∨ n = 2 by omega) with rfl | rfl | rfl <;> rfl
theorem upd_old {f : Nat → Nat} {n i x : Nat} (hn : n < 3) (hi : i < n) : upd f (so (2 - n)) x (so (2 - i)) = f (so (2 - i)) := by
  unfold upd
  rcases (show n = 0 ∨ n = 1 ∨ n = 2 by omega) with rfl | rfl | rfl
  · omega
  · obtain rfl : i = 0 := by omega
    rfl
  · rcases (show i = 0 ∨ i = 1 by omega) with rfl | rfl <;> rfl
theorem OwB.keepO {w w' : World} {u base : Nat} {v : Value} {xs : List UInt8} (h : OwB w u base v xs) (he : ∀ k, v.ownBlock = some k → w'.heap[k]? = w.heap[k]?) : OwB w' u base v xs := by
  refine ⟨h.1, ?_⟩
  rcases h.2 with hn | ⟨g, cap, cur, rfl, hb, hh, q⟩
  · exact .inl hn
  · exact .inr ⟨g, cap, cur, rfl, hb, (he g (by simp [Value.ownBlock])).trans hh, q⟩
theorem WR.keepO {w w' : World} {base g : Nat} {v : Value} {l : List Bool} (h : WR w base g v l) (hg : w'.heap[g]? = w.heap[g]?) (hv : ∀ k, v.ownBlock = some k → w'.heap[k]? = w.heap[k]?) : WR w' base g v l :=
  ⟨h.1, h.2.1.keep hg, h.2.2.keepO hv⟩
theorem upd_new (f : Nat → Nat) (k x : Nat) : upd f k x k = x := by simp [upd]
theorem bfB_len {T : T3} {f X : Nat → Nat} : ∀ n, (∀ i, i < n → (entAt (T.tb (so (2 - i))).es (f (so (2 - i)))).2.1 ≤ 15) → (bfB T f X n).length ≤ 15 * n
  | 0, _ => by simp [bfB]
  | n + 1, h => by
    have h1 := bfB_len (X := X) n fun i hi => h i (by omega)
    have h2 := h n (by omega)
    rw [bfB, List.length_append, low_length]
    omega
/-- What before has found of a kind. -/
def FndOk (T : T3) (s : St) (q : Cq) (k i x : Nat) : Prop := i < (T.tb k).es.length ∧ (entAt (T.tb k).es i).1 = (q.at k).c ∧ x < 2 ^ (entAt (T.tb k).es i).2.1 ∧ (entAt (T.tb k).es i).2.2 + x = s.at k
/-- The boxes of before, and the writer, behind n kinds. -/
structure BfI (B : Nat) (w wx : World) (hi base g : Nat) (v0 v : Value) (l : List Bool) (x : Ts) (T : T3) (s : St) (q : Cq) (f X : Nat → Nat) (n : Nat) : Prop where
  gs : GS B wx
  ti : TsIn wx hi x T
  wr : WR wx base g v (l ++ bfB T f X n)
  bt : Box wx w.heap.size 29 x.cells
  bs : Box wx (w.heap.size + 1) 120 (bfS s f n)
  bc : Box wx (w.heap.size + 2) 146 q.cells
  br : Box wx (w.heap.size + 3) 120 #[iv 0, iv 0, iv 0]
  ft : Foot w wx g v0.ownBlock
  nr : Near w v0.ownBlock v.ownBlock
  sz : w.heap.size + 4 ≤ wx.heap.size
  ok : ∀ i, i < n → FndOk T s q (so (2 - i)) (f (so (2 - i))) (X (so (2 - i)))
/-- What before answers. -/
def BefPost (w : World) (base g : Nat) (v0 : Value) (l : List Bool) (T : T3) (s : St) (q : Cq) (e : Ending) (w' : World) : Prop :=
  ∃ (s' : St) (xl xo xm : Nat) (v : Value), e = .returned (.agg s'.cells) ∧ AtQ T s' q ∧ GoOk T s' xl xo xm ∧ goSt T s' xl xo xm = s ∧ WR w' base g v (l ++ goBits T s' xl xo xm) ∧ Foot w w' g v0.ownBlock ∧ Near w v0.ownBlock v.ownBlock
/-- What fse.Before finds. -/
theorem bef_call {w : World} {lo hi k n c : Nat} {A : Option Addr} {T : T3} {s : St} {q : Cq} (L : Int) (hk : k < 3) (hT : T3Ok T) (hs : StOk T s) (hd : DatR 3 ecell w lo hi A (T.tb k).es) (hhi : hi ≤ w.heap.size) (hn : (T.tb k).es.length = n)
    (hrea : Rea (T.tb k).es (q.at k).c) :
    Calls Tryz.prog 102 #[.agg #[.int .i64 L, .slice A n c], .int .i64 (s.at k : Int), .int .u8 ((q.at k).c : Int)] w fun e w' => Below w.heap.size w w' ∧ ∃ i x b : Nat, e = .returned (.tuple #[.int .i64 (i : Int), .int .u64 (x : Int), .int .i64 (b : Int), .int .i64 0]) ∧ FndOk T s q k i x ∧ b = (entAt (T.tb k).es i).2.1 ∧ b ≤ 15 ∧ x < 65536 := by
  have hTk := hT.tb hk
  have hsk := hs.at hk
  have hsm := hTk.small
  have hfine : Fine (T.tb k).es := fun i h => by
    obtain ⟨sy, b, e, h1, h2, h3, h4⟩ := hTk.ent i h
    exact ⟨sy, b, e, h1, by have := last_le k hk; omega, h3, by omega⟩
  refine (before_any (n := n) L (q.at k).c (s.at k) hd hfine hn (by omega) hhi (by omega)).mono ?_
  rintro e w' ⟨hB, ⟨i, hi, rfl, hm⟩ | ⟨hno, _⟩⟩
  · refine ⟨hB, ?_⟩
    obtain ⟨sy, b, e', hx, _, hb15, heb⟩ := hTk.ent i hi
    have hea := entAt_get hi hx
    rw [hx] at hm ⊢
    unfold matB at hm
    simp only [Bool.and_eq_true, decide_eq_true_eq, Int.toNat_natCast] at hm
    obtain ⟨⟨h1, h2⟩, h3⟩ := hm
    have h3' : s.at k < e' + 2 ^ b := by
      have e2 : ((e' : Int) + 2 ^ b) = ((e' + 2 ^ b : Nat) : Int) := by simp
      rw [e2] at h3
      omega
    refine ⟨i, s.at k - e', b, ?_, ⟨hi, ?_, ?_, ?_⟩, ?_, hb15, by omega⟩
    · have : (s.at k : Int) - (e' : Int) = ((s.at k - e' : Nat) : Int) := by omega
      show Ending.returned (.tuple #[.int .i64 (i : Int), .int .u64 ((s.at k : Int) - (e' : Int)), .int .i64 (b : Int), .int .i64 0]) = _
      rw [this]
    · rw [hea]; show sy = _; omega
    · rw [hea]; show s.at k - e' < 2 ^ b; omega
    · rw [hea]; show e' + (s.at k - e') = _; omega
    · rw [hea]
  · obtain ⟨i, hi, hm⟩ := hrea (s.at k) hsk
    rw [hno i hi] at hm
    cases hm
section
variable {B : Nat} {w : World} {hi base g : Nat} {v0 : Value} {l : List Bool} {x : Ts} {T : T3} {s : St} {q : Cq}
set_option maxRecDepth 100000 in
set_option maxHeartbeats 4000000 in
theorem beforeT_any (hgl : GS B w) (hw : WR w base g v0 l) (hBb : B ≤ base) (hx : TsIn w hi x T) (hib : hi ≤ base) (hT : T3Ok T) (hs : StOk T s) (hq : CqOk q) (hrea : ∀ k, k < 3 → Rea (T.tb k).es (q.at k).c) (hl : l.length ≤ 100000000000) :
    Calls Tryz.prog 70 #[x.val, .agg s.cells, .agg q.cells, .pointer (some ⟨g, 0, none⟩)] w (BefPost w base g v0 l T s q) := by
  have hglt := hw.lt
  have hbg := hw.1
  have hBw := hgl.size
  obtain ⟨W, hW⟩ : ∃ W, W = (((w.alloc (.cells x.cells 29)).alloc (.cells s.cells 120)).alloc (.cells q.cells 146)).alloc (.cells #[iv 0, iv 0, iv 0] 120) := ⟨_, rfl⟩
  have HS0 : Hid (BfI B w W hi base g v0 v0 l x T s q (fun _ => 0) (fun _ => 0) 0) := by
    rw [hW]
    have hb : Below w.heap.size w ((((w.alloc (.cells x.cells 29)).alloc (.cells s.cells 120)).alloc (.cells q.cells 146)).alloc (.cells #[iv 0, iv 0, iv 0] 120)) := ((((Below.refl _ _).alloc (Nat.le_refl _) _).alloc (by simp) _).alloc (by simp; omega) _).alloc (by simp; omega) _
    have h1 := Box.new (w.alloc (.cells x.cells 29)) 120 s.cells
    have h2 := Box.new ((w.alloc (.cells x.cells 29)).alloc (.cells s.cells 120)) 146 q.cells
    have h3 := Box.new (((w.alloc (.cells x.cells 29)).alloc (.cells s.cells 120)).alloc (.cells q.cells 146)) 120 #[iv 0, iv 0, iv 0]
    rw [World.size_alloc] at h1
    rw [World.size_alloc, World.size_alloc] at h2
    rw [World.size_alloc, World.size_alloc, World.size_alloc] at h3
    exact ⟨hgl.below hb hBw, hx.below hb (by omega), by rw [bfB, List.append_nil]; exact hw.below hb (Nat.le_refl _), (((Box.new w _ _).alloc _).alloc _).alloc _, (h1.alloc _).alloc _, h2.alloc _, h3, ⟨hb.os, hb.tape, hb.output, hb.size, fun k hk _ _ => hb.block k hk⟩, Near.refl _ _, by simp, fun j hj => absurd hj (by omega)⟩
  have HT := Lib.hid hT
  have HSt := Lib.hid hs
  have HQ := Lib.hid hq
  have HR := Lib.hid hrea
  have hcb : ∀ k, k < 3 → (q.at k).c ≤ 52 := fun k hk => by
    have e0 := last_le 0 (by decide)
    have e1 := last_le 1 (by decide)
    have e2 := last_le 2 (by decide)
    have hc0 := hq.l.c
    have hc1 := hq.o.c
    have hc2 := hq.m.c
    rcases (show k = 0 ∨ k = 1 ∨ k = 2 by omega) with rfl | rfl | rfl
    · show q.l.c ≤ 52; omega
    · show q.o.c ≤ 52; omega
    · show q.m.c ≤ 52; omega
  have HCb := Lib.hid hcb
  clear hgl hw hx hT hs hq hrea hcb
  unfold Ts.val St.cells Cq.cells
  go_enter Tryz.func70, Tryz.ntmps70
  go_upto_region 1 with (fail)
  change Code.wp _ _ _ _ ((((w.alloc (.cells x.cells 29)).alloc (.cells s.cells 120)).alloc (.cells q.cells 146)).alloc (.cells #[iv 0, iv 0, iv 0] 120))
  rw [← hW]
  clear hW
  go_wp2_with fail
  go_loopg [9, 10, 11, 12, 13, 14] 3 (fun gh i9 i10 i11 i12 i13 i14 wx => ∃ (p n : Nat) (f X : Nat → Nat) (v : Value), p = gh ∧ p + n = 3 ∧ i9 = .int .i64 ((p : Int) - 1) ∧ Hid (BfI B w wx hi base g v0 v l x T s q f X n))
  case atStart => exact ⟨3, 0, fun _ => 0, fun _ => 0, v0, rfl, rfl, rfl, HS0⟩
  case round =>
    obtain ⟨p, n, f, X, v, hpg, hpn, rfl, HS⟩ := hrel
    have HK := Lib.hid (And.intro hpg hpn)
    clear hpg hpn HS0
    rcases p with _ | j
    · obtain rfl : n = 3 := by have := HK.out; omega
      rw [show ((0 : Nat) : Int) - 1 = -1 from rfl]
      have hbs := HS.out.bs
      have s0 := hbs.cell 0
      have s1 := hbs.cell 1
      have s2 := hbs.cell 2
      simp [bfS, iv] at s0 s1 s2
      have r0 := HS.out.br.free 0
      have r1 := HS.out.br.free 1
      have r2 := HS.out.br.free 2
      have hr0 := HS.out.br.cell 0
      have hr1 := HS.out.br.cell 1
      have hr2 := HS.out.br.cell 2
      simp [iv] at hr0 hr1 hr2
      have hok1 := HS.out.ok 0 (by omega)
      have hok2 := HS.out.ok 1 (by omega)
      have hok0 := HS.out.ok 2 (by omega)
      have hsz := HS.out.sz
      have hne1 : w.heap.size + 1 + 1 + 1 ≠ w.heap.size + 1 := by omega
      obtain ⟨W3, hW3⟩ : ∃ W3, W3 = ((wr.setCell ⟨w.heap.size + 1 + 1 + 1, 0, none⟩ (iv (f 0))).setCell ⟨w.heap.size + 1 + 1 + 1, 1, none⟩ (iv (f 1))).setCell ⟨w.heap.size + 1 + 1 + 1, 2, none⟩ (iv (f 2)) := ⟨_, rfl⟩
      have hsame : ∀ j, j ≠ w.heap.size + 1 + 1 + 1 → W3.heap[j]? = wr.heap[j]? := fun j hj => by
        rw [hW3, Below.heap_setCell _ _ _ j hj, Below.heap_setCell _ _ _ j hj, Below.heap_setCell _ _ _ j hj]
      have hz3 : W3.heap.size = wr.heap.size := by rw [hW3]; simp [World.setCell]
      have how : some (w.heap.size + 1 + 1 + 1) ≠ v.ownBlock := fun e => HS.out.wr.2.2.ne_box HS.out.br (by decide) e.symm
      have HF : Hid (BefPost w base g v0 l T s q (.returned (.agg #[.int .i64 (f 0 : Int), .int .i64 (f 1 : Int), .int .i64 (f 2 : Int)])) W3) := by
        refine ⟨⟨f 0, f 1, f 2⟩, X 0, X 1, X 2, v, rfl, ⟨⟨hok0.1, hok1.1, hok2.1⟩, hok0.2.1, hok1.2.1, hok2.2.1⟩, ⟨hok0.2.2.1, hok1.2.2.1, hok2.2.2.1⟩, ?_, ?_, ?_, HS.out.nr⟩
        · have e0 : _ = s.l := hok0.2.2.2
          have e1 : _ = s.o := hok1.2.2.2
          have e2 : _ = s.m := hok2.2.2.2
          show St.mk _ _ _ = s
          rw [← show St.mk s.l s.o s.m = s from rfl, ← e0, ← e1, ← e2]
          rfl
        · have h := HS.out.wr
          have hb3 : bfB T f X 3 = goBits T ⟨f 0, f 1, f 2⟩ (X 0) (X 1) (X 2) := rfl
          rw [hb3] at h
          exact h.keepO (hsame _ (by omega)) fun k hk => hsame k (fun e => how (by rw [hk, e]))
        · have h := HS.out.ft
          exact ⟨by rw [hW3]; exact h.os, by rw [hW3]; exact h.tape, by rw [hW3]; exact h.output, by have := h.size; omega, fun k hk h1 h2 => (hsame k (by omega)).trans (h.block k hk h1 h2)⟩
      clear hok0 hok1 hok2 hbs how HS hsame
      go_wp2_with fail
      rw [hW3] at HF
      refine bodyPost_ret (v := .agg #[.int .i64 (f 0 : Int), .int .i64 (f 1 : Int), .int .i64 (f 2 : Int)]) (by simp [results, Tryz.results70, go_sem, hr0, hr1, hr2]) rfl HF.out
    · rw [show ((j + 1 : Nat) : Int) - 1 = (j : Int) by omega]
      obtain ⟨hpg, hpn⟩ := HK.out
      obtain ⟨g', rfl⟩ : ∃ g', gk = g' + 1 := ⟨gk - 1, by omega⟩
      have hj3 : j < 3 := by omega
      have hji : (j : Int) < 3 := by omega
      have hj0 : (0 : Int) ≤ (j : Int) := by omega
      have hn3 : n < 3 := by omega
      have hjn : j = 2 - n := by omega
      have hvk := so_lt j
      have vj := HS.out.gs.s j hj3
      have hsz := HS.out.sz
      have hat := bfS_at s f hn3
      have hst := fun a => bfS_step s f hn3 a
      have hbst := fun a b => bfB_step T f X hn3 a b
      have hold := fun (i : Nat) (x : Nat) (hi : i < n) => upd_old (f := f) (x := x) hn3 hi
      have holX := fun (i : Nat) (x : Nat) (hi : i < n) => upd_old (f := X) (x := x) hn3 hi
      rw [← hjn] at hat hst hbst hold holX
      have hcc := HCb.out (so j) hvk
      have t0 := (HS.out.bt.cell (so j * 2)).trans (x.at hvk).1
      have t1 := (HS.out.bt.cell (so j * 2 + 1)).trans (x.at hvk).2
      have t2 := (HS.out.bs.cell (so j)).trans hat
      have t3 := HS.out.bs.free (so j)
      have t4 := (HS.out.bc.cell (so j * 3)).trans (q.cell hvk).1
      unfold iv at t2
      have HCn := Lib.hid (bef_call (w := wr.drew) (c := x.c (so j)) (x.l (so j) : Int) hvk HT.out HSt.out (HS.out.ti.d _ hvk) (by have := HS.out.wr.lt; have := HS.out.wr.1; show hi ≤ wr.heap.size; omega) (HS.out.ti.n _ hvk).symm (HR.out _ hvk))
      have HSame := Lib.hid (And.intro hat (And.intro hst (And.intro hbst (And.intro hold (And.intro holX hjn)))))
      clear hat hst hbst hold holX hpg hpn hjn
      have hcw : IntKind.u8.wrap ((q.at (so j)).c : Int) = ((q.at (so j)).c : Int) := by rw [IntKind.wrap_u8]; omega
      generalize hKj : so j = K at *
      have hKi : (K : Int) < 3 := by omega
      go_wp2_with fail
      have hnr : ∀ k, k < w.heap.size → some k ≠ v0.ownBlock → some k ≠ v.ownBlock := fun k hk h e => by
        rcases HS.out.nr with h2 | ⟨j2, h2, h3⟩
        · exact h (e.trans h2)
        · rw [h2] at e; injection e with e; omega
      have HNr := Lib.hid hnr
      clear hnr
      go_region_held3 (fun w' => w'.cell? ⟨w.heap.size, K * 2, none⟩ = some (.int .i64 (x.l K : Int)) ∧ w'.cell? ⟨w.heap.size, K * 2 + 1, none⟩ = some (.slice (x.A K) (x.n K) (x.c K)) ∧ w'.cell? ⟨w.heap.size + 1, K, none⟩ = some (.int .i64 (s.at K : Int)) ∧ w'.cell? ⟨w.heap.size + 1 + 1, K * 3, none⟩ = some (.int .i64 ((q.at K).c : Int)))
        (first | exact ⟨t0, t1, t2, t4⟩ | exact ⟨k2, k3, k0, k4⟩ | go_keep)
        (first | (go_at_call 102; refine HCn.out.mono ?_; rintro e' w1 ⟨hB1, i, X1, b, rfl, hf, hb, hb15, hX1⟩; have hB1' : Below wr.heap.size wr w1 := ⟨hB1.os, hB1.tape, hB1.output, hB1.size, hB1.block⟩; have hbs1 := HS.out.bs.below hB1' (by omega); have k0 := (hbs1.cell K).trans HSame.out.1; have k1 := hbs1.free K; have k2 := ((HS.out.bt.below hB1' (by omega)).cell (K * 2)).trans (x.at hvk).1; have k3 := ((HS.out.bt.below hB1' (by omega)).cell (K * 2 + 1)).trans (x.at hvk).2; have k4 := ((HS.out.bc.below hB1' (by omega)).cell (K * 3)).trans (q.cell hvk).1; have HB1 := Lib.hid hB1'; have HFd := Lib.hid (And.intro hf hb); unfold iv at k0; clear hB1 hB1' hbs1 hf hb))
      all_goals
        have hbs1 := HS.out.bs.below HB1.out (by omega)
        have hz1 := HB1.out.size
        have hbs2 := hbs1.put K (iv i)
        obtain ⟨W2, hW2⟩ : ∃ W2, W2 = w1.setCell ⟨w.heap.size + 1, K, none⟩ (iv i) := ⟨_, rfl⟩
        have hgwr := HS.out.wr.lt
        have hzW2 : W2.heap.size = w1.heap.size := by rw [hW2]; simp [World.setCell]
        have hk2 : ∀ k, k < wr.heap.size → k ≠ w.heap.size + 1 → W2.heap[k]? = wr.heap[k]? := fun k h1 h2 => by
          rw [hW2, Below.heap_setCell _ _ _ k h2]
          exact HB1.out.block k h1
        have hrow : ∀ k, v.ownBlock = some k → base ≤ k ∧ k < wr.heap.size := HS.out.wr.row
        have hwr2 : WR W2 base g v (l ++ bfB T f X n) := HS.out.wr.keepO (hk2 _ hgwr (by omega)) fun k hk => hk2 k (hrow k hk).2 (fun e => HS.out.wr.2.2.ne_box HS.out.bs (by decide) (by rw [hk, e]))
        have hbb : (bfB T f X n).length ≤ 45 := by
          have := bfB_len (T := T) (f := f) (X := X) n fun i hi => (HT.out.tb (so_lt _)).bits (HS.out.ok i hi).1
          omega
        have HWr := Lib.hid (write_any X1 (b : Int) hwr2 (by omega) (by rw [List.length_append]; omega))
        rw [← hW2] at hbs2
        have HOs : Hid (W2.os = wr.os ∧ W2.tape = wr.tape ∧ W2.output = wr.output) := by rw [hW2]; exact ⟨HB1.out.os, HB1.out.tape, HB1.out.output⟩
        have HW2 := Lib.hid (And.intro hbs2 (And.intro hk2 (And.intro hwr2 (And.intro hrow (And.intro hzW2 hz1)))))
        clear hbs2 hk2 hwr2 hrow hbs1 hzW2 hz1 t0 t1 t2 t3 t4 k2 k3 k4 HCn
        go_upto_region 7 with (fail)
        change Code.wp _ _ _ _ (w1.setCell ⟨w.heap.size + 1, K, none⟩ (iv i))
        rw [← hW2]
        clear hW2 k0 k1
        go_wp2_with fail
        refine HWr.out.mono ?_
        rintro e w3 ⟨rfl, v3, hw3, hF3, hN3⟩
        obtain ⟨hbs2, hk2, hwr2, hrow, hzW2, hz1⟩ := HW2.out
        obtain ⟨hat, hst, hbst, hold, holX, hjn⟩ := HSame.out
        obtain ⟨hfnd, hbe⟩ := HFd.out
        have hk3 : ∀ k, k < wr.heap.size → k ≠ w.heap.size + 1 → k ≠ g → some k ≠ v.ownBlock → w3.heap[k]? = wr.heap[k]? := fun k h1 h2 h3 h4 => (hF3.block k (by omega) h3 h4).trans (hk2 k h1 h2)
        have hlo : ∀ k, k < base → some k ≠ v.ownBlock := fun k hk e => by have := (hrow k e.symm).1; omega
        have hsz3 := hF3.size
        have hft := HS.out.ft
        have hno : ∀ {b : Nat} {t : TypeId} {cs : Array Value}, Box wr b t cs → 5 ≠ t → some b ≠ v.ownBlock := fun hb hne e => HS.out.wr.2.2.ne_box hb hne e.symm
        have HF : Hid (BfI B w w3 hi base g v0 v3 l x T s q (upd f K i) (upd X K X1) (n + 1)) := by
          refine ⟨HS.out.gs.keep (fun k hk => hk3 k (by have := HS.out.gs.size; omega) (by omega) (by omega) (hlo k (by omega))) (by omega), HS.out.ti.keep fun k hk => hk3 k (by omega) (by omega) (by omega) (hlo k (by omega)), ?_, HS.out.bt.keep (hk3 _ (by omega) (by omega) (by omega) (hno HS.out.bt (by decide))), ?_, HS.out.bc.keep (hk3 _ (by omega) (by omega) (by omega) (hno HS.out.bc (by decide))), HS.out.br.keep (hk3 _ (by omega) (by omega) (by omega) (hno HS.out.br (by decide))), ?_, ?_, by omega, ?_⟩
          · rw [hbst i X1, ← List.append_assoc, ← hbe, ← lows_back X1 b (by omega)]
            exact hw3
          · rw [hst i] at hbs2
            exact hbs2.keep (hF3.block _ (by omega) (by omega) (fun e => hwr2.2.2.ne_box hbs2 (by decide) e.symm))
          · exact ⟨hF3.os.trans (HOs.out.1.trans hft.os), hF3.tape.trans (HOs.out.2.1.trans hft.tape), hF3.output.trans (HOs.out.2.2.trans hft.output), by have := hft.size; omega, fun k hk h1 h2 => (hk3 k (by have := hft.size; omega) (by omega) h1 (HNr.out k hk h2)).trans (hft.block k hk h1 h2)⟩
          · exact HS.out.nr.trans hN3 (by omega)
          · intro i2 hi2
            by_cases e : i2 = n
            · subst e
              rw [← hjn, hKj, upd_new, upd_new]
              exact hfnd
            · rw [hold i2 i (by omega), holX i2 X1 (by omega)]
              exact HS.out.ok i2 (by omega)
        clear hfnd hbe hk3 hlo hft hno hw3 hF3 hN3 hbs2 hk2 hwr2 hrow hat hst hbst hold holX HS HWr HW2 HSame
        go_wp2_with fail
        go_roundg g'
        case rel => exact ⟨j, n + 1, upd f K i, upd X K X1, v3, by have := HK.out; omega, by have := HK.out; omega, by go_num, HF⟩
        case measure => omega
end
end Go.Proofs.YtlidnialggpcpaaGreatDoor
