
/- Bundles put together two by two. -/
import Derived.Test.YtafdfjacfodbnaaWtCatB
import Derived.Test.YtafdfjacfodbnaaWtPack
import Derived.Test.YtafdfjacfodbnaaPileA
import Derived.Deep.RegionHeld3
import Derived.Deep.RegionWith
import Derived.BigRegion
namespace Go.Proofs.Ytafdfjacfodbnaa
open Go.RowKit

/-- The symbols of bundles lie in memory of the call's own. -/
def Has (w : World) (base : Nat) (xs : List Pk) : Prop := ∀ x ∈ xs, OwR 1 bcel w 5 base (.slice x.a x.l x.c) x.y
theorem Has.below {w w' : World} {base B : Nat} {xs : List Pk} (h : Has w base xs) (hb : Below B w w') (hB : w.heap.size ≤ B) : Has w' base xs := fun x hx => (h x hx).below hb hB
theorem Has.mono {w : World} {base b : Nat} {xs : List Pk} (h : Has w base xs) (hb : b ≤ base) : Has w b xs := fun x hx => (h x hx).mono hb
theorem own_ne {w : World} {base b2 : Nat} {x : Pk} {v : Value} {L : List Pk} (h : OwR 1 bcel w 5 base (.slice x.a x.l x.c) x.y) (hr : OwR 2 pcell w 97 b2 v L) : (Value.slice x.a x.l x.c).ownBlock = none ∨ (Value.slice x.a x.l x.c).ownBlock ≠ v.ownBlock := by
  rcases h.2 with ⟨e, _⟩ | ⟨g, cap, cur, e, _, hh, _⟩
  · exact .inl (by rw [e]; rfl)
  · refine .inr ?_
    rw [e]
    rcases hr.2 with ⟨e2, _⟩ | ⟨g2, cap2, cur2, e2, _, hh2, _⟩
    · rw [e2]; simp [Value.ownBlock]
    · rw [e2]
      intro q
      have q : g = g2 := by simpa [Value.ownBlock] using q
      subst q
      rw [hh] at hh2
      injection hh2 with hh2
      injection hh2 with _ ht
      exact absurd ht (by decide)
theorem Has.grown {w w' : World} {base b2 : Nat} {xs L : List Pk} {v : Value} (h : Has w base xs) (hr : OwR 2 pcell w 97 b2 v L) (hg : w.grownBy w' v.ownBlock) : Has w' base xs := fun x hx => (h x hx).grown hg (own_ne (h x hx) hr)
theorem Has.append {w : World} {base : Nat} {xs ys : List Pk} (h : Has w base xs) (h' : Has w base ys) : Has w base (xs ++ ys) := fun x hx => (List.mem_append.1 hx).elim (h x) (h' x)
theorem DatR.two {w : World} {lo hi : Nat} {A : Option Addr} {xs : List Pk} (h : DatR 2 pcell w lo hi A xs) (hx : 0 < xs.length) :
    ∃ d o, A = some ⟨d, o, none⟩ ∧ lo ≤ d ∧ d < hi ∧ ∀ j, j < xs.length → w.cell? ⟨d, o + j * 2, none⟩ = some (.int .u64 (xs[j]!.n : Int)) ∧ w.cell? ⟨d, o + j * 2 + 1, none⟩ = some (.slice xs[j]!.a xs[j]!.l xs[j]!.c) := by
  obtain ⟨d, o, hA, h1, h2, hc⟩ := h hx
  refine ⟨d, o, hA, h1, h2, fun j hj => ?_⟩
  rw [getElem!_pos xs j hj]
  exact ⟨hc j hj 0 _ rfl, hc j hj 1 _ rfl⟩

/-- Two blocks that have just been made. -/
theorem boxes2 (wr : World) (T : TypeId) (p q r t : Value) :
    (((wr.alloc (.cells #[p, q] T)).alloc (.cells #[r, t] T)).drew.cell? ⟨wr.heap.size, 0, none⟩ = some p ∧ ((wr.alloc (.cells #[p, q] T)).alloc (.cells #[r, t] T)).drew.cell? ⟨wr.heap.size, 1, none⟩ = some q) ∧
    (((wr.alloc (.cells #[p, q] T)).alloc (.cells #[r, t] T)).drew.cell? ⟨wr.heap.size + 1, 0, none⟩ = some r ∧ ((wr.alloc (.cells #[p, q] T)).alloc (.cells #[r, t] T)).drew.cell? ⟨wr.heap.size + 1, 1, none⟩ = some t) ∧
    Below wr.heap.size wr ((wr.alloc (.cells #[p, q] T)).alloc (.cells #[r, t] T)).drew ∧ ((wr.alloc (.cells #[p, q] T)).alloc (.cells #[r, t] T)).drew.heap.size = wr.heap.size + 2 := by
  have h1 := Box.new (wr.alloc (.cells #[p, q] T)) T #[r, t]
  rw [World.size_alloc] at h1
  have h2 := (Box.new wr T #[p, q]).alloc (.cells #[r, t] T)
  exact ⟨⟨h2.cell 0, h2.cell 1⟩, ⟨h1.cell 0, h1.cell 1⟩, (((Below.refl _ _).alloc (Nat.le_refl _) _).alloc (by simp) _).drew, by simp⟩

theorem keep4g {wr w3 w5 w7 : World} {o : Obj} {a b : Nat} {r : Option Nat} {p q t u : Value} (hc : (w5.cell? ⟨a, 0, none⟩ = some p ∧ w5.cell? ⟨a, 1, none⟩ = some q) ∧ (w5.cell? ⟨b, 0, none⟩ = some t ∧ w5.cell? ⟨b, 1, none⟩ = some u)) (hg : (w5.alloc o).grownBy w7 r)
    (h3 : w3.heap.size = wr.heap.size + 3) (h5 : Below w3.heap.size w3 w5) (hr : ∀ k, r = some k → k < wr.heap.size) (ha : wr.heap.size ≤ a) (hb : wr.heap.size ≤ b) (ha2 : a < wr.heap.size + 3) (hb2 : b < wr.heap.size + 3) :
    (w7.cell? ⟨a, 0, none⟩ = some p ∧ w7.cell? ⟨a, 1, none⟩ = some q) ∧ (w7.cell? ⟨b, 0, none⟩ = some t ∧ w7.cell? ⟨b, 1, none⟩ = some u) := by
  have hs := h5.size
  have ka : w7.heap[a]? = w5.heap[a]? := (hg.block a (by rw [World.size_alloc]; omega) (fun e => by have := hr a e.symm; omega)).trans (Below.heap_alloc w5 o a (by omega))
  have kb : w7.heap[b]? = w5.heap[b]? := (hg.block b (by rw [World.size_alloc]; omega) (fun e => by have := hr b e.symm; omega)).trans (Below.heap_alloc w5 o b (by omega))
  exact ⟨⟨(World.cell?_of_block ka).trans hc.1.1, (World.cell?_of_block ka).trans hc.1.2⟩, (World.cell?_of_block kb).trans hc.2.1, (World.cell?_of_block kb).trans hc.2.2⟩
theorem le_of_len {P : List Pk} {k n : Nat} (h : P.length = k) (h1 : 2 * k ≤ n) (h2 : n ≤ 10000) : P.length + 1 ≤ 1099511627776 := by omega
theorem le_of_sz {w wr w3 w5 : World} (h : w.heap.size ≤ wr.heap.size) (h3 : w3.heap.size = wr.heap.size + 3) (h5 : Below w3.heap.size w3 w5) (o : Obj) : w.heap.size ≤ (w5.alloc o).heap.size := by
  have := h5.size
  rw [World.size_alloc]
  omega
theorem keep4 {w w' : World} {B a b : Nat} {p q r t : Value} (h : Below B w w') (ha : a < B) (hb : b < B) (hc : (w.cell? ⟨a, 0, none⟩ = some p ∧ w.cell? ⟨a, 1, none⟩ = some q) ∧ (w.cell? ⟨b, 0, none⟩ = some r ∧ w.cell? ⟨b, 1, none⟩ = some t)) :
    (w'.cell? ⟨a, 0, none⟩ = some p ∧ w'.cell? ⟨a, 1, none⟩ = some q) ∧ (w'.cell? ⟨b, 0, none⟩ = some r ∧ w'.cell? ⟨b, 1, none⟩ = some t) :=
  ⟨⟨(World.cell?_of_block (h.block a ha)).trans hc.1.1, (World.cell?_of_block (h.block a ha)).trans hc.1.2⟩, (World.cell?_of_block (h.block b hb)).trans hc.2.1, (World.cell?_of_block (h.block b hb)).trans hc.2.2⟩

/-- What two bundles put together are. -/
def PairAt (xs P : List Pk) (i : Nat) : Prop := P[i]!.n = xs[2 * i]!.n + xs[2 * i + 1]!.n ∧ P[i]!.y = xs[2 * i]!.y ++ xs[2 * i + 1]!.y ∧ P[i]!.s = false
theorem pairs_next {w wr w3 w5 w7 : World} {o : Obj} {u v : Value} {P xs : List Pk} {z : Pk} {k base : Nat} (hP : P.length = k) (ho : OwR 2 pcell wr 97 w.heap.size u P) (hh : Has wr base P) (hB : Below w.heap.size w wr) (hpx : ∀ i, i < P.length → PairAt xs P i)
    (h3 : Below wr.heap.size wr w3) (hs3 : w3.heap.size = wr.heap.size + 3) (h5o : OwR 1 bcel w5 5 w3.heap.size (.slice z.a z.l z.c) z.y) (h5 : Below w3.heap.size w3 w5) (h1 : OwR 2 pcell w7 97 w.heap.size v (P ++ [z])) (hg : (w5.alloc o).grownBy w7 u.ownBlock) (hbase : base ≤ w.heap.size)
    (hz : z.n = xs[2 * k]!.n + xs[2 * k + 1]!.n ∧ z.y = xs[2 * k]!.y ++ xs[2 * k + 1]!.y ∧ z.s = false) :
    (P ++ [z]).length = k + 1 ∧ OwR 2 pcell w7 97 w.heap.size v (P ++ [z]) ∧ Has w7 base (P ++ [z]) ∧ Below w.heap.size w w7 ∧ ∀ i, i < (P ++ [z]).length → PairAt xs (P ++ [z]) i := by
  have hsz := hB.size
  have hs5 := h5.size
  have hu : OwR 2 pcell (w5.alloc o) 97 w.heap.size u P := ((ho.below h3 (Nat.le_refl _)).below h5 (Nat.le_refl _)).alloc o
  refine ⟨by simp [hP], h1, fun x hx => ?_, ?_, fun i hi => ?_⟩
  · rcases List.mem_append.1 hx with q | q
    · have hx3 : OwR 1 bcel (w5.alloc o) 5 base (.slice x.a x.l x.c) x.y := (((hh x q).below h3 (Nat.le_refl _)).below h5 (Nat.le_refl _)).alloc o
      exact hx3.grown hg (own_ne hx3 hu)
    · obtain rfl := List.mem_singleton.1 q
      have hx3 := h5o.alloc o
      exact (hx3.grown hg (own_ne hx3 hu)).mono (by omega)
  · have a1 : Below w.heap.size w (w5.alloc o) := ((hB.trans (h3.mono hsz)).trans (h5.mono (by omega))).alloc (by omega) o
    exact below_grown a1 hg (fun k hk => (ho.block k hk).1) (by rw [World.size_alloc]; omega)
  · simp at hi
    by_cases q : i < P.length
    · have := hpx i q
      unfold PairAt at this ⊢
      rw [getI_left P [z] i q]
      exact this
    · obtain rfl : i = P.length := by omega
      unfold PairAt
      rw [getI_right P [z] P.length (Nat.le_refl _) (by simp), Nat.sub_self, hP]
      exact hz

section
variable {w : World}
set_option maxRecDepth 100000 in
set_option maxHeartbeats 1000000 in
theorem pairs_any {lo hi n c base : Nat} {A : Option Addr} {xs : List Pk} (hd : DatR 2 pcell w lo hi A xs) (hn : xs.length = n) (hn2 : n ≤ 10000) (hhi : hi ≤ w.heap.size) (hh : Has w base xs) (hbase : base ≤ w.heap.size) (hbig : ∀ x ∈ xs, x.n ≤ 1125899906842624 ∧ x.l ≤ 1000) :
    Calls Try.prog 51 #[.slice A n c] w fun e w' => ∃ v P, e = .returned v ∧ OwR 2 pcell w' 97 w.heap.size v P ∧ Has w' base P ∧ PairsOf xs P ∧ Below w.heap.size w w' := by
  have HD := Lib.hid (And.intro hd (And.intro hn (And.intro hh hbig)))
  clear hd hn hh hbig
  obtain ⟨i0, hi0, hi1⟩ := Option.map_eq_some_iff.1 info_bundle
  simp only [Prod.mk.injEq] at hi1
  obtain ⟨hz0, hz1, hz2⟩ := hi1
  have HI := Lib.hid (And.intro hi0 (And.intro hz0 (And.intro hz1 hz2)))
  clear hi0 hz0 hz1 hz2
  go_enter Try.func51, Try.ntmps51
  go_wp2_with fail
  go_loopg [3, 4] n (fun g1 vr vi wx => ∃ (k : Nat) (P : List Pk), vi = .int .i64 (2 * (k : Int) + 1) ∧ P.length = k ∧ 2 * k ≤ n ∧ n - 2 * k ≤ g1 ∧ OwR 2 pcell wx 97 w.heap.size vr P ∧ Has wx base P ∧ Below w.heap.size w wx ∧ ∀ i, i < P.length → PairAt xs P i)
  case atStart => exact ⟨0, [], by go_num, rfl, by omega, by omega, OwR.nil _ _ _ _ _, fun x hx => (by cases hx), Below.refl _ _, fun i hi => absurd hi (by simp)⟩
  case round =>
    obtain ⟨k, P, rfl, hk, hkn, hg, ho, hh, hB, hP⟩ := hrel
    have hsz := hB.size
    by_cases hlt : 2 * k + 1 < n
    · have hltz : 2 * (k : Int) + 1 < (n : Int) := by omega
      obtain ⟨d, o, rfl, q1, q2, hc⟩ := (HD.out.1.below hB hhi).two (by rw [HD.out.2.1]; omega)
      obtain ⟨c0, c1⟩ := hc (2 * k) (by rw [HD.out.2.1]; omega)
      obtain ⟨c2, c3⟩ := hc (2 * k + 1) (by rw [HD.out.2.1]; omega)
      have HP := Lib.hid (And.intro hk (And.intro hg (And.intro ho (And.intro hh (And.intro hB hP)))))
      obtain ⟨x, hx⟩ : ∃ x, x = xs[2 * k]! := ⟨_, rfl⟩
      obtain ⟨y, hy⟩ : ∃ y, y = xs[2 * k + 1]! := ⟨_, rfl⟩
      rw [← hx] at c0 c1
      rw [← hy] at c2 c3
      have hbx := HD.out.2.2.2 x (by rw [hx]; exact get_mem _ _ (by rw [HD.out.2.1]; omega))
      have hby := HD.out.2.2.2 y (by rw [hy]; exact get_mem _ _ (by rw [HD.out.2.1]; omega))
      have hbx1 := hbx.1
      have hbx2 := hbx.2
      have hby1 := hby.1
      have hby2 := hby.2
      have HXY := Lib.hid (And.intro hx hy)
      clear hbx hby
      clear hc hk hg ho hh hB hP hx hy
      have e1 : (2 * (k : Int)).toNat = 2 * k := by omega
      have e2 : (2 * (k : Int) + 1).toNat = 2 * k + 1 := by omega
      have p1 : (0 : Int) ≤ 2 * (k : Int) := by omega
      have p2 : (0 : Int) ≤ 2 * (k : Int) + 1 := by omega
      have p3 : 2 * (k : Int) < (n : Int) := by omega
      have p4 : IntKind.i64.wrap (2 * (k : Int)) = 2 * (k : Int) := by rw [IntKind.wrap_i64]; omega
      have hdl : d < wr.heap.size := by omega
      go_wp2_with fail
      go_region
      · obtain ⟨⟨x0, x1⟩, ⟨y0, y1⟩, hB2, hs2⟩ := boxes2 wr 97 (.int .u64 (x.n : Int)) (.slice x.a x.l x.c) (.int .u64 (y.n : Int)) (.slice y.a y.l y.c)
        have HB2 := Lib.hid hB2
        have HW : Hid (IntKind.u64.wrap ((x.n : Int) + (y.n : Int)) = (x.n : Int) + (y.n : Int)) := by show _ = _; rw [IntKind.wrap_u64]; omega
        clear c0 c1 c2 c3 hB2
        generalize World.drew (World.alloc _ _) = w2 at *
        obtain ⟨w3, hw3⟩ : ∃ w3, w3 = (w2.alloc (.cells #[.slice x.a x.l x.c, .slice y.a y.l y.c] 22)).drew := ⟨_, rfl⟩
        have hs3 : w3.heap.size = wr.heap.size + 3 := by rw [hw3]; show (w2.alloc _).heap.size = _; rw [World.size_alloc, hs2]
        have hB3 : Below w2.heap.size w2 w3 := by rw [hw3]; exact ((Below.refl _ _).alloc (Nat.le_refl _) _).drew
        have K3 := Lib.hid (keep4 hB3 (by omega) (by omega) ⟨⟨x0, x1⟩, y0, y1⟩)
        have hBw3 : Below wr.heap.size wr w3 := HB2.out.trans (hB3.mono (by omega))
        have HC : Hid (Calls Try.prog 66 #[.slice (some ⟨w2.heap.size, 0, none⟩) 2 2] w3 fun e w' => ∃ v, e = .returned v ∧ OwR 1 bcel w' 5 w3.heap.size v (x.y ++ y.y) ∧ Below w3.heap.size w3 w') := by
          have hbx := Box.new w2 22 #[.slice x.a x.l x.c, .slice y.a y.l y.c]
          have h3 := ((HD.out.2.2.1.below HP.out.2.2.2.2.1 (Nat.le_refl _)).below hBw3 (Nat.le_refl _))
          have hox := h3 x (by rw [HXY.out.1]; exact get_mem _ _ (by rw [HD.out.2.1]; omega))
          have hoy := h3 y (by rw [HXY.out.2]; exact get_mem _ _ (by rw [HD.out.2.1]; omega))
          exact catB_any (by rw [hw3]; exact hbx.cell 0) (by rw [hw3]; exact hbx.cell 1) (hox.dat bcel_len) (hoy.dat bcel_len) hox.len hoy.len (by omega) (by omega) (Nat.le_refl _) (Nat.le_refl _)
        have HF : Hid (∀ w5, Below w3.heap.size w3 w5 → ∀ o, OwR 2 pcell (w5.alloc o) 97 w.heap.size u3 P) := fun w5 h5 o => (((HP.out.2.2.1.below hBw3 (Nat.le_refl _)).below h5 (Nat.le_refl _)).alloc o)
        have HB3 := Lib.hid hBw3
        have hlx1 : wr.heap.size < w2.heap.size := by omega
        have hlx2 : wr.heap.size + 1 < w2.heap.size := by omega
        have HS3 := Lib.hid hs3
        clear hB3 hBw3 hs2 hs3
        go_wp2_with fail
        go_region_held3 (fun w' => (w'.cell? ⟨wr.heap.size, 0, none⟩ = some (.int .u64 (x.n : Int)) ∧ w'.cell? ⟨wr.heap.size, 1, none⟩ = some (.slice x.a x.l x.c)) ∧ (w'.cell? ⟨wr.heap.size + 1, 0, none⟩ = some (.int .u64 (y.n : Int)) ∧ w'.cell? ⟨wr.heap.size + 1, 1, none⟩ = some (.slice y.a y.l y.c))) (first | exact ⟨⟨x0, x1⟩, y0, y1⟩ | exact K3.out | exact k0 | exact k7 | go_keep) (first | (go_at_call 66; rw [← hw3]; refine HC.out.mono ?_; rintro e' w5 ⟨v5, rfl, ho5, hB5⟩; obtain ⟨A5, c5, rfl, -, -⟩ := ho5.form bcel_len; have k0 : (w5.cell? ⟨wr.heap.size, 0, none⟩ = some (.int .u64 (x.n : Int)) ∧ w5.cell? ⟨wr.heap.size, 1, none⟩ = some (.slice x.a x.l x.c)) ∧ (w5.cell? ⟨wr.heap.size + 1, 0, none⟩ = some (.int .u64 (y.n : Int)) ∧ w5.cell? ⟨wr.heap.size + 1, 1, none⟩ = some (.slice y.a y.l y.c)) := keep4 hB5 (by rw [HS3.out]; omega) (by rw [HS3.out]; omega) K3.out; have H5 := Lib.hid (And.intro ho5 hB5); have HA := Lib.hid (HF.out w5 hB5); have HDn := Lib.hid (datR_one (f := pcell) (z := 2) w5 (⟨x.n + y.n, A5, (x.y ++ y.y).length, c5, x.y ++ y.y, false⟩ : Pk) 97 #[.int .u64 (IntKind.u64.wrap ((x.n : Int) + (y.n : Int))), .slice A5 (x.y.length + y.y.length) c5] (by simp [pcell, HW.out])); clear ho5 hB5) | (refine step_appR pcell_len (by decide) pcell_one _ rfl _ _ 92 rfl i0 (.agg #[.int .u64 0, .slice none 0 0]) 32 Try.underlying92 HI.out.1 HI.out.2.1 HI.out.2.2.1 HI.out.2.2.2 rfl (by decide) rfl (HA.out _) rfl HDn.out rfl (le_of_len HP.out.1 hkn hn2) (le_of_sz hsz HS3.out H5.out.2 _) ?_; intro v1 w7 ho1 hg1 _; have k7 := keep4g k0 hg1 HS3.out H5.out.2 (fun k hk => (HP.out.2.2.1.block k hk).2) (by omega) (by omega) (by omega) (by omega); have HO1 := Lib.hid (And.intro ho1 hg1); clear ho1 hg1))
        clear x0 x1 y0 y1 k0 k7
        go_wp2_with fail
        go_roundg (n - 2 * (k + 1))
        case measure => have := HP.out.2.1; omega
        case rel =>
          obtain ⟨hk, hg, ho, hh, hB, hP⟩ := HP.out
          obtain ⟨r1, r2, r3, r4, r5⟩ := pairs_next hk ho hh hB hP HB3.out HS3.out H5.out.1 H5.out.2 HO1.out.1 HO1.out.2 hbase ⟨by rw [HXY.out.1, HXY.out.2], by rw [HXY.out.1, HXY.out.2], rfl⟩
          exact ⟨k + 1, _, by go_num, r1, by omega, Nat.le_refl _, r2, r3, r4, r5⟩
      · obtain ⟨⟨y0, y1⟩, ⟨x0, x1⟩, hB2, hs2⟩ := boxes2 wr 97 (.int .u64 (y.n : Int)) (.slice y.a y.l y.c) (.int .u64 (x.n : Int)) (.slice x.a x.l x.c)
        have HB2 := Lib.hid hB2
        have HW : Hid (IntKind.u64.wrap ((x.n : Int) + (y.n : Int)) = (x.n : Int) + (y.n : Int)) := by show _ = _; rw [IntKind.wrap_u64]; omega
        clear c0 c1 c2 c3 hB2
        generalize World.drew (World.alloc _ _) = w2 at *
        obtain ⟨w3, hw3⟩ : ∃ w3, w3 = (w2.alloc (.cells #[.slice x.a x.l x.c, .slice y.a y.l y.c] 22)).drew := ⟨_, rfl⟩
        have hs3 : w3.heap.size = wr.heap.size + 3 := by rw [hw3]; show (w2.alloc _).heap.size = _; rw [World.size_alloc, hs2]
        have hB3 : Below w2.heap.size w2 w3 := by rw [hw3]; exact ((Below.refl _ _).alloc (Nat.le_refl _) _).drew
        have K3 := Lib.hid (keep4 hB3 (by omega) (by omega) ⟨⟨x0, x1⟩, y0, y1⟩)
        have hBw3 : Below wr.heap.size wr w3 := HB2.out.trans (hB3.mono (by omega))
        have HC : Hid (Calls Try.prog 66 #[.slice (some ⟨w2.heap.size, 0, none⟩) 2 2] w3 fun e w' => ∃ v, e = .returned v ∧ OwR 1 bcel w' 5 w3.heap.size v (x.y ++ y.y) ∧ Below w3.heap.size w3 w') := by
          have hbx := Box.new w2 22 #[.slice x.a x.l x.c, .slice y.a y.l y.c]
          have h3 := ((HD.out.2.2.1.below HP.out.2.2.2.2.1 (Nat.le_refl _)).below hBw3 (Nat.le_refl _))
          have hox := h3 x (by rw [HXY.out.1]; exact get_mem _ _ (by rw [HD.out.2.1]; omega))
          have hoy := h3 y (by rw [HXY.out.2]; exact get_mem _ _ (by rw [HD.out.2.1]; omega))
          exact catB_any (by rw [hw3]; exact hbx.cell 0) (by rw [hw3]; exact hbx.cell 1) (hox.dat bcel_len) (hoy.dat bcel_len) hox.len hoy.len (by omega) (by omega) (Nat.le_refl _) (Nat.le_refl _)
        have HF : Hid (∀ w5, Below w3.heap.size w3 w5 → ∀ o, OwR 2 pcell (w5.alloc o) 97 w.heap.size u3 P) := fun w5 h5 o => (((HP.out.2.2.1.below hBw3 (Nat.le_refl _)).below h5 (Nat.le_refl _)).alloc o)
        have HB3 := Lib.hid hBw3
        have hlx1 : wr.heap.size < w2.heap.size := by omega
        have hlx2 : wr.heap.size + 1 < w2.heap.size := by omega
        have HS3 := Lib.hid hs3
        clear hB3 hBw3 hs2 hs3
        go_wp2_with fail
        go_region_held3 (fun w' => (w'.cell? ⟨wr.heap.size + 1, 0, none⟩ = some (.int .u64 (x.n : Int)) ∧ w'.cell? ⟨wr.heap.size + 1, 1, none⟩ = some (.slice x.a x.l x.c)) ∧ (w'.cell? ⟨wr.heap.size, 0, none⟩ = some (.int .u64 (y.n : Int)) ∧ w'.cell? ⟨wr.heap.size, 1, none⟩ = some (.slice y.a y.l y.c))) (first | exact ⟨⟨x0, x1⟩, y0, y1⟩ | exact K3.out | exact k0 | exact k7 | go_keep) (first | (go_at_call 66; rw [← hw3]; refine HC.out.mono ?_; rintro e' w5 ⟨v5, rfl, ho5, hB5⟩; obtain ⟨A5, c5, rfl, -, -⟩ := ho5.form bcel_len; have k0 : (w5.cell? ⟨wr.heap.size + 1, 0, none⟩ = some (.int .u64 (x.n : Int)) ∧ w5.cell? ⟨wr.heap.size + 1, 1, none⟩ = some (.slice x.a x.l x.c)) ∧ (w5.cell? ⟨wr.heap.size, 0, none⟩ = some (.int .u64 (y.n : Int)) ∧ w5.cell? ⟨wr.heap.size, 1, none⟩ = some (.slice y.a y.l y.c)) := keep4 hB5 (by rw [HS3.out]; omega) (by rw [HS3.out]; omega) K3.out; have H5 := Lib.hid (And.intro ho5 hB5); have HA := Lib.hid (HF.out w5 hB5); have HDn := Lib.hid (datR_one (f := pcell) (z := 2) w5 (⟨x.n + y.n, A5, (x.y ++ y.y).length, c5, x.y ++ y.y, false⟩ : Pk) 97 #[.int .u64 (IntKind.u64.wrap ((x.n : Int) + (y.n : Int))), .slice A5 (x.y.length + y.y.length) c5] (by simp [pcell, HW.out])); clear ho5 hB5) | (refine step_appR pcell_len (by decide) pcell_one _ rfl _ _ 92 rfl i0 (.agg #[.int .u64 0, .slice none 0 0]) 32 Try.underlying92 HI.out.1 HI.out.2.1 HI.out.2.2.1 HI.out.2.2.2 rfl (by decide) rfl (HA.out _) rfl HDn.out rfl (le_of_len HP.out.1 hkn hn2) (le_of_sz hsz HS3.out H5.out.2 _) ?_; intro v1 w7 ho1 hg1 _; have k7 := keep4g k0 hg1 HS3.out H5.out.2 (fun k hk => (HP.out.2.2.1.block k hk).2) (by omega) (by omega) (by omega) (by omega); have HO1 := Lib.hid (And.intro ho1 hg1); clear ho1 hg1))
        clear x0 x1 y0 y1 k0 k7
        go_wp2_with fail
        go_roundg (n - 2 * (k + 1))
        case measure => have := HP.out.2.1; omega
        case rel =>
          obtain ⟨hk, hg, ho, hh, hB, hP⟩ := HP.out
          obtain ⟨r1, r2, r3, r4, r5⟩ := pairs_next hk ho hh hB hP HB3.out HS3.out H5.out.1 H5.out.2 HO1.out.1 HO1.out.2 hbase ⟨by rw [HXY.out.1, HXY.out.2], by rw [HXY.out.1, HXY.out.2], rfl⟩
          exact ⟨k + 1, _, by go_num, r1, by omega, Nat.le_refl _, r2, r3, r4, r5⟩
    · have hltz : ¬ 2 * (k : Int) + 1 < (n : Int) := by omega
      have HP := Lib.hid (And.intro hk (And.intro ho (And.intro hh (And.intro hB hP))))
      clear hk hg ho hh hB hP
      go_wp2_with fail
      go_ret
      obtain ⟨hk, ho, hh, hB, hP⟩ := HP.out
      exact ⟨_, rfl, P, ho, hh, ⟨by rw [HD.out.2.1]; omega, hP⟩, hB⟩
end
end Go.Proofs.Ytafdfjacfodbnaa
