
/- The contract of the program's Read: of any bytes it tells what hdr says. -/
import Derived.Test.YtmominbmalhdoaaDoorFrmProg
namespace Go.Proofs.YtmominbmalhdoaaDoor
open Go.RowKit

/-- A header as a value; Read's answer. -/
def hv (r : Nat × Nat × Bool × Bool) : Value := .agg #[.int .u64 (r.1 : Int), .int .u64 (r.2.1 : Int), .bool r.2.2.1, .bool r.2.2.2]
def ansH (r : HR) : Value := .tuple #[hv r.1, .int .i64 (r.2.1 : Int), .int .i64 r.2.2]

/-- The bits of a head's first byte. -/
theorem bit8 : ∀ d : Nat, d < 256 → (bits .and .u64 (d : Int) 8 != 0) = decide (d / 8 % 2 = 1) := by decide +kernel
theorem bit4 : ∀ d : Nat, d < 256 → (bits .and .u64 (d : Int) 4 != 0) = decide (d / 4 % 2 = 1) := by decide +kernel
theorem bit32 : ∀ d : Nat, d < 256 → (bits .and .u64 (d : Int) 32 != 0) = oneB d := by decide +kernel
theorem bit3 : ∀ d : Nat, d < 256 → bits .and .u64 (d : Int) 3 = ((d % 4 : Nat) : Int) := by decide +kernel

/-- What holds while a head is read: the reader at g, its memory from lo on; the header's cells at q; the result's at p. -/
structure Inv (w W : World) (p lo g q : Nat) (s : List UInt8 × Int) (c0 c1 : Nat) (c2 c3 : Bool) : Prop where
  rd : RD true W lo g s.1 s.2
  gl : Glob W
  bl : Below w.heap.size w W
  hx : Box W q 26 #[.int .u64 (c0 : Int), .int .u64 (c1 : Int), .bool c2, .bool c3]
  rx : Box W p 26 #[.int .u64 0, .int .u64 0, .bool false, .bool false]
  o1 : w.heap.size ≤ p
  o2 : p < lo
  o3 : lo ≤ g
  o4 : g < q
  o5 : 2 ≤ w.heap.size

section
variable {w W W' : World} {p lo g q : Nat} {s s' : List UInt8 × Int} {c0 c1 : Nat} {c2 c3 : Bool}
theorem Inv.turn (h : Inv w W p lo g q s c0 c1 c2 c3) (hr : RD true W' lo g s'.1 s'.2) (hg : W.grownBy W' (some g)) : Inv w W' p lo g q s' c0 c1 c2 c3 where
  rd := hr
  gl := h.gl.grown hg (by have := h.o1; have := h.o2; have := h.o3; have := h.o5; omega)
  bl := h.bl.grown hg h.bl.size (fun k hk => by injection hk with hk; have := h.o1; have := h.o2; have := h.o3; omega)
  hx := h.hx.grown hg (fun e => by injection e with e; have := h.o4; omega)
  rx := h.rx.grown hg (fun e => by injection e with e; have := h.o2; have := h.o3; omega)
  o1 := h.o1
  o2 := h.o2
  o3 := h.o3
  o4 := h.o4
  o5 := h.o5
theorem Inv.put (h : Inv w W p lo g q s c0 c1 c2 c3) (i : Nat) (u : Value) {d0 d1 : Nat} {d2 d3 : Bool}
    (hu : (#[.int .u64 (c0 : Int), .int .u64 (c1 : Int), .bool c2, .bool c3] : Array Value).setIfInBounds i u = #[.int .u64 (d0 : Int), .int .u64 (d1 : Int), .bool d2, .bool d3]) :
    Inv w (W.setCell ⟨q, i, none⟩ u) p lo g q s d0 d1 d2 d3 where
  rd := h.rd.far (.inr h.o4) h.o3 u
  gl := h.gl.below (B := 2) ((Below.refl 2 W).setCell (by have := h.o1; have := h.o2; have := h.o3; have := h.o4; have := h.o5; show 2 ≤ q; omega) u) (Nat.le_refl _)
  bl := h.bl.setCell (by have := h.o1; have := h.o2; have := h.o3; have := h.o4; show w.heap.size ≤ q; omega) u
  hx := by have := h.hx.put i u; rwa [hu] at this
  rx := h.rx.far (by have := h.o2; have := h.o3; have := h.o4; show p ≠ q; omega) u
  o1 := h.o1
  o2 := h.o2
  o3 := h.o3
  o4 := h.o4
  o5 := h.o5
theorem Inv.cells (h : Inv w W p lo g q s c0 c1 c2 c3) :
    (W.cell? ⟨q, 0, none⟩ = some (.int .u64 (c0 : Int)) ∧ W.cell? ⟨q, 1, none⟩ = some (.int .u64 (c1 : Int)) ∧ W.cell? ⟨q, 2, none⟩ = some (.bool c2) ∧ W.cell? ⟨q, 3, none⟩ = some (.bool c3)) ∧
    (W.frozen? ⟨q, 0, none⟩ = false ∧ W.frozen? ⟨q, 1, none⟩ = false ∧ W.frozen? ⟨q, 2, none⟩ = false ∧ W.frozen? ⟨q, 3, none⟩ = false) :=
  ⟨⟨h.hx.cell 0, h.hx.cell 1, h.hx.cell 2, h.hx.cell 3⟩, h.hx.free 0, h.hx.free 1, h.hx.free 2, h.hx.free 3⟩
theorem Inv.res (h : Inv w W p lo g q s c0 c1 c2 c3) :
    (W.cell? ⟨p, 0, none⟩ = some (.int .u64 0) ∧ W.cell? ⟨p, 1, none⟩ = some (.int .u64 0) ∧ W.cell? ⟨p, 2, none⟩ = some (.bool false) ∧ W.cell? ⟨p, 3, none⟩ = some (.bool false)) ∧
    (W.frozen? ⟨p, 0, none⟩ = false ∧ W.frozen? ⟨p, 1, none⟩ = false ∧ W.frozen? ⟨p, 2, none⟩ = false ∧ W.frozen? ⟨p, 3, none⟩ = false) :=
  ⟨⟨h.rx.cell 0, h.rx.cell 1, h.rx.cell 2, h.rx.cell 3⟩, h.rx.free 0, h.rx.free 1, h.rx.free 2, h.rx.free 3⟩
/-- As a head begins to be read. -/
theorem Inv.start (hr : RD true W lo g s.1 s.2) (hgl : Glob W) (hbl : Below w.heap.size w W) (hrx : Box W p 26 #[.int .u64 0, .int .u64 0, .bool false, .bool false])
    (o1 : w.heap.size ≤ p) (o2 : p < lo) (o3 : lo ≤ g) (o5 : 2 ≤ w.heap.size) (b : Bool) :
    Inv w (W.alloc (.cells #[.int .u64 0, .int .u64 0, .bool false, .bool b] 26)) p lo g W.heap.size s 0 0 false b where
  rd := hr.alloc _
  gl := hgl.below ((Below.refl W.heap.size W).alloc (Nat.le_refl _) _) hgl.2.2
  bl := hbl.alloc hbl.size _
  hx := Box.new _ _ _
  rx := hrx.alloc _
  o1 := o1
  o2 := o2
  o3 := o3
  o4 := hr.lt
  o5 := o5
end

set_option maxRecDepth 100000 in
set_option maxHeartbeats 4000000 in
theorem read15_any {own : Bool} {w : World} {lo hi : Nat} {A : Option Addr} {n c : Nat} {xs : List UInt8} (hd : Dat own w lo hi A xs) (hn : xs.length = n) (hc : n ≤ c) (hb : xs.length ≤ 1099511627776) (hhi : hi ≤ w.heap.size) (hgl : Glob w) :
    Calls Tryd.prog 9 #[.slice A n c] w fun e w' => e = .returned (ansH (hdr xs)) ∧ Below w.heap.size w w' := by
  rw [← hdr_take xs]
  obtain ⟨k, hk⟩ : ∃ k, k = min n 14 := ⟨_, rfl⟩
  have hl : (xs.take 14).length = k := by rw [List.length_take, hn, hk]; omega
  have hmin : min (n : Int) 14 = (k : Int) := by omega
  have hkn : k ≤ n := by omega
  have hkc : k ≤ c := by omega
  have hnb : n ≤ 1099511627776 := by omega
  have hK := Lib.hid hk
  have hs2 := hgl.2.2
  have HD : Hid (Dat own (w.alloc (.cells #[.int .u64 0, .int .u64 0, .bool false, .bool false] 26)) lo hi A (xs.take 14)) := (hd.take 14).alloc hhi _
  have HG : Hid (Glob (w.alloc (.cells #[.int .u64 0, .int .u64 0, .bool false, .bool false] 26))) := hgl.below ((Below.refl w.heap.size w).alloc (Nat.le_refl _) _) hs2
  have HB : Hid (Below w.heap.size w (w.alloc (.cells #[.int .u64 0, .int .u64 0, .bool false, .bool false] 26))) := (Below.refl w.heap.size w).alloc (Nat.le_refl _) _
  have hX : Hid (Box (w.alloc (.cells #[.int .u64 0, .int .u64 0, .bool false, .bool false] 26)) w.heap.size 26 #[.int .u64 0, .int .u64 0, .bool false, .bool false]) := Box.new _ _ _
  have hR := Lib.hid (reader_any (n := k) (c := c) HD.out hl (by rw [hl]; omega) (by simp only [World.size_alloc]; omega))
  generalize xs.take 14 = ys at *
  clear hd hn hk hgl
  go_enter Tryd.func9, Tryd.ntmps9
  go_upto_region 1 with fail
  generalize w.alloc (.cells #[.int .u64 0, .int .u64 0, .bool false, .bool false] 26) = W0 at *
  go_cut [0] (fun b wx => b = .slice A k c ∧ W0 = wx)
  case first =>
    go_wp2_with fail
    · go_meet
      exact ⟨by have := hK.out; rw [show k = 14 by omega], rfl⟩
    · go_meet
      exact ⟨by have := hK.out; rw [show k = n by omega], rfl⟩
  case rest =>
    obtain ⟨rfl, rfl⟩ := hcut
    have hsz := HB.out.size
    go_upto_region 3 with (go_at_call 17; refine hR.out.mono ?_; rintro e' W1 ⟨g, rfl, hg, hrd, hB1⟩; have HRd := Lib.hid hrd; have HB1 := Lib.hid hB1; clear hrd hB1)
    have hN1 := Lib.hid (rnum_any (s := (ys, 0)) 1 (by decide) (by decide) HRd.out)
    have hx1 := Lib.hid (hX.out.below HB1.out hX.out.lt)
    have hg1 := Lib.hid (HG.out.below HB1.out HG.out.2.2)
    have hb1 := Lib.hid (HB.out.trans (HB1.out.mono hsz))
    have hpl := hX.out.lt
    obtain ⟨d, hd⟩ : ∃ d, d = (rdn (ys, 0) 1).2 := ⟨_, rfl⟩
    have hd8 : d < 256 := by rw [hd]; exact rdn_lt _ _
    obtain ⟨s1, hs1⟩ : ∃ s1, s1 = (rdn (ys, 0) 1).1 := ⟨_, rfl⟩
    rw [← hd, ← hs1] at hN1
    have hlen : (stZ (rdn (stW s1 d).1 (dwN (d % 4))).1 d).1.1.length ≤ k := by
      rw [← hl]
      refine Nat.le_trans (chain_len s1 d _) ?_
      rw [hs1]
      exact rdn_len _ _
    have HLn := Lib.hid hlen
    clear hlen
    have HZ : Hid (hdr ys = if d / 8 % 2 = 1 then hNone 11 else hFin ys.length d (stW s1 d).2 (rdn (stW s1 d).1 (dwN (d % 4))).2 (stZ (rdn (stW s1 d).1 (dwN (d % 4))).1 d)) := by unfold Hid hdr; dsimp only; rw [← hd, ← hs1]
    clear hd hs1
    have e8 := bit8 d hd8
    have e4 := bit4 d hd8
    have e32 := bit32 d hd8
    have e3 := bit3 d hd8
    have HZ1 : Hid (d / 8 % 2 = 1 → hdr ys = hNone 11) := fun hf => by have := HZ.out; rwa [if_pos hf] at this
    have HZ2 : Hid (¬ d / 8 % 2 = 1 → hdr ys = hFin ys.length d (stW s1 d).2 (rdn (stW s1 d).1 (dwN (d % 4))).2 (stZ (rdn (stW s1 d).1 (dwN (d % 4))).1 d)) := fun hf => by have := HZ.out; rwa [if_neg hf] at this
    obtain ⟨b8, hb8⟩ : ∃ b, b = decide (d / 8 % 2 = 1) := ⟨_, rfl⟩
    obtain ⟨sm, hsm⟩ : ∃ b, b = decide (d / 4 % 2 = 1) := ⟨_, rfl⟩
    obtain ⟨on, hon⟩ : ∃ b, b = oneB d := ⟨_, rfl⟩
    rw [← hb8] at e8
    rw [← hsm] at e4
    rw [← hon] at e32
    have HM8 := Lib.hid hb8
    have HSm := Lib.hid hsm
    have HOn := Lib.hid hon
    clear HZ hb8 hsm hon
    go_upto_if 22 with (go_at_call 18; refine hN1.out.mono ?_; rintro e' W2 ⟨rfl, hr2, hS2⟩; have HR2 := Lib.hid hr2; have HS2 := Lib.hid hS2; clear hr2 hS2)
    have hb2 := Lib.hid (hb1.out.grown HS2.out.1 hb1.out.size (fun k hk => by injection hk with hk; omega))
    have hg2 := Lib.hid (hg1.out.grown HS2.out.1 (by omega))
    have hx2 := Lib.hid (hx1.out.grown HS2.out.1 (fun e => by injection e with e; omega))
    cases b8 with
    | true =>
      have hz : Hid (hdr ys = hNone 11) := HZ1.out (of_decide_eq_true HM8.out.symm)
      have c0 := hx2.out.cell 0
      have c1 := hx2.out.cell 1
      have c2 := hx2.out.cell 2
      have c3 := hx2.out.cell 3
      simp at c0 c1 c2 c3
      have f0 := hx2.out.free 0
      have f1 := hx2.out.free 1
      have f2 := hx2.out.free 2
      have f3 := hx2.out.free 3
      clear HZ1 HZ2 e4 e32 e3
      go_wp2_with fail
      exact bodyPost_ret (v := ansH (hNone 11)) (by simp [results, Tryd.results9, go_sem, ansH, hv, hNone, *]) rfl ⟨by rw [hz.out], by repeat (first | exact hb2.out | refine Below.setCell ?_ (by simp) _)⟩
    | false =>
      have HZ := Lib.hid (HZ2.out (of_decide_eq_false HM8.out.symm))
      clear HZ1 HZ2
      go_upto_if 32 with fail
      have hi := Inv.start (w := w) (s := s1) HR2.out hg2.out hb2.out hx2.out (Nat.le_refl _) (by omega) hg hs2 sm
      have hwd := W2.size_alloc (.cells #[.int .u64 0, .int .u64 0, .bool false, .bool sm] 26)
      generalize W2.alloc (.cells #[.int .u64 0, .int .u64 0, .bool false, .bool sm] 26) = W3 at *
      generalize W2.heap.size = q at *
      clear hb2 hg2 hx2 hb1 hg1 hx1 HR2 HS2 hN1 hR HRd HD HB1 HB HG hX hwd
      generalize W0.heap.size = lw at *
      generalize hpp : w.heap.size = p at *
      have HI := Lib.hid hi
      clear hi
      have hw8 : (stW s1 d).2 < 256 := by
        unfold stW
        split
        · show 0 < 256
          decide
        · exact rdn_lt _ _
      obtain ⟨s2, h2⟩ : ∃ s2, s2 = (stW s1 d).1 := ⟨_, rfl⟩
      obtain ⟨wv, hwv⟩ : ∃ wv, wv = (stW s1 d).2 := ⟨_, rfl⟩
      rw [← hwv] at hw8
      have H2 : Hid (stW s1 d = (s2, wv)) := by rw [h2, hwv]; rfl
      rw [← h2, ← hwv] at HZ
      rw [← h2] at HLn
      clear h2 hwv
      go_cut [] (fun wx => ∃ c0, c0 = (if on then 0 else winN wv) ∧ Inv w wx p lw g q s2 c0 0 false sm)
      case first =>
        cases on with
        | true =>
          have hs : Hid (s1 = s2 ∧ wv = 0) := by have := H2.out; unfold stW at this; rw [← HOn.out, if_pos rfl] at this; injection this with a b; exact ⟨a, b.symm⟩
          go_wp2_with fail
          go_meet
          refine ⟨_, rfl, ?_⟩
          rw [← hs.out.1]
          exact HI.out
        | false =>
          have hs : Hid (rdn s1 1 = (s2, wv)) := by have := H2.out; unfold stW at this; rwa [← HOn.out, if_neg (by decide)] at this
          have hN2 := Lib.hid (rnum_any (s := s1) 1 (by decide) (by decide) HI.out.rd)
          rw [hs.out] at hN2
          have hW := Lib.hid (fun W => window_any wv hw8 W)
          go_wp2_with (first
            | (go_at_call 18; refine hN2.out.mono ?_; rintro e' W4 ⟨rfl, hr4, hS4⟩; have HI4 := Lib.hid (HI.out.turn (s' := s2) hr4 hS4.1); clear hr4 hS4; obtain ⟨⟨z0, z1, z2, z3⟩, y0, y1, y2, y3⟩ := HI4.out.cells)
            | (go_at_call 19; refine (hW.out _).mono ?_; rintro e' W5 ⟨rfl, rfl⟩))
          go_meet
          exact ⟨_, rfl, HI4.out.put 0 _ rfl⟩
      case rest =>
        obtain ⟨c0, hc0, hI2⟩ := hcut
        have HC0 := Lib.hid hc0
        clear hc0
        obtain ⟨m4, hm4⟩ : ∃ m, m = d % 4 := ⟨_, rfl⟩
        obtain ⟨fo, hfo⟩ : ∃ m, m = d / 64 := ⟨_, rfl⟩
        rw [← hm4] at e3
        have hm4l : m4 < 4 := by omega
        have hfol : fo < 4 := by omega
        have hfoi : (d : Int) / 64 = (fo : Int) := by omega
        obtain ⟨s3, h3⟩ : ∃ s, s = (rdn s2 (dwN (d % 4))).1 := ⟨_, rfl⟩
        obtain ⟨dv, hdv⟩ : ∃ s, s = (rdn s2 (dwN (d % 4))).2 := ⟨_, rfl⟩
        have hN3 := Lib.hid (number0_any (s := s2) (dwN (d % 4)) (Nat.le_trans (dw_le _ (by omega)) (by decide)) hI2.rd)
        rw [← h3, ← hdv] at hN3 HZ
        rw [← h3] at HLn
        have qd := hI2.gl.1 m4 hm4l
        rw [← hm4] at hN3
        have HI2 := Lib.hid hI2
        have HM4 := Lib.hid hm4
        have HFo := Lib.hid hfo
        obtain ⟨D4, hD4⟩ : ∃ D4, D4 = dwN m4 := ⟨_, rfl⟩
        rw [← hD4] at qd hN3
        clear h3 hdv hI2 hm4 hfo hD4
        obtain ⟨kn, hkn'⟩ : ∃ b, b = knB d := ⟨_, rfl⟩
        have HKn := Lib.hid hkn'
        have HKo : Hid (kn = (on || decide (0 < fo))) := by rw [hkn', HOn.out, HFo.out]; rfl
        clear hkn'
        go_upto_region 12 with (go_at_call 20; refine hN3.out.mono ?_; rintro e' W4 ⟨rfl, hr4, hS4⟩; have HI4 := Lib.hid (HI2.out.turn (s' := s3) hr4 hS4.1); clear hr4 hS4; obtain ⟨⟨z0, z1, z2, z3⟩, y0, y1, y2, y3⟩ := HI4.out.cells)
        clear hN3 qd HI2
        go_cut [] (fun wx => Inv w wx p lw g q s3 c0 0 kn sm)
        case first =>
          cases on with
          | true =>
            obtain rfl : kn = true := by rw [HKo.out]; rfl
            go_wp2_with fail
            go_meet
            exact HI4.out.put 2 _ rfl
          | false =>
            have hk2 : Hid (decide (0 < fo) = kn) := by rw [HKo.out]; rfl
            go_wp2_with fail
            go_meet
            rw [hk2.out]
            exact HI4.out.put 2 _ rfl
        case rest =>
          have HI5 := Lib.hid hcut
          clear hcut z0 z1 z2 z3 y0 y1 y2 y3 HI4
          obtain ⟨⟨z0, z1, z2, z3⟩, y0, y1, y2, y3⟩ := HI5.out.cells
          go_upto_if 52 with fail
          obtain ⟨s4, h4⟩ : ∃ s, s = (stZ s3 d).1 := ⟨_, rfl⟩
          obtain ⟨zv, hzv⟩ : ∃ s, s = (stZ s3 d).2 := ⟨_, rfl⟩
          have H4 : Hid (stZ s3 d = (s4, zv)) := by rw [h4, hzv]; rfl
          rw [H4.out] at HZ HLn
          clear h4 hzv
          go_cut [] (fun wx => Inv w wx p lw g q s4 c0 zv kn sm)
          case first =>
            cases kn with
            | false =>
              have hs : Hid (s3 = s4 ∧ 0 = zv) := by have := H4.out; unfold stZ at this; rw [← HKn.out, if_neg (by decide)] at this; injection this with a b; exact ⟨a, b⟩
              go_wp2_with fail
              go_meet
              rw [← hs.out.1, ← hs.out.2]
              exact HI5.out
            | true =>
              have hs : Hid ((rdn s3 (swN fo)).1 = s4 ∧ ((rdn s3 (swN fo)).2 + frN fo) % 18446744073709551616 = zv) := by have := H4.out; unfold stZ at this; rw [← HKn.out, if_pos rfl, ← HFo.out] at this; injection this with a b; exact ⟨a, b⟩
              obtain ⟨q0, q1⟩ := HI5.out.gl.2.1 fo hfol
              have hN4 := Lib.hid (sread_any (s := s3) fo hfol HI5.out.rd)
              rw [hs.out.1, hs.out.2] at hN4
              unfold sfv at hN4
              go_wp2_with (go_at_call 21; refine hN4.out.mono ?_; rintro e' W6 ⟨rfl, hr4, hS4⟩; have HI6 := Lib.hid (HI5.out.turn (s' := s4) hr4 hS4); clear hr4 hS4; obtain ⟨⟨z0, z1, z2, z3⟩, y0, y1, y2, y3⟩ := HI6.out.cells)
              go_meet
              exact HI6.out.put 1 _ rfl
          case rest =>
            have HI6 := Lib.hid hcut
            clear hcut z0 z1 z2 z3 y0 y1 y2 y3 HI5
            go_upto_if 59 with fail
            obtain ⟨wn, hwn⟩ : ∃ x, x = (if on then zv else winN wv) := ⟨_, rfl⟩
            have HWn := Lib.hid hwn
            clear hwn
            go_cut [] (fun wx => Inv w wx p lw g q s4 wn zv kn sm)
            case first =>
              obtain ⟨⟨z0, z1, z2, z3⟩, y0, y1, y2, y3⟩ := HI6.out.cells
              cases on with
              | true =>
                have hs : Hid (zv = wn) := by rw [HWn.out]; rfl
                go_wp2_with fail
                go_meet
                have h := HI6.out.put (d0 := zv) 0 (.int .u64 (zv : Int)) rfl
                rw [← hs.out]
                exact h
              | false =>
                have hs : Hid (c0 = wn) := by rw [HC0.out, HWn.out]; rfl
                go_wp2_with fail
                go_meet
                rw [← hs.out]
                exact HI6.out
            case rest =>
              have HI7 := Lib.hid hcut
              clear hcut HI6
              obtain ⟨⟨z0, z1, z2, z3⟩, y0, y1, y2, y3⟩ := HI7.out.cells
              obtain ⟨⟨r0, r1, r2, r3⟩, t0, t1, t2, t3⟩ := HI7.out.res
              have hEr := Lib.hid (rd_err HI7.out.rd)
              have hLf := Lib.hid (rd_left (w := wc.drew) HI7.out.rd)
              have hZ := HZ.out
              unfold hFin at hZ
              rw [← HOn.out, ← HKn.out, ← HSm.out, ← HWn.out] at hZ
              dsimp only at hZ
              obtain ⟨e4v, he4⟩ : ∃ e, e = s4.2 := ⟨_, rfl⟩
              obtain ⟨l4, hl4⟩ : ∃ e, e = s4.1.length := ⟨_, rfl⟩
              rw [← he4] at hZ hEr
              rw [← hl4, hl] at hZ
              rw [← hl4] at hLf
              have HL4 : Hid (l4 ≤ k) := by have := HLn.out; rw [hl4]; exact this
              have HB7 : Hid (Below p w wc) := by unfold Hid; rw [← hpp]; exact HI7.out.bl
              clear he4 hl4 HLn
              have HZ' := Lib.hid hZ
              clear hZ HZ
              by_cases hez : e4v = 0
              · have hzz : Hid (hdr ys = if dv ≠ 0 then hNone 14 else ((wn, zv, kn, sm), k - l4, 0)) := by have := HZ'.out; rwa [if_neg (by simpa using hez)] at this
                subst hez
                by_cases hdz : dv = 0
                · have hzz' : Hid (hdr ys = ((wn, zv, kn, sm), k - l4, 0)) := by have := hzz.out; rwa [if_neg (by simpa using hdz)] at this
                  subst hdz
                  clear HZ' hzz
                  go_upto_region 21 with (go_at_call 22; refine hEr.out.mono ?_; rintro e' w' ⟨rfl, rfl⟩)
                  have hkl : Hid (IntKind.i64.wrap ((k : Int) - (l4 : Int)) = ((k - l4 : Nat) : Int)) := by have := HL4.out; unfold Hid; rw [IntWalk.i64_in _ (by omega)]; omega
                  have hko := hkl.out
                  have hpq : p ≠ q := by have := HI7.out.o2; have := HI7.out.o3; have := HI7.out.o4; omega
                  go_region_held3 (fun w' => w'.cell? ⟨q, 0, none⟩ = some (.int .u64 (wn : Int)) ∧ w'.cell? ⟨q, 1, none⟩ = some (.int .u64 (zv : Int)) ∧ w'.cell? ⟨q, 2, none⟩ = some (.bool kn) ∧ w'.cell? ⟨q, 3, none⟩ = some (.bool sm)) (first | exact ⟨z0, z1, z2, z3⟩ | go_keep) ((go_at_call 23; refine hLf.out.mono ?_; rintro e' w' ⟨rfl, rfl⟩))
                  have hBe : Hid (Below p w ((((wc.setCell ⟨p, 0, none⟩ (.int .u64 (wn : Int))).setCell ⟨p, 1, none⟩ (.int .u64 (zv : Int))).setCell ⟨p, 2, none⟩ (.bool kn)).setCell ⟨p, 3, none⟩ (.bool sm)).drew) := Below.drew (Below.setCell (Below.setCell (Below.setCell (Below.setCell HB7.out (Nat.le_refl _) _) (Nat.le_refl _) _) (Nat.le_refl _) _) (Nat.le_refl _) _)
                  have hBx : Hid (Box ((((wc.setCell ⟨p, 0, none⟩ (.int .u64 (wn : Int))).setCell ⟨p, 1, none⟩ (.int .u64 (zv : Int))).setCell ⟨p, 2, none⟩ (.bool kn)).setCell ⟨p, 3, none⟩ (.bool sm)).drew p 26 #[.int .u64 (wn : Int), .int .u64 (zv : Int), .bool kn, .bool sm]) := by
                    have h := (((HI7.out.rx.put 0 (.int .u64 (wn : Int))).put 1 (.int .u64 (zv : Int))).put 2 (.bool kn)).put 3 (.bool sm)
                    exact h
                  generalize ((((wc.setCell ⟨p, 0, none⟩ (.int .u64 (wn : Int))).setCell ⟨p, 1, none⟩ (.int .u64 (zv : Int))).setCell ⟨p, 2, none⟩ (.bool kn)).setCell ⟨p, 3, none⟩ (.bool sm)).drew = WE at *
                  have v0 := hBx.out.cell 0
                  have v1 := hBx.out.cell 1
                  have v2 := hBx.out.cell 2
                  have v3 := hBx.out.cell 3
                  simp at v0 v1 v2 v3
                  go_wp2_with fail
                  exact bodyPost_ret (v := ansH ((wn, zv, kn, sm), k - l4, 0)) (by simp [results, Tryd.results9, go_sem, ansH, hv, *]) rfl ⟨by rw [hzz'.out], by rw [hpp]; exact hBe.out⟩
                · have hzz' : Hid (hdr ys = hNone 14) := by have := hzz.out; rwa [if_pos (by simpa using hdz)] at this
                  have hdb : ((dv : Int) != 0) = true := by simpa using hdz
                  clear HZ' hzz
                  go_wp2_with (go_at_call 22; refine hEr.out.mono ?_; rintro e' w' ⟨rfl, rfl⟩)
                  exact bodyPost_ret (v := ansH (hNone 14)) (by simp [results, Tryd.results9, go_sem, ansH, hv, hNone, *]) rfl ⟨by rw [hzz'.out], by rw [hpp]; repeat (first | exact HB7.out | refine Below.setCell ?_ (by simp) _)⟩
              · have hzz : Hid (hdr ys = hNone e4v) := by have := HZ'.out; rwa [if_pos (by simpa using hez)] at this
                have heb : (e4v != 0) = true := by simpa using hez
                clear HZ'
                go_wp2_with (go_at_call 22; refine hEr.out.mono ?_; rintro e' w' ⟨rfl, rfl⟩)
                exact bodyPost_ret (v := ansH (hNone e4v)) (by simp [results, Tryd.results9, go_sem, ansH, hv, hNone, *]) rfl ⟨by rw [hzz.out], by rw [hpp]; repeat (first | exact HB7.out | refine Below.setCell ?_ (by simp) _)⟩
end Go.Proofs.YtmominbmalhdoaaDoor
