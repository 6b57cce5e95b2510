
/- The contract of the document's Read: of any bytes it tells what hdr says. -/
import Derived.Test.YtmominbmalhdoaaDoorFrmRef
namespace Go.Proofs.YtmominbmalhdoaaDoor
open Go.RowKit

/-- What holds while the document reads a head: its reader at a, the header's cells at q, the result's at p. -/
structure InF (w W : World) (p a q : Nat) (s : List UInt8 × Int) (c0 c1 : Nat) (c2 c3 : Bool) : Prop where
  ax : Box W a 65 #[.string (str s.1), .int .i64 s.2]
  bl : Below w.heap.size w W
  hx : Box W q 30 #[.int .u64 (c0 : Int), .int .u64 (c1 : Int), .bool c2, .bool c3]
  rx : Box W p 30 #[.int .u64 0, .int .u64 0, .bool false, .bool false]
  o1 : w.heap.size ≤ p
  o2 : p < q
  o3 : q < a

section
variable {w W W' : World} {p a q : Nat} {s s' : List UInt8 × Int} {c0 c1 : Nat} {c2 c3 : Bool}
theorem InF.turn (h : InF w W p a q s c0 c1 c2 c3) (hb : Below W.heap.size W W') : InF w W' p a q s c0 c1 c2 c3 :=
  ⟨h.ax.below hb h.ax.lt, h.bl.trans (hb.mono h.bl.size), h.hx.below hb h.hx.lt, h.rx.below hb h.rx.lt, h.o1, h.o2, h.o3⟩
theorem InF.alloc (h : InF w W p a q s c0 c1 c2 c3) (o : Obj) : InF w (W.alloc o) p a q s c0 c1 c2 c3 := h.turn ((Below.refl W.heap.size W).alloc (Nat.le_refl _) _)
theorem InF.far (h : InF w W p a q s c0 c1 c2 c3) {x : Addr} (hx : a < x.block) (u : Value) : InF w (W.setCell x u) p a q s c0 c1 c2 c3 where
  ax := h.ax.far (by omega) u
  bl := h.bl.setCell (by have := h.o1; have := h.o2; have := h.o3; omega) u
  hx := h.hx.far (by have := h.o3; omega) u
  rx := h.rx.far (by have := h.o2; have := h.o3; omega) u
  o1 := h.o1
  o2 := h.o2
  o3 := h.o3
theorem InF.put (h : InF w W p a q s c0 c1 c2 c3) (i : Nat) (u : Value) {d0 d1 : Nat} {d2 d3 : Bool}
    (hu : (#[.int .u64 (c0 : Int), .int .u64 (c1 : Int), .bool c2, .bool c3] : Array Value).setIfInBounds i u = #[.int .u64 (d0 : Int), .int .u64 (d1 : Int), .bool d2, .bool d3]) :
    InF w (W.setCell ⟨q, i, none⟩ u) p a q s d0 d1 d2 d3 where
  ax := h.ax.far (by have := h.o3; show a ≠ q; omega) u
  bl := h.bl.setCell (by have := h.o1; have := h.o2; show w.heap.size ≤ q; omega) u
  hx := by have := h.hx.put i u; rwa [hu] at this
  rx := h.rx.far (by have := h.o2; show p ≠ q; omega) u
  o1 := h.o1
  o2 := h.o2
  o3 := h.o3
theorem InF.rd (h : InF w W p a q s c0 c1 c2 c3) (s' : List UInt8 × Int) : InF w ((W.setCell ⟨a, 0, none⟩ (.string (str s'.1))).setCell ⟨a, 1, none⟩ (.int .i64 s'.2)) p a q s' c0 c1 c2 c3 where
  ax := (h.ax.put 0 _).put 1 _
  bl := (h.bl.setCell (by have := h.o1; have := h.o2; have := h.o3; show w.heap.size ≤ a; omega) _).setCell (by have := h.o1; have := h.o2; have := h.o3; show w.heap.size ≤ a; omega) _
  hx := (h.hx.far (by have := h.o3; show q ≠ a; omega) _).far (by have := h.o3; show q ≠ a; omega) _
  rx := (h.rx.far (by have := h.o2; have := h.o3; show p ≠ a; omega) _).far (by have := h.o2; have := h.o3; show p ≠ a; omega) _
  o1 := h.o1
  o2 := h.o2
  o3 := h.o3
theorem InF.cells (h : InF w W p a q s c0 c1 c2 c3) :
    (W.cell? ⟨q, 0, none⟩ = some (.int .u64 (c0 : Int)) ∧ W.cell? ⟨q, 1, none⟩ = some (.int .u64 (c1 : Int)) ∧ W.cell? ⟨q, 2, none⟩ = some (.bool c2) ∧ W.cell? ⟨q, 3, none⟩ = some (.bool c3)) ∧
    (W.frozen? ⟨q, 0, none⟩ = false ∧ W.frozen? ⟨q, 1, none⟩ = false ∧ W.frozen? ⟨q, 2, none⟩ = false ∧ W.frozen? ⟨q, 3, none⟩ = false) :=
  ⟨⟨h.hx.cell 0, h.hx.cell 1, h.hx.cell 2, h.hx.cell 3⟩, h.hx.free 0, h.hx.free 1, h.hx.free 2, h.hx.free 3⟩
theorem InF.res (h : InF w W p a q s c0 c1 c2 c3) :
    (W.cell? ⟨p, 0, none⟩ = some (.int .u64 0) ∧ W.cell? ⟨p, 1, none⟩ = some (.int .u64 0) ∧ W.cell? ⟨p, 2, none⟩ = some (.bool false) ∧ W.cell? ⟨p, 3, none⟩ = some (.bool false)) ∧
    (W.frozen? ⟨p, 0, none⟩ = false ∧ W.frozen? ⟨p, 1, none⟩ = false ∧ W.frozen? ⟨p, 2, none⟩ = false ∧ W.frozen? ⟨p, 3, none⟩ = false) :=
  ⟨⟨h.rx.cell 0, h.rx.cell 1, h.rx.cell 2, h.rx.cell 3⟩, h.rx.free 0, h.rx.free 1, h.rx.free 2, h.rx.free 3⟩
/-- The result's cells once they are told. -/
theorem InF.done (h : InF w W p a q s c0 c1 c2 c3) (v0 v1 : Nat) (v2 v3 : Bool) :
    Below w.heap.size w ((((W.setCell ⟨p, 0, none⟩ (.int .u64 (v0 : Int))).setCell ⟨p, 1, none⟩ (.int .u64 (v1 : Int))).setCell ⟨p, 2, none⟩ (.bool v2)).setCell ⟨p, 3, none⟩ (.bool v3)).drew ∧
    Box ((((W.setCell ⟨p, 0, none⟩ (.int .u64 (v0 : Int))).setCell ⟨p, 1, none⟩ (.int .u64 (v1 : Int))).setCell ⟨p, 2, none⟩ (.bool v2)).setCell ⟨p, 3, none⟩ (.bool v3)).drew p 30 #[.int .u64 (v0 : Int), .int .u64 (v1 : Int), .bool v2, .bool v3] :=
  ⟨Below.drew (Below.setCell (Below.setCell (Below.setCell (Below.setCell h.bl h.o1 _) h.o1 _) h.o1 _) h.o1 _), (((h.rx.put 0 _).put 1 _).put 2 _).put 3 _⟩
theorem InF.head (h : InF w W p a q s c0 c1 c2 c3) :
    (W.cell? ⟨a, 0, none⟩ = some (.string (str s.1)) ∧ W.cell? ⟨a, 1, none⟩ = some (.int .i64 s.2)) ∧ (W.frozen? ⟨a, 0, none⟩ = false ∧ W.frozen? ⟨a, 1, none⟩ = false) :=
  ⟨⟨h.ax.cell 0, h.ax.cell 1⟩, h.ax.free 0, h.ax.free 1⟩
end

set_option maxRecDepth 100000 in
set_option maxHeartbeats 4000000 in
theorem refRead15_any (xs : List UInt8) (hb : xs.length ≤ 1099511627776) (w : World) :
    Calls Tryd.prog 10 #[.string (str xs)] w fun e w' => e = .returned (ansH (hdr xs)) ∧ Below w.heap.size w w' := by
  have hN1 := fun W => Lib.hid (refNum_any (xs, 0) 1 (by decide) (by decide) W)
  obtain ⟨d, hd⟩ : ∃ d, d = (rdn (xs, 0) 1).2 := ⟨_, rfl⟩
  have hd8 : d < 256 := by rw [hd]; exact rdn_lt _ _
  obtain ⟨s1, hs1⟩ : ∃ s1, s1 = (rdn (xs, 0) 1).1 := ⟨_, rfl⟩
  have HE1 : Hid (s1.2 ≠ 0 → hdr xs = hNone s1.2) := by
    intro h
    have hx : rdn (xs, 0) 1 = ((xs, 10), 0) := by
      refine rdn_short (by decide) ?_
      by_cases hl : xs.length < 1
      · exact hl
      · rw [hs1, rdn_ok (by omega)] at h
        exact absurd rfl h
    have hs : s1 = (xs, 10) := by rw [hs1, hx]
    have ha : ∀ m, rdn (xs, 10) m = ((xs, 10), 0) := fun m => rdn_err (by decide)
    rw [hs]
    unfold hdr
    rw [hx]
    dsimp only
    rw [if_neg (by decide)]
    unfold stW
    rw [if_neg (by decide), ha]
    dsimp only
    rw [ha]
    unfold stZ
    rw [if_neg (by decide)]
    unfold hFin
    rfl
  have hlen : (stZ (rdn (stW s1 d).1 (dwN (d % 4))).1 d).1.1.length ≤ xs.length := by
    refine Nat.le_trans (chain_len s1 d _) ?_
    rw [hs1]
    exact rdn_len _ _
  have HLn := Lib.hid hlen
  have HZ : Hid (hdr xs = if d / 8 % 2 = 1 then hNone 11 else hFin xs.length d (stW s1 d).2 (rdn (stW s1 d).1 (dwN (d % 4))).2 (stZ (rdn (stW s1 d).1 (dwN (d % 4))).1 d)) := by unfold Hid hdr; dsimp only; rw [← hd, ← hs1]
  have HZ1 : Hid (d / 8 % 2 = 1 → hdr xs = hNone 11) := fun hf => by have := HZ.out; rwa [if_pos hf] at this
  have HZ2 : Hid (¬ d / 8 % 2 = 1 → hdr xs = hFin xs.length d (stW s1 d).2 (rdn (stW s1 d).1 (dwN (d % 4))).2 (stZ (rdn (stW s1 d).1 (dwN (d % 4))).1 d)) := fun hf => by have := HZ.out; rwa [if_neg hf] at this
  rw [← hd, ← hs1] at hN1
  clear hlen hd hs1 HZ
  dsimp only at hN1
  obtain ⟨R, hR⟩ : ∃ R, R = hdr xs := ⟨_, rfl⟩
  rw [← hR] at HZ1 HZ2 HE1 ⊢
  clear hR
  have hsz := str_size xs
  obtain ⟨S, hS⟩ : ∃ S, S = str xs := ⟨_, rfl⟩
  rw [← hS] at hN1 hsz ⊢
  obtain ⟨L, hL⟩ : ∃ L, L = xs.length := ⟨_, rfl⟩
  rw [← hL] at hsz hb HLn HZ2
  clear hS hL
  obtain ⟨S1, hS1⟩ : ∃ S1, S1 = str s1.1 := ⟨_, rfl⟩
  obtain ⟨e1, he1⟩ : ∃ e1, e1 = s1.2 := ⟨_, rfl⟩
  rw [← hS1, ← he1] at hN1
  have HS1 := Lib.hid hS1
  have He1 := Lib.hid he1
  clear hS1 he1
  go_enter Tryd.func10, Tryd.ntmps10
  go_upto_if 25 with (go_at_call 24; refine (hN1 _).out.mono ?_; rintro e' W1 ⟨rfl, hB⟩; have HB := Lib.hid hB; clear hB)
  have hi : InF w (W1.alloc (.cells #[.string S1, .int .i64 e1] 65)) w.heap.size W1.heap.size (w.heap.size + 1) s1 0 0 false false := by
    obtain ⟨hb1, hb2, hs1, hb3⟩ := two_boxes HB.out
    refine ⟨?_, hb3.alloc (by omega) _, hb2.alloc _, hb1.alloc _, Nat.le_refl _, by omega, by omega⟩
    rw [← HS1.out, ← He1.out]
    exact Box.new _ _ _
  generalize W1.alloc (.cells #[.string S1, .int .i64 e1] 65) = W2 at *
  generalize W1.heap.size = a at *
  clear HB hN1
  obtain ⟨q, hq⟩ : ∃ q, q = w.heap.size + 1 := ⟨_, rfl⟩
  rw [← hq] at hi ⊢
  generalize hpp : w.heap.size = p at *
  have HI := Lib.hid hi
  have HQ := Lib.hid hq
  clear hi hq
  by_cases he : e1 = 0
  case neg =>
    have hR : Hid (R = hNone e1) := by rw [He1.out]; exact HE1.out (by rw [← He1.out]; exact he)
    have heb : (e1 != 0) = true := by simpa using he
    obtain ⟨⟨z0, z1, z2, z3⟩, y0, y1, y2, y3⟩ := HI.out.cells
    obtain ⟨⟨r0, r1, r2, r3⟩, t0, t1, t2, t3⟩ := HI.out.res
    obtain ⟨⟨a0, a1⟩, g0, g1⟩ := HI.out.head
    rw [← He1.out] at a1
    clear HZ1 HZ2 HE1 HLn
    have hpq : p ≠ q := by have := HI.out.o2; omega
    have hpa : p ≠ a := by have := HI.out.o2; have := HI.out.o3; omega
    go_upto_region 4 with fail
    go_region_held3 (fun w' => w'.cell? ⟨q, 0, none⟩ = some (.int .u64 0) ∧ w'.cell? ⟨q, 1, none⟩ = some (.int .u64 0) ∧ w'.cell? ⟨q, 2, none⟩ = some (.bool false) ∧ w'.cell? ⟨q, 3, none⟩ = some (.bool false) ∧ w'.cell? ⟨a, 1, none⟩ = some (.int .i64 e1)) (first | exact ⟨z0, z1, z2, z3, a1⟩ | go_keep) (fail)
    obtain ⟨hbe, hbx⟩ := HI.out.done 0 0 false false
    rw [hpp] at hbe
    change Below p w ((((W2.setCell ⟨p, 0, none⟩ (.int .u64 0)).setCell ⟨p, 1, none⟩ (.int .u64 0)).setCell ⟨p, 2, none⟩ (.bool false)).setCell ⟨p, 3, none⟩ (.bool false)).drew at hbe
    change Box ((((W2.setCell ⟨p, 0, none⟩ (.int .u64 0)).setCell ⟨p, 1, none⟩ (.int .u64 0)).setCell ⟨p, 2, none⟩ (.bool false)).setCell ⟨p, 3, none⟩ (.bool false)).drew p _ #[.int .u64 0, .int .u64 0, .bool false, .bool false] at hbx
    have HBe := Lib.hid hbe
    have HBx := Lib.hid hbx
    clear hbe hbx
    generalize ((((W2.setCell ⟨p, 0, none⟩ (.int .u64 0)).setCell ⟨p, 1, none⟩ (.int .u64 0)).setCell ⟨p, 2, none⟩ (.bool false)).setCell ⟨p, 3, none⟩ (.bool false)).drew = WE at *
    have v0 := HBx.out.cell 0
    have v1 := HBx.out.cell 1
    have v2 := HBx.out.cell 2
    have v3 := HBx.out.cell 3
    simp at v0 v1 v2 v3
    go_wp2_with fail
    exact bodyPost_ret (v := ansH (hNone e1)) (by simp [results, Tryd.results10, go_sem, ansH, hv, hNone, *]) rfl ⟨by rw [hR.out], by rw [hpp]; exact HBe.out⟩
  case pos =>
    subst he
    clear HE1
    obtain ⟨d8, hd8'⟩ : ∃ x, x = d / 8 := ⟨_, rfl⟩
    obtain ⟨d4, hd4'⟩ : ∃ x, x = d / 4 := ⟨_, rfl⟩
    obtain ⟨d32, hd32'⟩ : ∃ x, x = d / 32 := ⟨_, rfl⟩
    obtain ⟨m8, hm8⟩ : ∃ x, x = d8 % 2 := ⟨_, rfl⟩
    obtain ⟨m4s, hm4s⟩ : ∃ x, x = d4 % 2 := ⟨_, rfl⟩
    obtain ⟨m32, hm32⟩ : ∃ x, x = d32 % 2 := ⟨_, rfl⟩
    have i8 : (d : Int) / 8 = (d8 : Int) := by omega
    have i4 : (d : Int) / 4 = (d4 : Int) := by omega
    have i32 : (d : Int) / 32 = (d32 : Int) := by omega
    have j8 : (d8 : Int) % 2 = (m8 : Int) := by omega
    have j4 : (d4 : Int) % 2 = (m4s : Int) := by omega
    have j32 : (d32 : Int) % 2 = (m32 : Int) := by omega
    obtain ⟨b8, hb8⟩ : ∃ b, b = decide (d / 8 % 2 = 1) := ⟨_, rfl⟩
    obtain ⟨sm, hsm⟩ : ∃ b, b = decide (d / 4 % 2 = 1) := ⟨_, rfl⟩
    obtain ⟨on, hon⟩ : ∃ b, b = oneB d := ⟨_, rfl⟩
    have k8 : ((m8 : Int) == 1) = b8 := by
      rw [hb8, ← hd8', ← hm8]
      obtain h | h : m8 = 0 ∨ m8 = 1 := by omega
      · rw [h]; rfl
      · rw [h]; rfl
    have k4 : ((m4s : Int) == 1) = sm := by
      rw [hsm, ← hd4', ← hm4s]
      obtain h | h : m4s = 0 ∨ m4s = 1 := by omega
      · rw [h]; rfl
      · rw [h]; rfl
    have k32 : ((m32 : Int) == 1) = on := by
      rw [hon]
      unfold oneB
      rw [← hd32', ← hm32]
      obtain h | h : m32 = 0 ∨ m32 = 1 := by omega
      · rw [h]; rfl
      · rw [h]; rfl
    have HM8 := Lib.hid hb8
    have HSm := Lib.hid hsm
    have HOn := Lib.hid hon
    clear hd8' hd4' hd32' hm8 hm4s hm32 hb8 hsm hon
    go_upto_if 32 with fail
    cases b8 with
    | true =>
      have hR : Hid (R = hNone 11) := HZ1.out (of_decide_eq_true HM8.out.symm)
      obtain ⟨⟨z0, z1, z2, z3⟩, y0, y1, y2, y3⟩ := HI.out.cells
      obtain ⟨⟨r0, r1, r2, r3⟩, t0, t1, t2, t3⟩ := HI.out.res
      have HBe := HI.out.bl
      rw [hpp] at HBe
      have HBe := Lib.hid HBe
      clear HZ1 HZ2 HLn
      go_wp2_with fail
      exact bodyPost_ret (v := ansH (hNone 11)) (by simp [results, Tryd.results10, go_sem, ansH, hv, hNone, *]) rfl ⟨by rw [hR.out], by rw [hpp]; repeat (first | exact HBe.out | refine Below.setCell ?_ (by simp) _)⟩
    | false =>
      have HZ := Lib.hid (HZ2.out (of_decide_eq_false HM8.out.symm))
      clear HZ1 HZ2
      obtain ⟨⟨z0, z1, z2, z3⟩, y0, y1, y2, y3⟩ := HI.out.cells
      go_upto_if 44 with fail
      have hi3 := HI.out.put (d3 := sm) 3 (.bool sm) rfl
      generalize W2.setCell ⟨q, 3, none⟩ (.bool sm) = W3 at *
      have HI3 := Lib.hid hi3
      clear hi3 z0 z1 z2 z3 y0 y1 y2 y3 HI k4 k8 k32 i8 i4 i32 j8 j4 j32
      have hw8 : (stW s1 d).2 < 256 := by
        unfold stW
        split
        · show 0 < 256
          decide
        · exact rdn_lt _ _
      obtain ⟨s2, h2⟩ : ∃ s2, s2 = (stW s1 d).1 := ⟨_, rfl⟩
      obtain ⟨wv, hwv⟩ : ∃ wv, wv = (stW s1 d).2 := ⟨_, rfl⟩
      rw [← hwv] at hw8
      have H2 : Hid (stW s1 d = (s2, wv)) := by rw [h2, hwv]; rfl
      rw [← h2, ← hwv] at HZ
      rw [← h2] at HLn
      clear h2 hwv
      go_cut [] (fun wx => ∃ c0, c0 = (if on then 0 else winN wv) ∧ InF w wx p a q s2 c0 0 false sm)
      case first =>
        cases on with
        | true =>
          have hs : Hid (s1 = s2 ∧ wv = 0) := by have := H2.out; unfold stW at this; rw [← HOn.out, if_pos rfl] at this; injection this with a b; exact ⟨a, b.symm⟩
          go_wp2_with fail
          go_meet
          refine ⟨_, rfl, ?_⟩
          rw [← hs.out.1]
          exact HI3.out
        | false =>
          have hs : Hid (rdn s1 1 = (s2, wv)) := by have := H2.out; unfold stW at this; rwa [← HOn.out, if_neg (by decide)] at this
          have hN2 := Lib.hid (fun W => refNum_any s1 1 (by decide) (by decide) W)
          rw [hs.out] at hN2
          have hW := Lib.hid (fun W => refWindow_any wv hw8 W)
          obtain ⟨⟨a0, a1⟩, g0, g1⟩ := HI3.out.head
          go_wp2_with (first
            | (go_at_call 24; refine (hN2.out _).mono ?_; rintro e' W4 ⟨rfl, hB⟩; have HI4 := Lib.hid (HI3.out.turn hB); have hs4 := HI4.out.ax.lt; have hs5 := HI4.out.hx.lt; have hqa : q ≠ a := (by have := HI4.out.o3; omega); clear hB; obtain ⟨⟨z0, z1, z2, z3⟩, y0, y1, y2, y3⟩ := HI4.out.cells; obtain ⟨⟨x0, x1⟩, u0, u1⟩ := HI4.out.head)
            | (go_at_call 25; refine (hW.out _).mono ?_; rintro e' W5 ⟨rfl, rfl⟩))
          go_meet
          refine ⟨_, rfl, ?_⟩
          first | exact ((HI4.out.alloc _).rd s2).put 0 _ rfl | exact ((HI4.out.rd s2).alloc _).put 0 _ rfl | exact ((HI4.out.rd s2).put 0 _ rfl).alloc _
      case rest =>
        obtain ⟨c0, hc0, hI2⟩ := hcut
        have HC0 := Lib.hid hc0
        have HI4 := Lib.hid hI2
        clear hc0 HI3 hI2
        obtain ⟨m4, hm4⟩ : ∃ m, m = d % 4 := ⟨_, rfl⟩
        obtain ⟨fo, hfo⟩ : ∃ m, m = d / 64 := ⟨_, rfl⟩
        have hm4l : m4 < 4 := by omega
        have hfol : fo < 4 := by omega
        have hfoi : (d : Int) / 64 = (fo : Int) := by omega
        have hm4i : (d : Int) % 4 = (m4 : Int) := by omega
        have HM4 := Lib.hid hm4
        have HFo := Lib.hid hfo
        clear hm4 hfo
        go_upto_region 14 with fail
        obtain ⟨s3, h3⟩ : ∃ s, s = (rdn s2 (dwN (d % 4))).1 := ⟨_, rfl⟩
        obtain ⟨dv, hdv⟩ : ∃ s, s = (rdn s2 (dwN (d % 4))).2 := ⟨_, rfl⟩
        have H3 : Hid (rdn s2 (dwN m4) = (s3, dv)) := by rw [h3, hdv, ← HM4.out]; rfl
        rw [← h3, ← hdv] at HZ
        rw [← h3] at HLn
        clear h3 hdv
        go_cut [12] (fun n wx => n = .int .i64 (dwN m4 : Int) ∧ InF w wx p a q s2 c0 0 false sm)
        case first =>
          obtain rfl | rfl | rfl | rfl : m4 = 0 ∨ m4 = 1 ∨ m4 = 2 ∨ m4 = 3 := by omega
          all_goals
            go_wp2_with fail
            go_meet
            exact ⟨rfl, HI4.out.alloc _⟩
        case rest =>
          obtain ⟨rfl, hI5⟩ := hcut
          have HI5 := Lib.hid hI5
          clear hI5 HI4
          obtain ⟨D4, hD4⟩ : ∃ D4, D4 = dwN m4 := ⟨_, rfl⟩
          have hD4l : D4 ≤ 4 := by rw [hD4]; exact dw_le m4 hm4l
          rw [← hD4] at H3 ⊢
          clear hD4
          go_upto_if 60 with fail
          go_cut [11] (fun x wx => x = .int .u64 (dv : Int) ∧ InF w wx p a q s3 c0 0 false sm)
          case first =>
            by_cases hz : D4 = 0
            · have hs : Hid (s2 = s3 ∧ 0 = dv) := by have := H3.out; rw [hz] at this; injection this with a b; exact ⟨a, b⟩
              subst hz
              go_wp2_with fail
              go_meet
              rw [← hs.out.1, ← hs.out.2]
              exact ⟨rfl, HI5.out⟩
            · have hpz : 0 < D4 := by omega
              have hpi : decide ((0 : Int) < (D4 : Int)) = true := by simp; omega
              have hN3 := Lib.hid (fun W => refNum_any s2 D4 (by omega) (by omega) W)
              rw [H3.out] at hN3
              obtain ⟨⟨a0, a1⟩, g0, g1⟩ := HI5.out.head
              go_wp2_with (go_at_call 24; refine (hN3.out _).mono ?_; rintro e' W4 ⟨rfl, hB⟩; have HI6 := Lib.hid (HI5.out.turn hB); have hs4 := HI6.out.ax.lt; clear hB; obtain ⟨⟨x0, x1⟩, u0, u1⟩ := HI6.out.head)
              go_meet
              refine ⟨rfl, ?_⟩
              first | exact ((HI6.out.alloc _).rd s3) | exact ((HI6.out.rd s3).alloc _)
          case rest =>
            obtain ⟨rfl, hI6⟩ := hcut
            have HI6 := Lib.hid hI6
            clear hI6 HI5
            go_upto_region 19 with fail
            go_cut [12] (fun n wx => n = .int .i64 (([0, 2, 4, 8].getD fo 0 : Nat) : Int) ∧ InF w wx p a q s3 c0 0 false sm)
            case first =>
              obtain rfl | rfl | rfl | rfl : fo = 0 ∨ fo = 1 ∨ fo = 2 ∨ fo = 3 := by omega
              all_goals
                go_wp2_with fail
                go_meet
                exact ⟨rfl, HI6.out.alloc _⟩
            case rest =>
              obtain ⟨rfl, hI7⟩ := hcut
              have HI7 := Lib.hid hI7
              clear hI7 HI6
              obtain ⟨kn, hkn'⟩ : ∃ b, b = knB d := ⟨_, rfl⟩
              have HKn := Lib.hid hkn'
              have HKo : Hid (kn = (on || decide (0 < fo))) := by rw [hkn', HOn.out, HFo.out]; rfl
              clear hkn'
              obtain ⟨N0, hN0⟩ : ∃ x, x = [0, 2, 4, 8].getD fo 0 := ⟨_, rfl⟩
              rw [← hN0]
              obtain ⟨bz, hbz⟩ : ∃ b, b = decide (fo = 0) := ⟨_, rfl⟩
              have hnz : ((N0 : Int) == 0) = bz := by
                rw [hN0, hbz]
                obtain rfl | rfl | rfl | rfl : fo = 0 ∨ fo = 1 ∨ fo = 2 ∨ fo = 3 := by omega
                all_goals rfl
              obtain ⟨n3, hn3⟩ : ∃ x, x = if kn then swN fo else 0 := ⟨_, rfl⟩
              have HN3 : Hid (n3 = if bz && on then 1 else N0) := by
                rw [hn3, hN0, hbz, HKo.out]
                obtain rfl | rfl | rfl | rfl : fo = 0 ∨ fo = 1 ∨ fo = 2 ∨ fo = 3 := by omega
                all_goals (cases on <;> rfl)
              have Hn3 := Lib.hid hn3
              have HBz := Lib.hid hbz
              clear hN0 hbz hn3
              go_upto_region 20 with fail
              go_cut [78] (fun t wx => t = .bool (bz && on) ∧ wc = wx)
              case first =>
                cases bz with
                | true =>
                  go_wp2_with fail
                  all_goals go_meet
                  all_goals exact ⟨rfl, rfl⟩
                | false =>
                  go_wp2_with fail
                  all_goals go_meet
                  all_goals exact ⟨rfl, rfl⟩
              case rest =>
                obtain ⟨rfl, rfl⟩ := hcut
                go_upto_if 78 with fail
                generalize (bz && on) = bo at *
                go_cut [12] (fun n wx => n = .int .i64 (n3 : Int) ∧ wc = wx)
                case first =>
                  cases bo with
                  | true =>
                    obtain rfl : n3 = 1 := HN3.out
                    go_wp2_with fail
                    go_meet
                    exact ⟨rfl, rfl⟩
                  | false =>
                    obtain rfl : n3 = N0 := HN3.out
                    go_wp2_with fail
                    go_meet
                    exact ⟨rfl, rfl⟩
                case rest =>
                  obtain ⟨rfl, rfl⟩ := hcut
                  clear HN3
                  obtain ⟨s4, h4⟩ : ∃ s, s = (stZ s3 d).1 := ⟨_, rfl⟩
                  obtain ⟨zv, hzv⟩ : ∃ s, s = (stZ s3 d).2 := ⟨_, rfl⟩
                  have H4 : Hid (stZ s3 d = (s4, zv)) := by rw [h4, hzv]; rfl
                  rw [H4.out] at HZ HLn
                  clear h4 hzv hnz
                  go_upto_if 80 with fail
                  go_cut [] (fun wx => InF w wx p a q s4 c0 zv kn sm)
                  case first =>
                    cases kn with
                    | false =>
                      have hs : Hid (s3 = s4 ∧ 0 = zv) := by have := H4.out; unfold stZ at this; rw [← HKn.out, if_neg (by decide)] at this; injection this with a b; exact ⟨a, b⟩
                      obtain rfl : n3 = 0 := Hn3.out
                      go_wp2_with fail
                      go_meet
                      rw [← hs.out.1, ← hs.out.2]
                      exact HI7.out
                    | true =>
                      have hs : Hid ((rdn s3 (swN fo)).1 = s4 ∧ ((rdn s3 (swN fo)).2 + frN fo) % 18446744073709551616 = zv) := by have := H4.out; unfold stZ at this; rw [← HKn.out, if_pos rfl, ← HFo.out] at this; injection this with a b; exact ⟨a, b⟩
                      obtain rfl : n3 = swN fo := Hn3.out
                      obtain ⟨yv, hyv⟩ : ∃ y, y = (rdn s3 (swN fo)).2 := ⟨_, rfl⟩
                      have hn1 : 1 ≤ swN fo := sw_pos fo hfol
                      have hn8 : swN fo ≤ 8 := sw_le fo hfol
                      have hyl : yv < 18446744073709551616 := by
                        rw [hyv]
                        exact Nat.lt_of_lt_of_le (rdn_lt _ _) (Nat.le_trans (Nat.pow_le_pow_right (by decide) hn8) (by decide))
                      have hn0 : decide ((0 : Int) < ((swN fo : Nat) : Int)) = true := by simp; omega
                      have hN4 := Lib.hid (fun W => refNum_any s3 (swN fo) hn1 hn8 W)
                      rw [hs.out.1, ← hyv] at hN4
                      have hs2 : Hid ((yv + frN fo) % 18446744073709551616 = zv) := by have := hs.out.2; rwa [← hyv] at this
                      have hz : Hid (swN fo = 2 ∧ zv = (yv + 256) % 18446744073709551616 ∨ (swN fo ≠ 2 ∧ zv = yv)) := by
                        have h := hs2.out
                        obtain rfl | rfl | rfl | rfl : fo = 0 ∨ fo = 1 ∨ fo = 2 ∨ fo = 3 := by omega
                        · exact .inr ⟨by decide, by rw [← h]; show (yv + 0) % _ = yv; omega⟩
                        · exact .inl ⟨rfl, by rw [← h]; rfl⟩
                        · exact .inr ⟨by decide, by rw [← h]; show (yv + 0) % _ = yv; omega⟩
                        · exact .inr ⟨by decide, by rw [← h]; show (yv + 0) % _ = yv; omega⟩
                      obtain ⟨⟨a0, a1⟩, g0, g1⟩ := HI7.out.head
                      clear hs hyv Hn3 hs2
                      generalize swN fo = n3 at *
                      have hwy : IntKind.u64.wrap ((yv : Int) + 256) = (((yv + 256) % 18446744073709551616 : Nat) : Int) := by rw [IntKind.wrap_u64]; omega
                      by_cases h2 : n3 = 2
                      · obtain rfl : zv = (yv + 256) % 18446744073709551616 := by rcases hz.out with h | h; exact h.2; exact absurd h2 h.1
                        subst h2
                        go_wp2_with (go_at_call 24; refine (hN4.out _).mono ?_; rintro e' W4 ⟨rfl, hB⟩; have HI8 := Lib.hid (HI7.out.turn hB); have hs4 := HI8.out.ax.lt; have hs5 := HI8.out.hx.lt; have hqa : q ≠ a := (by have := HI8.out.o3; omega); clear hB; obtain ⟨⟨x0, x1⟩, u0, u1⟩ := HI8.out.head; obtain ⟨⟨z0, z1, z2, z3⟩, y0, y1, y2, y3⟩ := HI8.out.cells)
                        go_meet
                        have e : ((yv : Int) + 256) % 18446744073709551616 = (((yv + 256) % 18446744073709551616 : Nat) : Int) := by omega
                        rw [e]
                        exact ((((HI8.out.rd s4).put (d1 := yv) 1 (.int .u64 (yv : Int)) rfl).put (d2 := true) 2 (.bool true) rfl).put (d1 := (yv + 256) % 18446744073709551616) 1 (.int .u64 (((yv + 256) % 18446744073709551616 : Nat) : Int)) rfl).alloc _
                      · obtain rfl : zv = yv := by rcases hz.out with h | h; exact absurd h.1 h2; exact h.2
                        have h2b : ((n3 : Int) == 2) = false := by simp; omega
                        go_wp2_with (go_at_call 24; refine (hN4.out _).mono ?_; rintro e' W4 ⟨rfl, hB⟩; have HI8 := Lib.hid (HI7.out.turn hB); have hs4 := HI8.out.ax.lt; have hs5 := HI8.out.hx.lt; have hqa : q ≠ a := (by have := HI8.out.o3; omega); clear hB; obtain ⟨⟨x0, x1⟩, u0, u1⟩ := HI8.out.head; obtain ⟨⟨z0, z1, z2, z3⟩, y0, y1, y2, y3⟩ := HI8.out.cells)
                        go_meet
                        exact (((HI8.out.rd s4).put (d1 := zv) 1 (.int .u64 (zv : Int)) rfl).put (d2 := true) 2 (.bool true) rfl).alloc _
                  case rest =>
                    have HI8 := Lib.hid hcut
                    clear hcut HI7
                    go_upto_if 97 with fail
                    obtain ⟨wn, hwn⟩ : ∃ x, x = (if on then zv else winN wv) := ⟨_, rfl⟩
                    have HWn := Lib.hid hwn
                    clear hwn
                    go_cut [] (fun wx => InF w wx p a q s4 wn zv kn sm)
                    case first =>
                      obtain ⟨⟨z0, z1, z2, z3⟩, y0, y1, y2, y3⟩ := HI8.out.cells
                      cases on with
                      | true =>
                        have hs : Hid (zv = wn) := by rw [HWn.out]; rfl
                        go_wp2_with fail
                        go_meet
                        have h := HI8.out.put (d0 := zv) 0 (.int .u64 (zv : Int)) rfl
                        rw [← hs.out]
                        exact h
                      | false =>
                        have hs : Hid (c0 = wn) := by rw [HC0.out, HWn.out]; rfl
                        go_wp2_with fail
                        go_meet
                        rw [← hs.out]
                        exact HI8.out
                    case rest =>
                      have HI9 := Lib.hid hcut
                      clear hcut HI8
                      obtain ⟨⟨z0, z1, z2, z3⟩, y0, y1, y2, y3⟩ := HI9.out.cells
                      obtain ⟨⟨r0, r1, r2, r3⟩, t0, t1, t2, t3⟩ := HI9.out.res
                      obtain ⟨⟨a0, a1⟩, g0, g1⟩ := HI9.out.head
                      have hZ := HZ.out
                      unfold hFin at hZ
                      rw [← HOn.out, ← HKn.out, ← HSm.out, ← HWn.out] at hZ
                      dsimp only at hZ
                      obtain ⟨e4v, he4⟩ : ∃ e, e = s4.2 := ⟨_, rfl⟩
                      obtain ⟨l4, hl4⟩ : ∃ e, e = s4.1.length := ⟨_, rfl⟩
                      have hs4z := str_size s4.1
                      obtain ⟨S4, hS4⟩ : ∃ e, e = str s4.1 := ⟨_, rfl⟩
                      rw [← hS4, ← hl4] at hs4z
                      rw [← hS4] at a0
                      rw [← he4] at hZ a1
                      rw [← hl4] at hZ
                      have HL4 : Hid (l4 ≤ L) := by have := HLn.out; rw [hl4]; exact this
                      have hpq : p ≠ q := by have := HI9.out.o2; omega
                      have hpa : p ≠ a := by have := HI9.out.o2; have := HI9.out.o3; omega
                      have HB9 : Hid (Below p w wc) := by unfold Hid; rw [← hpp]; exact HI9.out.bl
                      have HZ' := Lib.hid hZ
                      clear hZ HZ he4 hl4 hS4 HLn
                      by_cases hez : e4v = 0
                      · have hzz : Hid (R = if dv ≠ 0 then hNone 14 else ((wn, zv, kn, sm), L - l4, 0)) := by have := HZ'.out; rwa [if_neg (by simpa using hez)] at this
                        subst hez
                        by_cases hdz : dv = 0
                        · have hzz' : Hid (R = ((wn, zv, kn, sm), L - l4, 0)) := by have := hzz.out; rwa [if_neg (by simpa using hdz)] at this
                          subst hdz
                          clear HZ' hzz
                          have hl4b : l4 ≤ L := HL4.out
                          have hkl : IntKind.i64.wrap ((L : Int) - (l4 : Int)) = ((L - l4 : Nat) : Int) := by rw [IntWalk.i64_in _ (by omega)]; omega
                          go_upto_region 35 with fail
                          go_region_held3 (fun w' => w'.cell? ⟨q, 0, none⟩ = some (.int .u64 (wn : Int)) ∧ w'.cell? ⟨q, 1, none⟩ = some (.int .u64 (zv : Int)) ∧ w'.cell? ⟨q, 2, none⟩ = some (.bool kn) ∧ w'.cell? ⟨q, 3, none⟩ = some (.bool sm) ∧ w'.cell? ⟨a, 0, none⟩ = some (.string S4)) (first | exact ⟨z0, z1, z2, z3, a0⟩ | go_keep) (fail)
                          obtain ⟨hbe, hbx⟩ := HI9.out.done wn zv kn sm
                          rw [hpp] at hbe
                          have HBe := Lib.hid hbe
                          have HBx := Lib.hid hbx
                          clear hbe hbx
                          generalize ((((wc.setCell ⟨p, 0, none⟩ (.int .u64 (wn : Int))).setCell ⟨p, 1, none⟩ (.int .u64 (zv : Int))).setCell ⟨p, 2, none⟩ (.bool kn)).setCell ⟨p, 3, none⟩ (.bool sm)).drew = WE at *
                          have v0 := HBx.out.cell 0
                          have v1 := HBx.out.cell 1
                          have v2 := HBx.out.cell 2
                          have v3 := HBx.out.cell 3
                          simp at v0 v1 v2 v3
                          go_wp2_with fail
                          exact bodyPost_ret (v := ansH ((wn, zv, kn, sm), L - l4, 0)) (by simp [results, Tryd.results10, go_sem, ansH, hv, *]) rfl ⟨by rw [hzz'.out], by rw [hpp]; exact HBe.out⟩
                        · have hzz' : Hid (R = hNone 14) := by have := hzz.out; rwa [if_pos (by simpa using hdz)] at this
                          have hdb : decide ((0 : Int) < (dv : Int)) = true := by simp; omega
                          clear HZ' hzz
                          go_wp2_with fail
                          exact bodyPost_ret (v := ansH (hNone 14)) (by simp [results, Tryd.results10, go_sem, ansH, hv, hNone, *]) rfl ⟨by rw [hzz'.out], by rw [hpp]; repeat (first | exact HB9.out | refine Below.setCell ?_ (by simp) _)⟩
                      · have hzz : Hid (R = hNone e4v) := by have := HZ'.out; rwa [if_pos (by simpa using hez)] at this
                        have heb : (e4v != 0) = true := by simpa using hez
                        clear HZ'
                        go_upto_region 32 with fail
                        go_region_held3 (fun w' => w'.cell? ⟨a, 1, none⟩ = some (.int .i64 e4v)) (first | exact a1 | go_keep) (fail)
                        obtain ⟨hbe, hbx⟩ := HI9.out.done 0 0 false false
                        rw [hpp] at hbe
                        change Below p w ((((wc.setCell ⟨p, 0, none⟩ (.int .u64 0)).setCell ⟨p, 1, none⟩ (.int .u64 0)).setCell ⟨p, 2, none⟩ (.bool false)).setCell ⟨p, 3, none⟩ (.bool false)).drew at hbe
                        change Box ((((wc.setCell ⟨p, 0, none⟩ (.int .u64 0)).setCell ⟨p, 1, none⟩ (.int .u64 0)).setCell ⟨p, 2, none⟩ (.bool false)).setCell ⟨p, 3, none⟩ (.bool false)).drew p _ #[.int .u64 0, .int .u64 0, .bool false, .bool false] at hbx
                        have HBe := Lib.hid hbe
                        have HBx := Lib.hid hbx
                        clear hbe hbx
                        generalize ((((wc.setCell ⟨p, 0, none⟩ (.int .u64 0)).setCell ⟨p, 1, none⟩ (.int .u64 0)).setCell ⟨p, 2, none⟩ (.bool false)).setCell ⟨p, 3, none⟩ (.bool false)).drew = WE at *
                        have v0 := HBx.out.cell 0
                        have v1 := HBx.out.cell 1
                        have v2 := HBx.out.cell 2
                        have v3 := HBx.out.cell 3
                        simp at v0 v1 v2 v3
                        go_wp2_with fail
                        exact bodyPost_ret (v := ansH (hNone e4v)) (by simp [results, Tryd.results10, go_sem, ansH, hv, hNone, *]) rfl ⟨by rw [hzz.out], by rw [hpp]; exact HBe.out⟩
end Go.Proofs.YtmominbmalhdoaaDoor
