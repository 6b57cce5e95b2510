
/- The contract of the program's write: the bits of sequences. -/
import Derived.Test.YtlidnialggpcpaaGreatDoorSeqBk
import Derived.Test.YtlidnialggpcpaaGreatDoorSeqBef
import Derived.Test.YtlidnialggpcpaaGreatDoorSeqWts
namespace Go.Proofs.YtlidnialggpcpaaGreatDoor
open Go.RowKit Go.Shelf
attribute [local go_sem] Oper.semAt_some

section
variable {W W' : World} {base g : Nat} {v : Value} {l : List Bool}
/-- What has cells is none of a loop's own blocks. -/
theorem Box.own {t : TypeId} {cs : Array Value} {row : Option Nat} (h : Box W g t cs) (hg : W.grownBy W' row) (hr : ∀ r, row = some r → ∃ o : Obj, W.heap[r]? = some o ∧ o.isCells = false) : Box W' g t cs := by
  unfold Box at h ⊢
  rw [← h]
  refine hg.block g (Array.getElem?_eq_some_iff.1 h).1 fun e => ?_
  obtain ⟨o, ho, hc⟩ := hr g e.symm
  rw [h] at ho
  injection ho with ho
  subst ho
  simp [Obj.isCells] at hc
theorem OwB.ownRow {u : TypeId} {xs : List UInt8} {row : Option Nat} (h : OwB W u base v xs) (hg : W.grownBy W' row) (hr : ∀ r, row = some r → ∃ o : Obj, W.heap[r]? = some o ∧ o.isCells = false) : OwB W' u base v xs := by
  refine OwB.grown h hg ?_
  rcases h.2 with ⟨rfl, _⟩ | ⟨g', cap, cur, rfl, _, hh, _⟩
  · exact .inl rfl
  · refine .inr fun e => ?_
    obtain ⟨o, ho, hc⟩ := hr g' (e.symm.trans (by simp [Value.ownBlock]))
    rw [hh] at ho
    injection ho with ho
    subst ho
    simp [Obj.isCells] at hc
theorem WR.ownRow {row : Option Nat} (h : WR W base g v l) (hg : W.grownBy W' row) (hr : ∀ r, row = some r → ∃ o : Obj, W.heap[r]? = some o ∧ o.isCells = false) : WR W' base g v l :=
  ⟨h.1, h.2.1.own hg hr, h.2.2.ownRow hg hr⟩
/-- What a Writer turns is cells. -/
theorem Foot.from {r : Option Nat} (h : Foot W W' g r) (hg : ∃ o : Obj, W.heap[g]? = some o ∧ o.isCells = true) (hr : ∀ k, r = some k → ∃ o : Obj, W.heap[k]? = some o ∧ o.isCells = true) (B : Nat) : KeepsFrom B W W' :=
  ⟨h.size, fun k o _ hk ho => by
    refine (h.block k (Array.getElem?_eq_some_iff.1 hk).1 (fun e => ?_) (fun e => ?_)).trans hk
    · subst e
      obtain ⟨o', ho', hc⟩ := hg
      rw [hk] at ho'
      injection ho' with ho'
      subst ho'
      rw [ho] at hc
      cases hc
    · obtain ⟨o', ho', hc⟩ := hr k e.symm
      rw [hk] at ho'
      injection ho' with ho'
      subst ho'
      rw [ho] at hc
      cases hc⟩
theorem WR.cells (h : WR W base g v l) : ∃ o : Obj, W.heap[g]? = some o ∧ o.isCells = true := ⟨_, h.2.1, rfl⟩
theorem WR.rowCells (h : WR W base g v l) : ∀ k, v.ownBlock = some k → ∃ o : Obj, W.heap[k]? = some o ∧ o.isCells = true := by
  intro k hk
  rcases h.2.2.2 with ⟨hv, _⟩ | ⟨g', cap, cur, hv, _, hh, _⟩
  · rw [hv] at hk
    simp [Value.ownBlock] at hk
  · rw [hv] at hk
    have : g' = k := by simpa [Value.ownBlock] using hk
    subst this
    exact ⟨_, hh, rfl⟩
end
/-- The bits of a sequence's values behind n of them. -/
def vlB (q : Cq) : Nat → List Bool
  | 0 => []
  | n + 1 => vlB q n ++ low (q.at (vo (2 - n))).x (q.at (vo (2 - n))).b
theorem vlB_all (q : Cq) : vlB q 3 = valBits q := rfl
theorem vlB_len {q : Cq} (h : CqOk q) : ∀ n, n ≤ 3 → (vlB q n).length ≤ 31 * n
  | 0, _ => by simp [vlB]
  | n + 1, hn => by
    have h1 := vlB_len h n (by omega)
    have h2 : (q.at (vo (2 - n))).b ≤ 31 := by
      have e0 : q.l.b ≤ 31 := by rw [h.l.b]; exact add_56 (n := 0) (by decide) h.l.c
      have e1 : q.o.b ≤ 31 := by rw [h.o.b]; exact add_56 (n := 1) (by decide) h.o.c
      have e2 : q.m.b ≤ 31 := by rw [h.m.b]; exact add_56 (n := 2) (by decide) h.m.c
      rcases (show n = 0 ∨ n = 1 ∨ n = 2 by omega) with rfl | rfl | rfl
      · exact e0
      · exact e2
      · exact e1
    rw [vlB, List.length_append, low_length]
    omega
theorem tells_cons {T : T3} {q : Cq} {l : List Cq} {s s' : St} {L : List Bool} {xl xo xm : Nat} (h : Tells T l s L) (ha : AtQ T s' q) (hg : GoOk T s' xl xo xm) (hs : goSt T s' xl xo xm = s) : Tells T (q :: l) s' (L ++ goBits T s' xl xo xm ++ valBits q) := by
  cases l with
  | nil => exact h.elim
  | cons q2 r => exact ⟨ha, xl, xo, xm, L, hg, rfl, by rw [hs]; exact h⟩
/-- What lies between two rounds of write's first loop. -/
def WrI (T : T3) (rs : List Cq) (m ba bt br bw Bs g : Nat) (vt : Array Value) (vr vs : Value) (pre : List (Pl m)) (W : World) : Prop :=
  (∃ (v : Value) (L : List Bool) (s : St), WR W g g v L ∧ L.length ≤ 200 * pre.length ∧ StOk T s ∧ Box W ba 120 s.cells ∧ (pre.map (·.1) = backs m pre.length → (pre = [] → L = []) ∧ (pre ≠ [] → Tells T (rs.drop (m - pre.length)) s L))) ∧
    Box W bt 29 vt ∧ Box W br 90 #[vr] ∧ Box W bw 152 #[.pointer (some ⟨g, 0, none⟩)] ∧ Box W Bs 90 #[vs]
theorem WrI.own {T : T3} {rs : List Cq} {m ba bt br bw Bs g : Nat} {vt : Array Value} {vr vs : Value} {pre : List (Pl m)} {W W' : World} {row : Option Nat} (h : WrI T rs m ba bt br bw Bs g vt vr vs pre W) (hg : W.grownBy W' row) (hr : ∀ r, row = some r → ∃ o : Obj, W.heap[r]? = some o ∧ o.isCells = false) : WrI T rs m ba bt br bw Bs g vt vr vs pre W' := by
  obtain ⟨⟨v, L, s, h1, h2, h3, h4, h5⟩, h6, h7, h8, h9⟩ := h
  exact ⟨⟨v, L, s, h1.ownRow hg hr, h2, h3, h4.own hg hr, h5⟩, h6.own hg hr, h7.own hg hr, h8.own hg hr, h9.own hg hr⟩
theorem WrI.alloc {T : T3} {rs : List Cq} {m ba bt br bw Bs g : Nat} {vt : Array Value} {vr vs : Value} {pre : List (Pl m)} {W : World} (h : WrI T rs m ba bt br bw Bs g vt vr vs pre W) (o : Obj) : WrI T rs m ba bt br bw Bs g vt vr vs pre (W.alloc o) := by
  obtain ⟨⟨v, L, s, h1, h2, h3, h4, h5⟩, h6, h7, h8, h9⟩ := h
  exact ⟨⟨v, L, s, h1.keep fun k _ hk => Below.heap_alloc W o k hk, h2, h3, h4.alloc o, h5⟩, h6.alloc o, h7.alloc o, h8.alloc o, h9.alloc o⟩
theorem last_place {m : Nat} {pre : List (Pl m)} {x : Pl m} (h : (pre ++ [x]).map (·.1) = backs m (pre.length + 1)) : pre.map (·.1) = backs m pre.length ∧ x.1 = m - 1 - pre.length := by
  rw [List.map_append, backs_succ] at h
  obtain ⟨h1, h2⟩ := List.append_inj' h (by simp)
  exact ⟨h1, by simpa using h2⟩
theorem goBits_len {T : T3} {s : St} {xl xo xm : Nat} (hT : T3Ok T) (hs : StOk T s) : (goBits T s xl xo xm).length ≤ 45 := by
  have b0 := hT.o0.bits hs.l
  have b1 := hT.o1.bits hs.o
  have b2 := hT.o2.bits hs.m
  unfold goBits
  rw [List.length_append, List.length_append, low_length, low_length, low_length]
  omega
/-- The bits of states behind n of them: of matches, offsets, literals. -/
def stB (T : T3) (s : St) : Nat → List Bool
  | 0 => []
  | n + 1 => stB T s n ++ low (s.at (2 - n)) (T.tb (2 - n)).lg
theorem stB_all (T : T3) (s : St) : stB T s 3 = endBits T s := rfl
/-- What lies between two rounds of write's second loop. -/
def WrJ (T : T3) (x : Ts) (s : St) (L : List Bool) (G g bt E D : Nat) (pre : List (Pl 3)) (W : World) : Prop :=
  (∃ (v : Value) (L2 : List Bool), WR W g g v L2 ∧ L2.length ≤ 1000000 + 20 * pre.length ∧ (pre.map (·.1) = backs 3 pre.length → L2 = L ++ stB T s pre.length)) ∧
    Box W (G + 1) 120 s.cells ∧ Box W bt 29 x.cells ∧ Box W G 152 #[.pointer (some ⟨g, 0, none⟩)] ∧ Box W E 72 #[.slice (some ⟨G + 1, 0, none⟩) 3 3] ∧ W.heap[D]? = some (.deferred (some []))
/-- Three cells are stored. -/
def set3 (w : World) (b : Nat) (v0 v1 v2 : Value) : World := ((w.setCell ⟨b, 0, none⟩ v0).setCell ⟨b, 1, none⟩ v1).setCell ⟨b, 2, none⟩ v2
theorem set3_heap {w : World} {b : Nat} {v0 v1 v2 : Value} (j : Nat) (hj : j ≠ b) : (set3 w b v0 v1 v2).heap[j]? = w.heap[j]? := by
  unfold set3
  rw [Below.heap_setCell _ _ _ j hj, Below.heap_setCell _ _ _ j hj, Below.heap_setCell _ _ _ j hj]
theorem set3_size {w : World} {b : Nat} {v0 v1 v2 : Value} : (set3 w b v0 v1 v2).heap.size = w.heap.size := by simp [set3, World.setCell]
theorem set3_box {w : World} {b : Nat} {t : TypeId} {s s1 : St} (h : Box w b t s.cells) : Box (set3 w b (.int .i64 (s1.l : Int)) (.int .i64 (s1.o : Int)) (.int .i64 (s1.m : Int))) b t s1.cells := ((h.put 0 _).put 1 _).put 2 _
theorem set3_below {B : Nat} {w w1 : World} {b : Nat} {v0 v1 v2 : Value} (h : Below B w w1) (hb : B ≤ b) : Below B w (set3 w1 b v0 v1 v2) := ((h.setCell hb _).setCell hb _).setCell hb _
/-- What stands in the body when the states are there. -/
structure WrM (B : Nat) (w W Wm : World) (T : T3) (m G g Bx : Nat) (v v3 : Value) (q : Cq) (s1 : St) (L L3 : List Bool) : Prop where
  sz : W.heap.size ≤ Wm.heap.size
  hk : ∀ k, k < W.heap.size → k ≠ g → k ≠ G + 1 → some k ≠ v.ownBlock → Wm.heap[k]? = W.heap[k]?
  wr : WR Wm g g v3 L3
  ba : Box Wm (G + 1) 120 s1.cells
  bx : Box Wm Bx 146 q.cells
  bw : Box Wm G 152 #[.pointer (some ⟨g, 0, none⟩)]
  gs : GS B Wm
  nr : Near W v.ownBlock v3.ownBlock
  ok : StOk T s1
  be : Below w.heap.size w Wm
  ln : L3.length ≤ L.length + 45
section
variable {B : Nat} {w : World} {hi lo2 hi2 m c2 : Nat} {A2 : Option Addr} {x : Ts} {T : T3} {rs : List Cq}
set_option maxRecDepth 100000 in
set_option maxHeartbeats 4000000 in
theorem writeB_any (hgl : GS B w) (hx : TsIn w hi x T) (hhi : hi ≤ w.heap.size) (hT : T3Ok T) (hd : DatR 9 Cq.list w lo2 hi2 A2 rs) (hhi2 : hi2 ≤ w.heap.size) (hm : rs.length = m) (h0 : 0 < m) (hm2 : m ≤ 1000) (hq : ∀ q ∈ rs, CqOk q)
    (hrea : ∀ q ∈ rs, ∀ k, k < 3 → Rea (T.tb k).es (q.at k).c) (hhas : ∀ q ∈ rs, ∀ k, k < 3 → ∃ i, ∃ h : i < (T.tb k).es.length, (T.tb k).es[i].s = ((q.at k).c : Int)) :
    Calls Tryz.prog 37 #[x.val, .slice A2 m c2] w fun e w' => ∃ (v : Value) (s : St) (L : List Bool), e = .returned v ∧ Tells T rs s L ∧ L.length ≤ 200 * m ∧ OwB w' 5 w.heap.size v (bytesOf (L ++ endBits T s ++ [true])) ∧ Below w.heap.size w w' := by
  obtain ⟨dd, oo, rfl, _, hd2, hcc⟩ := hd.coded (by omega)
  have HG := Lib.hid hgl
  have HX := Lib.hid hx
  have HM := Lib.hid hm
  have HC := Lib.hid hcc
  have HP := Lib.hid (And.intro hT (And.intro hq (And.intro hrea hhas)))
  have hBw := hgl.size
  clear hgl hx hT hd hm hq hrea hhas hcc
  obtain ⟨W0, hW0⟩ : ∃ W0, W0 = (w.alloc (.cells x.cells 29)).alloc (.cells #[.slice (some ⟨dd, oo, none⟩) m c2] 90) := ⟨_, rfl⟩
  have hB0 : Below w.heap.size w W0 := by rw [hW0]; exact ((Below.refl _ _).alloc (Nat.le_refl _) _).alloc (by simp) _
  have hbt0 : Box W0 w.heap.size 29 x.cells := by rw [hW0]; exact (Box.new w _ _).alloc _
  have hbr0 : Box W0 (w.heap.size + 1) 90 #[.slice (some ⟨dd, oo, none⟩) m c2] := by
    rw [hW0]
    have := Box.new (w.alloc (.cells x.cells 29)) 90 #[.slice (some ⟨dd, oo, none⟩) m c2]
    rw [World.size_alloc] at this
    exact this
  have hz0 : W0.heap.size = w.heap.size + 2 := by rw [hW0]; simp
  have H0 := Lib.hid (And.intro hB0 (And.intro hbt0 (And.intro hbr0 hz0)))
  have HNw := Lib.hid (newWriter_any W0)
  clear hB0 hbt0 hbr0 hz0
  unfold Ts.val
  refine (callsIn_wide (n := 9)).1 ?_
  refine callsIn_of_wp_marks Tryz.func37 rfl trivial ?_ rfl
  simp only [Tryz.ntmps37, List.size_toArray, List.length_cons, List.length_nil, Nat.reduceAdd, Nat.reduceSub, Array.replicate_succ, Array.replicate_zero, List.push_toArray, List.append_toArray, List.nil_append, List.cons_append]
  gi_wp2_with fail
  refine ⟨trivial, ?_⟩
  change CallsIn _ _ _ _ _ ((w.alloc (.cells x.cells 29)).alloc (.cells #[.slice (some ⟨dd, oo, none⟩) m c2] 90)) _
  rw [← hW0]
  clear hW0
  refine (callsIn_wide.2 HNw.out).mono ?_
  rintro e w1 ⟨rfl, hw1, hB1⟩
  obtain ⟨hB0, hbt0, hbr0, hz0⟩ := H0.out
  rw [hz0] at hw1 hB1 ⊢
  have hs1 := hw1.lt
  have hbt1 := hbt0.below hB1 (by omega)
  have hbr1 := hbr0.below hB1 (by omega)
  have hBw1 : Below w.heap.size w w1 := hB0.trans (hB1.mono (by omega))
  obtain ⟨W2, hW2⟩ : ∃ W2, W2 = ((w1.alloc (.cells #[.pointer (some ⟨w.heap.size + 2, 0, none⟩)] 152)).alloc (.cells #[iv 0, iv 0, iv 0] 120)) := ⟨_, rfl⟩
  have hz2 : W2.heap.size = w1.heap.size + 2 := by rw [hW2]; simp
  have hb2 : Below w1.heap.size w1 W2 := by rw [hW2]; exact ((Below.refl _ _).alloc (Nat.le_refl _) _).alloc (by simp) _
  have hbw2 : Box W2 w1.heap.size 152 #[.pointer (some ⟨w.heap.size + 2, 0, none⟩)] := by rw [hW2]; exact (Box.new w1 _ _).alloc _
  have hba2 : Box W2 (w1.heap.size + 1) 120 #[iv 0, iv 0, iv 0] := by
    rw [hW2]
    have := Box.new (w1.alloc (.cells #[.pointer (some ⟨w.heap.size + 2, 0, none⟩)] 152)) 120 #[iv 0, iv 0, iv 0]
    rw [World.size_alloc] at this
    exact this
  have hz1 : w.heap.size + 1 < w1.heap.size := by omega
  have k3 : ((w1.alloc (.cells #[.pointer (some ⟨w.heap.size + 2, 0, none⟩)] 152)).alloc (.cells #[.int .i64 0, .int .i64 0, .int .i64 0] 120)).cell? ⟨w.heap.size + 1, 0, none⟩ = some (.slice (some ⟨dd, oo, none⟩) m c2) := ((hbr1.alloc _).alloc _).cell 0
  have H2 := Lib.hid (And.intro (hw1.below hb2 (Nat.le_refl _)) (And.intro (hbt1.below hb2 (by omega)) (And.intro (hbr1.below hb2 (by omega)) (And.intro (hBw1.trans (hb2.mono (by omega))) (And.intro hbw2 (And.intro hba2 hz2))))))
  clear hw1 hB1 hB0 hbt0 hbr0 hz0 hbt1 hbr1 hBw1 hz2 hb2 hbw2 hba2 H0
  gi_wp2_with fail
  refine ⟨trivial, ?_⟩
  change CallsIn _ _ _ _ _ ((w1.alloc (.cells #[.pointer (some ⟨w.heap.size + 2, 0, none⟩)] 152)).alloc (.cells #[iv 0, iv 0, iv 0] 120)) _
  rw [← hW2]
  refine (callsIn_wide.2 (backwardC_any _ _ _ _)).mono ?_
  rintro e w3 ⟨rfl, hw3⟩
  obtain ⟨hw2, hbt2, hbr2, hB2, hbw2, hba2, hz2⟩ := H2.out
  clear hW2 k3 H2
  gi_wp2_with fail
  obtain ⟨G, hG⟩ : ∃ G, G = w1.heap.size := ⟨_, rfl⟩
  rw [← hG] at hbw2 hba2 hz2 hs1 ⊢
  obtain ⟨W3, hW3⟩ : ∃ W3, W3 = W2.alloc (.cells #[.slice (some ⟨dd, oo, none⟩) m c2] 90) := ⟨_, rfl⟩
  have hbs3 : Box W3 (G + 2) 90 #[.slice (some ⟨dd, oo, none⟩) m c2] := by rw [hW3, ← hz2]; exact Box.new W2 _ _
  have hz3 : W3.heap.size = G + 3 := by rw [hW3, World.size_alloc, hz2]
  have hB3 : Below w.heap.size w W3 := by rw [hW3]; exact hB2.alloc hB2.size _
  have hs3 := hB3.size
  have hI3 : WrI T rs m (G + 1) w.heap.size (w.heap.size + 1) G (G + 2) (w.heap.size + 2) x.cells (.slice (some ⟨dd, oo, none⟩) m c2) (.slice (some ⟨dd, oo, none⟩) m c2) [] W3 := by
    refine ⟨⟨_, [], ⟨0, 0, 0⟩, by rw [hW3]; exact hw2.keep fun k _ hk => Below.heap_alloc _ _ k hk, by simp, ⟨HP.out.1.o0.pos, HP.out.1.o1.pos, HP.out.1.o2.pos⟩, by rw [hW3]; exact hba2.alloc _, fun _ => ⟨fun _ => rfl, fun h => absurd rfl h⟩⟩, by rw [hW3]; exact hbt2.alloc _, by rw [hW3]; exact hbr2.alloc _, by rw [hW3]; exact hbw2.alloc _, hbs3⟩
  rw [← hW3]
  clear hW3 hw2 hbt2 hbr2 hB2 hbw2 hba2 hz2 hw3 hG
  refine wpIn_rangeFunc_ownH (F := Fence.wide) rfl (by omega) (gf := 100) (lb := #[.pointer (some ⟨G + 2, 0, none⟩)]) rfl trivial (enters_of Tryz.func100 (by kernel_rfl) rfl)
    (backC_stops (rs := rs) Fence.wide 8 trivial rfl (by omega) (G + 2) dd oo HM.out (by omega) (fun k => k < w.heap.size ∨ k = G + 2) (.inr rfl) (.inl (by omega)) W3 (by omega) (by omega) (hbs3.cell 0) (fun j hj i hi => (hB3.cell (p := ⟨dd, _, none⟩) (show dd < w.heap.size by omega)).trans (HC.out j hj i hi)))
    (fun h k => h.trans k) (KpP.row fun k hk => by omega) (Below.refl _ _) (fun _ => rfl)
    (fun pre W => WrI T rs m (G + 1) w.heap.size (w.heap.size + 1) G (G + 2) (w.heap.size + 2) x.cells (.slice (some ⟨dd, oo, none⟩) m c2) (.slice (some ⟨dd, oo, none⟩) m c2) pre W ∧ Below w.heap.size w W)
    (fun _ _ _ => False)
    (OwnFrom.and (Own.from (fun s A B row hs hg hr => hs.own hg hr) _) (ownFrom_below (Nat.le_refl _) hs3))
    (fun _ _ _ _ _ hs _ _ => hs)
    ⟨hI3, hB3⟩
    (fun x0 a' W => ∃ Bx, G + 2 < Bx ∧ Box W Bx 146 (cqAt rs x0.1).cells ∧ a' = { tmps := #[.agg #[.int .i64 (x.l 0), .slice (x.A 0) (x.n 0) (x.c 0), .int .i64 (x.l 1), .slice (x.A 1) (x.n 1) (x.c 1), .int .i64 (x.l 2), .slice (x.A 2) (x.n 2) (x.c 2)], .slice (some ⟨dd, oo, none⟩) m c2, .pointer (some ⟨w.heap.size, 0, none⟩), .pointer (some ⟨w.heap.size + 1, 0, none⟩), .slice none 0 0, .pointer (some ⟨G, 0, none⟩), .pointer (some ⟨G + 1, 0, none⟩), .int .i64 (x0.1 : Int), .pointer (some ⟨Bx, 0, none⟩), undef, undef, undef, undef, .pointer (some ⟨w.heap.size + 2, 0, none⟩), .slice (some ⟨dd, oo, none⟩) m c2, .func (.func 100) #[] #[.pointer (some ⟨G + 2, 0, none⟩)], .int .i64 (x0.1 : Int), .agg (cqAt rs x0.1).cells, undef, undef, undef, undef, undef, undef, undef, undef, undef, undef, undef, undef, undef, undef, undef, undef, undef, undef, undef, undef, undef, undef, undef, undef, undef, undef, undef, undef, undef, undef, undef, undef, undef, undef, undef, undef, undef, undef, undef, undef, undef, undef, undef], defers := [] })
    (fun x0 a' _ X Y row hs hg hr => by obtain ⟨Bx, h1, h2, h3⟩ := hs; exact ⟨Bx, h1, h2.own hg (fun r e => (hr r e).2), h3⟩)
    ?assign ?body ?done ?stop
  case assign =>
    rintro l pre x0 W K ⟨hI, hB⟩ hK
    have hsW := hB.size
    have hbl := hI.2.2.2.2.lt
    dsimp only
    unfold Cq.cells
    gi_wp2
    exact hK _ _ ((KeepsOthers.alloc _ _).from _) (fun k hk => Below.heap_alloc _ _ k (by omega)) ⟨hI.alloc _, hB.alloc hsW _⟩ ⟨W.heap.size, by omega, Box.new W _ _, rfl⟩
  case body =>
    rintro l pre ⟨j, hj⟩ a' W hl ⟨r, hr⟩ ⟨⟨⟨v, L, s, hw, hL, hs, hba, hTl⟩, hbt, hbr, hbw, hbs⟩, hB⟩ ⟨Bx, hBx, bX, rfl⟩ hlen
    dsimp only at bX ⊢
    have hjx : j < rs.length := by have := HM.out; omega
    have hdrop : rs.drop j = cqAt rs j :: rs.drop (j + 1) := by rw [List.drop_eq_getElem_cons hjx, cqAt_eq hjx]
    have hqm : cqAt rs j ∈ rs := by rw [← cqAt_eq hjx]; exact List.getElem_mem _
    obtain ⟨hT, hqa, hrea, hhas⟩ := HP.out
    have hq := hqa _ hqm
    have hre := hrea _ hqm
    have hha := hhas _ hqm
    have hx := HX.out.below hB hhi
    have hgs := HG.out.below hB hBw
    have hsW := hB.size
    have hbsl := hbs.lt
    have hwl := hw.lt
    generalize cqAt rs j = q at *
    obtain ⟨⟨t0, t1, t2, t3, t4, t5⟩, _⟩ := box6 hbt
    have b3 : W.cell? ⟨w.heap.size + 1, 0, none⟩ = some (.slice (some ⟨dd, oo, none⟩) m c2) := hbr.cell 0
    have b5 : W.cell? ⟨G, 0, none⟩ = some (.pointer (some ⟨w.heap.size + 2, 0, none⟩)) := hbw.cell 0
    have x0 := bX.cell 0
    have x1 := bX.cell 1
    have x2 := bX.cell 2
    have x3 := bX.cell 3
    have x4 := bX.cell 4
    have x5 := bX.cell 5
    have x6 := bX.cell 6
    have x7 := bX.cell 7
    have x8 := bX.cell 8
    simp [Cq.cells] at x0 x1 x2 x3 x4 x5 x6 x7 x8
    have HQ := Lib.hid (And.intro hT (And.intro hq (And.intro hdrop (And.intro hbt (And.intro hbr (And.intro hbs hTl))))))
    have HS := Lib.hid hs
    have HBa := Lib.hid hba
    have HBx := Lib.hid bX
    have HBw := Lib.hid hbw
    have HB := Lib.hid hB
    have HW := Lib.hid hw
    have HGs := Lib.hid hgs
    have hGx : w.heap.size + 2 ≤ G := by omega
    by_cases hlast : j + 1 = m
    · have htest : ((j : Int) == (m : Int) - 1) = true := by simp; omega
      have HL := Lib.hid (last_coded hx (by omega) hT hq hha)
      unfold Ts.val Cq.cells at HL
      clear hx hT hq hre hha hqa hrea hhas hqm hdrop hbt hbr hbs hTl hs hba bX hbw hB hw hgs
      gi_wp2_with fail
      refine ⟨trivial, ?_⟩
      refine (CallsIn.inRound l (callsIn_wide.2 HL.out)).mono ?_
      rintro e W1 ⟨s1, rfl, ha1, hB1⟩
      have hba1 := HBa.out.below hB1 (by omega)
      have a0 := hba1.cell 0
      have a1 := hba1.cell 1
      have a2 := hba1.cell 2
      have f0 := hba1.free 0
      have f1 := hba1.free 1
      have f2 := hba1.free 2
      simp [St.cells] at a0 a1 a2
      have hrow := HW.out.row
      have HM3 : Hid (WrM B w W (set3 W1 (G + 1) (.int .i64 (s1.l : Int)) (.int .i64 (s1.o : Int)) (.int .i64 (s1.m : Int))) T m G (w.heap.size + 2) Bx v v q s1 L L) := by
        have hk : ∀ k, k < W.heap.size → k ≠ G + 1 → (set3 W1 (G + 1) (.int .i64 (s1.l : Int)) (.int .i64 (s1.o : Int)) (.int .i64 (s1.m : Int))).heap[k]? = W.heap[k]? := fun k h1 h2 => (set3_heap k h2).trans (hB1.block k h1)
        refine ⟨by rw [set3_size]; exact hB1.size, fun k h1 _ h2 _ => hk k h1 h2, HW.out.keepO (hk _ hwl (by omega)) fun k e => hk k (hrow k e).2 fun e2 => HW.out.2.2.ne_box HBa.out (by decide) (by rw [e, e2]), set3_box hba1, HBx.out.keep (hk _ HBx.out.lt (by omega)), HBw.out.keep (hk _ HBw.out.lt (by omega)), HGs.out.keep (fun k h => hk k (by have := HGs.out.size; omega) (by omega)) (by rw [set3_size]; exact hB1.size), Near.refl _ _, ha1.ok, set3_below (HB.out.trans (hB1.mono HB.out.size)) (by omega), by omega⟩
      have HTl : Hid ((pre ++ [(⟨j, hj⟩ : Pl m)]).map (·.1) = backs m (pre.length + 1) → Tells T (rs.drop (m - (pre.length + 1))) s1 (L ++ valBits q)) := by
        intro hmap
        obtain ⟨h1, h2⟩ := last_place hmap
        dsimp only at h2
        obtain ⟨hT, hq, hdrop, hbt, hbr, hbs, hTl⟩ := HQ.out
        have hp0 : pre = [] := List.eq_nil_of_length_eq_zero (by omega)
        have hL0 := (hTl h1).1 hp0
        rw [show m - (pre.length + 1) = j by omega, hdrop, List.drop_of_length_le (by have := HM.out; omega), hL0]
        exact ⟨ha1, rfl⟩
      unfold St.cells
      clear hba1 ha1 HL hB1
      gi_wp2_with fail
      obtain ⟨Wm, hWm⟩ : ∃ Wm, Wm = set3 W1 (G + 1) (.int .i64 (s1.l : Int)) (.int .i64 (s1.o : Int)) (.int .i64 (s1.m : Int)) := ⟨_, rfl⟩
      change Code.wpIn _ _ _ _ _ _ (set3 W1 (G + 1) (.int .i64 (s1.l : Int)) (.int .i64 (s1.o : Int)) (.int .i64 (s1.m : Int)))
      rw [← hWm] at HM3 ⊢
      clear hWm a0 a1 a2 f0 f1 f2
      obtain ⟨v3, LL, hv3, hLL⟩ : ∃ (v3 : Value) (LL : List Bool), v3 = v ∧ LL = L := ⟨v, L, rfl, rfl⟩
      have HM3 : Hid (WrM B w W Wm T m G (w.heap.size + 2) Bx v v3 q s1 L LL) := by rw [hv3, hLL]; exact HM3.out
      rw [← hLL] at HTl
      clear hv3 hLL
      have hLb : L.length ≤ 1000000 := by omega
      have hmz := HM3.out.sz
      gi_loopw [9, 10] (fun i i10 wr => ∃ (p n : Nat) (v4 : Value), p + n = 3 ∧ i = .int .i64 ((p : Int) - 1) ∧ WR wr (w.heap.size + 2) (w.heap.size + 2) v4 (LL ++ vlB q n) ∧ Foot Wm wr (w.heap.size + 2) v3.ownBlock ∧ Near Wm v3.ownBlock v4.ownBlock) (fun i _ _ => (intOf i + 1).toNat)
      case atStart => exact ⟨3, 0, v3, rfl, rfl, by rw [vlB, List.append_nil]; exact HM3.out.wr, Foot.refl _ _ _, Near.refl _ _⟩
      case round =>
        obtain ⟨p, n, v4, hpn, rfl, hw4, hF4, hN4⟩ := hrel
        have hrow3 := HM3.out.wr.row
        have hw4l := hw4.lt
        have hz4 := hF4.size
        rcases p with _ | j2
        · obtain rfl : n = 3 := by omega
          rw [show ((0 : Nat) : Int) - 1 = -1 from rfl]
          rw [vlB_all] at hw4
          have hFin : Hid (KeepsFrom (G + 3) W wr ∧ KpP (fun k => k < w.heap.size ∨ k = G + 2) W wr ∧ (WrI T rs m (G + 1) w.heap.size (w.heap.size + 1) G (G + 2) (w.heap.size + 2) x.cells (.slice (some ⟨dd, oo, none⟩) m c2) (.slice (some ⟨dd, oo, none⟩) m c2) (pre ++ [⟨j, hj⟩]) wr ∧ Below w.heap.size w wr)) := by
            obtain ⟨hT, hq, hdrop, hbt, hbr, hbs, hTl⟩ := HQ.out
            have hWv := HW.out
            have hrow := hWv.row
            have hnr : ∀ k, k < W.heap.size → some k ≠ v.ownBlock → some k ≠ v3.ownBlock := fun k hk h e => by
              rcases HM3.out.nr with h2 | ⟨j2, h2, h3⟩
              · exact h (e.trans h2)
              · rw [h2] at e; injection e with e; omega
            have hk : ∀ k, k < W.heap.size → k ≠ w.heap.size + 2 → k ≠ G + 1 → some k ≠ v.ownBlock → wr.heap[k]? = W.heap[k]? := fun k h1 h2 h3 h4 => (hF4.block k (by omega) h2 (hnr k h1 h4)).trans (HM3.out.hk k h1 h2 h3 h4)
            have hno : ∀ {b : Nat} {t : TypeId} {cs : Array Value}, Box W b t cs → 5 ≠ t → some b ≠ v.ownBlock := fun hb hne e => hWv.2.2.ne_box hb hne e.symm
            have hlo : ∀ k, k < w.heap.size + 2 → some k ≠ v.ownBlock := fun k hk e => by have := (hrow k e.symm).1; omega
            have hbal := HBa.out.lt
            have hba4 : Box wr (G + 1) 120 s1.cells := HM3.out.ba.keep (hF4.block _ (by omega) (by omega) (fun e => HM3.out.wr.2.2.ne_box HM3.out.ba (by decide) e.symm))
            have hvl := vlB_len hq 3 (Nat.le_refl _)
            refine ⟨⟨by omega, fun k o _ ho hc => ?_⟩, fun k hk' => ?_, ⟨⟨v4, LL ++ valBits q, s1, hw4, ?_, HM3.out.ok, hba4, fun hmap => ⟨fun e => absurd e (by simp), fun _ => ?_⟩⟩, hbt.keep (hk _ (by omega) (by omega) (by omega) (hno hbt (by decide))), hbr.keep (hk _ (by omega) (by omega) (by omega) (hno hbr (by decide))), HBw.out.keep (hk _ (by omega) (by omega) (by omega) (hno HBw.out (by decide))), hbs.keep (hk _ (by omega) (by omega) (by omega) (hno hbs (by decide)))⟩, ?_⟩
            · have hkl : k < W.heap.size := (Array.getElem?_eq_some_iff.1 ho).1
              have hne : ∀ {b : Nat} {t : TypeId} {cs : Array Value}, Box W b t cs → k ≠ b := fun hb e => by
                subst e
                unfold Box at hb
                rw [hb] at ho
                injection ho with ho
                subst ho
                simp [Obj.isCells] at hc
              refine (hk k hkl (hne hWv.2.1) (hne HBa.out) (fun e => ?_)).trans ho
              obtain ⟨o', ho', hc'⟩ := hWv.rowCells k e.symm
              rw [ho] at ho'
              injection ho' with ho'
              subst ho'
              rw [hc] at hc'
              cases hc'
            · rcases hk' with h | rfl
              · exact hk k (by omega) (by omega) (by omega) (hlo k (by omega))
              · exact hk _ (by omega) (by omega) (by omega) (hno hbs (by decide))
            · have h45 := HM3.out.ln
              rw [List.length_append, List.length_append, List.length_singleton]
              rw [vlB_all] at hvl
              omega
            · rw [List.length_append, List.length_singleton] at hmap ⊢
              exact HTl.out hmap
            · have hbe := HM3.out.be
              exact ⟨hF4.os.trans hbe.os, hF4.tape.trans hbe.tape, hF4.output.trans hbe.output, by omega, fun k hk' => (hF4.block k (by omega) (by omega) (hnr k (by omega) (hlo k (by omega)))).trans (hbe.block k hk')⟩
          clear hw4 hF4 hN4 HM3 HQ HW HBa HBx HBw HB HGs HS
          gi_wp2_with fail
          exact hFin.out
        · rw [show ((j2 + 1 : Nat) : Int) - 1 = (j2 : Int) by omega]
          have hj3 : j2 < 3 := by omega
          have hji : (j2 : Int) < 3 := by omega
          have hj0 : (0 : Int) ≤ (j2 : Int) := by omega
          have hjn : j2 = 2 - n := by omega
          have hlow : ∀ k, k < w.heap.size + 2 → wr.heap[k]? = Wm.heap[k]? := fun k hk => hF4.block k (by omega) (by omega) (fun e => by have := (hrow3 k e.symm).1; omega)
          have vj : wr.cell? ⟨0, j2, none⟩ = some (.int .i64 (vo j2 : Int)) := (HM3.out.gs.keep (fun k hk => hlow k (by omega)) hz4).v j2 hj3
          have hbx4 : Box wr Bx 146 q.cells := HM3.out.bx.keep (hF4.block _ HM3.out.bx.lt (by omega) (fun e => HM3.out.wr.2.2.ne_box HM3.out.bx (by decide) e.symm))
          have hbw4 : Box wr G 152 #[.pointer (some ⟨w.heap.size + 2, 0, none⟩)] := HM3.out.bw.keep (hF4.block _ HM3.out.bw.lt (by omega) (fun e => HM3.out.wr.2.2.ne_box HM3.out.bw (by decide) e.symm))
          have hvk := vo_lt j2
          have y0 := (hbx4.cell (vo j2 * 3)).trans (q.cell hvk).1
          have y1 := (hbx4.cell (vo j2 * 3 + 1)).trans (q.cell hvk).2.1
          have y2 := (hbx4.cell (vo j2 * 3 + 2)).trans (q.cell hvk).2.2
          have hv4 : vlB q (n + 1) = vlB q n ++ low (q.at (vo j2)).x (q.at (vo j2)).b := by rw [hjn]; rfl
          have hqv : (q.at (vo j2)).b ≤ 31 ∧ (q.at (vo j2)).x < 2 ^ (q.at (vo j2)).b := by
            have hq := HQ.out.2.1
            rcases (show vo j2 = 0 ∨ vo j2 = 1 ∨ vo j2 = 2 by omega) with e | e | e <;> rw [e]
            · exact ⟨by rw [show (q.at 0).b = q.l.b from rfl, hq.l.b]; exact add_56 (n := 0) (by decide) hq.l.c, hq.l.x⟩
            · exact ⟨by rw [show (q.at 1).b = q.o.b from rfl, hq.o.b]; exact add_56 (n := 1) (by decide) hq.o.c, hq.o.x⟩
            · exact ⟨by rw [show (q.at 2).b = q.m.b from rfl, hq.m.b]; exact add_56 (n := 2) (by decide) hq.m.c, hq.m.x⟩
          generalize vo j2 = K at *
          generalize q.at K = cv at *
          have hx31 : cv.x < 2147483648 := Nat.lt_of_lt_of_le hqv.2 (Nat.pow_le_pow_right (by omega) hqv.1)
          have hKi : (K : Int) < 3 := by omega
          have hux : IntKind.u64.wrap (cv.x : Int) = (cv.x : Int) := by rw [IntKind.wrap_u64]; omega
          have hvl := vlB_len HQ.out.2.1 n (by omega)
          have hln := HM3.out.ln
          have HWr := Lib.hid (write_any (w := wr.alloc (.cells #[.int .i64 (cv.c : Int), .int .u32 (cv.x : Int), .int .i64 (cv.b : Int)] 144)) cv.x (cv.b : Int) (hw4.keep fun k _ hk => Below.heap_alloc _ _ k hk) (by omega) (by rw [List.length_append]; omega))
          have HF4 := Lib.hid (And.intro hF4 (And.intro hN4 hw4))
          have HV4 := Lib.hid hv4
          have b5' : (wr.alloc (.cells #[.int .i64 (cv.c : Int), .int .u32 (cv.x : Int), .int .i64 (cv.b : Int)] 144)).cell? ⟨G, 0, none⟩ = some (.pointer (some ⟨w.heap.size + 2, 0, none⟩)) := (hbw4.alloc _).cell 0
          clear hlow hbx4 hbw4 hF4 hN4 hw4 hv4 hjn
          gi_wp2_with fail
          refine ⟨trivial, ?_⟩
          refine (CallsIn.inRound l (callsIn_wide.2 HWr.out)).mono ?_
          rintro e w5 ⟨rfl, v5, hw5, hF5, hN5⟩
          obtain ⟨hF4, hN4, hw4⟩ := HF4.out
          have hF : Foot Wm w5 (w.heap.size + 2) v3.ownBlock := by
            have hFa : Foot wr (wr.alloc (.cells #[.int .i64 (cv.c : Int), .int .u32 (cv.x : Int), .int .i64 (cv.b : Int)] 144)) (w.heap.size + 2) v4.ownBlock := ⟨rfl, rfl, rfl, by simp, fun k hk _ _ => Below.heap_alloc _ _ k hk⟩
            exact hF4.trans hN4 (hFa.trans (Near.refl _ _) hF5)
          have hN : Near Wm v3.ownBlock v5.ownBlock := hN4.trans hN5 (by simp; omega)
          have hw5' : WR w5 (w.heap.size + 2) (w.heap.size + 2) v5 (LL ++ vlB q (n + 1)) := by
            rw [HV4.out, ← List.append_assoc, ← lows_back cv.x cv.b (by omega)]
            exact hw5
          have HE := Lib.hid (And.intro hw5' (And.intro hF hN))
          clear hw5 hF5 hN5 hF hN hw5' hF4 hN4 hw4 HF4 HWr
          gi_wp2_with fail
          go_roundw
          case rel => exact ⟨j2, n + 1, v5, by omega, rfl, HE.out⟩
          case measure => simp [intOf]
    · have htest : ((j : Int) == (m : Int) - 1) = false := by simp; omega
      have HL := Lib.hid (beforeT_any (B := B) (base := w.heap.size + 2) hgs hw (by omega) hx (by omega) hT hs hq hre (by omega))
      have a0 := hba.cell 0
      have a1 := hba.cell 1
      have a2 := hba.cell 2
      simp [St.cells] at a0 a1 a2
      unfold Ts.val Cq.cells St.cells at HL
      clear hx hT hq hre hha hqa hrea hhas hqm hdrop hbt hbr hbs hTl hs hba bX hbw hB hw hgs
      gi_wp2_with fail
      refine ⟨trivial, ?_⟩
      refine (CallsIn.inRound l (callsIn_wide.2 HL.out)).mono ?_
      rintro e W1 ⟨s1, xl, xo, xm, v9, rfl, ha1, hgo, hst, hw9, hF9, hN9⟩
      have hrow := HW.out.row
      have hno : ∀ {b : Nat} {t : TypeId} {cs : Array Value}, Box W b t cs → 5 ≠ t → some b ≠ v.ownBlock := fun hb hne e => HW.out.2.2.ne_box hb hne e.symm
      have hba1 : Box W1 (G + 1) 120 s.cells := HBa.out.keep (hF9.block _ HBa.out.lt (by omega) (hno HBa.out (by decide)))
      clear a0 a1 a2
      have a0 := hba1.cell 0
      have a1 := hba1.cell 1
      have a2 := hba1.cell 2
      have f0 := hba1.free 0
      have f1 := hba1.free 1
      have f2 := hba1.free 2
      simp [St.cells] at a0 a1 a2
      have hsz9 := hF9.size
      have hgl9 := goBits_len (xl := xl) (xo := xo) (xm := xm) HQ.out.1 ha1.ok
      have HM3 : Hid (WrM B w W (set3 W1 (G + 1) (.int .i64 (s1.l : Int)) (.int .i64 (s1.o : Int)) (.int .i64 (s1.m : Int))) T m G (w.heap.size + 2) Bx v v9 q s1 L (L ++ goBits T s1 xl xo xm)) := by
        have hk : ∀ k, k < W.heap.size → k ≠ w.heap.size + 2 → k ≠ G + 1 → some k ≠ v.ownBlock → (set3 W1 (G + 1) (.int .i64 (s1.l : Int)) (.int .i64 (s1.o : Int)) (.int .i64 (s1.m : Int))).heap[k]? = W.heap[k]? := fun k h1 h2 h3 h4 => (set3_heap k h3).trans (hF9.block k h1 h2 h4)
        have hlo : ∀ k, k < w.heap.size + 2 → some k ≠ v.ownBlock := fun k hk e => by have := (hrow k e.symm).1; omega
        refine ⟨by rw [set3_size]; exact hsz9, hk, hw9.keepO (set3_heap _ (by omega)) fun k e => set3_heap k fun e2 => hw9.2.2.ne_box hba1 (by decide) (by rw [e, e2]), set3_box hba1, HBx.out.keep (hk _ HBx.out.lt (by omega) (by omega) (hno HBx.out (by decide))), HBw.out.keep (hk _ HBw.out.lt (by omega) (by omega) (hno HBw.out (by decide))), HGs.out.keep (fun k h => hk k (by have := HGs.out.size; omega) (by omega) (by omega) (hlo k (by omega))) (by rw [set3_size]; exact hsz9), hN9, ha1.ok, set3_below ⟨hF9.os.trans HB.out.os, hF9.tape.trans HB.out.tape, hF9.output.trans HB.out.output, by omega, fun k hk' => (hF9.block k (by omega) (by omega) (hlo k (by omega))).trans (HB.out.block k hk')⟩ (by omega), by rw [List.length_append]; omega⟩
      have HTl : Hid ((pre ++ [(⟨j, hj⟩ : Pl m)]).map (·.1) = backs m (pre.length + 1) → Tells T (rs.drop (m - (pre.length + 1))) s1 (L ++ goBits T s1 xl xo xm ++ valBits q)) := by
        intro hmap
        obtain ⟨h1, h2⟩ := last_place hmap
        dsimp only at h2
        obtain ⟨hT, hq, hdrop, hbt, hbr, hbs, hTl⟩ := HQ.out
        have hp0 : pre ≠ [] := fun e => by rw [e] at h2; simp at h2; omega
        have hL0 := (hTl h1).2 hp0
        rw [show m - (pre.length + 1) = j by omega, hdrop, show j + 1 = m - pre.length by omega]
        exact tells_cons hL0 ha1 hgo hst
      unfold St.cells
      clear hba1 ha1 HL hgo hst hw9 hF9 hN9 hsz9 hgl9 hrow hno
      gi_wp2_with fail
      obtain ⟨Wm, hWm⟩ : ∃ Wm, Wm = set3 W1 (G + 1) (.int .i64 (s1.l : Int)) (.int .i64 (s1.o : Int)) (.int .i64 (s1.m : Int)) := ⟨_, rfl⟩
      change Code.wpIn _ _ _ _ _ _ (set3 W1 (G + 1) (.int .i64 (s1.l : Int)) (.int .i64 (s1.o : Int)) (.int .i64 (s1.m : Int)))
      rw [← hWm] at HM3 ⊢
      clear hWm a0 a1 a2 f0 f1 f2
      obtain ⟨v3, LL, hv3, hLL⟩ : ∃ (v3 : Value) (LL : List Bool), v3 = v9 ∧ LL = L ++ goBits T s1 xl xo xm := ⟨v9, _, rfl, rfl⟩
      have HM3 : Hid (WrM B w W Wm T m G (w.heap.size + 2) Bx v v3 q s1 L LL) := by rw [hv3, hLL]; exact HM3.out
      rw [← hLL] at HTl
      clear hv3 hLL
      have hLb : L.length ≤ 1000000 := by omega
      have hmz := HM3.out.sz
      gi_loopw [9, 10] (fun i i10 wr => ∃ (p n : Nat) (v4 : Value), p + n = 3 ∧ i = .int .i64 ((p : Int) - 1) ∧ WR wr (w.heap.size + 2) (w.heap.size + 2) v4 (LL ++ vlB q n) ∧ Foot Wm wr (w.heap.size + 2) v3.ownBlock ∧ Near Wm v3.ownBlock v4.ownBlock) (fun i _ _ => (intOf i + 1).toNat)
      case atStart => exact ⟨3, 0, v3, rfl, rfl, by rw [vlB, List.append_nil]; exact HM3.out.wr, Foot.refl _ _ _, Near.refl _ _⟩
      case round =>
        obtain ⟨p, n, v4, hpn, rfl, hw4, hF4, hN4⟩ := hrel
        have hrow3 := HM3.out.wr.row
        have hw4l := hw4.lt
        have hz4 := hF4.size
        rcases p with _ | j2
        · obtain rfl : n = 3 := by omega
          rw [show ((0 : Nat) : Int) - 1 = -1 from rfl]
          rw [vlB_all] at hw4
          have hFin : Hid (KeepsFrom (G + 3) W wr ∧ KpP (fun k => k < w.heap.size ∨ k = G + 2) W wr ∧ (WrI T rs m (G + 1) w.heap.size (w.heap.size + 1) G (G + 2) (w.heap.size + 2) x.cells (.slice (some ⟨dd, oo, none⟩) m c2) (.slice (some ⟨dd, oo, none⟩) m c2) (pre ++ [⟨j, hj⟩]) wr ∧ Below w.heap.size w wr)) := by
            obtain ⟨hT, hq, hdrop, hbt, hbr, hbs, hTl⟩ := HQ.out
            have hWv := HW.out
            have hrow := hWv.row
            have hnr : ∀ k, k < W.heap.size → some k ≠ v.ownBlock → some k ≠ v3.ownBlock := fun k hk h e => by
              rcases HM3.out.nr with h2 | ⟨j2, h2, h3⟩
              · exact h (e.trans h2)
              · rw [h2] at e; injection e with e; omega
            have hk : ∀ k, k < W.heap.size → k ≠ w.heap.size + 2 → k ≠ G + 1 → some k ≠ v.ownBlock → wr.heap[k]? = W.heap[k]? := fun k h1 h2 h3 h4 => (hF4.block k (by omega) h2 (hnr k h1 h4)).trans (HM3.out.hk k h1 h2 h3 h4)
            have hno : ∀ {b : Nat} {t : TypeId} {cs : Array Value}, Box W b t cs → 5 ≠ t → some b ≠ v.ownBlock := fun hb hne e => hWv.2.2.ne_box hb hne e.symm
            have hlo : ∀ k, k < w.heap.size + 2 → some k ≠ v.ownBlock := fun k hk e => by have := (hrow k e.symm).1; omega
            have hbal := HBa.out.lt
            have hba4 : Box wr (G + 1) 120 s1.cells := HM3.out.ba.keep (hF4.block _ (by omega) (by omega) (fun e => HM3.out.wr.2.2.ne_box HM3.out.ba (by decide) e.symm))
            have hvl := vlB_len hq 3 (Nat.le_refl _)
            refine ⟨⟨by omega, fun k o _ ho hc => ?_⟩, fun k hk' => ?_, ⟨⟨v4, LL ++ valBits q, s1, hw4, ?_, HM3.out.ok, hba4, fun hmap => ⟨fun e => absurd e (by simp), fun _ => ?_⟩⟩, hbt.keep (hk _ (by omega) (by omega) (by omega) (hno hbt (by decide))), hbr.keep (hk _ (by omega) (by omega) (by omega) (hno hbr (by decide))), HBw.out.keep (hk _ (by omega) (by omega) (by omega) (hno HBw.out (by decide))), hbs.keep (hk _ (by omega) (by omega) (by omega) (hno hbs (by decide)))⟩, ?_⟩
            · have hkl : k < W.heap.size := (Array.getElem?_eq_some_iff.1 ho).1
              have hne : ∀ {b : Nat} {t : TypeId} {cs : Array Value}, Box W b t cs → k ≠ b := fun hb e => by
                subst e
                unfold Box at hb
                rw [hb] at ho
                injection ho with ho
                subst ho
                simp [Obj.isCells] at hc
              refine (hk k hkl (hne hWv.2.1) (hne HBa.out) (fun e => ?_)).trans ho
              obtain ⟨o', ho', hc'⟩ := hWv.rowCells k e.symm
              rw [ho] at ho'
              injection ho' with ho'
              subst ho'
              rw [hc] at hc'
              cases hc'
            · rcases hk' with h | rfl
              · exact hk k (by omega) (by omega) (by omega) (hlo k (by omega))
              · exact hk _ (by omega) (by omega) (by omega) (hno hbs (by decide))
            · have h45 := HM3.out.ln
              rw [List.length_append, List.length_append, List.length_singleton]
              rw [vlB_all] at hvl
              omega
            · rw [List.length_append, List.length_singleton] at hmap ⊢
              exact HTl.out hmap
            · have hbe := HM3.out.be
              exact ⟨hF4.os.trans hbe.os, hF4.tape.trans hbe.tape, hF4.output.trans hbe.output, by omega, fun k hk' => (hF4.block k (by omega) (by omega) (hnr k (by omega) (hlo k (by omega)))).trans (hbe.block k hk')⟩
          clear hw4 hF4 hN4 HM3 HQ HW HBa HBx HBw HB HGs HS
          gi_wp2_with fail
          exact hFin.out
        · rw [show ((j2 + 1 : Nat) : Int) - 1 = (j2 : Int) by omega]
          have hj3 : j2 < 3 := by omega
          have hji : (j2 : Int) < 3 := by omega
          have hj0 : (0 : Int) ≤ (j2 : Int) := by omega
          have hjn : j2 = 2 - n := by omega
          have hlow : ∀ k, k < w.heap.size + 2 → wr.heap[k]? = Wm.heap[k]? := fun k hk => hF4.block k (by omega) (by omega) (fun e => by have := (hrow3 k e.symm).1; omega)
          have vj : wr.cell? ⟨0, j2, none⟩ = some (.int .i64 (vo j2 : Int)) := (HM3.out.gs.keep (fun k hk => hlow k (by omega)) hz4).v j2 hj3
          have hbx4 : Box wr Bx 146 q.cells := HM3.out.bx.keep (hF4.block _ HM3.out.bx.lt (by omega) (fun e => HM3.out.wr.2.2.ne_box HM3.out.bx (by decide) e.symm))
          have hbw4 : Box wr G 152 #[.pointer (some ⟨w.heap.size + 2, 0, none⟩)] := HM3.out.bw.keep (hF4.block _ HM3.out.bw.lt (by omega) (fun e => HM3.out.wr.2.2.ne_box HM3.out.bw (by decide) e.symm))
          have hvk := vo_lt j2
          have y0 := (hbx4.cell (vo j2 * 3)).trans (q.cell hvk).1
          have y1 := (hbx4.cell (vo j2 * 3 + 1)).trans (q.cell hvk).2.1
          have y2 := (hbx4.cell (vo j2 * 3 + 2)).trans (q.cell hvk).2.2
          have hv4 : vlB q (n + 1) = vlB q n ++ low (q.at (vo j2)).x (q.at (vo j2)).b := by rw [hjn]; rfl
          have hqv : (q.at (vo j2)).b ≤ 31 ∧ (q.at (vo j2)).x < 2 ^ (q.at (vo j2)).b := by
            have hq := HQ.out.2.1
            rcases (show vo j2 = 0 ∨ vo j2 = 1 ∨ vo j2 = 2 by omega) with e | e | e <;> rw [e]
            · exact ⟨by rw [show (q.at 0).b = q.l.b from rfl, hq.l.b]; exact add_56 (n := 0) (by decide) hq.l.c, hq.l.x⟩
            · exact ⟨by rw [show (q.at 1).b = q.o.b from rfl, hq.o.b]; exact add_56 (n := 1) (by decide) hq.o.c, hq.o.x⟩
            · exact ⟨by rw [show (q.at 2).b = q.m.b from rfl, hq.m.b]; exact add_56 (n := 2) (by decide) hq.m.c, hq.m.x⟩
          generalize vo j2 = K at *
          generalize q.at K = cv at *
          have hx31 : cv.x < 2147483648 := Nat.lt_of_lt_of_le hqv.2 (Nat.pow_le_pow_right (by omega) hqv.1)
          have hKi : (K : Int) < 3 := by omega
          have hux : IntKind.u64.wrap (cv.x : Int) = (cv.x : Int) := by rw [IntKind.wrap_u64]; omega
          have hvl := vlB_len HQ.out.2.1 n (by omega)
          have hln := HM3.out.ln
          have HWr := Lib.hid (write_any (w := wr.alloc (.cells #[.int .i64 (cv.c : Int), .int .u32 (cv.x : Int), .int .i64 (cv.b : Int)] 144)) cv.x (cv.b : Int) (hw4.keep fun k _ hk => Below.heap_alloc _ _ k hk) (by omega) (by rw [List.length_append]; omega))
          have HF4 := Lib.hid (And.intro hF4 (And.intro hN4 hw4))
          have HV4 := Lib.hid hv4
          have b5' : (wr.alloc (.cells #[.int .i64 (cv.c : Int), .int .u32 (cv.x : Int), .int .i64 (cv.b : Int)] 144)).cell? ⟨G, 0, none⟩ = some (.pointer (some ⟨w.heap.size + 2, 0, none⟩)) := (hbw4.alloc _).cell 0
          clear hlow hbx4 hbw4 hF4 hN4 hw4 hv4 hjn
          gi_wp2_with fail
          refine ⟨trivial, ?_⟩
          refine (CallsIn.inRound l (callsIn_wide.2 HWr.out)).mono ?_
          rintro e w5 ⟨rfl, v5, hw5, hF5, hN5⟩
          obtain ⟨hF4, hN4, hw4⟩ := HF4.out
          have hF : Foot Wm w5 (w.heap.size + 2) v3.ownBlock := by
            have hFa : Foot wr (wr.alloc (.cells #[.int .i64 (cv.c : Int), .int .u32 (cv.x : Int), .int .i64 (cv.b : Int)] 144)) (w.heap.size + 2) v4.ownBlock := ⟨rfl, rfl, rfl, by simp, fun k hk _ _ => Below.heap_alloc _ _ k hk⟩
            exact hF4.trans hN4 (hFa.trans (Near.refl _ _) hF5)
          have hN : Near Wm v3.ownBlock v5.ownBlock := hN4.trans hN5 (by simp; omega)
          have hw5' : WR w5 (w.heap.size + 2) (w.heap.size + 2) v5 (LL ++ vlB q (n + 1)) := by
            rw [HV4.out, ← List.append_assoc, ← lows_back cv.x cv.b (by omega)]
            exact hw5
          have HE := Lib.hid (And.intro hw5' (And.intro hF hN))
          clear hw5 hF5 hN5 hF hN hw5' hF4 hN4 hw4 HF4 HWr
          gi_wp2_with fail
          go_roundw
          case rel => exact ⟨j2, n + 1, v5, by omega, rfl, HE.out⟩
          case measure => simp [intOf]
  case done =>
    rintro D ys W hD hys ⟨⟨⟨v, L, s, hw, hL, hs, hba, hTl⟩, hbt, hbr, hbw, hbs⟩, hB⟩ hK
    have hyl : ys.length = m := by
      have := congrArg List.length hys
      rw [List.length_map, backs_len] at this
      exact this
    have hTe : Tells T rs s L := by
      have h1 := (hTl (by rw [hyl]; exact hys)).2 (fun e => by rw [e] at hyl; simp at hyl; omega)
      rw [hyl, Nat.sub_self, List.drop_zero] at h1
      exact h1
    rw [hyl] at hL
    have HTe := Lib.hid hTe
    clear hTl hTe hys hyl
    gi_wp2_with fail
    refine ⟨trivial, ?_⟩
    refine (callsIn_wide.2 (backwardI_any _ _ _ _)).mono ?_
    rintro e w6 ⟨rfl, rfl⟩
    gi_wp2_with fail
    have hsW := hB.size
    have hDl : D < W.heap.size := (Array.getElem?_eq_some_iff.1 hK).1
    have hbal := hba.lt
    have hbwl := hbw.lt
    obtain ⟨E, hE⟩ : ∃ E, E = W.heap.size := ⟨_, rfl⟩
    obtain ⟨W4, hW4⟩ : ∃ W4, W4 = W.alloc (.cells #[.slice (some ⟨G + 1, 0, none⟩) 3 3] 72) := ⟨_, rfl⟩
    have hb4 : Below W.heap.size W W4 := by rw [hW4]; exact (Below.refl _ _).alloc (Nat.le_refl _) _
    have hx4 : Box W4 E 72 #[.slice (some ⟨G + 1, 0, none⟩) 3 3] := by rw [hW4, hE]; exact Box.new W _ _
    have hz4 : W4.heap.size = E + 1 := by rw [hW4, World.size_alloc, hE]
    have hB4 : Below w.heap.size w W4 := hB.trans (hb4.mono hsW)
    have hs4 := hB4.size
    have hw4 := hw.below hb4 (Nat.le_refl _)
    have hba4 := hba.below hb4 hbal
    have hbt4 := hbt.below hb4 hbt.lt
    have hbw4 := hbw.below hb4 hbwl
    have hK4 : W4.heap[D]? = some (.deferred (some [])) := (hb4.block D hDl).trans hK
    have HLg := Lib.hid HX.out.l
    have HT3 := Lib.hid HP.out.1
    have HSt := Lib.hid hs
    rw [← hW4, ← hE]
    rw [← hE] at hbal hbwl hDl
    clear hW4 hb4 hw hba hbt hbr hbw hbs hB hK hs hsW hE
    refine wpIn_rangeFunc_ownG (F := Fence.wide) rfl (by omega) (gf := 104) (lb := #[.pointer (some ⟨E, 0, none⟩)]) rfl trivial (enters_of Tryz.func104 (by kernel_rfl) rfl)
      (backI_stops (m := 3) (f := fun k => (s.at k : Int)) Fence.wide 8 trivial rfl (by omega) E (G + 1) 0 trivial (by omega) (fun k => k = G + 1 ∨ k = E) (.inr rfl) (.inl rfl) W4 (by omega) (by omega) (hx4.cell 0) (fun k hk => (hba4.cell (0 + k)).trans (by rw [Nat.zero_add]; exact s.cell hk)))
      (fun h k => h.trans k) (KpP.row fun k hk => by omega) (Below.refl _ _) (fun _ => rfl)
      (fun pre W => WrJ T x s L G (w.heap.size + 2) w.heap.size E D pre W ∧ Below w.heap.size w W)
      (fun _ _ _ => False)
      (OwnFrom.and (fun s0 WA WB row hs hg hr => ?ownJ) (ownFrom_below (Nat.le_refl _) hs4))
      (fun _ _ _ _ _ hs _ _ => hs)
      ⟨⟨⟨v, L, hw4, by simp; omega, fun _ => by simp [stB]⟩, hba4, hbt4, hbw4, hx4, hK4⟩, hB4⟩
      (fun x0 => { tmps := #[.agg #[.int .i64 (x.l 0), .slice (x.A 0) (x.n 0) (x.c 0), .int .i64 (x.l 1), .slice (x.A 1) (x.n 1) (x.c 1), .int .i64 (x.l 2), .slice (x.A 2) (x.n 2) (x.c 2)], .slice (some ⟨dd, oo, none⟩) m c2, .pointer (some ⟨w.heap.size, 0, none⟩), .pointer (some ⟨w.heap.size + 1, 0, none⟩), .slice none 0 0, .pointer (some ⟨G, 0, none⟩), .pointer (some ⟨G + 1, 0, none⟩), undef, undef, undef, undef, .int .i64 (x0.1 : Int), .int .i64 (s.at x0.1 : Int), .pointer (some ⟨w.heap.size + 2, 0, none⟩), .slice (some ⟨dd, oo, none⟩) m c2, .func (.func 100) #[] #[.pointer (some ⟨G + 2, 0, none⟩)], undef, undef, undef, undef, undef, undef, undef, undef, undef, undef, undef, undef, undef, undef, undef, undef, undef, undef, undef, undef, undef, undef, undef, undef, undef, undef, undef, undef, undef, undef, undef, .slice (some ⟨G + 1, 0, none⟩) 3 3, .func (.func 104) #[] #[.pointer (some ⟨E, 0, none⟩)], .int .i64 (x0.1 : Int), .int .i64 (s.at x0.1 : Int), undef, undef, undef, undef, undef, undef, undef, undef, undef, undef], defers := [] })
      ?assign2 ?body2 ?done2 ?stop2
    case ownJ =>
      obtain ⟨⟨v8, L8, h1, h2, h3⟩, h4, h5, h6, h7, h8⟩ := hs
      have hr2 := fun r e => (hr r e).2
      exact ⟨⟨v8, L8, h1.ownRow hg hr2, h2, h3⟩, h4.own hg hr2, h5.own hg hr2, h6.own hg hr2, h7.own hg hr2, (hg.block D (Array.getElem?_eq_some_iff.1 h8).1 (fun e => by have := (hr D e.symm).1; omega)).trans h8⟩
    case assign2 =>
      intro l x0 W' K hK'
      gi_wp2
      exact hK'
    case body2 =>
      rintro l pre ⟨j, hj⟩ W' ⟨⟨⟨v2, L2, hw2, hL2, hI2⟩, ha2, ht2, hw5, he2, hK2⟩, hB2⟩ hlen
      dsimp only
      have hji : (j : Int) < 3 := by omega
      have t0 := (ht2.cell (j * 2)).trans (x.at hj).1
      have b5 : W'.cell? ⟨G, 0, none⟩ = some (.pointer (some ⟨w.heap.size + 2, 0, none⟩)) := hw5.cell 0
      have hst := HT3.out.tb hj |>.state (HSt.out.at hj)
      have hlg := (HT3.out.tb hj).lg
      have hp9 : 2 ^ (T.tb j).lg ≤ 2 ^ 9 := Nat.pow_le_pow_right (by omega) hlg
      rw [HLg.out j hj] at t0
      have hux : IntKind.u64.wrap (s.at j : Int) = (s.at j : Int) := by rw [IntKind.wrap_u64]; omega
      have HWr := Lib.hid (write_any (w := W'.drew) (s.at j) ((T.tb j).lg : Int) (hw2.drawn 1) (by omega) (by omega))
      have HJ := Lib.hid (And.intro hw2 (And.intro hI2 (And.intro ha2 (And.intro ht2 (And.intro hw5 (And.intro he2 (And.intro hK2 hB2)))))))
      have mixed : Tryz.prog.follows .mixedOrders = true := by kernel_rfl
      have HEnd : Hid (∀ W8 v8, WR W8 (w.heap.size + 2) (w.heap.size + 2) v8 (L2 ++ lows (s.at j) ((T.tb j).lg : Int)) → Foot W'.drew W8 (w.heap.size + 2) v2.ownBlock → Near W'.drew v2.ownBlock v8.ownBlock →
          KeepsFrom W4.heap.size W' W8 ∧ KpP (fun k => k = G + 1 ∨ k = E) W' W8 ∧ (WrJ T x s L G (w.heap.size + 2) w.heap.size E D (pre ++ [⟨j, hj⟩]) W8 ∧ Below w.heap.size w W8)) := by
        intro W8 v8 hw8 hF8 hN8
        have hrow := hw2.row
        have hsz8 : W'.heap.size ≤ W8.heap.size := hF8.size
        have hk : ∀ k, k < W'.heap.size → k ≠ w.heap.size + 2 → some k ≠ v2.ownBlock → W8.heap[k]? = W'.heap[k]? := fun k h1 h2 h3 => hF8.block k h1 h2 h3
        have hno : ∀ {b : Nat} {t : TypeId} {cs : Array Value}, Box W' b t cs → 5 ≠ t → some b ≠ v2.ownBlock := fun hb hne e => hw2.2.2.ne_box hb hne e.symm
        have hne : ∀ {k : Nat} {o : Obj}, W'.heap[k]? = some o → o.isCells = false → k ≠ w.heap.size + 2 ∧ some k ≠ v2.ownBlock := fun ho hc => by
          constructor
          · rintro rfl
            obtain ⟨o', ho', hc'⟩ := hw2.cells
            rw [ho] at ho'
            injection ho' with ho'
            subst ho'
            rw [hc] at hc'
            cases hc'
          · intro e
            obtain ⟨o', ho', hc'⟩ := hw2.rowCells _ e.symm
            rw [ho] at ho'
            injection ho' with ho'
            subst ho'
            rw [hc] at hc'
            cases hc'
        have hal := ha2.lt
        have hel := he2.lt
        have htl := ht2.lt
        have hwl := hw5.lt
        have hsB := hB2.size
        refine ⟨⟨hsz8, fun k o _ ho hc => (hk k (Array.getElem?_eq_some_iff.1 ho).1 (hne ho hc).1 (hne ho hc).2).trans ho⟩, fun k hk' => ?_, ⟨⟨v8, _, hw8, ?_, fun hmap => ?_⟩, ha2.keep (hk _ hal (by omega) (hno ha2 (by decide))), ht2.keep (hk _ htl (by omega) (hno ht2 (by decide))), hw5.keep (hk _ hwl (by omega) (hno hw5 (by decide))), he2.keep (hk _ hel (by omega) (hno he2 (by decide))), (hk _ (Array.getElem?_eq_some_iff.1 hK2).1 (hne hK2 rfl).1 (hne hK2 rfl).2).trans hK2⟩, ?_⟩
        · rcases hk' with rfl | rfl
          · exact hk _ hal (by omega) (hno ha2 (by decide))
          · exact hk _ hel (by omega) (hno he2 (by decide))
        · rw [lows_back _ _ (by omega), List.length_append, low_length, List.length_append, List.length_singleton]
          omega
        · rw [List.length_append, List.length_singleton] at hmap ⊢
          obtain ⟨h1, h2⟩ := last_place hmap
          dsimp only at h2
          rw [hI2 h1, lows_back _ _ (by omega), stB, List.append_assoc, show 2 - pre.length = j by omega]
        · exact ⟨hF8.os.trans hB2.os, hF8.tape.trans hB2.tape, hF8.output.trans hB2.output, by omega, fun k hk' => (hk k (by omega) (by omega) (fun e => by have := (hrow k e.symm).1; omega)).trans (hB2.block k hk')⟩
      clear hw2 hI2 ha2 ht2 hw5 he2 hK2 hB2 HJ
      gi_wp2_with fail
      gi_region_with_o (refine ⟨trivial, ?_⟩; gi_at_call 71; refine (CallsIn.inRound l (callsIn_wide.2 HWr.out)).mono ?_; rintro e W8 ⟨rfl, v8, hw8, hF8, hN8⟩; have hE8 := Lib.hid (HEnd.out W8 v8 hw8 hF8 hN8); clear hw8 hF8 hN8)
      all_goals exact hE8.out
    case done2 =>
      rintro D2 zs W5 hD2 hzs ⟨⟨⟨v2, L2, hw2, hL2, hI2⟩, ha2, ht2, hw5, he2, hK2⟩, hB2⟩ hKd
      have hzl : zs.length = 3 := by
        have := congrArg List.length hzs
        rw [List.length_map, backs_len] at this
        exact this
      have hLE := hI2 (by rw [hzl]; exact hzs)
      rw [hzl, stB_all] at hLE
      have b5 : W5.cell? ⟨G, 0, none⟩ = some (.pointer (some ⟨w.heap.size + 2, 0, none⟩)) := hw5.cell 0
      have HCl := Lib.hid (closed_any hw2 (by omega))
      have hs5 := hB2.size
      have HLE := Lib.hid hLE
      have HK2 := Lib.hid (And.intro hK2 (And.intro hKd hB2))
      clear hw2 hI2 ha2 ht2 hw5 he2 hK2 hB2 hKd hLE hzs hzl
      gi_wp2_with fail
      refine ⟨trivial, ?_⟩
      refine (callsIn_wide.2 HCl.out).mono ?_
      rintro e W6 ⟨v6, rfl, ho6, hB6⟩
      gi_wp2_with fail
      obtain ⟨hK2, hKd, hB2⟩ := HK2.out
      have hd6 : W6.heap[D2]? = some (.deferred (some [])) := (hB6.block D2 (Array.getElem?_eq_some_iff.1 hKd).1).trans hKd
      have hD6 : W6.heap[D]? = some (.deferred (some [])) := (hB6.block D (Array.getElem?_eq_some_iff.1 hK2).1).trans hK2
      have hD7 : (W6.putObj D2 (.deferred none)).heap[D]? = some (.deferred (some [])) := (World.putObj_heap_other (by omega)).trans hD6
      refine ⟨by simp, .inl ⟨_, _, rfl, run_takeDeferred hd6, ?_⟩⟩
      refine ⟨by simp, .inl ⟨_, _, rfl, run_takeDeferred hD7, ?_⟩⟩
      have ho8 := (ho6.ownRow (grownBy_putObj' W6 D2 (.deferred none)) (fun r e => by cases e; exact ⟨_, hd6, rfl⟩)).ownRow (grownBy_putObj' (W6.putObj D2 (.deferred none)) D (.deferred none)) (fun r e => by cases e; exact ⟨_, hD7, rfl⟩)
      rw [HLE.out] at ho8
      have hb6 : Below w.heap.size w W6 := hB2.trans (hB6.mono (by omega))
      have hb7 := hb6.trans (belowK_b (w := w) (Nat.le_refl _) W6 D2 _ (.deferred none) (by omega) hd6 rfl rfl)
      have hb8 := hb7.trans (belowK_b (w := w) (Nat.le_refl _) _ D _ (.deferred none) (by omega) hD7 rfl rfl)
      exact ⟨_, results_tmp rfl _ _ _, v6, s, L, rfl, HTe.out, hL, ho8.mono hs5, hb8⟩
    case stop2 =>
      rintro D' c pre W' _ _ h _
      exact h.elim
  case stop =>
    rintro D c pre W _ _ h _
    exact h.elim
end
end Go.Proofs.YtlidnialggpcpaaGreatDoor
