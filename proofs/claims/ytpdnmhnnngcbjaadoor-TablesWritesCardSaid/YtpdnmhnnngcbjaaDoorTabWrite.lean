
/- The contract of the program's Write. -/
import Derived.Test.YtpdnmhnnngcbjaaDoorTabWays
import Derived.Deep.MidRow
import Derived.Deep.RegionHeld3
namespace Go.Proofs.YtpdnmhnnngcbjaaDoor
open Go.RowKit

/-- An array of 53 numbers, as a list of cells. -/
def l53 (k : IntKind) (f : Nat → Nat) : List Value := (List.range 53).map fun s => Value.int k (f s : Int)
theorem l53_arr (k : IntKind) (f : Nat → Nat) : (l53 k f).toArray = a53 k f := rfl
theorem l53_len (k : IntKind) (f : Nat → Nat) : (l53 k f).length = 53 := by simp [l53]
theorem Box.range {w : World} {g : Nat} {t : TypeId} {k : IntKind} {f : Nat → Nat} (h : Box w g t (a53 k f)) : w.rangeAt g 0 (l53 k f) := fun j v hv => by
  rw [Nat.zero_add]
  refine (h.cell j).trans ?_
  rw [← l53_arr]
  simpa using hv

/-- A way that is chosen for codes: it has each of them, and is told alone, given, or told. -/
structure WrOk (n : Nat) (l : List Int) (w : World) (x : Wy) (es : List En) : Prop where
  lies : Lies w x es
  has : HasAll es (oft l)
  how : (x.mode = 1 ∧ x.log = 0 ∧ x.tn = 1 ∧ 1 ≤ x.tc ∧ ∃ s : Nat, s ≤ lastN n ∧ es = [⟨(s : Int), 0, 0⟩] ∧ Dat false w 0 w.heap.size x.t [UInt8.ofNat s]) ∨ (WayGood n w (x, es) ∧ ¬ ∀ y ∈ l, y = l.getD 0 0)
theorem WrOk.below {n : Nat} {l : List Int} {w w' : World} {x : Wy} {es : List En} (h : WrOk n l w x es) (hB : Below w.heap.size w w') : WrOk n l w' x es :=
  ⟨h.lies.below hB, h.has, h.how.imp (fun ⟨h1, h2, h3, h4, s, h5, h6, h7⟩ => ⟨h1, h2, h3, h4, s, h5, h6, (h7.below hB (Nat.le_refl _)).mono (Nat.le_refl _) hB.size⟩) (fun ⟨h1, h2⟩ => ⟨h1.below hB, h2⟩)⟩

theorem writeT_kind {B : Nat} {w : World} {m c : Nat} {A : Option Addr} (k : Int) (hgl : Glob B w) (hk : ¬ (0 ≤ k ∧ k ≤ 2)) :
    Calls Tryd.prog 7 #[.int .i64 k, .slice A m c] w fun e w' => e = .returned (.tuple #[.agg #[.int .i64 0, .slice none 0 0], .int .i64 0, .slice none 0 0, .int .i64 1]) ∧ Below w.heap.size w w' := by
  have HK := Lib.hid (kind_any k _ (hgl.alloc (.cells #[.int .i64 0, .slice none 0 0] 26)))
  rw [decide_eq_false hk] at HK
  clear hgl hk
  go_enter Tryd.func7, Tryd.ntmps7
  go_wp2_with (go_at_call 15; refine HK.out.mono ?_; rintro e' w' ⟨rfl, rfl⟩)
  refine bodyPost_ret (v := .tuple #[.agg #[.int .i64 0, .slice none 0 0], .int .i64 0, .slice none 0 0, .int .i64 1]) (by simp [results, Tryd.results7, go_sem]) rfl ⟨rfl, ?_⟩
  exact (Below.refl _ _).alloc (Nat.le_refl _) _

theorem writeT_no {B : Nat} {w : World} {lo hi m c n : Nat} {A : Option Addr} {l : List Int} (hn : n < 3) (hgl : Glob B w) (hd : DatE icel w lo hi A l) (hhi : hi ≤ w.heap.size) (hm : l.length = m) (hm2 : m ≤ 1000) (hno : codesB n l = false) :
    Calls Tryd.prog 7 #[.int .i64 (n : Int), .slice A m c] w fun e w' => e = .returned (.tuple #[.agg #[.int .i64 0, .slice none 0 0], .int .i64 0, .slice none 0 0, .int .i64 1]) ∧ Below w.heap.size w w' := by
  have hgl1 := hgl.alloc (.cells #[.int .i64 0, .slice none 0 0] 26)
  have HK := Lib.hid (kind_any (n : Int) _ hgl1)
  rw [decide_eq_true (show (0 : Int) ≤ (n : Int) ∧ (n : Int) ≤ 2 by omega)] at HK
  have HMb := Lib.hid (mayBeT_any (c := c) n hn hgl1 (hd.alloc hhi (.cells #[.int .i64 0, .slice none 0 0] 26)) hm hm2)
  rw [hno] at HMb
  clear hgl hd hm hno hgl1
  go_enter Tryd.func7, Tryd.ntmps7
  go_wp2_with (first
    | (go_at_call 15; refine HK.out.mono ?_; rintro e' w' ⟨rfl, rfl⟩)
    | (go_at_call 16; refine HMb.out.mono ?_; rintro e' w' ⟨rfl, rfl⟩))
  refine bodyPost_ret (v := .tuple #[.agg #[.int .i64 0, .slice none 0 0], .int .i64 0, .slice none 0 0, .int .i64 1]) (by simp [results, Tryd.results7, go_sem]) rfl ⟨rfl, ?_⟩
  exact (Below.refl _ _).alloc (Nat.le_refl _) _

/-- The codes of a list of a kind, as numbers. -/
theorem codes_facts {n : Nat} {l : List Int} (hn : n < 3) (h : codesB n l = true) : 0 < l.length ∧ (∀ x ∈ l, 0 ≤ x ∧ x ≤ 52) ∧ (∀ s, lastN n < s → oft l s = 0) ∧ ∃ s : Nat, l.getD 0 0 = (s : Int) ∧ s ≤ lastN n ∧ (s : Int) ∈ l := by
  obtain ⟨h0, h1⟩ := codesB_iff.1 h
  have hla := last_le n hn
  refine ⟨h0, fun x hx => ?_, fun s hs => ?_, ?_⟩
  · have := h1 x hx; omega
  · rcases Nat.eq_zero_or_pos (oft l s) with e | e
    · exact e
    · have := h1 _ ((oft_pos l s).1 e)
      omega
  · have hm : l.getD 0 0 ∈ l := by rw [getD_of l 0 0 h0]; exact List.getElem_mem h0
    obtain ⟨h2, h3⟩ := h1 _ hm
    obtain ⟨s, hs⟩ := Int.eq_ofNat_of_zero_le h2
    rw [hs] at h3 hm
    exact ⟨s, hs, by omega, hm⟩
theorem two_codes {s : Nat} {l : List Int} (hb : ∀ x ∈ l, 0 ≤ x ∧ x ≤ 52) (hs : (s : Int) ∈ l) (hlt : oft l s < l.length) : 2 ≤ cnt (osF (oft l)) ∧ ¬ ∀ y ∈ l, y = (s : Int) := by
  have hne : ¬ ∀ y ∈ l, y = (s : Int) := fun h => by
    have : oft l s = l.length := by
      unfold oft
      rw [List.count_eq_length]
      exact fun y hy => (h y hy).symm
    omega
  refine ⟨?_, hne⟩
  obtain ⟨y, hy⟩ := Classical.not_forall.1 hne
  obtain ⟨hyl, hys⟩ := Classical.not_imp.1 hy
  obtain ⟨t, ht⟩ := Int.eq_ofNat_of_zero_le (hb y hyl).1
  subst ht
  have h1 := hb _ hs
  have h2 := hb _ hyl
  have p1 : 0 < (osF (oft l)).getD s 0 := by rw [osF_get _ _ (by omega)]; exact (oft_pos l s).2 hs
  have p2 : 0 < (osF (oft l)).getD t 0 := by rw [osF_get _ _ (by omega)]; exact (oft_pos l t).2 hyl
  rcases Nat.lt_or_gt_of_ne (show s ≠ t from fun e => hys (by rw [e])) with q | q
  · exact cnt_two q p1 p2
  · exact cnt_two q p2 p1
theorem all_same {s : Nat} {l : List Int} (heq : oft l s = l.length) : HasAll [⟨(s : Int), 0, 0⟩] (oft l) := fun t _ h0 => by
  have h1 := (oft_pos l t).1 h0
  have h2 : (t : Int) = (s : Int) := by
    unfold oft at heq
    rw [List.count_eq_length] at heq
    exact (heq _ h1).symm
  rw [stF_pos]
  exact ⟨0, by simp, by simp [List.getD]; omega⟩
theorem small_one {s : Nat} (hs : s < 53) : Small [⟨(s : Int), 0, 0⟩] := fun i => by
  rcases i with _ | i
  · exact ⟨s, 0, rfl, rfl, hs, by omega⟩
  · exact ⟨0, 0, rfl, rfl, by omega, by omega⟩

/-! A way's block is none of its table's, nor of its bytes'. -/
def Off (g : Nat) (A : Option Addr) : Prop := ∀ d o s, A = some ⟨d, o, s⟩ → d ≠ g
theorem box4_u8 {w : World} {g i : Nat} {t : TypeId} {a b y : Int} {A A' : Option Addr} {n n' c c' : Nat} (h : Box w g t #[.int .i64 a, .slice A n c, .int .i64 b, .slice A' n' c']) : w.cell? ⟨g, i, none⟩ ≠ some (.int .u8 y) := fun q => by
  rw [h.cell i] at q
  rcases i with _ | _ | _ | _ | i <;> simp at q
theorem box2_u8 {w : World} {g i : Nat} {t : TypeId} {a y : Int} {A : Option Addr} {n c : Nat} (h : Box w g t #[.int .i64 a, .slice A n c]) : w.cell? ⟨g, i, none⟩ ≠ some (.int .u8 y) := fun q => by
  rw [h.cell i] at q
  rcases i with _ | _ | i <;> simp at q
theorem DatR.off {w : World} {lo hi g : Nat} {A : Option Addr} {es : List En} (h : DatR 3 ecell w lo hi A es) (hx : 0 < es.length) (hb : ∀ i y, w.cell? ⟨g, i, none⟩ ≠ some (.int .u8 y)) : Off g A := fun d o s e q => by
  subst q
  obtain ⟨d', o', hA, _, _, hc⟩ := h hx
  rw [e] at hA
  injection hA with hA
  injection hA with h1 h2 h3
  subst h1
  exact hb _ _ (hc 0 hx 0 _ rfl)
theorem Dat.off {own : Bool} {w : World} {lo hi g : Nat} {A : Option Addr} {xs : List UInt8} (h : Dat own w lo hi A xs) (hx : 0 < xs.length) (hb : ∀ i y, w.cell? ⟨g, i, none⟩ ≠ some (.int .u8 y)) : Off g A := fun d o s e q => by
  subst q
  obtain ⟨d', o', hA, _, _, hc, _⟩ := h hx
  rw [e] at hA
  injection hA with hA
  injection hA with h1 h2 h3
  subst h1
  exact hb _ _ (hc 0 hx)
theorem DatR.setA {α : Type} {z : Nat} {fc : α → List Value} {w : World} {hi g i : Nat} {A : Option Addr} {xs : List α} (h : DatR z fc w 0 hi A xs) (ho : Off g A) (v : Value) : DatR z fc (w.setCell ⟨g, i, none⟩ v) 0 hi A xs := fun hx => by
  obtain ⟨d, o, hA, h1, h2, hc⟩ := h hx
  exact ⟨d, o, hA, h1, h2, fun j hj k u hu => (cell?_far _ _ (ho d o _ hA)).trans (hc j hj k u hu)⟩
theorem Dat.setA {own : Bool} {w : World} {hi g i : Nat} {A : Option Addr} {xs : List UInt8} (h : Dat own w 0 hi A xs) (ho : Off g A) (v : Value) : Dat own (w.setCell ⟨g, i, none⟩ v) 0 hi A xs := fun hx => by
  obtain ⟨d, o, hA, h1, h2, _⟩ := h hx
  have h' : Dat own w d (d + 1) A xs := fun hx => by
    obtain ⟨d', o', hA', h1', h2', hc'⟩ := h hx
    obtain rfl : d' = d := by rw [hA] at hA'; injection hA' with q; injection q with q; exact q.symm
    exact ⟨d', o', hA', Nat.le_refl _, by omega, hc'⟩
  have hne := ho d o _ hA
  exact ((h'.far (p := ⟨g, i, none⟩) (by show g < d ∨ d + 1 ≤ g; omega) v).mono (Nat.zero_le _) h2) hx
theorem Lies.set {w : World} {x : Wy} {es : List En} {g i : Nat} (h : Lies w x es) (ho : Off g x.e) (v : Value) : Lies (w.setCell ⟨g, i, none⟩ v) x es :=
  ⟨by have := h.ent.setA (i := i) ho v; simpa using this, h.len, h.n2, h.small, h.log, h.tn⟩
theorem WayGood.set {n : Nat} {w : World} {p : Wy × List En} {g i : Nat} (h : WayGood n w p) (ho : Off g p.1.t) (v : Value) : WayGood n (w.setCell ⟨g, i, none⟩ v) p := by
  rcases h with h | ⟨h1, l, ps, h2, h3, h4, h5, h6, h7, h8, h9⟩
  · exact .inl h
  · exact .inr ⟨h1, l, ps, h2, h3, h4, h5, h6, h7, h8, by have := h9.setA (i := i) ho v; simpa using this⟩
theorem WayGood.off {n g : Nat} {w : World} {p : Wy × List En} (h : WayGood n w p) (hb : ∀ i y, w.cell? ⟨g, i, none⟩ ≠ some (.int .u8 y)) : Off g p.1.t := by
  rcases h with ⟨_, _, _, _, h1, _⟩ | ⟨_, lg, ps, hmay, _, _, _, _, h7, _, h9⟩
  · rw [h1]
    exact fun _ _ _ q => by cases q
  · refine h9.off ?_ hb
    rw [wrC_len]
    have : 4 ≤ (wrC lg ps).length := by unfold wrC; rw [List.length_append, low_length]; omega
    omega
theorem WrOk.off {n g : Nat} {l : List Int} {w : World} {x : Wy} {es : List En} (h : WrOk n l w x es) {s : Nat} (hs : s < 53) (hsl : (s : Int) ∈ l) (hb : ∀ i y, w.cell? ⟨g, i, none⟩ ≠ some (.int .u8 y)) : Off g x.e ∧ Off g x.t := by
  refine ⟨h.lies.ent.off ?_ hb, ?_⟩
  · have h1 := h.has s hs ((oft_pos l s).2 hsl)
    have h2 := stF_le es es.length s
    omega
  · rcases h.how with ⟨_, _, _, _, t, _, _, hd⟩ | ⟨hg, _⟩
    · exact hd.off (by simp) hb
    · exact hg.off hb
theorem WrOk.set {n g i : Nat} {l : List Int} {w : World} {x : Wy} {es : List En} (h : WrOk n l w x es) (ho : Off g x.e ∧ Off g x.t) (v : Value) : WrOk n l (w.setCell ⟨g, i, none⟩ v) x es :=
  ⟨h.lies.set ho.1 v, h.has, h.how.imp (fun ⟨h1, h2, h3, h4, s, h5, h6, h7⟩ => ⟨h1, h2, h3, h4, s, h5, h6, by have := h7.setA (i := i) ho.2 v; simpa using this⟩) (fun ⟨h1, h2⟩ => ⟨h1.set ho.2 v, h2⟩)⟩

set_option maxRecDepth 100000 in
set_option maxHeartbeats 1000000 in
theorem writeT_low {B : Nat} {w : World} {lo hi m c n : Nat} {A : Option Addr} {l : List Int} (hn : n < 3) (hgl : Glob B w) (hd : DatE icel w lo hi A l) (hhi : hi ≤ w.heap.size) (hm : l.length = m) (hm2 : m ≤ 1000) (hyes : codesB n l = true) :
    Calls Tryd.prog 7 #[.int .i64 (n : Int), .slice A m c] w fun e w' => ∃ x es, e = .returned (.tuple #[.agg #[.int .i64 x.log, .slice x.e x.n x.c], .int .i64 x.mode, .slice x.t x.tn x.tc, .int .i64 0]) ∧ WrOk n l w' x es ∧ Below w.heap.size w w' ∧ LowA w.heap.size x.e := by
  have hgl1 := hgl.alloc (.cells #[.int .i64 0, .slice none 0 0] 26)
  have hd1 := hd.alloc hhi (.cells #[.int .i64 0, .slice none 0 0] 26)
  have HK := Lib.hid (kind_any (n : Int) _ hgl1)
  rw [decide_eq_true (show (0 : Int) ≤ (n : Int) ∧ (n : Int) ≤ 2 by omega)] at HK
  have HMb := Lib.hid (mayBeT_any (c := c) n hn hgl1 hd1 hm hm2)
  rw [hyes] at HMb
  obtain ⟨h0, hb52, hz, s, hs0, hsl, hsm⟩ := codes_facts hn hyes
  have hla := last_le n hn
  have HTa := Lib.hid (tallyT_any (c := c) hd1 (Nat.le_trans hhi (by simp)) hm hm2 hb52)
  have HX := Lib.hid (Box.new w 26 #[.int .i64 0, .slice none 0 0])
  have HB0 : Hid (Below w.heap.size w (w.alloc (.cells #[.int .i64 0, .slice none 0 0] 26))) := (Below.refl _ _).alloc (Nat.le_refl _) _
  have hsz : (w.alloc (.cells #[.int .i64 0, .slice none 0 0] 26)).heap.size = w.heap.size + 1 := by simp
  have HSz := Lib.hid hsz
  have HG := Lib.hid hgl
  have HD := Lib.hid hd
  have HM := Lib.hid hm
  have HFa := Lib.hid (And.intro hb52 (And.intro hz (And.intro hs0 hsm)))
  have hm0 : 0 < m := by omega
  clear hgl hgl1 hd hd1 hm hyes hb52 hz hs0 hsm hsz h0
  go_enter Tryd.func7, Tryd.ntmps7
  go_upto_region 3 with (first
    | (go_at_call 15; refine HK.out.mono ?_; rintro e' w' ⟨rfl, rfl⟩)
    | (go_at_call 16; refine HMb.out.mono ?_; rintro e' w' ⟨rfl, rfl⟩))
  go_wp2_with fail
  refine HTa.out.mono ?_
  rintro e' w1 ⟨rfl, hB1⟩
  have HB1 := Lib.hid (HB0.out.trans (hB1.mono HB0.out.size))
  have HX1 := Lib.hid (HX.out.below hB1 HX.out.lt)
  have hs1 := hB1.size
  clear hB1
  go_upto_region 4 with (first
    | (refine wpList_alloc_z rfl 51 rfl (a53 .u32 fun _ => 0) a53_zero_u32 ?_)
    | (refine wpList_store_row rfl 51 _ _ rfl w1.heap.size (a53 .u32 (oft l)) rfl rfl 51 _ (heap_alloc_new w1 _) (by rw [a53_size]; kernel_rfl) (by rw [a53_size, a53_size]) (a53_one _ _) ?_))
  have hb8 := setRow_heap (w1.alloc (.cells (a53 .u32 fun _ => 0) 51)) _ _ (a53 .u32 (oft l)) _ _ (heap_alloc_new w1 _)
  have hB2 : Below w1.heap.size w1 ((w1.alloc (.cells (a53 .u32 fun _ => 0) 51)).setRow w1.heap.size (a53 .u32 (oft l))) := below_row ((Below.refl _ _).alloc (Nat.le_refl _) _) (Nat.le_refl _) _
  have H8 : Hid (Box ((w1.alloc (.cells (a53 .u32 fun _ => 0) 51)).setRow w1.heap.size (a53 .u32 (oft l))) w1.heap.size 51 (a53 .u32 (oft l))) := hb8
  have HB2 := Lib.hid (HB1.out.trans (hB2.mono HB1.out.size))
  have HX2 := Lib.hid (HX1.out.below hB2 HX1.out.lt)
  clear hb8 hB2 HB1 HX1 HX HB0 HK HMb HTa
  generalize (w1.alloc (.cells (a53 .u32 fun _ => 0) 51)).setRow w1.heap.size (a53 .u32 (oft l)) = W2 at *
  have hs8 : w1.heap.size < W2.heap.size := H8.out.lt
  have hs0 : w.heap.size < w1.heap.size := by have := HSz.out; omega
  generalize w1.heap.size = g8 at *
  clear hs1 HSz
  obtain ⟨d, o, rfl, _, hdh, hc⟩ := (HD.out.below HB2.out hhi) (by have := HM.out; omega)
  have q0 : W2.cell? ⟨d, o, none⟩ = some (.int .i64 (s : Int)) := by
    have h := hc 0 (by have := HM.out; omega)
    rw [Nat.add_zero, ← getD_of l 0 0 (by have := HM.out; omega), HFa.out.2.2.1] at h
    exact h
  have HQ0 := Lib.hid q0
  have hdw : d < w.heap.size := by omega
  clear hc hdh
  have hmz : (0 : Int) < (m : Int) := by omega
  go_wp2_with fail
  refine (alone_any s _ (by omega)).mono ?_
  rintro e' w3 ⟨v, c9, t9, rfl, ho9, hc9, ht9, hct, hB3⟩
  obtain ⟨A1, n1, c1, rfl⟩ := ho9.slice
  have hb4 : Below w3.heap.size w3 (w3.alloc (.cells #[.int .i64 0, .slice A1 n1 c1, .int .i64 1, .slice (some ⟨t9, 0, none⟩) 1 c9] 54)) := (Below.refl _ _).alloc (Nat.le_refl _) _
  have HB4 := Lib.hid ((HB2.out.trans (hB3.mono HB2.out.size)).trans (hb4.mono (HB2.out.trans (hB3.mono HB2.out.size)).size))
  have HX4 := Lib.hid ((HX2.out.below hB3 HX2.out.lt).below hb4 (HX2.out.below hB3 HX2.out.lt).lt)
  have H84 := Lib.hid ((H8.out.below hB3 H8.out.lt).below hb4 (H8.out.below hB3 H8.out.lt).lt)
  have H9 := Lib.hid (Box.new w3 54 #[.int .i64 0, .slice A1 n1 c1, .int .i64 1, .slice (some ⟨t9, 0, none⟩) 1 c9])
  have HA1 := Lib.hid ((ho9.dat ecell_len).below hb4 (Nat.le_refl _))
  have HA2 := Lib.hid ho9.len
  have hct4 : (w3.alloc (.cells #[.int .i64 0, .slice A1 n1 c1, .int .i64 1, .slice (some ⟨t9, 0, none⟩) 1 c9] 54)).cell? ⟨t9, 0, none⟩ = some (.int .u8 (s : Int)) := (hb4.cell (p := ⟨t9, 0, none⟩) ht9).trans hct
  have q4 : (w3.alloc (.cells #[.int .i64 0, .slice A1 n1 c1, .int .i64 1, .slice (some ⟨t9, 0, none⟩) 1 c9] 54)).cell? ⟨d, o, none⟩ = some (.int .i64 (s : Int)) := by
    have h1 := hB3.cell (p := ⟨d, o, none⟩) (show d < W2.heap.size by omega)
    have h2 := hb4.cell (p := ⟨d, o, none⟩) (show d < w3.heap.size by have := hB3.size; omega)
    exact h2.trans (h1.trans HQ0.out)
  have c4 := (H84.out.cell s).trans (a53_get _ _ s (by omega))
  have hs3 := hB3.size
  have hs4 : (w3.alloc (.cells #[.int .i64 0, .slice A1 n1 c1, .int .i64 1, .slice (some ⟨t9, 0, none⟩) 1 c9] 54)).heap.size = w3.heap.size + 1 := by simp
  have HS4 := Lib.hid hs4
  have HCt := Lib.hid hct4
  have hsz53 : (s : Int) < 53 := by omega
  have hfs : oft l s ≤ m := by have := oft_le l s; have := HM.out; omega
  obtain ⟨fs, hfe⟩ : ∃ fs, fs = oft l s := ⟨_, rfl⟩
  rw [← hfe] at c4 hfs
  have HFe := Lib.hid hfe
  have hwf : IntKind.i64.wrap (fs : Int) = (fs : Int) := IntWalk.i64_in _ (by omega)
  have HL1 : Hid (LowA w.heap.size A1) := fun d o s e => by
    subst e
    have h1 := (ho9.block d rfl).1
    omega
  clear ho9 hB3 hb4 hct hct4 q0 hs4 hfe HX2 H8 HB2
  go_upto_region 5 with (fail)
  generalize w3.alloc (.cells #[.int .i64 0, .slice A1 n1 c1, .int .i64 1, .slice (some ⟨t9, 0, none⟩) 1 c9] 54) = W4 at *
  go_upto_if 34 with (fail)
  have hg9 : w.heap.size < w3.heap.size := by omega
  have hg89 : g8 < w3.heap.size := by omega
  go_cut [35, 36, 37, 38, 39] (fun _ _ _ _ _ wx => ∃ (x : Wy) (es : List En), Box wx w3.heap.size 54 #[.int .i64 x.log, .slice x.e x.n x.c, .int .i64 x.mode, .slice x.t x.tn x.tc] ∧ Box wx w.heap.size 26 #[.int .i64 0, .slice none 0 0] ∧ WrOk n l wx x es ∧ (Below w.heap.size w wx ∧ LowA w.heap.size x.e))
  case first =>
    by_cases hlt : fs < m
    · have hsplit := two_codes HFa.out.1 HFa.out.2.2.2 (by rw [← HFe.out, HM.out]; exact hlt)
      have HSp := Lib.hid hsplit
      have hf : ∀ t, oft l t ≤ 1000 := fun t => by have := oft_le l t; have := HM.out; omega
      have HF := Lib.hid hf
      have HWy := Lib.hid (ways_any (w := W4.drew) (oft l) hn (HG.out.below HB4.out.drew (by exact HG.out.size)) hf HFa.out.2.1 hsplit.1)
      clear hsplit hf
      go_upto_region 6 with (fail)
      refine wp_region_noPanic ?_
      refine wp_region_held_drew (S := fun w' => w'.rangeAt g8 0 (l53 .u32 (oft l))) (by kernel_rfl) (Box.range (w := W4.drew) (t := 51) H84.out) (fun hHeld => ?_)
      refine wpAnyH_take (i := 0) (v := .int .i64 (n : Int)) rfl (by kernel_rfl) (by kernel_rfl) (by kernel_rfl) (fun _ _ _ h => h) (Or.inl ⟨by rfl, fun w' _ => ?_⟩) hHeld ?_
      · go_simp
      refine wpAnyH_take (i := 1) (v := _) rfl (by kernel_rfl) (by kernel_rfl) (by kernel_rfl) (fun _ _ _ h => h) (yieldsIf_load_mid (by rfl) _ _ rfl g8 0 rfl (l53 .u32 (oft l)) _ (fun _ h => h) Tryd.underlying51 rfl (by rw [l53_len]; kernel_rfl)) hHeld ?_
      refine wpAnyH_take (i := 3) (v := _) rfl (by kernel_rfl) (by kernel_rfl) (by kernel_rfl) (fun _ _ _ h => h) (yieldsIf_load_mid (by rfl) _ _ rfl g8 0 rfl (l53 .u32 (oft l)) _ (fun _ h => h) Tryd.underlying51 rfl (by rw [l53_len]; kernel_rfl)) hHeld ?_
      simp only [Act.put, List.setIfInBounds_toArray, l53_arr]
      refine wpAnyH_ready (rs := [2]) (by kernel_rfl) (by simp) ?_
      refine AllReadyH.cons rfl (fun K hK => ?_) AllReadyH.nil
      go_simp
      refine HWy.out.mono ?_
      rintro e' w5 ⟨v5, xs, rfl, hwi⟩
      obtain ⟨A5, c5, rfl, hc5, hd5⟩ := hwi.ow.form wyc_len
      have HW5 := Lib.hid hwi
      have hB5 : Below W4.heap.size W4 w5 := ⟨hwi.bel.os, hwi.bel.tape, hwi.bel.output, hwi.bel.size, hwi.bel.block⟩
      have H85 := Lib.hid (H84.out.below hB5 H84.out.lt)
      have H95 := Lib.hid (H9.out.below hB5 H9.out.lt)
      have HX5 := Lib.hid (HX4.out.below hB5 HX4.out.lt)
      have HB5 := Lib.hid (HB4.out.trans (hB5.mono HB4.out.size))
      have hmo := most_le n hn
      have hmo8 := most_ge n hn
      have HSh := Lib.hid (shortest_any (c := c5) (oft l) hd5 (Nat.le_refl _) rfl (by have := hwi.len.1; omega) (by have := hwi.len.2; omega) (fun p hp => (hwi.each p hp).lies) (fun t => by have := HF.out t; omega))
      clear hwi hB5 hd5 HWy H84 H9 HX4 HA1 HCt
      dsimp only
      refine hK.out _ _ (Box.range H85.out) (fun hHeld2 => ?_)
      clear hK K
      try simp only [Act.put, List.setIfInBounds_toArray]
      refine wpAnyH_ready (rs := [4]) (by kernel_rfl) (by simp) ?_
      refine AllReadyH.cons rfl (fun K hK => ?_) AllReadyH.nil
      go_simp
      refine HSh.out.mono ?_
      rintro e' w6 ⟨k, hk, rfl, hbest, hB6⟩
      have HLw : Hid (LowA w.heap.size (wayAt xs k).1.e) := fun d o s e => by
        have h1 := HW5.out.low (wayAt xs k) (by rw [wayAt_of xs k hk]; exact List.getElem_mem hk) d o s e
        have h2 := HB4.out.size
        have h3 : W4.drew.heap.size = W4.heap.size := rfl
        omega
      have HW6 : Hid (At1 n w6 none (wayAt xs k)) := by
        have hm := HW5.out.each (wayAt xs k) (by rw [wayAt_of xs k hk]; exact List.getElem_mem hk)
        have h6 := hm.below hB6
        exact ⟨h6.lies, h6.good, fun d o s e => ⟨(h6.ape d o s e).1, fun q => by cases q⟩, fun d o s e => ⟨(h6.apt d o s e).1, fun q => by cases q⟩⟩
      have HHas : Hid (HasAll (wayAt xs k).2 (oft l)) := by
        obtain ⟨p, hp, hpa⟩ := HW5.out.has (mostN n) (by omega) (by omega) (by
          have h1 := cnt_le (osF (oft l))
          rw [osF_len] at h1
          have h2 : 2 ^ 8 ≤ 2 ^ mostN n := Nat.pow_le_pow_right (by omega) hmo8
          omega)
        obtain ⟨i, hi, rfl⟩ := List.getElem_of_mem hp
        have := hbest i hi
        rw [wayAt_of xs i hi] at this
        exact this hpa
      have H96 := Lib.hid (H95.out.below hB6 H95.out.lt)
      have HX6 := Lib.hid (HX5.out.below hB6 HX5.out.lt)
      have H86 := Lib.hid (H85.out.below hB6 H85.out.lt)
      have HB6 := Lib.hid (HB5.out.trans (hB6.mono HB5.out.size))
      have z4 := H96.out.four
      have f0 := H96.out.free 0
      have f1 := H96.out.free 1
      have f2 := H96.out.free 2
      have f3 := H96.out.free 3
      generalize wayAt xs k = xe at *
      obtain ⟨⟨L, E, n2, c2, md, T, tn, tc⟩, es⟩ := xe
      clear hk hbest hB6 HSh HW5 H85 H95 HX5 HB5 HB4
      dsimp only at HW6 HHas HLw ⊢
      refine hK.out _ _ (Box.range H86.out) (fun hHeld3 => ?_)
      clear hK K
      try simp only [Act.put, List.setIfInBounds_toArray]
      refine wpAnyH_ready (rs := [5]) (by kernel_rfl) (by simp) ?_
      refine AllReadyH.cons rfl (fun K hK => ?_) AllReadyH.nil
      go_simp
      have n9 : g8 ≠ w3.heap.size := by omega
      have hx9 : w.heap.size ≠ w3.heap.size := by omega
      have hle : w.heap.size ≤ w3.heap.size := by omega
      refine hK.out _ _ (Box.range ((((H86.out.far (by exact n9) _).far (by exact n9) _).far (by exact n9) _).far (by exact n9) _)) (fun hHeld4 => ?_)
      clear hK K
      refine wpAnyH_done (by kernel_rfl) ?_ _
      refine NoPanic.normal ?_
      go_wp2_with fail
      go_meet
      have hok : WrOk n l w6 ⟨L, E, n2, c2, md, T, tn, tc⟩ es := ⟨HW6.out.lies, HHas.out, .inr ⟨HW6.out.good, by rw [HFa.out.2.2.1]; exact HSp.out.2⟩⟩
      have hoff := hok.off (by omega) HFa.out.2.2.2 (fun i y => box4_u8 H96.out)
      refine ⟨⟨L, E, n2, c2, md, T, tn, tc⟩, es, H96.out.put4 _ _ _ _, (((HX6.out.far (by exact hx9) _).far (by exact hx9) _).far (by exact hx9) _).far (by exact hx9) _, (((hok.set hoff _).set hoff _).set hoff _).set hoff _, (((HB6.out.setCell (by exact hle) _).setCell (by exact hle) _).setCell (by exact hle) _).setCell (by exact hle) _, HLw.out⟩
    · have heq : oft l s = l.length := by have := HFe.out; have := HM.out; omega
      have hltf : decide (fs < m) = false := decide_eq_false hlt
      have hx : WrOk n l W4 ⟨0, A1, n1, c1, 1, some ⟨t9, 0, none⟩, 1, c9⟩ [⟨(s : Int), 0, 0⟩] := by
        have e4 := HS4.out
        refine ⟨⟨HA1.out.mono (Nat.zero_le _) (by omega), HA2.out, ?_, small_one (by omega), ⟨by show (0 : Int) ≤ 0; omega, by show (0 : Int) ≤ 15; omega⟩, by show 1 ≤ 1000000; omega⟩, all_same heq, .inl ⟨rfl, rfl, rfl, hc9, s, hsl, rfl, fun _ => ⟨t9, 0, rfl, Nat.zero_le _, by omega, fun j hj => ?_, fun q => by cases q⟩⟩⟩
        · have := HA2.out
          have h1 : n1 = 1 := this.symm
          show n1 ≤ 65536
          omega
        · obtain rfl : j = 0 := by simpa using hj
          have h8 : (UInt8.ofNat s).toNat = s := by rw [UInt8.toNat_ofNat']; omega
          rw [Nat.add_zero, HCt.out]
          simp [cel, h8]
      have HXw := Lib.hid hx
      clear hx
      go_wp2_with fail
      go_meet
      exact ⟨_, _, H9.out, HX4.out, HXw.out, HB4.out, HL1.out⟩
  case rest =>
    obtain ⟨⟨L, E, n2, c2, md, T, tn, tc⟩, es, hb9, hbx, hwr, hB, hlow⟩ := hcut
    have HLo := Lib.hid hlow
    have hoff := hwr.off (by omega) HFa.out.2.2.2 (fun i y => box2_u8 hbx)
    have HWr := Lib.hid (And.intro hwr hoff)
    have HB := Lib.hid hB
    have HBx := Lib.hid hbx
    dsimp only at hb9
    have z4 := hb9.four
    obtain ⟨r0, r1, k0, k1⟩ := box2 hbx
    have n9 : w3.heap.size ≠ w.heap.size := by omega
    have z5 : Hid (∀ u v, ((wc.setCell ⟨w.heap.size, 0, none⟩ u).setCell ⟨w.heap.size, 1, none⟩ v).cell? ⟨w3.heap.size, 0, none⟩ = some (.int .i64 L) ∧ ((wc.setCell ⟨w.heap.size, 0, none⟩ u).setCell ⟨w.heap.size, 1, none⟩ v).cell? ⟨w3.heap.size, 1, none⟩ = some (.slice E n2 c2) ∧
        ((wc.setCell ⟨w.heap.size, 0, none⟩ u).setCell ⟨w.heap.size, 1, none⟩ v).cell? ⟨w3.heap.size, 2, none⟩ = some (.int .i64 md) ∧ ((wc.setCell ⟨w.heap.size, 0, none⟩ u).setCell ⟨w.heap.size, 1, none⟩ v).cell? ⟨w3.heap.size, 3, none⟩ = some (.slice T tn tc)) := fun u v => ((hb9.far (by exact n9) u).far (by exact n9) v).four
    clear hwr hB hlow hb9 hbx hoff H9 HX4 HB4 H84 HA1 HA2 HCt HS4 HQ0 HG HD
    go_upto_region 7 with (fail)
    go_region_held3 (fun w' => w'.cell? ⟨w3.heap.size, 0, none⟩ = some (.int .i64 L) ∧ w'.cell? ⟨w3.heap.size, 1, none⟩ = some (.slice E n2 c2) ∧ w'.cell? ⟨w3.heap.size, 2, none⟩ = some (.int .i64 md) ∧ w'.cell? ⟨w3.heap.size, 3, none⟩ = some (.slice T tn tc))
      (first | exact z4 | exact z5.out _ _ | go_keep)
      (fail)
    go_wp2_with fail
    refine bodyPost_ret (v := .tuple #[.agg #[.int .i64 L, .slice E n2 c2], .int .i64 md, .slice T tn tc, .int .i64 0]) (by simp [results, Tryd.results7, go_sem, r0, r1]) rfl ⟨⟨L, E, n2, c2, md, T, tn, tc⟩, rfl, ⟨es, ?_⟩, ?_, HLo.out⟩
    · exact ((HWr.out.1.set HWr.out.2 _).set HWr.out.2 _).below (Below.refl _ _).drew
    · exact ((HB.out.setCell (Nat.le_refl _) _).setCell (Nat.le_refl _) _).drew
theorem writeT_any {B : Nat} {w : World} {lo hi m c n : Nat} {A : Option Addr} {l : List Int} (hn : n < 3) (hgl : Glob B w) (hd : DatE icel w lo hi A l) (hhi : hi ≤ w.heap.size) (hm : l.length = m) (hm2 : m ≤ 1000) (hyes : codesB n l = true) :
    Calls Tryd.prog 7 #[.int .i64 (n : Int), .slice A m c] w fun e w' => ∃ x es, e = .returned (.tuple #[.agg #[.int .i64 x.log, .slice x.e x.n x.c], .int .i64 x.mode, .slice x.t x.tn x.tc, .int .i64 0]) ∧ WrOk n l w' x es ∧ Below w.heap.size w w' :=
  (writeT_low (c := c) hn hgl hd hhi hm hm2 hyes).mono fun _ _ ⟨x, es, h1, h2, h3, _⟩ => ⟨x, es, h1, h2, h3⟩
end Go.Proofs.YtpdnmhnnngcbjaaDoor
