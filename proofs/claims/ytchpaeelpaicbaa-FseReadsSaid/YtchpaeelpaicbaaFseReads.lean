
/- FseReads holds: for all counts, bytes, for every byte and bool the law returns true, and the counts and the bytes read behind the call as they read before. No condition. -/
import Derived.Test.YtchpaeelpaicbaaFseRef
import Derived.Test.YtchpaeelpaicbaaFseSame
import Derived.Test.YtchpaeelpaicbaaFseRefRead
import Derived.Test.YtchpaeelpaicbaaNormCounts
namespace Go.Proofs.Ytchpaeelpaicbaa.fseReads
open Go.ChangeShapes Go.WideShapes Go.ChangeAt Go.RowKit

/-- What entries may be, in a table of n. -/
def FineN (es : List En) (n : Nat) : Prop := ∀ i (h : i < es.length), ∃ s b e : Nat, es[i] = ⟨s, b, e⟩ ∧ s < 256 ∧ b ≤ 15 ∧ e + 2 ^ b ≤ n
theorem tab_fineN {l : Nat} {ps : List Int} (h : MayF l ps) : FineN (tab l ps) (2 ^ l) := fun i hi => by
  obtain ⟨s, b, e, h1, h2, _, h4, h5⟩ := tab_bd h i hi
  have hl := h.l15
  exact ⟨s, b, e, h1, h2, by omega, by omega⟩
theorem one_fineN (s : Nat) (hs : s < 256) : FineN [⟨s, 0, 0⟩] 1 := fun i hi => by
  have : i = 0 := by simp at hi; omega
  subst this
  exact ⟨s, 0, 0, rfl, hs, by omega, by decide⟩

/-- What the law holds: both tables, the Backward, the document's bits; so many left in each. -/
structure Rd (w wx : World) (q10 q12 l n d c d5 c5 : Nat) (es : List En) (lo g mid bv : Nat) (Ab : Option Addr) (cb : Nat) (xs : List UInt8) (left1 left2 : Int) : Prop where
  t10 : Box wx q10 28 #[.int .i64 (l : Int), .slice (some ⟨d, 0, none⟩) n c]
  t12 : Box wx q12 34 #[.int .i64 (l : Int), .slice (some ⟨d5, 0, none⟩) n c5]
  e1 : OwR 3 ecell wx 67 w.heap.size (.slice (some ⟨d, 0, none⟩) n c) es
  e2 : OwR 3 rcell wx 84 w.heap.size (.slice (some ⟨d5, 0, none⟩) n c5) es
  bw : BW wx lo g xs left1
  vb : Box wx bv 49 #[.slice Ab left2.toNat cb, .int .i64 ((left2.toNat : Int) - left2)]
  db : DatE Value.bool wx mid bv Ab ((bitsOf xs).take left2.toNat)
  below : Below w.heap.size w wx
/-- Where all this lies. -/
structure Ord (w : World) (q10 q12 d d5 lo g mid bv : Nat) : Prop where
  a : q10 < lo
  b : q12 < lo
  c : d < lo
  d : d5 < lo
  e : lo ≤ g
  f : g < mid
  h : mid ≤ bv
  i : w.heap.size ≤ lo

section
variable {w wx wy : World} {q10 q12 l n d c d5 c5 : Nat} {es : List En} {lo g mid bv : Nat} {Ab : Option Addr} {cb : Nat} {xs : List UInt8} {left1 left2 left3 : Int}
theorem Rd.below' (h : Rd w wx q10 q12 l n d c d5 c5 es lo g mid bv Ab cb xs left1 left2) (_o : Ord w q10 q12 d d5 lo g mid bv) (hB : Below wx.heap.size wx wy) : Rd w wy q10 q12 l n d c d5 c5 es lo g mid bv Ab cb xs left1 left2 :=
  ⟨h.t10.below hB h.t10.lt, h.t12.below hB h.t12.lt, h.e1.below hB (Nat.le_refl _), h.e2.below hB (Nat.le_refl _), h.bw.below hB h.bw.lt, h.vb.below hB h.vb.lt, h.db.below hB (by have := h.vb.lt; omega), h.below.trans (hB.mono h.below.size)⟩
theorem Rd.grown (h : Rd w wx q10 q12 l n d c d5 c5 es lo g mid bv Ab cb xs left1 left2) (o : Ord w q10 q12 d d5 lo g mid bv) (hg : wx.grownBy wy (some g)) (hb : BW wy lo g xs left3) : Rd w wy q10 q12 l n d c d5 c5 es lo g mid bv Ab cb xs left3 left2 := by
  obtain ⟨o1, o2, o3, o4, o5, o6, o7, o8⟩ := o
  refine ⟨h.t10.grown hg (by intro e; injection e with e; omega), h.t12.grown hg (by intro e; injection e with e; omega), h.e1.grown hg (.inr ?_), h.e2.grown hg (.inr ?_), hb, h.vb.grown hg (by intro e; injection e with e; omega), h.db.grown hg (by have := h.vb.lt; omega) (by intro k hk; injection hk with hk; omega), h.below.grown hg h.below.size (by intro k hk; injection hk with hk; omega)⟩
  · intro e; simp [Value.ownBlock] at e; omega
  · intro e; simp [Value.ownBlock] at e; omega
theorem Rd.put (h : Rd w wx q10 q12 l n d c d5 c5 es lo g mid bv Ab cb xs left1 left2) (o : Ord w q10 q12 d d5 lo g mid bv) (hl : left1 ≤ left2) :
    Rd w ((wx.setCell ⟨bv, 0, none⟩ (.slice Ab left1.toNat cb)).setCell ⟨bv, 1, none⟩ (.int .i64 ((left1.toNat : Int) - left1))) q10 q12 l n d c d5 c5 es lo g mid bv Ab cb xs left1 left1 := by
  obtain ⟨o1, o2, o3, o4, o5, o6, o7, o8⟩ := o
  have h3' : DatE Value.bool wx mid bv Ab ((bitsOf xs).take left1.toNat) := by
    have := h.db.take left1.toNat
    rw [List.take_take, Nat.min_eq_left (by omega)] at this
    exact this
  refine ⟨(h.t10.far (by show q10 ≠ bv; omega) _).far (by show q10 ≠ bv; omega) _, (h.t12.far (by show q12 ≠ bv; omega) _).far (by show q12 ≠ bv; omega) _, (h.e1.aside (by omega) _ _).aside (by omega) _ _, (h.e2.aside (by omega) _ _).aside (by omega) _ _, h.bw.keep fun k hl hk => ?_, (h.vb.put 0 _).put 1 _, (h3'.far (.inr (Nat.le_refl _)) _).far (.inr (Nat.le_refl _)) _, (h.below.setCell (by show w.heap.size ≤ bv; omega) _).setCell (by show w.heap.size ≤ bv; omega) _⟩
  rw [Below.heap_setCell _ _ _ k (by show k ≠ bv; omega), Below.heap_setCell _ _ _ k (by show k ≠ bv; omega)]
theorem Rd.last (_h : Rd w wx q10 q12 l n d c d5 c5 es lo g mid bv Ab cb xs left1 left2) (k : Int) (hc : left2.toNat ≤ cb) (hb : xs.length ≤ 100) (hl : left2 ≤ 8 * xs.length) (hlow : -1000000000000 ≤ left2) :
    LastIs mid bv Ab ((bitsOf xs).take left2.toNat) left2.toNat cb ((left2.toNat : Int) - left2) k (bread xs left2 k).2.toNat (((bread xs left2 k).2.toNat : Int) - (bread xs left2 k).2) (bread xs left2 k).1 :=
  fun _ hd hhi => refLast_any k hd hc (by omega) hhi hl hlow
end

set_option maxRecDepth 100000 in
set_option maxHeartbeats 16000000 in
theorem walk (L : Int) (A : Option Addr) (ps : List Int) (cp : Nat) (a1 : Option Addr) (xs : List UInt8) (cap1 : Nat) (nx : Int) (one : Bool) (w : World) (_hL : -9223372036854775808 ≤ L ∧ L ≤ 9223372036854775807) (hd : DatE icel w 0 w.heap.size A ps) (hc : ps.length ≤ cp) (hm : ps.length ≤ maxLen) (hb : ∀ p ∈ ps, -9223372036854775808 ≤ p ∧ p ≤ 9223372036854775807)
    (hdx : Dat false w 0 w.heap.size a1 xs) (hxm : xs.length ≤ maxLen) (hnx : 0 ≤ nx ∧ nx ≤ 255) :
    Calls Try.prog 4 #[.agg #[.int .i64 L, .slice A ps.length cp], .slice a1 xs.length cap1, .int .u8 nx, .bool one] w fun e w' => e = .returned (.bool true) ∧ Below w.heap.size w w' := by
  obtain ⟨N, rfl⟩ := Int.eq_ofNat_of_zero_le hnx.1
  have hN : N ≤ 255 := by omega
  clear hnx
  have hx := Box.new w 24 #[.int .i64 L, .slice A ps.length cp]
  have HX := Lib.hid hx
  have HD := Lib.hid hd
  have HDX := Lib.hid hdx
  have HBd := Lib.hid hb
  have hmx := hm
  unfold maxLen at hmx hxm
  obtain ⟨m, hmm⟩ : ∃ m, m = ps.length := ⟨_, rfl⟩
  rw [← hmm] at hmx hc hm HX ⊢
  have HM := Lib.hid hmm.symm
  obtain ⟨nb, hnb⟩ : ∃ nb, nb = xs.length := ⟨_, rfl⟩
  rw [← hnb] at hxm ⊢
  have HNB := Lib.hid hnb.symm
  clear hd hb hmm hx hdx hnb
  by_cases h300 : 300 < m
  · have h3 : (300 : Int) < (m : Int) := by omega
    go_enter Try.func4, Try.ntmps4
    go_wp2_with fail
    refine (fse_awake _).mono ?_
    rintro e w1 ⟨rfl, hB⟩
    have HB := Lib.hid (((Below.refl _ _).alloc (Nat.le_refl _) (.cells #[.int .i64 L, .slice A m cp] 24)).trans (hB.mono (by simp)))
    obtain ⟨c0, c1, f0, f1⟩ := box2 (HX.out.below hB (by simp))
    clear hB
    go_wp2_with fail
    go_ret
    exact ⟨rfl, HB.out⟩
  · have h3 : decide ((300 : Int) < (m : Int)) = false := by simp; omega
    by_cases h9 : 9 < L
    · go_enter Try.func4, Try.ntmps4
      go_wp2_with fail
      refine (fse_awake _).mono ?_
      rintro e w1 ⟨rfl, hB⟩
      have HB := Lib.hid (((Below.refl _ _).alloc (Nat.le_refl _) (.cells #[.int .i64 L, .slice A m cp] 24)).trans (hB.mono (by simp)))
      obtain ⟨c0, c1, f0, f1⟩ := box2 (HX.out.below hB (by simp))
      clear hB
      go_wp2_with fail
      go_ret
      exact ⟨rfl, HB.out⟩
    · have h9' : decide (9 < L) = false := by simp; omega
      by_cases h100 : 100 < nb
      · have h100i : (100 : Int) < (nb : Int) := by omega
        go_enter Try.func4, Try.ntmps4
        go_wp2_with fail
        refine (fse_awake _).mono ?_
        rintro e w1 ⟨rfl, hB⟩
        have HB := Lib.hid (((Below.refl _ _).alloc (Nat.le_refl _) (.cells #[.int .i64 L, .slice A m cp] 24)).trans (hB.mono (by simp)))
        obtain ⟨c0, c1, f0, f1⟩ := box2 (HX.out.below hB (by simp))
        clear hB
        go_wp2_with fail
        go_ret
        exact ⟨rfl, HB.out⟩
      · have h100i : decide ((100 : Int) < (nb : Int)) = false := by simp; omega
        go_enter Try.func4, Try.ntmps4
        go_wp2_with fail
        refine (fse_awake _).mono ?_
        rintro e w1 ⟨rfl, hB⟩
        have HB := Lib.hid (((Below.refl _ _).alloc (Nat.le_refl _) (.cells #[.int .i64 L, .slice A m cp] 24)).trans (hB.mono (by simp)))
        have HX1 := Lib.hid (HX.out.below hB (by simp))
        have hs1 := hB.size
        simp only [World.size_alloc] at hs1
        obtain ⟨c0, c1, f0, f1⟩ := box2 HX1.out
        clear hB HX
        go_wp2_with fail
        refine (build_any (cp := cp) L (HD.out.below HB.out (Nat.le_refl _)) HM.out hc hm (by omega) HBd.out).mono ?_
        rintro e w2 ⟨hB, hor⟩
        have HB2 := Lib.hid (HB.out.trans (hB.mono (by omega)))
        have HX2 := Lib.hid (HX1.out.below hB (by omega))
        have hs2 := hB.size
        clear hB HB HX1 c0 c1 f0 f1
        obtain ⟨Lb, Av, nv, cv, er, rfl, hown⟩ : ∃ (Lb : Int) (Av : Option Addr) (nv cv : Nat) (er : Int), e = .returned (.tuple #[.agg #[.int .i64 Lb, .slice Av nv cv], .int .i64 er]) ∧ ((mayB L ps = true ∧ Lb = L ∧ er = 0 ∧ OwR 3 ecell w2 67 w1.heap.size (.slice Av nv cv) (tab L.toNat ps)) ∨ (mayB L ps = false ∧ er = 1)) := by
          rcases hor with ⟨hmay, v, rfl, ho⟩ | ⟨hmay, rfl⟩
          · obtain ⟨A', n', c', rfl⟩ := ho.slice
            exact ⟨_, _, _, _, _, rfl, .inl ⟨hmay, rfl, rfl, ho⟩⟩
          · exact ⟨_, _, _, _, _, rfl, .inr ⟨hmay, rfl⟩⟩
        have HOr := Lib.hid hown
        have HB3 := Lib.hid (HB2.out.alloc (by omega) (.cells #[.int .i64 Lb, .slice Av nv cv] 28))
        have HX3 := Lib.hid (HX2.out.alloc (.cells #[.int .i64 Lb, .slice Av nv cv] 28))
        have HT3 := Lib.hid (Box.new w2 28 #[.int .i64 Lb, .slice Av nv cv])
        have HG3 := Lib.hid ((Below.refl w2.heap.size w2).alloc (Nat.le_refl _) (.cells #[.int .i64 Lb, .slice Av nv cv] 28))
        obtain ⟨c0, c1, f0, f1⟩ := box2 HX3.out
        clear hor hown HB2 HX2
        go_wp2_with fail
        generalize w2.alloc (.cells #[.int .i64 Lb, .slice Av nv cv] 28) = W3 at *
        refine (modelOf7_any L _ _ _ _).mono ?_
        rintro e w4 ⟨rfl, hB⟩
        have HB4 := Lib.hid (HB3.out.trans (hB.mono HB3.out.size))
        have HT4 := Lib.hid (HT3.out.below hB HT3.out.lt)
        have HG4 := Lib.hid (HG3.out.trans (hB.mono HG3.out.size))
        clear hB HB3 HX3 HT3 HG3 c0 c1 f0 f1
        go_wp2_with fail
        refine (refBuild_any (cp := cp) L (HD.out.below HB4.out (Nat.le_refl _)) HM.out hc hm (HB4.out.size) HBd.out).mono ?_
        rintro e w5 ⟨hB, hor⟩
        obtain ⟨Lr, Ar, nr, cr, rfl, hown⟩ : ∃ (Lr : Int) (Ar : Option Addr) (nr cr : Nat), e = .returned (.tuple #[.agg #[.int .i64 Lr, .slice Ar nr cr], .int .i64 er]) ∧ (mayB L ps = true → Lr = L ∧ OwR 3 rcell w5 84 w4.heap.size (.slice Ar nr cr) (tab L.toNat ps)) := by
          rcases hor with ⟨hmay, v, rfl, ho⟩ | ⟨hmay, rfl⟩
          · obtain ⟨A', n', c', rfl⟩ := ho.slice
            rcases HOr.out with ⟨_, _, h3, _⟩ | ⟨h1, _⟩
            · exact ⟨_, _, _, _, by rw [h3], fun _ => ⟨rfl, ho⟩⟩
            · rw [hmay] at h1; cases h1
          · rcases HOr.out with ⟨h1, _⟩ | ⟨_, h3⟩
            · rw [hmay] at h1; cases h1
            · exact ⟨_, _, _, _, by rw [h3], fun h => by rw [hmay] at h; cases h⟩
        have HOr2 := Lib.hid hown
        have HB5 := Lib.hid (HB4.out.trans (hB.mono HB4.out.size))
        have HT5 := Lib.hid (HT4.out.below hB HT4.out.lt)
        have HG5 := Lib.hid (HG4.out.trans (hB.mono HG4.out.size))
        have HB6 := Lib.hid (HB5.out.alloc HB5.out.size (.cells #[.int .i64 Lr, .slice Ar nr cr] 34))
        have HT6 := Lib.hid (HT5.out.alloc (.cells #[.int .i64 Lr, .slice Ar nr cr] 34))
        have HR6 := Lib.hid (Box.new w5 34 #[.int .i64 Lr, .slice Ar nr cr])
        have HG6 := Lib.hid (HG5.out.alloc HG5.out.size (.cells #[.int .i64 Lr, .slice Ar nr cr] 34))
        have HGR := Lib.hid ((Below.refl w5.heap.size w5).alloc (Nat.le_refl _) (.cells #[.int .i64 Lr, .slice Ar nr cr] 34))
        have hq1 : w2.heap.size < w5.heap.size := HT5.out.lt
        have hq45 := hB.size
        have hq24 : w2.heap.size ≤ w4.heap.size := HG4.out.size
        clear hB hor hown HB4 HT4 HG4 HB5 HT5 HG5
        cases one with
        | false =>
          rcases HOr.out with ⟨hmay, rfl, rfl, ho⟩ | ⟨hmay, rfl⟩
          · obtain ⟨l, rfl⟩ := Int.eq_ofNat_of_zero_le (show 0 ≤ Lb by have := (mayB_iff.1 hmay).1; omega)
            rw [show ((l : Nat) : Int).toNat = l by omega] at ho
            obtain ⟨rfl, ho2⟩ := HOr2.out hmay
            rw [show ((l : Nat) : Int).toNat = l by omega] at ho2
            have HF := Lib.hid (mayF hmay)
            have hl15 := (mayF hmay).l15
            have htl := tab_length HF.out
            have hn0 : 0 < 2 ^ l := Nat.two_pow_pos _
            have hn15 : 2 ^ l ≤ 2 ^ 15 := Nat.pow_le_pow_right (by omega) hl15
            obtain ⟨d, c, hv, hd1, hd2, _⟩ := ho.place (by omega)
            injection hv with hv1 hv2 hv3
            subst hv1 hv2 hv3
            obtain ⟨d5, c5, hv, hd51, hd52, _⟩ := ho2.place (by omega)
            injection hv with hv1 hv2 hv3
            subst hv1 hv2 hv3
            rw [htl] at ho ho2 HT6 HR6 HG6 HGR HB6 ⊢
            obtain ⟨n, hn⟩ : ∃ n, n = 2 ^ l := ⟨_, rfl⟩
            rw [← hn] at htl ho ho2 HT6 HR6 HG6 HGR HB6 hn0 hn15 ⊢
            have HLn : Hid (2 ^ l ≤ n) := by rw [Hid, hn]; exact Nat.le_refl _
            have HLen := Lib.hid htl
            have HFi : Hid (FineN (tab l ps) n) := by rw [Hid, hn]; exact tab_fineN HF.out
            have HE : Hid (OwR 3 ecell (w5.alloc (.cells #[.int .i64 (l : Int), .slice (some ⟨d5, 0, none⟩) n cr] 34)) 67 w.heap.size (.slice (some ⟨d, 0, none⟩) n cv) (tab l ps)) := (ho.below HG6.out (Nat.le_refl _)).mono (by omega)
            have HE5 : Hid (OwR 3 rcell (w5.alloc (.cells #[.int .i64 (l : Int), .slice (some ⟨d5, 0, none⟩) n cr] 34)) 84 w.heap.size (.slice (some ⟨d5, 0, none⟩) n cr) (tab l ps)) := (ho2.alloc _).mono (by omega)
            have HT10 := Lib.hid HT6.out
            have HT12 := Lib.hid HR6.out
            have HB := Lib.hid HB6.out
            have hn16 : n ≤ 32768 := by omega
            clear hn htl ho ho2 hmay HOr HOr2 HT6 HR6 HG6 HGR HB6 h9 h9'
            go_wp2_with fail
            generalize w5.alloc (.cells #[.int .i64 (l : Int), .slice (some ⟨d5, 0, none⟩) n cr] 34) = W at *
            obtain ⟨es, hes⟩ : ∃ es, es = tab l ps := ⟨_, rfl⟩
            rw [← hes] at HLen HFi HE HE5
            obtain ⟨c, hc9⟩ : ∃ c, c = cv := ⟨_, rfl⟩
            subst hc9
            obtain ⟨c5, hc9⟩ : ∃ c5, c5 = cr := ⟨_, rfl⟩
            subst hc9
            rcases hnb : noBack xs with _ | _
            · have hxp : 0 < xs.length := by
                rcases Nat.eq_zero_or_pos xs.length with h | h
                · simp [noBack, h] at hnb
                · exact h
              have htop := top_lt xs hxp
              refine (newBack_yes (HDX.out.below HB.out (Nat.le_refl _)) HNB.out (by have := HNB.out; omega) HB.out.size hnb).mono ?_
              rintro e wa ⟨g, rfl, hr, hB⟩
              have hg0 := hr.1
              have hga := hr.lt
              have HRa := Lib.hid hr
              have HBa := Lib.hid (HB.out.trans (hB.mono HB.out.size))
              have HTa := Lib.hid (HT10.out.below hB HT10.out.lt)
              have HTr := Lib.hid (HT12.out.below hB HT12.out.lt)
              have HEa := Lib.hid (HE.out.below hB (Nat.le_refl _))
              have HE5a := Lib.hid (HE5.out.below hB (Nat.le_refl _))
              have hq10 := HT10.out.lt
              have hq12 := HT12.out.lt
              have hdl := (HE.out.block d rfl).2
              have hd5l := (HE5.out.block d5 rfl).2
              have hwl := HB.out.size
              have hcv := run_str (P := Try.prog) wa 41 Try.underlying41 Try.underlying5 (c := cap1) (HDX.out.below HBa.out (Nat.le_refl _)) HNB.out 9 Try.underlying9
              have HSz : Hid ((str xs).size ≤ 100000000) := by show (str xs).size ≤ _; have := HNB.out; simp [str, ByteArray.size]; omega
              have HSl : Hid ((str xs).data.toList = xs) := by show (str xs).data.toList = xs; simp [str]
              have HNo := Lib.hid hnb
              clear hr hB HT10 HT12 HE HE5 HB hnb
              go_wp2_with fail
              refine (refNew_yes (str xs) _ HSz.out (by rw [HSl.out]; exact HNo.out)).mono ?_
              rintro e wb ⟨Ab, cb, he, hdb, hcb, hB⟩
              rw [HSl.out] at he hdb hcb
              subst he
              have hsb := hB.size
              obtain ⟨T, hT⟩ : ∃ T, T = top xs := ⟨_, rfl⟩
              rw [← hT] at hdb hcb htop HRa ⊢
              have hrd : Rd w (wb.alloc (.cells #[.slice Ab T cb, .int .i64 0] 49)) w2.heap.size w5.heap.size l n d c d5 c5 es W.heap.size g wa.heap.size wb.heap.size Ab cb xs (T : Int) (T : Int) :=
                ⟨(HTa.out.below hB HTa.out.lt).alloc _, (HTr.out.below hB HTr.out.lt).alloc _, (HEa.out.below hB (Nat.le_refl _)).alloc _, (HE5a.out.below hB (Nat.le_refl _)).alloc _, (HRa.out.below hB hga).keep fun k _ hk => Below.heap_alloc _ _ k (by omega), by simpa using Box.new wb 49 #[.slice Ab T cb, .int .i64 0], by simpa using hdb.alloc (Nat.le_refl _) _, (HBa.out.trans (hB.mono HBa.out.size)).alloc (by have := HBa.out.size; omega) _⟩
              have hord : Ord w w2.heap.size w5.heap.size d d5 W.heap.size g wa.heap.size wb.heap.size := ⟨hq10, hq12, hdl, hd5l, hg0, hga, hsb, hwl⟩
              have HRd := Lib.hid hrd
              have HOd := Lib.hid hord
              have hTb : T ≤ 800 := by have := HNB.out; omega
              have hx100 : xs.length ≤ 100 := by have := HNB.out; omega
              have hTl : (T : Int) ≤ 8 * xs.length := by omega
              clear hdb hB hrd hord hcv HTa HTr HEa HE5a HRa HBa hT htop hq10 hq12 hdl hd5l hg0 hga
              obtain ⟨t0, t1, _, _⟩ := box2 HRd.out.t10
              go_wp2_with fail
              generalize wb.alloc (.cells #[.slice Ab T cb, .int .i64 0] 49) = wc at *
              generalize wb.heap.size = bv at *
              generalize wa.heap.size = mid at *
              have hbvc := HRd.out.vb.lt
              -- Start
              have HS1 := Lib.hid (start_any (A := some ⟨d, 0, none⟩) (n := n) (c := c) l HRd.out.bw (by omega) hl15)
              have HS2 := Lib.hid (HRd.out.last (l : Int) (by simpa using hcb) hx100 hTl (by omega))
              have hlt := bread_lt xs (T : Int) l
              have hble := bread_le' xs (T : Int) (l : Int)
              generalize bread xs (T : Int) (l : Int) = tt at *
              obtain ⟨X, left2⟩ := tt
              dsimp only at *
              have hXn : X < n := by have := HLn.out; omega
              obtain ⟨M2, hM2⟩ : ∃ M2, M2 = left2.toNat := ⟨_, rfl⟩
              obtain ⟨LK2, hLK2⟩ : ∃ LK2, LK2 = (left2.toNat : Int) - left2 := ⟨_, rfl⟩
              rw [← hLK2, ← hM2] at HS2
              have HM2 := Lib.hid hM2
              have HLK2 := Lib.hid hLK2
              clear hM2 hLK2
              clear hlt
              refine HS1.out.mono ?_
              rintro e wd ⟨rfl, hbw, hgr⟩
              have HRd2 := Lib.hid (HRd.out.grown HOd.out hgr hbw)
              clear hbw hgr HS1 HRd t0 t1
              obtain ⟨t0, t1, _, _⟩ := box2 HRd2.out.t12
              obtain ⟨v0, v1, g0, g1⟩ := box2 HRd2.out.vb
              rw [show ((T : Int)).toNat = T by omega] at v0 v1
              rw [show ((T : Int)).toNat = T by omega] at HS2
              have HDb := Lib.hid HRd2.out.db
              rw [show ((T : Int)).toNat = T by omega] at HDb
              have HS3 := Lib.hid (refStart_any (A := some ⟨d5, 0, none⟩) (n := n) (c := c5) (l : Int) HDb.out (by have := HRd2.out.vb.lt; omega) (by omega) HS2.out)
              have e0 : (T : Int) - (T : Int) = 0 := by omega
              rw [e0] at v1 HS3
              clear HS2 HDb e0
              go_wp2_with fail
              refine HS3.out.mono ?_
              rintro e we ⟨rfl, hB⟩
              have HRd3 := Lib.hid (HRd2.out.below' HOd.out hB)
              have HRd4 := Lib.hid (HRd3.out.put HOd.out hble.1)
              rw [← HLK2.out, ← HM2.out] at HRd4
              clear hB HS3 HRd2 t0 t1 v0 v1 g0 g1
              obtain ⟨v0, v1, g0, g1⟩ := box2 HRd3.out.vb
              clear HRd3
              go_wp2_with fail
              clear v0 v1 g0 g1
              generalize (we.setCell ⟨bv, 0, none⟩ (.slice Ab M2 cb)).setCell ⟨bv, 1, none⟩ (.int .i64 LK2) = wf at *
              obtain ⟨M, hM⟩ : ∃ M : Nat, M = N % 40 := ⟨_, rfl⟩
              have hMi : (N : Int) % 40 = (M : Int) := by omega
              have hM40 : M < 40 := by omega
              clear hM
              go_loopg [18, 19, 20] M (fun gh s z i wx => ∃ (k sv : Nat) (left : Int), k + gh = M ∧ i = .int .i64 (k : Int) ∧ s = .int .i64 (sv : Int) ∧ z = .int .i64 (sv : Int) ∧ sv < n ∧ -(56 * (k + 1) : Int) ≤ left ∧ left ≤ T ∧ Rd w wx w2.heap.size w5.heap.size l n d c d5 c5 es W.heap.size g mid bv Ab cb xs left left)
              case atStart => exact ⟨0, X, left2, by omega, rfl, rfl, rfl, hXn, by omega, by omega, HRd4.out⟩
              case round =>
                clear HRd4 hble hXn
                obtain ⟨k, sv, left, hk, rfl, rfl, rfl, hsv, hlow, hhigh, hrd⟩ := hrel
                have HK := Lib.hid hk
                have HRd := Lib.hid hrd
                have hkM : k ≤ M := by omega
                have hbvr := hrd.vb.lt
                clear hk hrd
                have HU1 := Lib.hid (left_any (show BW wr.drew W.heap.size g xs left from HRd.out.bw))
                obtain ⟨v0, v1, g0, g1⟩ := box2 HRd.out.vb
                obtain ⟨M1, hM1⟩ : ∃ M1, M1 = left.toNat := ⟨_, rfl⟩
                obtain ⟨LK, hLK⟩ : ∃ LK, LK = (left.toNat : Int) - left := ⟨_, rfl⟩
                rw [← hM1] at v0
                rw [← hLK] at v1
                have HU2 := Lib.hid (fun Wq => refLeft_any Ab M1 cb LK left Wq (by omega) (by omega) (by omega))
                have HM1 := Lib.hid hM1
                have HLK := Lib.hid hLK
                clear hM1 hLK
                by_cases hkl : k < M
                · obtain ⟨g', rfl⟩ : ∃ g', gk = g' + 1 := ⟨gk - 1, by have := HK.out; omega⟩
                  have hki : (k : Int) < (M : Int) := by omega
                  go_upto_region 24 with (fail)
                  go_region_held3 (fun w' => w'.cell? ⟨bv, 0, none⟩ = some (.slice Ab M1 cb) ∧ w'.cell? ⟨bv, 1, none⟩ = some (.int .i64 LK)) (first | exact ⟨v0, v1⟩ | exact ⟨s0, s1⟩ | go_keep) (first | (go_at_call 19; refine HU1.out.mono ?_; rintro e' w' ⟨rfl, rfl⟩) | (go_at_call 20; refine (HU2.out _).mono ?_; rintro e' wy ⟨rfl, hB5⟩; have s0 : wy.cell? ⟨bv, 0, none⟩ = some (.slice Ab M1 cb) := (hB5.cell (p := ⟨bv, 0, none⟩) (by exact hbvr)).trans v0; have s1 : wy.cell? ⟨bv, 1, none⟩ = some (.int .i64 LK) := (hB5.cell (p := ⟨bv, 1, none⟩) (by exact hbvr)).trans v1; have HBy : Hid (Below wr.heap.size wr wy) := (⟨hB5.os, hB5.tape, hB5.output, hB5.size, hB5.block⟩ : Below wr.heap.size wr wy); clear hB5))
                  all_goals
                    have HRy := Lib.hid (HRd.out.below' HOd.out HBy.out)
                    obtain ⟨t0, t1, _, _⟩ := box2 HRy.out.t10
                    have hsl : sv < es.length := by have := HLen.out; omega
                    obtain ⟨sy, b, e, hx, hs256, hb15, hen⟩ := HFi.out sv hsl
                    have hpb := Nat.two_pow_pos b
                    have HS1 := Lib.hid (next_any (A := some ⟨d, 0, none⟩) (n := n) (c := c) (l : Int) sv HRy.out.bw (by omega) (HRy.out.e1.dat ecell_len) (Nat.le_refl _) HLen.out (by omega) hsv hx hb15 (by omega))
                    have HS2 := Lib.hid (HRy.out.last (b : Int) (by omega) hx100 (by omega) (by omega))
                    have hlt := bread_lt xs left b
                    have hp15 : 2 ^ b ≤ 2 ^ 15 := Nat.pow_le_pow_right (by omega) hb15
                    have hble := bread_le' xs left (b : Int)
                    have HX := Lib.hid hx
                    clear hx
                    generalize bread xs left (b : Int) = tt at *
                    obtain ⟨X, left3⟩ := tt
                    dsimp only at *
                    have hXn : e + X < n := by omega
                    have hX15 : X < 32768 := by omega
                    have he15 : e ≤ 32768 := by omega
                    obtain ⟨M3, hM3⟩ : ∃ M3, M3 = left3.toNat := ⟨_, rfl⟩
                    obtain ⟨LK3, hLK3⟩ : ∃ LK3, LK3 = (left3.toNat : Int) - left3 := ⟨_, rfl⟩
                    rw [← hLK3, ← hM3, ← HLK.out, ← HM1.out] at HS2
                    have HM3 := Lib.hid hM3
                    have HLK3 := Lib.hid hLK3
                    clear hM3 hLK3 hlt hp15 hpb hen v0 v1 g0 g1
                    go_wp2_with fail
                    refine HS1.out.mono ?_
                    rintro e' wd ⟨rfl, hbw, hgr⟩
                    have HRd2 := Lib.hid (HRy.out.grown HOd.out hgr hbw)
                    clear hbw hgr HS1 HRy t0 t1
                    obtain ⟨t0, t1, _, _⟩ := box2 HRd2.out.t12
                    obtain ⟨v0, v1, g0, g1⟩ := box2 HRd2.out.vb
                    rw [← HM1.out] at v0
                    rw [← HLK.out] at v1
                    have HDb := Lib.hid HRd2.out.db
                    rw [← HM1.out] at HDb
                    have HS3 := Lib.hid (refNext_any (A := some ⟨d5, 0, none⟩) (n := n) (c := c5) (l : Int) sv HDb.out (by have := HRd2.out.vb.lt; omega) (HRd2.out.e2.dat rcell_len) (Nat.le_refl _) HLen.out (by omega) hsv HX.out (by omega) hX15 HS2.out)
                    clear HS2 HDb
                    go_wp2_with fail
                    refine HS3.out.mono ?_
                    rintro e' we ⟨rfl, hB⟩
                    have HRd3 := Lib.hid (HRd2.out.below' HOd.out hB)
                    have HRd4 := Lib.hid (HRd3.out.put HOd.out hble.1)
                    rw [← HLK3.out, ← HM3.out] at HRd4
                    clear hB HS3 HRd2 t0 t1 v0 v1 g0 g1
                    obtain ⟨v0, v1, g0, g1⟩ := box2 HRd3.out.vb
                    clear HRd3
                    go_wp2_with fail
                    clear v0 v1 g0 g1
                    go_roundg g'
                    case rel => exact ⟨k + 1, e + X, left3, by have := HK.out; omega, by go_num, rfl, rfl, hXn, by omega, by omega, HRd4.out⟩
                    case measure => omega
                · obtain rfl : k = M := by omega
                  have hki : ¬ (k : Int) < (k : Int) := by omega
                  go_upto_region 28 with (fail)
                  go_region_held3 (fun w' => w'.cell? ⟨bv, 0, none⟩ = some (.slice Ab M1 cb) ∧ w'.cell? ⟨bv, 1, none⟩ = some (.int .i64 LK)) (first | exact ⟨v0, v1⟩ | exact ⟨s0, s1⟩ | go_keep) (first | (go_at_call 19; refine HU1.out.mono ?_; rintro e' w' ⟨rfl, rfl⟩) | (go_at_call 20; refine (HU2.out _).mono ?_; rintro e' wy ⟨rfl, hB5⟩; have s0 : wy.cell? ⟨bv, 0, none⟩ = some (.slice Ab M1 cb) := (hB5.cell (p := ⟨bv, 0, none⟩) (by exact hbvr)).trans v0; have s1 : wy.cell? ⟨bv, 1, none⟩ = some (.int .i64 LK) := (hB5.cell (p := ⟨bv, 1, none⟩) (by exact hbvr)).trans v1; have HBy : Hid (Below wr.heap.size wr wy) := (⟨hB5.os, hB5.tape, hB5.output, hB5.size, hB5.block⟩ : Below wr.heap.size wr wy); clear hB5))
                  all_goals
                    go_wp2_with fail
                    go_ret
                    exact ⟨rfl, (HRd.out.below' HOd.out HBy.out).below⟩
            · refine (newBack_no (HDX.out.below HB.out (Nat.le_refl _)) HNB.out (by have := HNB.out; omega) hnb).mono ?_
              rintro e w' ⟨rfl, rfl⟩
              have hcv := run_str (P := Try.prog) W 41 Try.underlying41 Try.underlying5 (c := cap1) (HDX.out.below HB.out (Nat.le_refl _)) HNB.out 9 Try.underlying9
              have HSz : Hid ((str xs).size ≤ 100000000) := by show (str xs).size ≤ _; have := HNB.out; simp [str, ByteArray.size]; omega
              have HSl : Hid ((str xs).data.toList = xs) := by show (str xs).data.toList = xs; simp [str]
              have HNo := Lib.hid hnb
              clear hnb
              go_wp2_with fail
              refine (refNew_no (str xs) _ HSz.out (by rw [HSl.out]; exact HNo.out)).mono ?_
              rintro e wa ⟨rfl, hB⟩
              have HBa := Lib.hid (HB.out.trans (hB.mono HB.out.size))
              clear hB hcv
              go_wp2_with fail
              go_ret
              exact ⟨rfl, HBa.out.alloc HBa.out.size _⟩
          · go_wp2_with fail
            go_ret
            exact ⟨rfl, HB6.out⟩
        | true =>
          obtain ⟨W6, hW6⟩ : ∃ W6, W6 = w5.alloc (.cells #[.int .i64 Lr, .slice Ar nr cr] 34) := ⟨_, rfl⟩
          rw [← hW6] at HB6 HT6 HR6
          have hq6 : w5.heap.size < W6.heap.size := HR6.out.lt
          go_wp2_with fail
          rw [← hW6]
          clear hW6 HG6 HGR HOr HOr2 h9 h9'
          refine (one_any (N : Int) _).mono ?_
          rintro e w7 ⟨v7, rfl, ho7, hB⟩
          obtain ⟨d, c, rfl, hd1, hd2, _⟩ := ho7.place (by simp)
          rw [show ([(⟨(N : Int), 0, 0⟩ : En)] : List En).length = 1 from rfl] at ho7 ⊢
          have HB7 := Lib.hid (HB6.out.trans (hB.mono HB6.out.size))
          have HT7 := Lib.hid (HT6.out.below hB HT6.out.lt)
          have HR7 := Lib.hid (HR6.out.below hB HR6.out.lt)
          have HO7 := Lib.hid ho7
          have hs7 := hB.size
          have hw6 := HB6.out.size
          obtain ⟨t0, t1, f0, f1⟩ := box2 HT7.out
          have HT8 := Lib.hid ((HT7.out.put 0 (.int .i64 0)).put 1 (.slice (some ⟨d, 0, none⟩) 1 c))
          have HR8 := Lib.hid ((HR7.out.far (show w5.heap.size ≠ (⟨w2.heap.size, 0, none⟩ : Addr).block by show w5.heap.size ≠ w2.heap.size; omega) (.int .i64 0)).far (show w5.heap.size ≠ (⟨w2.heap.size, 1, none⟩ : Addr).block by show w5.heap.size ≠ w2.heap.size; omega) (.slice (some ⟨d, 0, none⟩) 1 c))
          have HO8 := Lib.hid ((HO7.out.aside (show d ≠ w2.heap.size by omega) 0 (.int .i64 0)).aside (show d ≠ w2.heap.size by omega) 1 (.slice (some ⟨d, 0, none⟩) 1 c))
          have HB8 := Lib.hid ((HB7.out.setCell (show w.heap.size ≤ (⟨w2.heap.size, 0, none⟩ : Addr).block by show w.heap.size ≤ w2.heap.size; omega) (.int .i64 0)).setCell (show w.heap.size ≤ (⟨w2.heap.size, 1, none⟩ : Addr).block by show w.heap.size ≤ w2.heap.size; omega) (.slice (some ⟨d, 0, none⟩) 1 c))
          have hs8 : ((w7.setCell ⟨w2.heap.size, 0, none⟩ (.int .i64 0)).setCell ⟨w2.heap.size, 1, none⟩ (.slice (some ⟨d, 0, none⟩) 1 c)).heap.size = w7.heap.size := by simp
          have hNw : IntKind.i64.wrap (N : Int) = (N : Int) := IntWalk.i64_in _ (by omega)
          clear ho7 hB HB6 HT6 HR6 HB7 HT7 HR7 HO7
          go_wp2_with fail
          clear hNw t0 t1 f0 f1
          generalize (w7.setCell ⟨w2.heap.size, 0, none⟩ (.int .i64 0)).setCell ⟨w2.heap.size, 1, none⟩ (.slice (some ⟨d, 0, none⟩) 1 c) = w8 at *
          have hs8a : w7.heap.size ≤ w8.heap.size := by omega
          clear hs8
          refine (refOne_any (N : Int) _).mono ?_
          rintro e w9 ⟨v9, rfl, ho9, hB⟩
          obtain ⟨d5, c5, rfl, hd51, hd52, _⟩ := ho9.place (by simp)
          rw [show ([(⟨(N : Int), 0, 0⟩ : En)] : List En).length = 1 from rfl] at ho9 ⊢
          have HB9 := Lib.hid (HB8.out.trans (hB.mono HB8.out.size))
          have HT9 := Lib.hid (HT8.out.below hB HT8.out.lt)
          have HR9 := Lib.hid (HR8.out.below hB HR8.out.lt)
          have HO9 := Lib.hid (HO8.out.below hB (Nat.le_refl _))
          have HP9 := Lib.hid ho9
          obtain ⟨t0, t1, f0, f1⟩ := box2 HR9.out
          have HRa := Lib.hid ((HR9.out.put 0 (.int .i64 0)).put 1 (.slice (some ⟨d5, 0, none⟩) 1 c5))
          have HTa := Lib.hid ((HT9.out.far (show w2.heap.size ≠ (⟨w5.heap.size, 0, none⟩ : Addr).block by show w2.heap.size ≠ w5.heap.size; omega) (.int .i64 0)).far (show w2.heap.size ≠ (⟨w5.heap.size, 1, none⟩ : Addr).block by show w2.heap.size ≠ w5.heap.size; omega) (.slice (some ⟨d5, 0, none⟩) 1 c5))
          have HOa := Lib.hid ((HO9.out.aside (show d ≠ w5.heap.size by omega) 0 (.int .i64 0)).aside (show d ≠ w5.heap.size by omega) 1 (.slice (some ⟨d5, 0, none⟩) 1 c5))
          have HPa := Lib.hid ((HP9.out.aside (show d5 ≠ w5.heap.size by omega) 0 (.int .i64 0)).aside (show d5 ≠ w5.heap.size by omega) 1 (.slice (some ⟨d5, 0, none⟩) 1 c5))
          have HBa := Lib.hid ((HB9.out.setCell (show w.heap.size ≤ (⟨w5.heap.size, 0, none⟩ : Addr).block by show w.heap.size ≤ w5.heap.size; omega) (.int .i64 0)).setCell (show w.heap.size ≤ (⟨w5.heap.size, 1, none⟩ : Addr).block by show w.heap.size ≤ w5.heap.size; omega) (.slice (some ⟨d5, 0, none⟩) 1 c5))
          clear ho9 hB HB8 HT8 HR8 HO8 HB9 HT9 HR9 HO9 HP9
          go_wp2_with fail
          clear t0 t1 f0 f1
          generalize (w9.setCell ⟨w5.heap.size, 0, none⟩ (.int .i64 0)).setCell ⟨w5.heap.size, 1, none⟩ (.slice (some ⟨d5, 0, none⟩) 1 c5) = W at *
          obtain ⟨l, hl0⟩ : ∃ l : Nat, l = 0 := ⟨0, rfl⟩
          obtain ⟨n, hn1⟩ : ∃ n : Nat, n = 1 := ⟨1, rfl⟩
          obtain ⟨es, hes⟩ : ∃ es : List En, es = [⟨(N : Int), 0, 0⟩] := ⟨_, rfl⟩
          have hl15 : l ≤ 15 := by omega
          have hn16 : n ≤ 32768 := by omega
          have HLn : Hid (2 ^ l ≤ n) := by rw [Hid, hl0, hn1]; decide
          have HLen : Hid (es.length = n) := by rw [Hid, hes, hn1]; rfl
          have HFi : Hid (FineN es n) := by rw [Hid, hes, hn1]; exact one_fineN N (by omega)
          have HE : Hid (OwR 3 ecell W 67 w.heap.size (.slice (some ⟨d, 0, none⟩) n c) es) := by rw [hes, hn1]; exact HOa.out.mono (by omega)
          have HE5 : Hid (OwR 3 rcell W 84 w.heap.size (.slice (some ⟨d5, 0, none⟩) n c5) es) := by rw [hes, hn1]; exact HPa.out.mono (by omega)
          have HT10 : Hid (Box W w2.heap.size 28 #[.int .i64 (l : Int), .slice (some ⟨d, 0, none⟩) n c]) := by rw [hl0, hn1]; exact HTa.out
          have HT12 : Hid (Box W w5.heap.size 34 #[.int .i64 (l : Int), .slice (some ⟨d5, 0, none⟩) n c5]) := by rw [hl0, hn1]; exact HRa.out
          have HB := Lib.hid HBa.out
          clear HOa HPa HTa HRa HBa hl0 hn1 hes
          rcases hnb : noBack xs with _ | _
          · have hxp : 0 < xs.length := by
              rcases Nat.eq_zero_or_pos xs.length with h | h
              · simp [noBack, h] at hnb
              · exact h
            have htop := top_lt xs hxp
            refine (newBack_yes (HDX.out.below HB.out (Nat.le_refl _)) HNB.out (by have := HNB.out; omega) HB.out.size hnb).mono ?_
            rintro e wa ⟨g, rfl, hr, hB⟩
            have hg0 := hr.1
            have hga := hr.lt
            have HRa := Lib.hid hr
            have HBa := Lib.hid (HB.out.trans (hB.mono HB.out.size))
            have HTa := Lib.hid (HT10.out.below hB HT10.out.lt)
            have HTr := Lib.hid (HT12.out.below hB HT12.out.lt)
            have HEa := Lib.hid (HE.out.below hB (Nat.le_refl _))
            have HE5a := Lib.hid (HE5.out.below hB (Nat.le_refl _))
            have hq10 := HT10.out.lt
            have hq12 := HT12.out.lt
            have hdl := (HE.out.block d rfl).2
            have hd5l := (HE5.out.block d5 rfl).2
            have hwl := HB.out.size
            have hcv := run_str (P := Try.prog) wa 41 Try.underlying41 Try.underlying5 (c := cap1) (HDX.out.below HBa.out (Nat.le_refl _)) HNB.out 9 Try.underlying9
            have HSz : Hid ((str xs).size ≤ 100000000) := by show (str xs).size ≤ _; have := HNB.out; simp [str, ByteArray.size]; omega
            have HSl : Hid ((str xs).data.toList = xs) := by show (str xs).data.toList = xs; simp [str]
            have HNo := Lib.hid hnb
            clear hr hB HT10 HT12 HE HE5 HB hnb
            go_wp2_with fail
            refine (refNew_yes (str xs) _ HSz.out (by rw [HSl.out]; exact HNo.out)).mono ?_
            rintro e wb ⟨Ab, cb, he, hdb, hcb, hB⟩
            rw [HSl.out] at he hdb hcb
            subst he
            have hsb := hB.size
            obtain ⟨T, hT⟩ : ∃ T, T = top xs := ⟨_, rfl⟩
            rw [← hT] at hdb hcb htop HRa ⊢
            have hrd : Rd w (wb.alloc (.cells #[.slice Ab T cb, .int .i64 0] 49)) w2.heap.size w5.heap.size l n d c d5 c5 es W.heap.size g wa.heap.size wb.heap.size Ab cb xs (T : Int) (T : Int) :=
              ⟨(HTa.out.below hB HTa.out.lt).alloc _, (HTr.out.below hB HTr.out.lt).alloc _, (HEa.out.below hB (Nat.le_refl _)).alloc _, (HE5a.out.below hB (Nat.le_refl _)).alloc _, (HRa.out.below hB hga).keep fun k _ hk => Below.heap_alloc _ _ k (by omega), by simpa using Box.new wb 49 #[.slice Ab T cb, .int .i64 0], by simpa using hdb.alloc (Nat.le_refl _) _, (HBa.out.trans (hB.mono HBa.out.size)).alloc (by have := HBa.out.size; omega) _⟩
            have hord : Ord w w2.heap.size w5.heap.size d d5 W.heap.size g wa.heap.size wb.heap.size := ⟨hq10, hq12, hdl, hd5l, hg0, hga, hsb, hwl⟩
            have HRd := Lib.hid hrd
            have HOd := Lib.hid hord
            have hTb : T ≤ 800 := by have := HNB.out; omega
            have hx100 : xs.length ≤ 100 := by have := HNB.out; omega
            have hTl : (T : Int) ≤ 8 * xs.length := by omega
            clear hdb hB hrd hord hcv HTa HTr HEa HE5a HRa HBa hT htop hq10 hq12 hdl hd5l hg0 hga
            obtain ⟨t0, t1, _, _⟩ := box2 HRd.out.t10
            go_wp2_with fail
            generalize wb.alloc (.cells #[.slice Ab T cb, .int .i64 0] 49) = wc at *
            generalize wb.heap.size = bv at *
            generalize wa.heap.size = mid at *
            have hbvc := HRd.out.vb.lt
            -- Start
            have HS1 := Lib.hid (start_any (A := some ⟨d, 0, none⟩) (n := n) (c := c) l HRd.out.bw (by omega) hl15)
            have HS2 := Lib.hid (HRd.out.last (l : Int) (by simpa using hcb) hx100 hTl (by omega))
            have hlt := bread_lt xs (T : Int) l
            have hble := bread_le' xs (T : Int) (l : Int)
            generalize bread xs (T : Int) (l : Int) = tt at *
            obtain ⟨X, left2⟩ := tt
            dsimp only at *
            have hXn : X < n := by have := HLn.out; omega
            obtain ⟨M2, hM2⟩ : ∃ M2, M2 = left2.toNat := ⟨_, rfl⟩
            obtain ⟨LK2, hLK2⟩ : ∃ LK2, LK2 = (left2.toNat : Int) - left2 := ⟨_, rfl⟩
            rw [← hLK2, ← hM2] at HS2
            have HM2 := Lib.hid hM2
            have HLK2 := Lib.hid hLK2
            clear hM2 hLK2
            clear hlt
            refine HS1.out.mono ?_
            rintro e wd ⟨rfl, hbw, hgr⟩
            have HRd2 := Lib.hid (HRd.out.grown HOd.out hgr hbw)
            clear hbw hgr HS1 HRd t0 t1
            obtain ⟨t0, t1, _, _⟩ := box2 HRd2.out.t12
            obtain ⟨v0, v1, g0, g1⟩ := box2 HRd2.out.vb
            rw [show ((T : Int)).toNat = T by omega] at v0 v1
            rw [show ((T : Int)).toNat = T by omega] at HS2
            have HDb := Lib.hid HRd2.out.db
            rw [show ((T : Int)).toNat = T by omega] at HDb
            have HS3 := Lib.hid (refStart_any (A := some ⟨d5, 0, none⟩) (n := n) (c := c5) (l : Int) HDb.out (by have := HRd2.out.vb.lt; omega) (by omega) HS2.out)
            have e0 : (T : Int) - (T : Int) = 0 := by omega
            rw [e0] at v1 HS3
            clear HS2 HDb e0
            go_wp2_with fail
            refine HS3.out.mono ?_
            rintro e we ⟨rfl, hB⟩
            have HRd3 := Lib.hid (HRd2.out.below' HOd.out hB)
            have HRd4 := Lib.hid (HRd3.out.put HOd.out hble.1)
            rw [← HLK2.out, ← HM2.out] at HRd4
            clear hB HS3 HRd2 t0 t1 v0 v1 g0 g1
            obtain ⟨v0, v1, g0, g1⟩ := box2 HRd3.out.vb
            clear HRd3
            go_wp2_with fail
            clear v0 v1 g0 g1
            generalize (we.setCell ⟨bv, 0, none⟩ (.slice Ab M2 cb)).setCell ⟨bv, 1, none⟩ (.int .i64 LK2) = wf at *
            obtain ⟨M, hM⟩ : ∃ M : Nat, M = N % 40 := ⟨_, rfl⟩
            have hMi : (N : Int) % 40 = (M : Int) := by omega
            have hM40 : M < 40 := by omega
            clear hM
            go_loopg [18, 19, 20] M (fun gh s z i wx => ∃ (k sv : Nat) (left : Int), k + gh = M ∧ i = .int .i64 (k : Int) ∧ s = .int .i64 (sv : Int) ∧ z = .int .i64 (sv : Int) ∧ sv < n ∧ -(56 * (k + 1) : Int) ≤ left ∧ left ≤ T ∧ Rd w wx w2.heap.size w5.heap.size l n d c d5 c5 es W.heap.size g mid bv Ab cb xs left left)
            case atStart => exact ⟨0, X, left2, by omega, rfl, rfl, rfl, hXn, by omega, by omega, HRd4.out⟩
            case round =>
              clear HRd4 hble hXn
              obtain ⟨k, sv, left, hk, rfl, rfl, rfl, hsv, hlow, hhigh, hrd⟩ := hrel
              have HK := Lib.hid hk
              have HRd := Lib.hid hrd
              have hkM : k ≤ M := by omega
              have hbvr := hrd.vb.lt
              clear hk hrd
              have HU1 := Lib.hid (left_any (show BW wr.drew W.heap.size g xs left from HRd.out.bw))
              obtain ⟨v0, v1, g0, g1⟩ := box2 HRd.out.vb
              obtain ⟨M1, hM1⟩ : ∃ M1, M1 = left.toNat := ⟨_, rfl⟩
              obtain ⟨LK, hLK⟩ : ∃ LK, LK = (left.toNat : Int) - left := ⟨_, rfl⟩
              rw [← hM1] at v0
              rw [← hLK] at v1
              have HU2 := Lib.hid (fun Wq => refLeft_any Ab M1 cb LK left Wq (by omega) (by omega) (by omega))
              have HM1 := Lib.hid hM1
              have HLK := Lib.hid hLK
              clear hM1 hLK
              by_cases hkl : k < M
              · obtain ⟨g', rfl⟩ : ∃ g', gk = g' + 1 := ⟨gk - 1, by have := HK.out; omega⟩
                have hki : (k : Int) < (M : Int) := by omega
                go_upto_region 24 with (fail)
                go_region_held3 (fun w' => w'.cell? ⟨bv, 0, none⟩ = some (.slice Ab M1 cb) ∧ w'.cell? ⟨bv, 1, none⟩ = some (.int .i64 LK)) (first | exact ⟨v0, v1⟩ | exact ⟨s0, s1⟩ | go_keep) (first | (go_at_call 19; refine HU1.out.mono ?_; rintro e' w' ⟨rfl, rfl⟩) | (go_at_call 20; refine (HU2.out _).mono ?_; rintro e' wy ⟨rfl, hB5⟩; have s0 : wy.cell? ⟨bv, 0, none⟩ = some (.slice Ab M1 cb) := (hB5.cell (p := ⟨bv, 0, none⟩) (by exact hbvr)).trans v0; have s1 : wy.cell? ⟨bv, 1, none⟩ = some (.int .i64 LK) := (hB5.cell (p := ⟨bv, 1, none⟩) (by exact hbvr)).trans v1; have HBy : Hid (Below wr.heap.size wr wy) := (⟨hB5.os, hB5.tape, hB5.output, hB5.size, hB5.block⟩ : Below wr.heap.size wr wy); clear hB5))
                all_goals
                  have HRy := Lib.hid (HRd.out.below' HOd.out HBy.out)
                  obtain ⟨t0, t1, _, _⟩ := box2 HRy.out.t10
                  have hsl : sv < es.length := by have := HLen.out; omega
                  obtain ⟨sy, b, e, hx, hs256, hb15, hen⟩ := HFi.out sv hsl
                  have hpb := Nat.two_pow_pos b
                  have HS1 := Lib.hid (next_any (A := some ⟨d, 0, none⟩) (n := n) (c := c) (l : Int) sv HRy.out.bw (by omega) (HRy.out.e1.dat ecell_len) (Nat.le_refl _) HLen.out (by omega) hsv hx hb15 (by omega))
                  have HS2 := Lib.hid (HRy.out.last (b : Int) (by omega) hx100 (by omega) (by omega))
                  have hlt := bread_lt xs left b
                  have hp15 : 2 ^ b ≤ 2 ^ 15 := Nat.pow_le_pow_right (by omega) hb15
                  have hble := bread_le' xs left (b : Int)
                  have HX := Lib.hid hx
                  clear hx
                  generalize bread xs left (b : Int) = tt at *
                  obtain ⟨X, left3⟩ := tt
                  dsimp only at *
                  have hXn : e + X < n := by omega
                  have hX15 : X < 32768 := by omega
                  have he15 : e ≤ 32768 := by omega
                  obtain ⟨M3, hM3⟩ : ∃ M3, M3 = left3.toNat := ⟨_, rfl⟩
                  obtain ⟨LK3, hLK3⟩ : ∃ LK3, LK3 = (left3.toNat : Int) - left3 := ⟨_, rfl⟩
                  rw [← hLK3, ← hM3, ← HLK.out, ← HM1.out] at HS2
                  have HM3 := Lib.hid hM3
                  have HLK3 := Lib.hid hLK3
                  clear hM3 hLK3 hlt hp15 hpb hen v0 v1 g0 g1
                  go_wp2_with fail
                  refine HS1.out.mono ?_
                  rintro e' wd ⟨rfl, hbw, hgr⟩
                  have HRd2 := Lib.hid (HRy.out.grown HOd.out hgr hbw)
                  clear hbw hgr HS1 HRy t0 t1
                  obtain ⟨t0, t1, _, _⟩ := box2 HRd2.out.t12
                  obtain ⟨v0, v1, g0, g1⟩ := box2 HRd2.out.vb
                  rw [← HM1.out] at v0
                  rw [← HLK.out] at v1
                  have HDb := Lib.hid HRd2.out.db
                  rw [← HM1.out] at HDb
                  have HS3 := Lib.hid (refNext_any (A := some ⟨d5, 0, none⟩) (n := n) (c := c5) (l : Int) sv HDb.out (by have := HRd2.out.vb.lt; omega) (HRd2.out.e2.dat rcell_len) (Nat.le_refl _) HLen.out (by omega) hsv HX.out (by omega) hX15 HS2.out)
                  clear HS2 HDb
                  go_wp2_with fail
                  refine HS3.out.mono ?_
                  rintro e' we ⟨rfl, hB⟩
                  have HRd3 := Lib.hid (HRd2.out.below' HOd.out hB)
                  have HRd4 := Lib.hid (HRd3.out.put HOd.out hble.1)
                  rw [← HLK3.out, ← HM3.out] at HRd4
                  clear hB HS3 HRd2 t0 t1 v0 v1 g0 g1
                  obtain ⟨v0, v1, g0, g1⟩ := box2 HRd3.out.vb
                  clear HRd3
                  go_wp2_with fail
                  clear v0 v1 g0 g1
                  go_roundg g'
                  case rel => exact ⟨k + 1, e + X, left3, by have := HK.out; omega, by go_num, rfl, rfl, hXn, by omega, by omega, HRd4.out⟩
                  case measure => omega
              · obtain rfl : k = M := by omega
                have hki : ¬ (k : Int) < (k : Int) := by omega
                go_upto_region 28 with (fail)
                go_region_held3 (fun w' => w'.cell? ⟨bv, 0, none⟩ = some (.slice Ab M1 cb) ∧ w'.cell? ⟨bv, 1, none⟩ = some (.int .i64 LK)) (first | exact ⟨v0, v1⟩ | exact ⟨s0, s1⟩ | go_keep) (first | (go_at_call 19; refine HU1.out.mono ?_; rintro e' w' ⟨rfl, rfl⟩) | (go_at_call 20; refine (HU2.out _).mono ?_; rintro e' wy ⟨rfl, hB5⟩; have s0 : wy.cell? ⟨bv, 0, none⟩ = some (.slice Ab M1 cb) := (hB5.cell (p := ⟨bv, 0, none⟩) (by exact hbvr)).trans v0; have s1 : wy.cell? ⟨bv, 1, none⟩ = some (.int .i64 LK) := (hB5.cell (p := ⟨bv, 1, none⟩) (by exact hbvr)).trans v1; have HBy : Hid (Below wr.heap.size wr wy) := (⟨hB5.os, hB5.tape, hB5.output, hB5.size, hB5.block⟩ : Below wr.heap.size wr wy); clear hB5))
                all_goals
                  go_wp2_with fail
                  go_ret
                  exact ⟨rfl, (HRd.out.below' HOd.out HBy.out).below⟩
          · refine (newBack_no (HDX.out.below HB.out (Nat.le_refl _)) HNB.out (by have := HNB.out; omega) hnb).mono ?_
            rintro e w' ⟨rfl, rfl⟩
            have hcv := run_str (P := Try.prog) W 41 Try.underlying41 Try.underlying5 (c := cap1) (HDX.out.below HB.out (Nat.le_refl _)) HNB.out 9 Try.underlying9
            have HSz : Hid ((str xs).size ≤ 100000000) := by show (str xs).size ≤ _; have := HNB.out; simp [str, ByteArray.size]; omega
            have HSl : Hid ((str xs).data.toList = xs) := by show (str xs).data.toList = xs; simp [str]
            have HNo := Lib.hid hnb
            clear hnb
            go_wp2_with fail
            refine (refNew_no (str xs) _ HSz.out (by rw [HSl.out]; exact HNo.out)).mono ?_
            rintro e wa ⟨rfl, hB⟩
            have HBa := Lib.hid (HB.out.trans (hB.mono HB.out.size))
            clear hB hcv
            go_wp2_with fail
            go_ret
            exact ⟨rfl, HBa.out.alloc HBa.out.size _⟩

set_option maxRecDepth 100000 in
theorem lifted (os : Os) (started : os.Started) (H : Type) (enc : TypeId × Value → H) :
    ReturnsInHanded {} Try.checked os 4 .any (Rows.fseReadsSpec.pre6 enc Try.prog Try.f4 Rows.fseReadsRow.domain false) (Rows.fseReadsSpec.post enc Try.prog Try.f4 false true false false) := by
  refine returnsInHanded_of_change (C := Try.checked) own started (by kernel_rfl) Try.func4
    (ChangeSpec.witness6 (enc := enc) (C := Try.checked) false ⟨#[], #[.agg #[.int .i64 0, .slice none 0 0], .slice none 0 0, .int .u8 0, .bool false], []⟩ 8 (by kernel_rfl) (by kernel_rfl) (by kernel_rfl) (by kernel_rfl)) ?_
  intro W base args ds gs before hval0 hW hcnd _
  have hval : ∀ (j : Nat) t v, Try.f4.params[j]? = some t → args[j]? = some v → Value.okWide Try.prog W .any base t v := hval0
  have hW' := hW
  obtain ⟨p, q, hA0, hV, rfl, hfz, hnd⟩ := hW
  have hA : DataW.TrodAll enc Try.prog W 0 (fun _ => true) true Try.f4.params.toList args.toList ds p := hA0
  rw [Try.params4] at hA hval
  obtain ⟨v0, vs0, d0, ds0, p0, q0, hargs, rfl, rfl, h0, r0⟩ := trodAll_cons hA
  obtain ⟨v1, vs1, d1, ds1, p1, q1, rfl, rfl, rfl, h1, r1⟩ := trodAll_cons r0
  obtain ⟨v2, vs2, d2, ds2, p2, q2, rfl, rfl, rfl, h2, r2⟩ := trodAll_cons r1
  obtain ⟨v3, vs3, d3, ds3, p3, q3, rfl, rfl, rfl, h3, r3⟩ := trodAll_cons r2
  obtain ⟨rfl, rfl, rfl⟩ := trodAll_nil r3
  obtain rfl : args = #[v0, v1, v2, v3] := by cases args; simp_all
  obtain ⟨rfl, rfl⟩ := trodVars_none hV
  have k0 := h0
  have lt0 : ∀ x ∈ p0, x.block < W.heap.size := by obtain ⟨m, hm⟩ := k0; exact DataW.trod_lt m _ _ _ hm
  obtain ⟨l0, a0, ns0, cap0, rfl, wl0, hl0, hm0, hd0, hb0⟩ := counts_of (hval 0 24 v0 rfl rfl) h0
  obtain ⟨a1, len1, cap1, rfl⟩ := okWide_slice Try.underlying41 (hval 1 41 v1 rfl rfl)
  have k1 := h1
  have lt1 : ∀ x ∈ p1, x.block < W.heap.size := by obtain ⟨m, hm⟩ := k1; exact DataW.trod_lt m _ _ _ hm
  obtain ⟨z1, w1⟩ := row_of_trod h1
  obtain ⟨xs1, rfl, hl1, hm1, hd1⟩ := row_dat w1
  obtain ⟨n2, rfl, rfl, rfl, w2⟩ := open_int Try.underlying5 (hval 2 5 v2 rfl rfl) h2
  obtain ⟨n3, rfl, rfl, rfl⟩ := open_bool Try.underlying4 (hval 3 4 v3 rfl rfl) h3
  clear hA0 hval0
  refine (walk l0 a0 ns0 cap0 a1 xs1 cap1 n2 n3 W wl0 hd0 hl0 (by omega) hb0 hd1 (by omega) (u8_bounds w2)).mono fun e W' ⟨he, bel⟩ => ?_
  subst he
  exact ⟨_, rfl, _, _, _, [], _, [], hW', trodAll_mk1 (shut_bool Try.underlying4 _), (trodAll_cons_mk (Below.trod laidOut (by kernel_rfl) (of_decide_eq_true (by kernel_rfl)) k0 bel lt0) (trodAll_cons_mk (Below.trod laidOut (by kernel_rfl) (of_decide_eq_true (by kernel_rfl)) k1 bel lt1) (trodAll_cons_mk (shut_int Try.underlying5 w2) (trodAll_cons_mk (shut_bool Try.underlying4 n3) trodAll_mk0)))), rfl, bel.frame _, fun h => by cases h⟩

theorem over : Rows.fseReadsRow.holds Try.pinned (OpenSpec.ofChange Rows.fseReadsSpec) :=
  OpenClaim.holds_of_wide 4 Try.f4 rfl rfl rfl rfl rfl rfl rfl ⟨rfl, rfl, rfl, rfl, rfl⟩ rfl rfl rfl rfl rfl (by kernel_rfl) Try.func4 (by kernel_rfl)
    (of_decide_eq_true (by kernel_rfl)) (by unfold Func.isWrapper; first | (rw [if_pos (by decide +kernel)]; kernel_rfl) | (rw [if_neg (by decide +kernel)]; exact ⟨rfl, rfl⟩))
    (fun os started H enc _ => lifted os started H enc)

theorem proved : Rows.FseReadsSaid := over
end Go.Proofs.Ytchpaeelpaicbaa.fseReads
