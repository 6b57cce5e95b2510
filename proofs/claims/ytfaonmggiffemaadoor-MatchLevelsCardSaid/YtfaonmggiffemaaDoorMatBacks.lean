
/- The contract of backs: of each place, how far ahead its start stood last. -/
import Derived.Test.YtfaonmggiffemaaDoorMatStart
import Derived.Test.YtfaonmggiffemaaDoorMatBackP
import Derived.Test.YtfaonmggiffemaaDoorElsOwn
import Derived.Lib.MinMax
import Derived.Deep.LoopGhost
import Derived.Deep.DeepCutAuto
import Derived.Outline
import Derived.Maps.OwnSet
namespace Go.Proofs.YtfaonmggiffemaaDoor
open Go.RowKit Go.Maps

theorem zero_int (w : World) : (zeroValue 3).run Tryd.prog w = .ok (.int .i64 0) w := by kernel_rfl
theorem int_row : (Tryd.prog.info? 3).map (fun i => (i.zero, i.size, i.bytes)) = some (some (.int .i64 0), 1, 8) := by kernel_rfl
/-- A number as a cell. -/
def ncel (n : Nat) : Value := .int .i64 (n : Int)

theorem below_all {w w' : World} (h : Below w.heap.size w w') (row : Option Nat := none) : w.grownBy w' row := ⟨h.os, h.tape, h.output, h.size, fun k hk _ => h.block k hk⟩

/-- 'v, ok := m[k]', where it is known what stands there. -/
theorem wpList_look {P : Program} (w : World) {ops : Array Oper} {rest : List Oper} {o : Oper} {a : Act} {Q : Exit → Act → World → Prop} (hg : o.guard = none) (m x : Operand) (t : TypeId) (hop : o.op = Op.lookup t m x true)
    (k e : TypeId) (K : Keyed P k) (ht : P.underlying t = some (.map k e)) (he : P.underlying e = some (.int .i64)) (hz : (zeroValue e).run P w = .ok (.int .i64 0) w) (b n : Nat) (D : Dm)
    (hm : a.eval m = .map (some b)) (hown : w.ownsMap P k (plainElem P e) b n D) (key : Value) (kl : Lit) (hx : a.eval x = key) (hkey : keyOf P k key = some kl) (z : Int) (y : Bool) (hat : D.atKey kl (zI 0) = zI z) (hy : has D kl = y)
    (hK : wpList P ops Q rest (a.put o.dst (.tuple #[.int .i64 z, .bool y])) w) :
    wpList P ops Q (o :: rest) a w :=
  wpList_lookup_own_ok_int w hg m x t hop k e .i64 K ht he hz b n D hm hown key kl hx hkey fun c hc _ => by
    have h : zI c = zI z := hc.symm.trans hat
    injection h with h
    injection h with _ h
    rw [h, hy]
    exact hK

/-- What the first loop holds at a place. -/
structure BL1 (w0 w : World) (xs : List UInt8) (fr k : Nat) (D : Dm) : Prop where
  own : w.ownsMap Tryd.prog 48 (plainElem Tryd.prog 3) w0.heap.size k D
  m : M1 xs fr k D
  be : Below w0.heap.size w0 w
/-- What the second loop holds at a place. -/
structure BL2 (w0 w : World) (xs : List UInt8) (fr pl n k d : Nat) (D : Dm) (B : List Nat) : Prop where
  own : w.ownsMap Tryd.prog 48 (plainElem Tryd.prog 3) w0.heap.size (n + k) D
  m : M2 xs fr pl k D
  be : Below w0.heap.size w0 w
  row : OwE ncel w 3 w0.heap.size (.slice (some ⟨d, 0, none⟩) n n) B
  len : B.length = n
  done : ∀ p, p < k → Bt xs fr p (B.getD p 0)
  rest : ∀ p, k ≤ p → B.getD p 0 = 0
  ne : w0.heap.size < d

set_option maxRecDepth 100000 in
set_option maxHeartbeats 2000000 in
theorem backs_any {w : World} {lo hi : Nat} {A : Option Addr} {n c : Nat} {xs : List UInt8} (hd : Dat false w lo hi A xs) (hn : xs.length = n) (hc : n ≤ c) (hm : n ≤ 1000000) (hhi : hi ≤ w.heap.size) (fr : Nat) (hf : fr ≤ n) :
    Calls Tryd.prog 10 #[.slice A n c, .int .i64 (fr : Int)] w fun e w' => ∃ (v : Value) (B : List Nat), e = .returned v ∧ OwE ncel w' 3 w.heap.size v B ∧ Bk xs fr B ∧ Below w.heap.size w w' := by
  have HD := Lib.hid hd
  have HN := Lib.hid hn
  have hmm := @run_makeMap Tryd.prog
  obtain ⟨i0, hi0, hz0, hz1, hz2⟩ := info_parts int_row
  have HI := Lib.hid (And.intro hi0 (And.intro hz0 (And.intro hz1 hz2)))
  obtain ⟨pl, hpl⟩ : ∃ pl : Nat, pl = n - 3 := ⟨_, rfl⟩
  have HP := Lib.hid hpl
  have hmx : max ((n : Int) - 4 + 1) 0 = (pl : Int) := by omega
  have hpn : pl ≤ n := by omega
  clear hd hn hi0 hz0 hz1 hz2 hpl
  go_enter Tryd.func10, Tryd.ntmps10
  go_wp2_with fail
  go_loopw [7] (fun i wx => ∃ k : Nat, i = .int .i64 (k : Int) ∧ fr ≤ k ∧ (k = fr ∨ k ≤ pl) ∧ Hid (∃ D, BL1 w wx xs fr k D)) (fun i _ => pl - (intOf i).toNat)
  case atStart => exact ⟨fr, rfl, Nat.le_refl _, .inl rfl, .map [], World.ownsMap_made _ _ _ _ |>.mono (Nat.zero_le _), M1.start xs fr, (Below.refl _ _).alloc (Nat.le_refl _) _⟩
  case round =>
    obtain ⟨k, rfl, hk1, hk2, hE⟩ := hrel
    obtain ⟨D, hB⟩ := hE
    have HB := Lib.hid hB
    clear hB
    by_cases hlt : k < pl
    · have hki : (k : Int) < (pl : Int) := by omega
      have hs := HB.out.be.size
      have HS := Lib.hid (startAt_any (HD.out.below HB.out.be hhi) HN.out hc hm (by omega) k (by have := HP.out; omega))
      obtain ⟨s, hss⟩ : ∃ s, s = st xs k := ⟨_, rfl⟩
      have HSS := Lib.hid hss
      rw [← hss] at HS
      clear hss
      unfold stv cel at HS
      go_wp2_with (first
        | (go_at_call 12; refine HS.out.mono ?_; rintro e' w2 ⟨rfl, hB2⟩; have hown2 := HB.out.own.kept (row := none) (below_all hB2) (by simp))
        | (at_mapUpdate; refine wpList_mapUpdate_own _ rfl _ _ _ 46 rfl 48 3 klaw Tryd.underlying46 _ w.heap.size k _ rfl hown2 (by unfold maxLen; omega) _ _ (kl s) rfl rfl (keyOf_st s) (zI (-1)) [] (plainElem_int Tryd.underlying3 (by decide)) ?_; intro w3 hown3 hgrow3)
        | fail)
      go_roundw
      case rel =>
        have hsz := hB2.size
        refine ⟨k + 1, by go_num, by omega, .inr (by omega), D.put (kl s) (zI (-1)), hown3, ?_, ?_⟩
        · rw [HSS.out]
          exact HB.out.m.step hk1
        · exact ((HB.out.be.trans (hB2.mono hs)).grown hgrow3 (by omega) (fun j hj => by cases hj; exact Nat.le_refl _))
      case measure => simp [intOf]; omega
    · have hki : ¬ (k : Int) < (pl : Int) := by omega
      have hs := HB.out.be.size
      have hgl := HB.out.own.lt
      have hkm : k ≤ n := by omega
      have HM2 := Lib.hid (M2.start (pl := pl) HB.out.m (fun p hp => by omega))
      go_wp2_with (at_make; refine wpList_make_full _ rfl _ _ 37 rfl w.heap.size 3 i0 (.int .i64 0) 1 Tryd.underlying37 HI.out.1 HI.out.2.1 HI.out.2.2.1 .i64 .i64 _ _ n rfl rfl rfl rfl ?_ ?_ ?_ ?_)
      · first | omega | (rw [HI.out.2.2.2]; omega)
      · unfold maxLen; omega
      intro w1 ho hg
      have hrow : OwE ncel w1 3 w.heap.size (.slice (some ⟨wr.heap.size, 0, none⟩) n n) (List.replicate n 0) := OwE.madeA (f := ncel) (z := 0) ho
      have hE0 : BL2 w w1 xs fr pl n 0 wr.heap.size D (List.replicate n 0) := ⟨(HB.out.own.kept hg (by simp)).mono hkm, HM2.out, HB.out.be.grown hg hs (fun j hj => by cases hj), hrow, by simp, fun p hp => by omega, fun p _ => by
        rw [List.getD_eq_getElem?_getD, List.getElem?_replicate]
        split <;> rfl, hgl⟩
      have HE0 := Lib.hid hE0
      clear ho hrow hE0 HM2 hg
      generalize wr.heap.size = d at *
      clear HB hki hlt hk1 hk2
      go_wp2_with fail
      go_loopg [33] pl (fun gh i wx => ∃ k : Nat, i = .int .i64 (k : Int) ∧ k + gh = pl ∧ Hid (∃ D B, BL2 w wx xs fr pl n k d D B))
      case atStart => exact ⟨0, rfl, by omega, D, List.replicate n 0, HE0.out⟩
      case round =>
        obtain ⟨k, rfl, hkg, D2, B, hB2⟩ := hrel
        have HB := Lib.hid hB2
        have HK := Lib.hid hkg
        have hkp : k ≤ pl := by omega
        clear hB2 HE0 hkg
        have hs := HB.out.be.size
        by_cases hlt : k < pl
        · obtain ⟨g', rfl⟩ : ∃ g', gk = g' + 1 := ⟨gk - 1, by have := HK.out; omega⟩
          have hki : (k : Int) < (pl : Int) := by omega
          have hkn : k < n := by omega
          have HS := Lib.hid (startAt_any (HD.out.below HB.out.be hhi) HN.out hc hm (by omega) k (by have := HP.out; omega))
          obtain ⟨s, hss⟩ : ∃ s, s = st xs k := ⟨_, rfl⟩
          have HSS := Lib.hid hss
          rw [← hss] at HS
          clear hss
          unfold stv cel at HS
          have hkb : k < B.length := by have := HB.out.len; omega
          cases hh : has D2 (kl s) with
          | false =>
            have HH := Lib.hid hh
            have HAT := Lib.hid (atKey_of_not_has hh (zI 0))
            clear hh
            go_wp2_with (first
              | (go_at_call 12; refine HS.out.mono ?_; rintro e' w2 ⟨rfl, hB2⟩; have HB2 := Lib.hid hB2; have hown2 := (HB.out.own.kept (row := none) (below_all HB2.out) (by simp)).alloc (.cells #[.int .u8 (s.a.toNat : Int), .int .u8 (s.b.toNat : Int), .int .u8 (s.c.toNat : Int), .int .u8 (s.d.toNat : Int)] 48); clear hB2)
              | (at_lookup; refine wpList_look _ rfl _ _ 46 rfl 48 3 klaw Tryd.underlying46 Tryd.underlying3 (zero_int _) w.heap.size (n + k) D2 rfl hown2 _ (kl s) rfl (keyOf_st s) 0 false HAT.out HH.out ?_)
              | fail)
            have hsz := HB2.out.size
            go_roundg g'
            case rel =>
              refine ⟨k + 1, by go_num, by have := HK.out; omega, D2, B, hown2.mono (by omega), ?_, ?_, ?_, HB.out.len, ?_, fun p hp => HB.out.rest p (by omega), HB.out.ne⟩
              · rw [HSS.out] at HH
                exact HB.out.m.none HH.out
              · exact (HB.out.be.trans (HB2.out.mono hs)).alloc (by omega) _
              · exact (HB.out.row.belowA HB2.out (Nat.le_refl _)).alloc _
              · intro p hp
                rcases Nat.lt_or_ge p k with q | q
                · exact HB.out.done p q
                · obtain rfl : p = k := by omega
                  rw [HSS.out] at HH
                  rw [HB.out.rest p (Nat.le_refl _)]
                  exact Bt.none HB.out.m hlt HH.out
            case measure => omega
          | true =>
            have HH := Lib.hid hh
            obtain ⟨z, hz, hcase⟩ := HB.out.m.vals s hh
            have HAT := Lib.hid hz
            have hbt := HB.out.m
            rcases hcase with ⟨rfl, hno⟩ | ⟨j, hj, rfl, hjs⟩
            · have HBT : Hid (Bt xs fr k 0) := Bt.neg HB.out.m (by rw [← HSS.out]; exact hh) (by rw [← HSS.out]; exact hz) (by omega)
              clear hh hz hno hbt
              go_wp2_with (first
                | (go_at_call 12; refine HS.out.mono ?_; rintro e' w2 ⟨rfl, hB2⟩; have HB2 := Lib.hid hB2; have hown2 := (HB.out.own.kept (row := none) (below_all HB2.out) (by simp)).alloc (.cells #[.int .u8 (s.a.toNat : Int), .int .u8 (s.b.toNat : Int), .int .u8 (s.c.toNat : Int), .int .u8 (s.d.toNat : Int)] 48); clear hB2)
                | (at_lookup; refine wpList_look _ rfl _ _ 46 rfl 48 3 klaw Tryd.underlying46 Tryd.underlying3 (zero_int _) w.heap.size (n + k) D2 rfl hown2 _ (kl s) rfl (keyOf_st s) (-1) true HAT.out HH.out ?_)
                | (at_mapUpdate; refine wpList_mapUpdate_own _ rfl _ _ _ 46 rfl 48 3 klaw Tryd.underlying46 _ w.heap.size (n + k) _ rfl hown2 (by unfold maxLen; omega) _ _ (kl s) rfl rfl (keyOf_st s) (zI (k : Int)) [] (plainElem_int Tryd.underlying3 (WalkArith.wf_i64 (by omega))) ?_; intro w3 hown3 hgrow3)
                | fail)
              have hsz := HB2.out.size
              have hw3 : Below w.heap.size w w3 := ((HB.out.be.trans (HB2.out.mono hs)).alloc (by omega) _).grown hgrow3 (by simp; omega) (fun j hj => by cases hj; exact Nat.le_refl _)
              go_roundg g'
              case rel =>
                refine ⟨k + 1, by go_num, by have := HK.out; omega, _, B, hown3, ?_, hw3, ?_, HB.out.len, ?_, fun p hp => HB.out.rest p (by omega), HB.out.ne⟩
                · rw [HSS.out]
                  rw [HSS.out] at HH
                  exact HB.out.m.put HH.out
                · exact ((HB.out.row.belowA HB2.out (Nat.le_refl _)).alloc _).grown hgrow3 (.inr (fun e => by
                    have e : some d = some w.heap.size := e
                    have e := Option.some.inj e
                    have := HB.out.ne
                    omega))
                · intro p hp
                  rcases Nat.lt_or_ge p k with q | q
                  · exact HB.out.done p q
                  · obtain rfl : p = k := by omega
                    rw [HB.out.rest p (Nat.le_refl _)]
                    exact HBT.out
              case measure => omega
            · have HBT : Hid (Bt xs fr k (k - j)) := by
                obtain ⟨j', h1, h2, h3⟩ := Bt.pos HB.out.m (by rw [← HSS.out]; exact hh) (by rw [← HSS.out]; exact hz) (by omega) (by have := HP.out; have := HN.out; omega)
                have : j' = j := by omega
                subst this
                exact h3
              clear hh hz hjs hbt
              have hkn' : (k : Int) < (n : Int) := by omega
              have hji : ((k : Int) - (j : Int)) = ((k - j : Nat) : Int) := by omega
              have hj0 : (0 : Int) ≤ (j : Int) := by omega
              go_wp2_with (first
                | (go_at_call 12; refine HS.out.mono ?_; rintro e' w2 ⟨rfl, hB2⟩; have HB2 := Lib.hid hB2; have hown2 := (HB.out.own.kept (row := none) (below_all HB2.out) (by simp)).alloc (.cells #[.int .u8 (s.a.toNat : Int), .int .u8 (s.b.toNat : Int), .int .u8 (s.c.toNat : Int), .int .u8 (s.d.toNat : Int)] 48); have hrow2 := Lib.hid ((HB.out.row.belowA HB2.out (Nat.le_refl _)).alloc (.cells #[.int .u8 (s.a.toNat : Int), .int .u8 (s.b.toNat : Int), .int .u8 (s.c.toNat : Int), .int .u8 (s.d.toNat : Int)] 48)); have hc2 := (hrow2.out.cellA k hkb).1; have hf2 := (hrow2.out.cellA k hkb).2; unfold ncel at hc2; have hdl : d < w2.heap.size := Nat.lt_of_lt_of_le (HB.out.row.block d rfl).2 HB2.out.size; have hx := (Box.new w2 48 #[.int .u8 (s.a.toNat : Int), .int .u8 (s.b.toNat : Int), .int .u8 (s.c.toNat : Int), .int .u8 (s.d.toNat : Int)]).far (p := ⟨d, k, none⟩) (by show w2.heap.size ≠ d; omega) (.int .i64 ((k - j : Nat) : Int)); have y0 := hx.cell 0; have y1 := hx.cell 1; have y2 := hx.cell 2; have y3 := hx.cell 3; simp at y0 y1 y2 y3; clear hB2)
                | (at_lookup; refine wpList_look _ rfl _ _ 46 rfl 48 3 klaw Tryd.underlying46 Tryd.underlying3 (zero_int _) w.heap.size (n + k) D2 rfl hown2 _ (kl s) rfl (keyOf_st s) (j : Int) true HAT.out HH.out ?_)
                | (at_mapUpdate; refine wpList_mapUpdate_own _ rfl _ _ _ 46 rfl 48 3 klaw Tryd.underlying46 _ w.heap.size (n + k) _ rfl (((HB.out.own.kept (row := none) (below_all HB2.out) (by simp)).setCell (a := ⟨d, k, none⟩) (fun e => by have := HB.out.ne; have e : w.heap.size = d := e; omega) (.int .i64 ((k - j : Nat) : Int))).alloc _) (by unfold maxLen; omega) _ _ (kl s) rfl rfl (keyOf_st s) (zI (k : Int)) [] (plainElem_int Tryd.underlying3 (WalkArith.wf_i64 (by omega))) ?_; intro w3 hown3 hgrow3)
                | fail)
              have hsz := HB2.out.size
              have hw3 : Below w.heap.size w w3 := (((HB.out.be.trans (HB2.out.mono hs)).setCell (show w.heap.size ≤ (⟨d, k, none⟩ : Addr).block by show w.heap.size ≤ d; omega) _).alloc (by simp; omega) _).grown hgrow3 (by simp; omega) (fun j hj => by cases hj; exact Nat.le_refl _)
              go_roundg g'
              case rel =>
                refine ⟨k + 1, by go_num, by have := HK.out; omega, _, B.set k (k - j), hown3, ?_, hw3, ?_, by rw [List.length_set]; exact HB.out.len, ?_, ?_, HB.out.ne⟩
                · rw [HSS.out]
                  rw [HSS.out] at HH
                  exact HB.out.m.put HH.out
                · exact (((HB.out.row.belowA HB2.out (Nat.le_refl _)).putA k (k - j)).alloc _).grown hgrow3 (.inr (fun e => by
                    have e : some d = some w.heap.size := e
                    have e := Option.some.inj e
                    have := HB.out.ne
                    omega))
                · intro p hp
                  rcases Nat.lt_or_ge p k with q | q
                  · rw [List.getD_eq_getElem?_getD, List.getElem?_set_ne (by omega), ← List.getD_eq_getElem?_getD]
                    exact HB.out.done p q
                  · obtain rfl : p = k := by omega
                    rw [List.getD_eq_getElem?_getD, List.getElem?_set_self hkb]
                    exact HBT.out
                · intro p hp
                  rw [List.getD_eq_getElem?_getD, List.getElem?_set_ne (by omega), ← List.getD_eq_getElem?_getD]
                  exact HB.out.rest p (by omega)
              case measure => omega
        · obtain rfl : k = pl := by omega
          have hki : ¬ (k : Int) < (k : Int) := by omega
          have HBK : Hid (Bk xs fr B) := Bk.of (by rw [HB.out.len, HN.out]) (fun p hp => by
            rcases Nat.lt_or_ge p k with q | q
            · exact HB.out.done p q
            · rw [HB.out.rest p q]
              exact Bt.far fr (by have := HP.out; have := HN.out; omega))
          go_wp2_with fail
          go_ret
          exact ⟨_, rfl, B, HB.out.row, HBK.out, HB.out.be⟩
end Go.Proofs.YtfaonmggiffemaaDoor
