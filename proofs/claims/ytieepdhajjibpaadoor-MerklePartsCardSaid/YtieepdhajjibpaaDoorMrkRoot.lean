
/- The contract of Root: the stack of trees. -/
import Derived.Test.YtieepdhajjibpaaDoorMrkJoin
import Derived.Test.YtieepdhajjibpaaDoorAppR
import Derived.Deep.LoopGhost
import Derived.Deep.CutRange
import Derived.BigQuiet
namespace Go.Proofs.YtieepdhajjibpaaDoor
open Go.RowKit

/-- Where the leaves are gone through. -/
structure RL (w wx : World) (lo hi : Nat) (L l : List Dg) (A : Option Addr) (c : Nat) (st : Value) (rs : List (List Dg)) : Prop where
  dat : DatR 32 dcs wx lo hi A l
  cap : l.length ≤ c
  own : OwR 33 tcs wx 60 (w.heap.size + 1) st (layT rs)
  stk : Stk L rs l
  box : Box wx w.heap.size 25 z32
  bel : Below w.heap.size w wx

theorem RL.drewN {w wx : World} {lo hi : Nat} {L l : List Dg} {A : Option Addr} {c : Nat} {st : Value} {rs : List (List Dg)} (h : RL w wx lo hi L l A c st rs) (n : Nat) : RL w (wx.drewN n) lo hi L l A c st rs :=
  ⟨h.dat, h.cap, h.own, h.stk, h.box, ⟨h.bel.os, h.bel.tape, h.bel.output, h.bel.size, h.bel.block⟩⟩
theorem tcs_last (t : Tr) : (tcs t)[32]? = some (.int .i64 (t.2 : Int)) := by
  rw [tcs, List.getElem?_append_right (by rw [dcs_len]; omega), dcs_len]
  rfl
/-- How many leaves the upper two stand above. -/
theorem RL.tops {w wx : World} {lo hi : Nat} {L l : List Dg} {A As : Option Addr} {c n cs : Nat} {b a : List Dg} {r : List (List Dg)} (h : RL w wx lo hi L l A c (.slice As n cs) (b :: a :: r)) :
    ∃ d, As = some ⟨d, 0, none⟩ ∧ wx.cell? ⟨d, r.length * 33 + 32, none⟩ = some (.int .i64 (a.length : Int)) ∧ wx.cell? ⟨d, (r.length + 1) * 33 + 32, none⟩ = some (.int .i64 (b.length : Int)) := by
  obtain ⟨d, c', hv, _⟩ := h.own.place (by rw [layT_len]; simp)
  injection hv with h1 h2 h3
  subst h1
  have ho := h.own
  rw [layT_two] at ho
  refine ⟨d, rfl, (ho.cellAt tcs_len r.length 32 (by simp [layT_len]) (by omega) _ ?_).1, (ho.cellAt tcs_len (r.length + 1) 32 (by simp [layT_len]) (by omega) _ ?_).1⟩
  · rw [List.getElem_append_right (by simp [layT_len])]
    simp only [layT_len, Nat.sub_self]
    exact tcs_last _
  · rw [List.getElem_append_right (by simp [layT_len])]
    simp only [layT_len, Nat.add_sub_cancel_left]
    exact tcs_last _

theorem range_of {α : Type} {z : Nat} {f : α → List Value} {w : World} {u base d n c : Nat} {xs : List α} (hz : ∀ x, (f x).length = z) (h : OwR z f w u base (.slice (some ⟨d, 0, none⟩) n c) xs) (j : Nat) (hj : j < xs.length) : w.rangeAt d (j * z) (f xs[j]) := by
  intro i v hv
  have hi : i < z := by
    rcases Nat.lt_or_ge i z with q | q
    · exact q
    · rw [List.getElem?_eq_none (by rw [hz]; exact q)] at hv; cases hv
  exact (h.cellAt hz j i hj hi v hv).1
theorem OwR.cut {α : Type} {z : Nat} {f : α → List Value} {w : World} {u base d n c : Nat} {xs ys : List α} (hz : ∀ x, (f x).length = z) (h : OwR z f w u base (.slice (some ⟨d, 0, none⟩) n c) (xs ++ ys)) : OwR z f w u base (.slice (some ⟨d, 0, none⟩) xs.length c) xs := by
  rcases h.2 with ⟨e, _⟩ | ⟨g', cap, cur, e, hb, hh, hnc, hcm, hcs, ht⟩
  · cases e
  · injection e with e1 e2 e3
    injection e1 with e1
    injection e1 with e1
    subst e1
    subst e3
    refine ⟨by rw [flat_len hz], .inr ⟨d, c, cur, rfl, hb, hh, by rw [List.length_append] at hnc; omega, hcm, hcs, ?_⟩⟩
    have h2 := congrArg (List.take (xs.length * z)) ht
    rw [List.take_take, Nat.min_eq_left (Nat.mul_le_mul_right z (by simp)), List.flatMap_append, List.take_append_of_le_length (by rw [flat_len hz]; exact Nat.le_refl _)] at h2
    rw [h2, List.take_of_length_le (by rw [flat_len hz]; exact Nat.le_refl _)]
theorem tree_info : (Tryd.prog.info? 60).map (fun i => (i.zero, i.size, i.bytes)) = some (some (.agg z33), 33, 40) := by kernel_rfl
theorem RL.app {w wx w1 : World} {lo hi : Nat} {L l : List Dg} {A : Option Addr} {c : Nat} {st : Value} {rs : List (List Dg)} {o : Obj} (h : RL w wx lo hi L l A c st rs) (hhi : hi ≤ w.heap.size) (hg : (wx.alloc o).grownBy w1 st.ownBlock) :
    DatR 32 dcs w1 lo hi A l ∧ Box w1 w.heap.size 25 z32 ∧ Below w.heap.size w w1 := by
  have hs := h.bel.size
  have hb := fun k hk => (h.own.block k hk).1
  refine ⟨(h.dat.alloc (by omega) o).grown hg (by simp; omega) (fun k hk => .inr (by have := hb k hk; omega)), (h.box.alloc o).grown hg (fun e => by have := hb _ e.symm; omega), (h.bel.alloc hs o).grown hg (by simp; omega) (fun k hk => by have := hb k hk; omega)⟩
theorem RL.join {w wx w7 w1 : World} {lo hi : Nat} {L l : List Dg} {A : Option Addr} {c d n cs k : Nat} {rs : List (List Dg)} {o : Obj} (h : RL w wx lo hi L l A c (.slice (some ⟨d, 0, none⟩) n cs) rs) (hhi : hi ≤ w.heap.size) (hB : Below wx.heap.size wx w7)
    (hg : (w7.alloc o).grownBy w1 (Value.slice (some ⟨d, 0, none⟩) k cs).ownBlock) : DatR 32 dcs w1 lo hi A l ∧ Box w1 w.heap.size 25 z32 ∧ Below w.heap.size w w1 := by
  have hs := h.bel.size
  have hs7 := hB.size
  have hb : ∀ k', (Value.slice (some ⟨d, 0, none⟩) k cs).ownBlock = some k' → w.heap.size + 1 ≤ k' := fun k' hk => (h.own.block k' hk).1
  refine ⟨((h.dat.below hB (by omega)).alloc (by omega) o).grown hg (by simp; omega) (fun k hk => .inr (by have := hb k hk; omega)), ((h.box.below hB h.box.lt).alloc o).grown hg (fun e => by have := hb _ e.symm; omega),
    ((h.bel.trans (hB.mono hs)).alloc (by omega) o).grown hg (by simp; omega) (fun k hk => by have := hb k hk; omega)⟩
theorem DatR.drop {α : Type} {z : Nat} {f : α → List Value} {w : World} {lo hi : Nat} {A : Option Addr} {xs : List α} (h : DatR z f w lo hi A xs) (k : Nat) : DatR z f w lo hi (A.map (·.add (k * z))) (xs.drop k) := fun hx => by
  have hlen : (xs.drop k).length = xs.length - k := by simp
  obtain ⟨d, o, hA, h1, h2, hc⟩ := h (by omega)
  refine ⟨d, o + k * z, ?_, h1, h2, fun j hj i v hv => ?_⟩
  · subst hA
    simp only [Option.map_some, Addr.add]
    split <;> simp_all
  · have := hc (k + j) (by omega) i v (by simpa using hv)
    rw [show o + k * z + j * z + i = o + (k + j) * z + i by rw [Nat.add_mul]; omega]
    exact this
theorem DatR.cut {α : Type} {z : Nat} {f : α → List Value} {w : World} {lo hi : Nat} {A : Option Addr} {xs : List α} (h : DatR z f w lo hi A xs) {k c : Nat} (hc : xs.length ≤ c) : DatR z f w lo hi (if c = k then A else A.map (·.add (k * z))) (xs.drop k) := by
  by_cases hk : c = k
  · rw [if_pos hk, List.drop_of_length_le (by omega)]
    exact DatR.nil z f w lo hi A
  · rw [if_neg hk]
    exact h.drop k
theorem DatR.take {α : Type} {z : Nat} {f : α → List Value} {w : World} {lo hi : Nat} {A : Option Addr} {xs : List α} (h : DatR z f w lo hi A xs) (k : Nat) : DatR z f w lo hi A (xs.take k) := fun hx => by
  have hlen : (xs.take k).length ≤ xs.length := by simp; omega
  obtain ⟨d, o, hA, h1, h2, hc⟩ := h (by omega)
  exact ⟨d, o, hA, h1, h2, fun j hj i v hv => hc j (by simp at hj; omega) i v (by simpa using hv)⟩
/-- The upper two, as they lie. -/
theorem RL.two {w wx : World} {lo hi : Nat} {L l : List Dg} {A As : Option Addr} {c n cs : Nat} {b a : List Dg} {r : List (List Dg)} (h : RL w wx lo hi L l A c (.slice As n cs) (b :: a :: r)) :
    ∃ d, As = some ⟨d, 0, none⟩ ∧ wx.rangeAt d (r.length * 33) (tcs (tr a)) ∧ wx.rangeAt d ((r.length + 1) * 33) (tcs (tr b)) ∧ OwR 33 tcs wx 60 (w.heap.size + 1) (.slice (some ⟨d, 0, none⟩) r.length cs) (layT r) ∧ n ≤ cs := by
  obtain ⟨d, c', hv, _⟩ := h.own.place (by rw [layT_len]; simp)
  injection hv with h1 h2 h3
  subst h1
  have ho := h.own
  rw [layT_two] at ho
  have ha := range_of tcs_len ho r.length (by simp [layT_len])
  have hb := range_of tcs_len ho (r.length + 1) (by simp [layT_len])
  rw [List.getElem_append_right (by simp [layT_len])] at ha hb
  simp only [layT_len, Nat.sub_self, Nat.add_sub_cancel_left] at ha hb
  refine ⟨d, rfl, ha, hb, ?_, ho.cap tcs_len⟩
  have := ho.cut tcs_len
  rw [layT_len] at this
  exact this
/-- The last one, as it lies. -/
theorem RL.one {w wx : World} {lo hi : Nat} {L l : List Dg} {A As : Option Addr} {c n cs : Nat} {s : List Dg} (h : RL w wx lo hi L l A c (.slice As n cs) [s]) :
    ∃ d, As = some ⟨d, 0, none⟩ ∧ wx.rangeAt d 0 (dcs (tr s).1) := by
  obtain ⟨d, c', hv, _⟩ := h.own.place (by rw [layT_len]; simp)
  injection hv with h1 h2 h3
  subst h1
  have ho := h.own
  rw [layT_cons] at ho
  have ha := range_of tcs_len ho 0 (by simp [layT])
  refine ⟨d, rfl, fun j v hv => ?_⟩
  have hj : j < (dcs (tr s).1).length := by
    rcases Nat.lt_or_ge j (dcs (tr s).1).length with q | q
    · exact q
    · rw [List.getElem?_eq_none q] at hv; cases hv
  have := ha j v (by simp only [layT, List.map_nil, List.reverse_nil, List.nil_append, List.getElem_cons_zero, tcs]; rw [List.getElem?_append_left hj]; exact hv)
  simpa using this

set_option maxRecDepth 20000 in
set_option maxHeartbeats 2000000 in
theorem root_any {w : World} {lo hi : Nat} {A : Option Addr} {m c : Nat} {L : List Dg} (hg : Glob w) (hd : DatR 32 dcs w lo hi A L) (hm : L.length = m) (hmc : m ≤ c) (hhi : hi ≤ w.heap.size) (hb : m ≤ 1000000) :
    Calls Tryd.prog 11 #[.slice A m c] w fun e w' => e = .returned (.agg (bcells (rootL L).1)) ∧ Below w.heap.size w w' := by
  have HG := Lib.hid hg
  have hw2 := hg.2.2
  have HD := Lib.hid hd
  obtain ⟨Z, hZ⟩ : ∃ Z, Z = bcells (rootL L).1 := ⟨_, rfl⟩
  have hZs : Z.size = 32 := by rw [hZ]; exact bcells_size _
  have hZo : Z.all (·.oneCell') = true := by rw [hZ]; exact bcells_one _
  rw [← hZ]
  by_cases h0 : L = []
  · subst h0
    obtain rfl : m = 0 := by simpa using hm.symm
    have HOF := Lib.hid (fun (W : World) (h : Glob W) => pof_any (c := 0) h (Dat.nil false W 0 0 none) rfl (Nat.le_refl _) (Nat.zero_le _) (Nat.zero_le _))
    rw [show bcells (rootL []).1 = bcells (shaOf kw []) by rw [root_nil]; rfl] at hZ
    rw [← hZ] at HOF
    have HG1 : Hid (Glob (w.alloc (.cells z32 25))) := HG.out.below ((Below.refl _ _).alloc (Nat.le_refl _) _) hw2
    clear hZ hg hd hm
    go_enter Tryd.func11, Tryd.ntmps11
    go_wp2_with fail
    go_step3
    go_wp2_with (first
      | (go_at_call 27; refine (HOF.out _ HG1.out).mono ?_; rintro e' w7 ⟨rfl, hB7⟩; have HB7 : Hid (Below w.heap.size w w7) := ((Below.refl w.heap.size w).alloc (Nat.le_refl _) _).trans (hB7.mono (by rw [World.size_alloc]; omega)); have HR7 : Hid (Box w7 w.heap.size 25 z32) := (Box.new w _ z32).below hB7 (by rw [World.size_alloc]; omega); clear hB7)
      | (refine wpList_store_row rfl 25 _ _ rfl w.heap.size Z rfl rfl 25 _ HR7.out (by rw [hZs]; kernel_rfl) (by rw [hZs]; rfl) hZo ?_))
    try rw [Exit.noGoto_ret]
    refine bodyPost_ret (v := .agg Z) (results_cell_row Tryd.results11 _ _ w.heap.size 25 Z (0, 0) _ rfl (setRow_heap _ _ _ _ _ _ HR7.out) Tryd.underlying25 rfl (by rw [hZs]; kernel_rfl)) rfl ⟨rfl, ?_⟩
    exact below_row HB7.out (Nat.le_refl _) _
  · have hpos : 0 < m := by rw [← hm]; exact List.length_pos_iff.2 h0
    have hm0 : ((m : Int) == 0) = false := by simp; omega
    have HR0 : Hid (RL w (w.alloc (.cells z32 25)) lo hi L L A c (.slice none 0 0) []) :=
      ⟨hd.alloc hhi _, by omega, OwR.nil _ _ _ _ _, Stk.start, Box.new w _ _, (Below.refl _ _).alloc (Nat.le_refl _) _⟩
    have HM := Lib.hid hm
    have HZ := Lib.hid hZ
    clear hg hd hm hZ
    go_enter Tryd.func11, Tryd.ntmps11
    go_wp2_with fail
    go_step3
    go_wp2_with fail
    go_step3
    go_wp2_with fail
    obtain ⟨W, hW⟩ : ∃ W, (w.alloc (.cells z32 25)) = W := ⟨_, rfl⟩
    refine wp_as (W := W) hW ?_
    rw [hW] at HR0
    clear hW
    go_loopg [0, 3] (2 * m) (fun gh l0 st wx => ∃ (l : List Dg) (A1 : Option Addr) (c1 : Nat) (rs : List (List Dg)), 2 * l.length + rs.length = gh ∧ l0 = .slice A1 l.length c1 ∧ RL w wx lo hi L l A1 c1 st rs)
    case atStart => exact ⟨L, A, c, [], by have := HM.out; simp; omega, by rw [HM.out], HR0.out⟩
    case round =>
      clear HR0
      obtain ⟨l, A1, c1, rs, hgh, rfl, hrl⟩ := hrel
      have HGH := Lib.hid hgh
      have HRL := Lib.hid hrl
      clear hgh
      obtain ⟨As, ns, cs, rfl⟩ := hrl.own.slice
      have hns : ns = rs.length := by have := hrl.own.len; rw [layT_len] at this; omega
      have hlen := hrl.stk.len
      rw [HM.out] at hlen
      have HNS := Lib.hid hns
      clear hrl hns
      go_upto_region 5 with fail
      go_cut [11] (fun v wx => ∃ t : Bool, v = .bool t ∧ RL w wx lo hi L l A1 c1 (.slice As ns cs) rs ∧ (t = true → ∃ b a r, rs = b :: a :: r ∧ (l = [] ∨ a.length = b.length)) ∧ (t = false → ∀ b a r, rs = b :: a :: r → l ≠ [] ∧ a.length ≠ b.length))
      case first =>
        rcases rs with _ | ⟨b, _ | ⟨a, r⟩⟩
        · obtain rfl : ns = 0 := HNS.out
          go_quiet (fail)
          go_wp2_with fail
          go_meet
          exact ⟨false, rfl, HRL.out.drewN _, by simp, by simp⟩
        · obtain rfl : ns = 1 := HNS.out
          go_quiet (fail)
          go_wp2_with fail
          go_meet
          exact ⟨false, rfl, HRL.out.drewN _, by simp, by simp⟩
        · obtain ⟨k, hk⟩ : ∃ k, k = r.length := ⟨_, rfl⟩
          have hnk : ns = k + 2 := by rw [HNS.out, hk]; rfl
          obtain ⟨d, hAs, ca, cb⟩ := HRL.out.tops
          subst hAs
          have hkb : k ≤ m := by rw [hk]; simp at hlen; omega
          rw [← hk] at ca cb
          obtain ⟨na, hna⟩ : ∃ n, n = a.length := ⟨_, rfl⟩
          obtain ⟨nb, hnb⟩ : ∃ n, n = b.length := ⟨_, rfl⟩
          rw [← hna] at ca
          rw [← hnb] at cb
          have HK := Lib.hid (And.intro hk (And.intro hna hnb))
          have g1 : decide ((1 : Int) < (ns : Int)) = true := by simp; omega
          have e2 : (ns : Int) - 2 = (k : Int) := by omega
          have e1 : (ns : Int) - 1 = (k : Int) + 1 := by omega
          have hkn : k + 1 < ns := by omega
          clear hk hna hnb hnk
          by_cases hl : l = []
          · subst hl
            go_quiet (fail)
            go_wp2_with fail
            go_meet
            exact ⟨true, rfl, HRL.out.drewN _, fun _ => ⟨b, a, r, rfl, .inl (by simp)⟩, by simp⟩
          · have hl0 : ((l.length : Int) == 0) = false := by
              have := List.length_pos_iff.2 hl
              simp; omega
            go_quiet (fail)
            go_wp2_with fail
            go_meet
            have hab := HK.out.2
            refine ⟨_, rfl, HRL.out.drewN _, fun ht => ⟨b, a, r, rfl, .inr ?_⟩, fun ht b' a' r' he => ?_⟩
            · have := eq_of_beq ht
              omega
            · injection he with h1 h2
              injection h2 with h2 h3
              subst h1 h2
              refine ⟨hl, fun h => ?_⟩
              have := beq_eq_false_iff_ne.1 ht
              omega
      case rest =>
        obtain ⟨t, rfl, hrl, ht1, ht0⟩ := hcut
        clear HRL
        have HRL := Lib.hid hrl
        have HT1 := Lib.hid ht1
        have HT0 := Lib.hid ht0
        clear hrl ht1 ht0
        cases t with
        | true =>
          obtain ⟨b, a, r, hrs, hab⟩ := HT1.out rfl
          subst hrs
          obtain ⟨d, hAs, hra, hrb, hcut, hnc⟩ := HRL.out.two
          subst hAs
          have hjn := HRL.out.stk.join hab
          have htr := HRL.out.stk.lin.tr
          have h2 := HRL.out.stk.two
          rw [HM.out] at h2
          have HJ := Lib.hid (fun (V : World) (h : Glob V) => joined_any (tr a) (tr b) V h (show a.length + b.length ≤ 1000000000 by omega))
          rw [← htr] at HJ
          have hnk : ns = r.length + 2 := by rw [HNS.out]; rfl
          have hkb : r.length ≤ m := by simp at hlen; omega
          obtain ⟨k, hk⟩ : ∃ k, k = r.length := ⟨_, rfl⟩
          rw [← hk] at hra hrb hcut hnk hkb
          have hlay := layT_cons (a ++ b) r
          have hlk : (layT r).length = k := by rw [layT_len, hk]
          obtain ⟨ta, hta⟩ : ∃ t, t = tr a := ⟨_, rfl⟩
          obtain ⟨tb, htb⟩ : ∃ t, t = tr b := ⟨_, rfl⟩
          obtain ⟨tn, htn⟩ : ∃ t, t = tr (a ++ b) := ⟨_, rfl⟩
          rw [← hta] at hra HJ
          rw [← htb] at hrb HJ
          rw [← htn] at HJ hlay
          have e2 : (ns : Int) - 2 = (k : Int) := by omega
          have e1 : (ns : Int) - 1 = (k : Int) + 1 := by omega
          have hkn : k + 1 < ns := by omega
          have hkc : k ≤ cs := by omega
          have hkn0 : k < ns := by omega
          have hwk : IntKind.i64.wrap (k : Int) = (k : Int) := IntWalk.i64_in _ (by omega)
          have hwk1 : IntKind.i64.wrap ((k : Int) + 1) = (k : Int) + 1 := IntWalk.i64_in _ (by omega)
          have hb1 : (k : Int) + 1 < (ns : Int) := by omega
          have hb0 : (k : Int) < (ns : Int) := by omega
          have hb2 : (0 : Int) ≤ (k : Int) + 1 := by omega
          have hnm : ns ≤ m + 2 := by omega
          have HRA := Lib.hid hra
          have HRB := Lib.hid hrb
          have HCT := Lib.hid hcut
          have HJN := Lib.hid hjn
          have HLY := Lib.hid hlay
          have HLK := Lib.hid hlk
          have HK := Lib.hid hk
          obtain ⟨i0, hi0, hi1⟩ := Option.map_eq_some_iff.1 tree_info
          simp only [Prod.mk.injEq] at hi1
          obtain ⟨hz0, hz1, hz2⟩ := hi1
          have HI := Lib.hid (And.intro hi0 (And.intro hz0 (And.intro hz1 hz2)))
          have hsz : (Tryd.prog.info? 60).map (·.size) = some (tcs ta).length := by rw [tcs_len]; kernel_rfl
          have hsy : (Tryd.prog.info? 60).map (·.size) = some (tcs tb).length := by rw [tcs_len]; kernel_rfl
          have HSZ := Lib.hid hsz
          have HSY := Lib.hid hsy
          clear hi0 hz0 hz1 hz2 hra hrb hcut hjn hlay hlk hk hta htb htn htr hsz hsy hnk hab h2
          go_upto_region 6 with fail
          refine wp_region_any (by kernel_rfl) ?_
          refine wpAny_take (i := 0) (v := .slice (some ⟨d, 0, none⟩) ns cs) rfl (by kernel_rfl) (by kernel_rfl) (by kernel_rfl) (fun _ _ _ h => h) (Or.inl ⟨by rfl, fun w' => ?_⟩) ?_
          · go_simp
          refine wpAny_take (i := 1) (v := .int .i64 (ns : Int)) rfl (by kernel_rfl) (by kernel_rfl) (by kernel_rfl) (fun _ _ _ h => h) (Or.inl ⟨by rfl, fun w' => ?_⟩) ?_
          · go_simp
          refine wpAny_take (i := 2) (v := .int .i64 (k : Int)) rfl (by kernel_rfl) (by kernel_rfl) (by kernel_rfl) (fun _ _ _ h => h) (Or.inl ⟨by rfl, fun w' => ?_⟩) ?_
          · go_simp
          refine wpAny_take (i := 3) (v := .slice (some ⟨d, 0, none⟩) k cs) rfl (by kernel_rfl) (by kernel_rfl) (by kernel_rfl) (fun _ _ _ h => h) (Or.inl ⟨by rfl, fun w' => ?_⟩) ?_
          · go_simp
          refine wpAny_take (i := 4) (v := .slice (some ⟨d, 0, none⟩) ns cs) rfl (by kernel_rfl) (by kernel_rfl) (by kernel_rfl) (fun _ _ _ h => h) (Or.inl ⟨by rfl, fun w' => ?_⟩) ?_
          · go_simp
          refine wpAny_take (i := 5) (v := .int .i64 (ns : Int)) rfl (by kernel_rfl) (by kernel_rfl) (by kernel_rfl) (fun _ _ _ h => h) (Or.inl ⟨by rfl, fun w' => ?_⟩) ?_
          · go_simp
          refine wpAny_take (i := 6) (v := .int .i64 (k : Int)) rfl (by kernel_rfl) (by kernel_rfl) (by kernel_rfl) (fun _ _ _ h => h) (Or.inl ⟨by rfl, fun w' => ?_⟩) ?_
          · go_simp
          refine wpAny_take (i := 7) (v := .pointer (some ⟨d, k * 33, none⟩)) rfl (by kernel_rfl) (by kernel_rfl) (by kernel_rfl) (fun _ _ _ h => h) (Or.inl ⟨by rfl, fun w' => ?_⟩) ?_
          · go_simp
          refine wpAny_take (i := 9) (v := .slice (some ⟨d, 0, none⟩) ns cs) rfl (by kernel_rfl) (by kernel_rfl) (by kernel_rfl) (fun _ _ _ h => h) (Or.inl ⟨by rfl, fun w' => ?_⟩) ?_
          · go_simp
          refine wpAny_take (i := 10) (v := .int .i64 (ns : Int)) rfl (by kernel_rfl) (by kernel_rfl) (by kernel_rfl) (fun _ _ _ h => h) (Or.inl ⟨by rfl, fun w' => ?_⟩) ?_
          · go_simp
          refine wpAny_take (i := 11) (v := .int .i64 ((k : Int) + 1)) rfl (by kernel_rfl) (by kernel_rfl) (by kernel_rfl) (fun _ _ _ h => h) (Or.inl ⟨by rfl, fun w' => ?_⟩) ?_
          · go_simp
          refine wpAny_take (i := 12) (v := .pointer (some ⟨d, (k + 1) * 33, none⟩)) rfl (by kernel_rfl) (by kernel_rfl) (by kernel_rfl) (fun _ _ _ h => h) (Or.inl ⟨by rfl, fun w' => ?_⟩) ?_
          · go_simp
          simp only [Act.put, List.setIfInBounds_toArray]
          have la := run_loadVar_sub (P := Tryd.prog) wc.drew d (k * 33) 60 (tcs ta) _ HRA.out Tryd.underlying60 rfl HSZ.out
          have lb := run_loadVar_sub (P := Tryd.prog) wc.drew d ((k + 1) * 33) 60 (tcs tb) _ HRB.out Tryd.underlying60 rfl HSY.out
          refine wpAny_loads2 (i := 8) (j := 13) (ki := 42) (kj := 47) (xi := 41) (xj := 46) (pi := ⟨d, k * 33, none⟩) (pj := ⟨d, (k + 1) * 33, none⟩) (vi := .agg (tcs ta).toArray) (vj := .agg (tcs tb).toArray) (ti := 60) (tj := 60) rfl rfl (by decide) rfl rfl (by kernel_rfl) (by kernel_rfl) (by kernel_rfl) rfl rfl (by decide) rfl rfl (by decide) (by decide) (by kernel_rfl) (by kernel_rfl) la lb ?_
          clear la lb
          simp only [Act.put]
          refine wpAny_ready (rs := [14]) (by kernel_rfl) (by simp) ?_
          refine AllReady.cons rfl (fun K hK => ?_) AllReady.nil
          go_simp
          refine (HJ.out _ (by exact HG.out.below HRL.out.bel.drew hw2)).mono ?_
          rintro e' w7 ⟨rfl, hB7⟩
          have HB7 : Hid (Below wc.heap.size wc w7) := (⟨hB7.os, hB7.tape, hB7.output, hB7.size, hB7.block⟩ : Below wc.heap.size wc w7)
          have hs7 := HB7.out.size
          have hwc := HRL.out.box.lt
          have HC7 := Lib.hid (HCT.out.below HB7.out (Nat.le_refl _))
          clear hB7
          dsimp only
          refine hK _ _ ?_
          clear hK K
          refine wpAny_ready (rs := [15]) (by kernel_rfl) (by simp) ?_
          refine AllReady.cons rfl (fun K hK => ?_) AllReady.nil
          refine step_lit1 rfl _ 60 _ rfl (tcs tn).toArray rfl 33 (.agg z33) i0 Tryd.underlying58 HI.out.1 HI.out.2.1 HI.out.2.2.1 (by decide) (by decide) (by simp [tcs_len]) ?_
          refine hK _ _ ?_
          clear hK K
          refine wpAny_ready (rs := [16]) (by kernel_rfl) (by simp) ?_
          refine AllReady.cons rfl (fun K hK => ?_) AllReady.nil
          refine step_appR (v := .slice (some ⟨d, 0, none⟩) k cs) (A := some ⟨w7.heap.size, 0, none⟩) (m := 1) (c := 1) tcs_len (by decide) tcs_one _ rfl _ _ 58 rfl i0 (.agg z33) 40 Tryd.underlying58 HI.out.1 HI.out.2.1 HI.out.2.2.1 HI.out.2.2.2 (by decide) (by decide) (by kernel_rfl) (HC7.out.alloc _) (by kernel_rfl) (datR_one (z := 33) (f := tcs) w7 tn 60 (tcs tn).toArray rfl) rfl (by rw [HLK.out]; omega) (by rw [World.size_alloc]; omega) ?_
          intro v8 w8 ho hgr hat
          have HAP := Lib.hid (RL.join HRL.out hhi HB7.out hgr)
          rw [← HLY.out] at ho
          obtain ⟨A8, n8, c8, rfl⟩ := ho.slice
          have HO8 := Lib.hid ho
          refine hK _ _ ?_
          clear hK K ho hgr hat
          refine wpAny_ready (rs := [17]) (by kernel_rfl) (by simp) ?_
          refine AllReady.cons rfl (fun K hK => ?_) AllReady.nil
          go_simp
          refine hK _ _ ?_
          clear hK K
          refine wpAny_done (by kernel_rfl) ?_ _
          go_wp2_with fail
          go_roundg (2 * l.length + (r.length + 1))
          case measure => have := HGH.out; simp at this; omega
          case rel => exact ⟨l, _, _, (a ++ b) :: r, by simp, rfl, ⟨HAP.out.1, HRL.out.cap, HO8.out, HJN.out, HAP.out.2.1, HAP.out.2.2⟩⟩
        | false =>
          by_cases hl : l = []
          · subst hl
            obtain ⟨s, rfl⟩ : ∃ s, rs = [s] := by
              match rs, HT0.out rfl, HRL.out.stk.all with
              | [], _, h => exact absurd (by simpa using h.symm) h0
              | [s], _, _ => exact ⟨s, rfl⟩
              | b :: a :: r, h, _ => exact absurd rfl (h b a r rfl).1
            obtain rfl : ns = 1 := HNS.out
            obtain ⟨d, hAs, hr⟩ := HRL.out.one
            subst hAs
            have hst : tr s = tr L := HRL.out.stk.one
            rw [hst, show dcs (tr L).1 = Z.toList by rw [HZ.out]; rfl] at hr
            have HRG := Lib.hid hr
            have HBX := Lib.hid HRL.out.box
            clear hr hst
            go_wp2_with (first
              | (refine wpList_load_sub rfl 25 _ rfl d 0 rfl Z.toList _ HRG.out Tryd.underlying25 rfl (by rw [Array.length_toList, hZs]; kernel_rfl) ?_)
              | (refine wpList_store_row rfl 25 _ _ rfl w.heap.size Z rfl rfl 25 _ HBX.out (by rw [hZs]; kernel_rfl) (by rw [hZs]; rfl) hZo ?_))
            try rw [Exit.noGoto_ret]
            refine bodyPost_ret (v := .agg Z) (results_cell_row Tryd.results11 _ _ w.heap.size 25 Z (0, 0) _ rfl (setRow_heap _ _ _ _ _ _ HBX.out) Tryd.underlying25 rfl (by rw [hZs]; kernel_rfl)) rfl ⟨rfl, ?_⟩
            exact below_row HRL.out.bel (Nat.le_refl _) _
          · obtain ⟨x, l2, rfl⟩ : ∃ x l2, l = x :: l2 := by
              cases l with
              | nil => exact absurd rfl hl
              | cons x l2 => exact ⟨x, l2, rfl⟩
            have hstk := HRL.out.stk.push fun b a r h => (HT0.out rfl b a r h).2
            obtain ⟨d1, o1, hA1, hlo, hdhi, hdc⟩ := HRL.out.dat (by simp)
            subst hA1
            have hrx : wc.rangeAt d1 o1 (dcs x) := fun j v hv => by
              have := hdc 0 (by simp) j v hv
              simpa using this
            have HRG := Lib.hid hrx
            have HST := Lib.hid hstk
            have HX1 := Lib.hid (run_tree (dcs x).toArray 1 (by simp [dcs_len]))
            have hT1 : ((dcs x).toArray.toList ++ [Value.int .i64 1]).toArray = (tcs (tr [x])).toArray := by
              show _ = (dcs (rootL [x]) ++ [Value.int .i64 1]).toArray
              rw [root_one]
            rw [hT1] at HX1
            obtain ⟨i0, hi0, hi1⟩ := Option.map_eq_some_iff.1 tree_info
            simp only [Prod.mk.injEq] at hi1
            obtain ⟨hz0, hz1, hz2⟩ := hi1
            have HI := Lib.hid (And.intro hi0 (And.intro hz0 (And.intro hz1 hz2)))
            have hdn : hi ≤ wc.heap.size := by have := HRL.out.bel.size; omega
            have HO1 := Lib.hid (HRL.out.own.alloc (.cells (tcs (tr [x])).toArray 60))
            have HD1 := Lib.hid (datR_one (z := 33) (f := tcs) wc (tr [x]) 60 (tcs (tr [x])).toArray rfl)
            have hs1 : (tcs (tr [x])).toArray.size = 33 := by simp [tcs_len]
            have hrl : rs.length ≤ 1000000 := by omega
            obtain ⟨XC, hXC⟩ : ∃ X, X = (dcs x) := ⟨_, rfl⟩
            have hXl : XC.length = 32 := by rw [hXC]; exact dcs_len x
            rw [← hXC] at HRG HX1
            clear hi0 hz0 hz1 hz2 hrx hstk hT1 hdc hXC
            obtain ⟨TX, hTX⟩ : ∃ T, T = (tcs (tr [x])).toArray := ⟨_, rfl⟩
            rw [← hTX] at HX1 HO1 HD1 hs1
            clear hTX
            go_wp2_with (first
              | (refine wpList_load_sub rfl 25 _ rfl d1 o1 rfl XC _ HRG.out Tryd.underlying25 rfl (by rw [hXl]; kernel_rfl) ?_)
              | (refine wpList_buildV rfl _ _ rfl TX _ rfl HX1.out ?_)
              | (refine wpList_lit1 rfl _ 60 _ rfl TX rfl 33 (.agg z33) i0 Tryd.underlying58 HI.out.1 HI.out.2.1 HI.out.2.2.1 (by decide) (by decide) hs1 ?_)
              | (at_builtin; refine list_appR tcs_len (by decide) tcs_one _ rfl _ _ 58 rfl i0 (.agg z33) 40 Tryd.underlying58 HI.out.1 HI.out.2.1 HI.out.2.2.1 HI.out.2.2.2 (by decide) (by decide) rfl HO1.out rfl HD1.out rfl ?_ ?_ ?_))
            · rw [layT_len]; omega
            · have := HRL.out.bel.size
              simp
              omega
            intro v7 w7 ho hgr hat
            have HAP := Lib.hid (HRL.out.app hhi hgr)
            obtain ⟨A7, n7, c7, rfl⟩ := ho.slice
            rw [← layT_cons] at ho
            have HO7 := Lib.hid ho
            have hcap := HRL.out.cap
            clear ho hgr hat
            go_wp2_with fail
            · have hl20 : l2 = [] := List.eq_nil_of_length_eq_zero (by rw [List.length_cons] at hcap; omega)
              subst hl20
              go_roundg (rs.length + 1)
              case measure => have := HGH.out; simp at this; omega
              case rel => exact ⟨[], _, _, [x] :: rs, by simp, rfl, ⟨DatR.nil _ _ _ _ _ _, Nat.zero_le _, HO7.out, HST.out, HAP.out.2.1, HAP.out.2.2⟩⟩
            · have hdat := HAP.out.1.drop 1
              simp only [Option.map_some, add_plain', List.drop_succ_cons, List.drop_zero, Nat.one_mul] at hdat
              have HDT := Lib.hid hdat
              clear hdat
              go_roundg (2 * l2.length + (rs.length + 1))
              case measure => have := HGH.out; simp at this; omega
              case rel => exact ⟨l2, _, _, [x] :: rs, by simp, rfl, ⟨HDT.out, by rw [List.length_cons] at hcap; omega, HO7.out, HST.out, HAP.out.2.1, HAP.out.2.2⟩⟩
end Go.Proofs.YtieepdhajjibpaaDoor
