
/- The contract of longest: the longest copy at a place, of those that are looked at. -/
import Derived.Test.YtfaonmggiffemaaDoorMatBacks
import Derived.Deep.QuietTactic
import Derived.WalkSmall
import Derived.BigQuiet
namespace Go.Proofs.YtfaonmggiffemaaDoor
open Go.RowKit

/-- A finder as a value. -/
def fnd (R T E : Int) (A A2 : Option Addr) (n c c2 : Nat) : Array Value := #[.int .i64 R, .int .i64 T, .int .i64 E, .slice A n c, .slice A2 n c2]
def fnv (m o : Nat) : Array Value := #[.int .i64 (m : Int), .int .i64 (o : Int)]

/-- What longest holds. -/
structure LI (w0 w : World) (F : Array Value) (g m o : Nat) : Prop where
  f : Box w g 40 F
  r : Box w (g + 1) 52 (fnv 0 0)
  b : Box w (g + 1 + 1) 52 (fnv m o)
  be : Below w0.heap.size w0 w
theorem LI.drawn {w0 w : World} {F : Array Value} {g m o : Nat} (h : LI w0 w F g m o) (z : Nat) : LI w0 (w.drewN z) F g m o := ⟨h.f, h.r, h.b, below_drewN h.be z⟩
/-- What is found so far, of a place p, standing at s. -/
inductive LS (xs : List UInt8) (B : List Nat) (p rm : Nat) : Nat → Nat → Nat → Nat → Prop where
  | start : LS xs B p rm 0 p 0 0
  | more {k s m o : Nat} (h0 : B.getD p 0 ≠ 0) (h1 : Cp xs p m o) (h2 : m < rm) (h3 : s < p) (h4 : st xs s = st xs p) : LS xs B p rm k s m o

theorem LI.best {w0 w : World} {F : Array Value} {g m o : Nat} (h : LI w0 w F g m o) (hg : w0.heap.size ≤ g) (m' o' : Nat) : LI w0 ((w.setCell ⟨g + 1 + 1, 0, none⟩ (.int .i64 (m' : Int))).setCell ⟨g + 1 + 1, 1, none⟩ (.int .i64 (o' : Int))) F g m' o' :=
  ⟨(h.f.far (by show g ≠ g + 1 + 1; omega) _).far (by show g ≠ g + 1 + 1; omega) _, (h.r.far (by show g + 1 ≠ g + 1 + 1; omega) _).far (by show g + 1 ≠ g + 1 + 1; omega) _, (h.b.put 0 _).put 1 _, (h.be.setCell (by show w0.heap.size ≤ g + 1 + 1; omega) _).setCell (by show w0.heap.size ≤ g + 1 + 1; omega) _⟩
theorem LI.told {w0 w : World} {F : Array Value} {g m o : Nat} (h : LI w0 w F g m o) (hg : w0.heap.size ≤ g) (m' o' : Nat) :
    ((w.setCell ⟨g + 1, 0, none⟩ (.int .i64 (m' : Int))).setCell ⟨g + 1, 1, none⟩ (.int .i64 (o' : Int))).cell? ⟨g + 1, 0, none⟩ = some (.int .i64 (m' : Int)) ∧
    ((w.setCell ⟨g + 1, 0, none⟩ (.int .i64 (m' : Int))).setCell ⟨g + 1, 1, none⟩ (.int .i64 (o' : Int))).cell? ⟨g + 1, 1, none⟩ = some (.int .i64 (o' : Int)) ∧
    Below w0.heap.size w0 ((w.setCell ⟨g + 1, 0, none⟩ (.int .i64 (m' : Int))).setCell ⟨g + 1, 1, none⟩ (.int .i64 (o' : Int))) :=
  ⟨(((h.r.put 0 (.int .i64 (m' : Int))).put 1 (.int .i64 (o' : Int))).cell 0).trans rfl, (((h.r.put 0 (.int .i64 (m' : Int))).put 1 (.int .i64 (o' : Int))).cell 1).trans rfl,
    (h.be.setCell (by show w0.heap.size ≤ g + 1; omega) _).setCell (by show w0.heap.size ≤ g + 1; omega) _⟩
theorem Cp.of {xs : List UInt8} {p q m : Nat} (hq : q < p) (hs : ∀ i, i < m → xs.getD (q + i) 0 = xs.getD (p + i) 0) (h4 : 4 ≤ m) (h5 : m ≤ 131074) (hr : p + m ≤ xs.length) : Cp xs p m (p - q) :=
  ⟨h4, h5, hr, by omega, by omega, fun i hi => by rw [show p - (p - q) = q by omega, hs i hi]⟩

set_option maxRecDepth 100000 in
set_option maxHeartbeats 2000000 in
theorem longest_any {w : World} {lo hi lo2 hi2 : Nat} {A A2 : Option Addr} {n c c2 : Nat} {xs : List UInt8} {B : List Nat} {fr : Nat} (R E : Int) (T : Nat) (hd : Dat false w lo hi A xs) (hn : xs.length = n) (hm : n ≤ 1000000) (hhi : hi ≤ w.heap.size)
    (hb : DatE ncel w lo2 hi2 A2 B) (hhi2 : hi2 ≤ w.heap.size) (hk : Bk xs fr B) (hT : 1 ≤ T) (hT2 : T ≤ 1000) (p : Nat) (hp : p < n) :
    Calls Tryd.prog 14 #[.agg (fnd R T E A A2 n c c2), .int .i64 (p : Int)] w fun e w' => (∃ m o : Nat, e = .returned (.agg (fnv m o)) ∧ ((m = 0 ∧ o = 0 ∧ B.getD p 0 = 0) ∨ (Cp xs p m o ∧ B.getD p 0 ≠ 0))) ∧ Below w.heap.size w w' := by
  have HN := Lib.hid hn
  have HK := Lib.hid hk
  obtain ⟨d1, o1, rfl, hl1, hh1, hc1, _⟩ := hd (by omega)
  obtain ⟨d2, o2, rfl, hl2, hh2, hc2⟩ := hb (by rw [hk.len]; omega)
  have HC1 : Hid (∀ j, j < n → w.cell? ⟨d1, o1 + j, none⟩ = some (.int .u8 ((xs.getD j 0).toNat : Int))) := fun j hj => hc1 j (by omega)
  have HC2 : Hid (∀ j, j < n → w.cell? ⟨d2, o2 + j, none⟩ = some (.int .i64 (B.getD j 0 : Nat))) := fun j hj => by
    have hj' : j < B.length := by rw [hk.len]; omega
    rw [hc2 j hj', List.getD_eq_getElem?_getD, List.getElem?_eq_getElem hj']
    rfl
  clear hc1 hc2
  obtain ⟨rm, hrm⟩ : ∃ rm : Nat, rm = min (n - p) 131074 := ⟨_, rfl⟩
  have hmn : min ((n : Int) - (p : Int)) 131074 = (rm : Int) := by omega
  have HR := Lib.hid hrm
  clear hd hn hb hk hrm
  unfold fnd
  go_enter Tryd.func14, Tryd.ntmps14
  go_wp2_with fail
  go_step3
  go_wp2_with fail
  go_step3
  go_wp2_with fail
  have hI0 : LI w (((w.alloc (.cells (fnd R T E (some ⟨d1, o1, none⟩) (some ⟨d2, o2, none⟩) n c c2) 40)).alloc (.cells (fnv 0 0) 52)).alloc (.cells (fnv 0 0) 52)) (fnd R T E (some ⟨d1, o1, none⟩) (some ⟨d2, o2, none⟩) n c c2) w.heap.size 0 0 := by
    have e1 : (w.alloc (.cells (fnd R T E (some ⟨d1, o1, none⟩) (some ⟨d2, o2, none⟩) n c c2) 40)).heap.size = w.heap.size + 1 := by simp
    have b1 := Box.new w 40 (fnd R T E (some ⟨d1, o1, none⟩) (some ⟨d2, o2, none⟩) n c c2)
    have b2 := Box.new (w.alloc (.cells (fnd R T E (some ⟨d1, o1, none⟩) (some ⟨d2, o2, none⟩) n c c2) 40)) 52 (fnv 0 0)
    have e2 : ((w.alloc (.cells (fnd R T E (some ⟨d1, o1, none⟩) (some ⟨d2, o2, none⟩) n c c2) 40)).alloc (.cells (fnv 0 0) 52)).heap.size = w.heap.size + 1 + 1 := by simp
    have b3 := Box.new ((w.alloc (.cells (fnd R T E (some ⟨d1, o1, none⟩) (some ⟨d2, o2, none⟩) n c c2) 40)).alloc (.cells (fnv 0 0) 52)) 52 (fnv 0 0)
    rw [e1] at b2
    rw [e2] at b3
    exact ⟨(b1.alloc _).alloc _, b2.alloc _, b3, (((Below.refl _ _).alloc (Nat.le_refl _) _).alloc (by simp) _).alloc (by simp; omega) _⟩
  have HI0 := Lib.hid hI0
  clear hI0
  go_loopg [7, 20] T (fun gh st i wx => ∃ k s m o : Nat, st = .int .i64 (s : Int) ∧ i = .int .i64 (k : Int) ∧ k + gh = T ∧ Hid (LI w wx (fnd R T E (some ⟨d1, o1, none⟩) (some ⟨d2, o2, none⟩) n c c2) w.heap.size m o) ∧ Hid (LS xs B p rm k s m o))
  case atStart => exact ⟨0, p, 0, 0, rfl, rfl, by omega, HI0, LS.start⟩
  case round =>
    obtain ⟨k, s, m, o, rfl, rfl, hkg, HI, HL⟩ := hrel
    have HKG := Lib.hid hkg
    have hkT : k ≤ T := by omega
    clear HI0 hkg
    have f0 := HI.out.f.cell 0
    have f1 := HI.out.f.cell 1
    have f2 := HI.out.f.cell 2
    have f3 := HI.out.f.cell 3
    have f4 := HI.out.f.cell 4
    have b0 := HI.out.b.cell 0
    have b1 := HI.out.b.cell 1
    simp [fnd] at f0 f1 f2 f3 f4
    simp [fnv] at b0 b1
    have r0 := HI.out.r.cell 0
    have r1 := HI.out.r.cell 1
    have r2 := HI.out.r.free 0
    have r3 := HI.out.r.free 1
    simp [fnv] at r0 r1
    have q0 := HI.out.b.free 0
    have q1 := HI.out.b.free 1
    by_cases hlt : k < T
    · obtain ⟨g', rfl⟩ : ∃ g', gk = g' + 1 := ⟨gk - 1, by have := HKG.out; omega⟩
      have hki : (k : Int) < (T : Int) := by omega
      have hsp : s ≤ p := by
        cases HL.out with
        | start => exact Nat.le_refl _
        | more _ _ _ h _ => omega
      have hsn : (s : Int) < (n : Int) := by omega
      have hs0 : (0 : Int) ≤ (s : Int) := by omega
      obtain ⟨bs, hbs⟩ : ∃ bs, bs = B.getD s 0 := ⟨_, rfl⟩
      have y2 := (HI.out.be.cell (p := ⟨d2, o2 + s, none⟩) (by show d2 < _; omega)).trans (HC2.out s (by omega))
      rw [← hbs] at y2
      have HBS := Lib.hid hbs
      clear hbs
      by_cases hb0 : bs = 0
      · subst hb0
        go_wp2_with fail
        have HF : Hid ((m = 0 ∧ o = 0 ∧ B.getD p 0 = 0) ∨ (Cp xs p m o ∧ B.getD p 0 ≠ 0)) := by
          cases HL.out with
          | start => exact .inl ⟨rfl, rfl, HBS.out.symm⟩
          | more h0 h1 _ _ _ => exact .inr ⟨h1, h0⟩
        try rw [Exit.noGoto_ret]
        have HE := HI.out.told (Nat.le_refl _) m o
        have hr0 := HE.1
        have hr1 := HE.2.1
        refine bodyPost_ret (v := .agg (fnv m o)) ?_ rfl ⟨⟨m, o, rfl, HF.out⟩, HE.2.2⟩
        have hres : Tryd.f14.results = #[.cell 4 52] := by kernel_rfl
        simp only [results, hres]
        unfold fnv
        go_simp
      · obtain ⟨q, hq⟩ : ∃ q, q = s - bs := ⟨_, rfl⟩
        have hbk := HK.out.back s (by rw [HN.out]; omega) (by rw [← HBS.out]; exact hb0)
        rw [← HBS.out, ← hq, HN.out] at hbk
        have hsi : (s : Int) - (bs : Int) = (q : Int) := by omega
        have hqs : q < s := by omega
        have hb0i : ((bs : Int) == 0) = false := by simp; omega
        have HST : Hid (st xs q = st xs p) := by
          rw [Hid, hbk.2.2]
          cases HL.out with
          | start => rfl
          | more _ _ _ _ h => exact h
        have hnz : B.getD p 0 ≠ 0 := by
          cases HL.out with
          | start => rw [← HBS.out]; exact hb0
          | more h _ _ _ _ => exact h
        have HNZ := Lib.hid hnz
        have hp4 : p + 4 ≤ n := by have := (HK.out.back p (by rw [HN.out]; omega) hnz).2.1; rw [HN.out] at this; exact this
        have hr4 : 4 ≤ rm := by rw [HR.out]; omega
        have hrn : p + rm ≤ n := by rw [HR.out]; omega
        have hmr : m < rm := by
          cases HL.out with
          | start => omega
          | more _ _ h _ _ => exact h
        have hc1 := fun j (hj : j < n) => (HI.out.be.cell (p := ⟨d1, o1 + j, none⟩) (by show d1 < _; omega)).trans (HC1.out j hj)
        have HW := Lib.hid hc1
        have x1 := hc1 (q + m) (by omega)
        have x2 := hc1 (p + m) (by omega)
        have i1 : ((q : Int) + (m : Int)) < (n : Int) := by omega
        have i2 : ((p : Int) + (m : Int)) < (n : Int) := by omega
        have i3 : (0 : Int) ≤ ((q : Int) + (m : Int)) := by omega
        have i4 : (0 : Int) ≤ ((p : Int) + (m : Int)) := by omega
        obtain ⟨od, hod⟩ : ∃ od, od = p - q := ⟨_, rfl⟩
        have hoi : (p : Int) - (q : Int) = (od : Int) := by omega
        have HOD := Lib.hid hod
        clear hnz hbk hc1 hq hod
        by_cases hxy : xs.getD (q + m) 0 = xs.getD (p + m) 0
        · rw [hxy] at x1
          clear hxy
          generalize xs.getD (p + m) 0 = X at x1 x2
          have ixx : ((X.toNat : Int) == (X.toNat : Int)) = true := by simp
          go_wp2_with fail
          go_quiet (fail)
          go_wp2_with fail
          have HJ0 : Hid (∀ i, i < 0 → xs.getD (q + i) 0 = xs.getD (p + i) 0) := fun i hi => absurd hi (Nat.not_lt_zero i)
          go_loopg [9] rm (fun gh nn wx => ∃ j z : Nat, nn = .int .i64 (j : Int) ∧ j + gh = rm ∧ j < rm ∧ wx = wr.drewN z ∧ Hid (∀ i, i < j → xs.getD (q + i) 0 = xs.getD (p + i) 0))
          case atStart => exact ⟨0, _, rfl, by omega, by omega, rfl, HJ0⟩
          case round =>
            obtain ⟨j, z, rfl, hjg, hjr, rfl, HJ⟩ := hrel
            have HJG := Lib.hid hjg
            clear HJ0 hjg x1 x2 ixx i1 i2 i3 i4
            obtain ⟨gj, hgj⟩ : ∃ gj, gk = gj + 1 := ⟨gk - 1, by have := HJG.out; omega⟩
            subst hgj
            have x1 := HW.out (q + j) (by omega)
            have x2 := HW.out (p + j) (by omega)
            have i1 : ((q : Int) + (j : Int)) < (n : Int) := by omega
            have i2 : ((p : Int) + (j : Int)) < (n : Int) := by omega
            have i3 : (0 : Int) ≤ ((q : Int) + (j : Int)) := by omega
            have i4 : (0 : Int) ≤ ((p : Int) + (j : Int)) := by omega
            by_cases hxy : xs.getD (q + j) 0 = xs.getD (p + j) 0
            · have HJ1 : Hid (∀ i, i < j + 1 → xs.getD (q + i) 0 = xs.getD (p + i) 0) := fun i hi => by
                rcases Nat.lt_or_ge i j with h | h
                · exact HJ.out i h
                · obtain rfl : i = j := by omega
                  exact hxy
              rw [hxy] at x1
              clear hxy
              generalize xs.getD (p + j) 0 = Y at x1 x2
              have ixx : ((Y.toNat : Int) == (Y.toNat : Int)) = true := by simp
              by_cases hlast : j + 1 = rm
              · have hli : (j : Int) + 1 = (rm : Int) := by omega
                go_wp2_with fail
                go_quiet (fail)
                go_wp2_with fail
                have HF : Hid (Cp xs p rm od) := by
                  rw [Hid, HOD.out]
                  exact Cp.of (by omega) (by rw [← hlast]; exact HJ1.out) hr4 (by rw [HR.out]; omega) (by rw [HN.out]; exact hrn)
                try rw [Exit.noGoto_ret]
                have HE := ((HI.out.drawn (z + nq)).best (Nat.le_refl _) rm od).told (Nat.le_refl _) rm od
                have hr0 := HE.1
                have hr1 := HE.2.1
                refine bodyPost_ret (v := .agg (fnv rm od)) ?_ rfl ⟨⟨rm, od, rfl, .inr ⟨HF.out, HNZ.out⟩⟩, HE.2.2⟩
                have hres : Tryd.f14.results = #[.cell 4 52] := by kernel_rfl
                simp only [results, hres]
                unfold fnv
                go_simp
              · have hli : (((j : Int) + 1) == (rm : Int)) = false := by simp; omega
                go_wp2_with fail
                go_quiet (fail)
                go_wp2_with fail
                go_roundg gj
                case rel => exact ⟨j + 1, _, by go_num, by have := HJG.out; omega, by omega, rfl, HJ1⟩
                case measure => omega
            · have hne : ((((xs.getD (q + j) 0).toNat : Int)) == ((xs.getD (p + j) 0).toNat : Int)) = false := by
                simp only [beq_eq_false_iff_ne, ne_eq]
                exact fun e => hxy (UInt8.toNat_inj.1 (by omega))
              have hj4 : 4 ≤ j := by
                rcases Nat.lt_or_ge j 4 with h | h
                · exact absurd (st_eq HST.out j h) hxy
                · exact h
              clear hxy
              generalize xs.getD (q + j) 0 = X at x1 hne
              generalize xs.getD (p + j) 0 = Y at x2 hne
              by_cases hmj : m < j
              · have hmi : (m : Int) < (j : Int) := by omega
                have HF : Hid (Cp xs p j od) := by
                  rw [Hid, HOD.out]
                  exact Cp.of (by omega) HJ.out hj4 (by have := HR.out; omega) (by rw [HN.out]; omega)
                go_wp2_with fail
                go_quiet (fail)
                go_wp2_with fail
                go_roundg g'
                case rel => exact ⟨k + 1, q, j, od, by go_num, by go_num, by have := HKG.out; omega, (HI.out.drawn _).best (Nat.le_refl _) j od, LS.more HNZ.out HF.out hjr (by omega) HST.out⟩
                case measure => omega
              · have hmi : ¬ (m : Int) < (j : Int) := by omega
                have HF : Hid (Cp xs p m o) := by
                  cases HL.out with
                  | start => omega
                  | more _ h _ _ _ => exact h
                go_wp2_with fail
                go_quiet (fail)
                go_wp2_with fail
                go_roundg g'
                case rel => exact ⟨k + 1, q, m, o, by go_num, by go_num, by have := HKG.out; omega, HI.out.drawn _, LS.more HNZ.out HF.out hmr (by omega) HST.out⟩
                case measure => omega
        · have hne : ((((xs.getD (q + m) 0).toNat : Int)) == ((xs.getD (p + m) 0).toNat : Int)) = false := by
            simp only [beq_eq_false_iff_ne, ne_eq]
            exact fun e => hxy (UInt8.toNat_inj.1 (by omega))
          have HNE := Lib.hid hxy
          clear hxy
          generalize xs.getD (q + m) 0 = X at x1 hne
          generalize xs.getD (p + m) 0 = Y at x2 hne
          go_wp2_with fail
          go_quiet (fail)
          go_wp2_with fail
          have HF : Hid (Cp xs p m o) := by
            cases HL.out with
            | start => exact absurd (st_eq HST.out 0 (by omega)) HNE.out
            | more _ h _ _ _ => exact h
          go_roundg g'
          case rel => exact ⟨k + 1, q, m, o, by go_num, by go_num, by have := HKG.out; omega, HI.out.drawn _, LS.more HNZ.out HF.out hmr (by omega) HST.out⟩
          case measure => omega
    · obtain rfl : k = T := by omega
      have hki : ¬ (k : Int) < (k : Int) := by omega
      have HF : Hid ((m = 0 ∧ o = 0 ∧ B.getD p 0 = 0) ∨ (Cp xs p m o ∧ B.getD p 0 ≠ 0)) := by
        cases HL.out with
        | start => omega
        | more h0 h1 _ _ _ => exact .inr ⟨h1, h0⟩
      go_wp2_with fail
      try rw [Exit.noGoto_ret]
      have HE := HI.out.told (Nat.le_refl _) m o
      have hr0 := HE.1
      have hr1 := HE.2.1
      refine bodyPost_ret (v := .agg (fnv m o)) ?_ rfl ⟨⟨m, o, rfl, HF.out⟩, HE.2.2⟩
      have hres : Tryd.f14.results = #[.cell 4 52] := by kernel_rfl
      simp only [results, hres]
      unfold fnv
      go_simp
end Go.Proofs.YtfaonmggiffemaaDoor
