
/- The contract of next: the first copy that is taken from a place on. -/
import Derived.Test.YtfaonmggiffemaaDoorMatLong
import Derived.RegionTactic
namespace Go.Proofs.YtfaonmggiffemaaDoor
open Go.RowKit

/-- What waits, at a place. -/
inductive NS (xs : List UInt8) (B : List Nat) (fr : Nat) : Nat → Nat → Nat → Prop where
  | none {p : Nat} (h : ∀ j, fr ≤ j → j < p → B.getD j 0 = 0) : NS xs B fr p 0 0
  | one {p m o : Nat} (h1 : fr ≤ p) (h : Cp xs p m o) : NS xs B fr (p + 1) m o

theorem LI.below {w0 w w' : World} {F : Array Value} {g m o : Nat} (h : LI w0 w F g m o) (hb : Below w.heap.size w w') (hw : w0.heap.size ≤ w.heap.size) : LI w0 w' F g m o :=
  ⟨h.f.below hb h.f.lt, h.r.below hb h.r.lt, h.b.below hb h.b.lt, h.be.trans (hb.mono hw)⟩

set_option maxRecDepth 100000 in
set_option maxHeartbeats 4000000 in
theorem next_any {w : World} {lo hi lo2 hi2 : Nat} {A A2 : Option Addr} {n c c2 : Nat} {xs : List UInt8} {B : List Nat} {fb : Nat} (R : Int) (T E : Nat) (hd : Dat false w lo hi A xs) (hn : xs.length = n) (hm : n ≤ 1000000) (hhi : hi ≤ w.heap.size)
    (hb : DatE ncel w lo2 hi2 A2 B) (hhi2 : hi2 ≤ w.heap.size) (hk : Bk xs fb B) (hT : 1 ≤ T) (hT2 : T ≤ 1000) (hE : 1 ≤ E) (fr : Nat) (hfr : fr ≤ n) :
    Calls Tryd.prog 13 #[.agg (fnd R T E A A2 n c c2), .int .i64 (fr : Int)] w fun e w' => (∃ q m o : Nat, e = .returned (.tuple #[.int .i64 (q : Int), .agg (fnv m o)]) ∧
      ((m = 0 ∧ o = 0 ∧ q = n ∧ ∀ j, fr ≤ j → j < n → B.getD j 0 = 0) ∨ (fr ≤ q ∧ Cp xs q m o))) ∧ Below w.heap.size w w' := by
  have HN := Lib.hid hn
  have HD := Lib.hid hd
  have HB := Lib.hid hb
  have HK := Lib.hid hk
  clear hd hn hb hk
  unfold fnd
  go_enter Tryd.func13, Tryd.ntmps13
  go_wp2_with fail
  have hI0 : LI w (((w.alloc (.cells (fnd R T E A A2 n c c2) 40)).alloc (.cells (fnv 0 0) 52)).alloc (.cells (fnv 0 0) 52)) (fnd R T E A A2 n c c2) w.heap.size 0 0 := by
    have e1 : (w.alloc (.cells (fnd R T E A A2 n c c2) 40)).heap.size = w.heap.size + 1 := by simp
    have b1 := Box.new w 40 (fnd R T E A A2 n c c2)
    have b2 := Box.new (w.alloc (.cells (fnd R T E A A2 n c c2) 40)) 52 (fnv 0 0)
    have e2 : ((w.alloc (.cells (fnd R T E A A2 n c c2) 40)).alloc (.cells (fnv 0 0) 52)).heap.size = w.heap.size + 1 + 1 := by simp
    have b3 := Box.new ((w.alloc (.cells (fnd R T E A A2 n c c2) 40)).alloc (.cells (fnv 0 0) 52)) 52 (fnv 0 0)
    rw [e1] at b2
    rw [e2] at b3
    exact ⟨(b1.alloc _).alloc _, b2.alloc _, b3, (((Below.refl _ _).alloc (Nat.le_refl _) _).alloc (by simp) _).alloc (by simp; omega) _⟩
  have HI0 := Lib.hid hI0
  clear hI0
  go_loopg [7] (n - fr) (fun gh i wx => ∃ p m o : Nat, i = .int .i64 (p : Int) ∧ fr ≤ p ∧ p + gh = n ∧ Hid (LI w wx (fnd R T E A A2 n c c2) w.heap.size m o) ∧ Hid (NS xs B fr p m o))
  case atStart => exact ⟨fr, 0, 0, rfl, Nat.le_refl _, by omega, HI0, NS.none fun j h1 h2 => by omega⟩
  case round =>
    obtain ⟨p, m, o, rfl, hfp, hpg, HI, HS⟩ := hrel
    have HPG := Lib.hid hpg
    have hpn : p ≤ n := by omega
    clear HI0 hpg
    have f0 := HI.out.f.cell 0
    have f1 := HI.out.f.cell 1
    have f2 := HI.out.f.cell 2
    have f3 := HI.out.f.cell 3
    have f4 := HI.out.f.cell 4
    simp [fnd] at f0 f1 f2 f3 f4
    have r0 := HI.out.r.cell 0
    have r1 := HI.out.r.cell 1
    have r2 := HI.out.r.free 0
    have r3 := HI.out.r.free 1
    simp [fnv] at r0 r1
    have hs := HI.out.be.size
    by_cases hlt : p < n
    · obtain ⟨g', rfl⟩ : ∃ g', gk = g' + 1 := ⟨gk - 1, by have := HPG.out; omega⟩
      have hpi : (p : Int) < (n : Int) := by omega
      have HL := Lib.hid (longest_any (w := wr) (c := c) (c2 := c2) R E T (HD.out.below HI.out.be hhi) HN.out hm (by omega) (HB.out.below HI.out.be hhi2) (by omega) HK.out hT hT2 p hlt)
      unfold fnd fnv at HL
      go_upto_region 6 with (go_at_call 14; refine HL.out.mono ?_; rintro e' w2 ⟨⟨m', o', rfl, hL⟩, hB2⟩; have HL2 := Lib.hid hL; have HB2 := Lib.hid hB2; clear hL hB2)
      have hI3 : LI w (w2.alloc (.cells #[.int .i64 (m' : Int), .int .i64 (o' : Int)] 52)) (fnd R T E A A2 n c c2) w.heap.size m o :=
        HI.out.below (HB2.out.alloc HB2.out.size _) hs
      have hX : Box (w2.alloc (.cells #[.int .i64 (m' : Int), .int .i64 (o' : Int)] 52)) w2.heap.size 52 #[.int .i64 (m' : Int), .int .i64 (o' : Int)] := Box.new _ _ _
      have hh : w.heap.size + 1 + 1 < w2.heap.size := Nat.lt_of_lt_of_le HI.out.b.lt HB2.out.size
      have HI3 := Lib.hid hI3
      have HX := Lib.hid hX
      clear hI3 hX HB2 HI f0 f1 f2 f3 f4 r0 r1 r2 r3 HL
      generalize w2.alloc (.cells #[.int .i64 (m' : Int), .int .i64 (o' : Int)] 52) = w3 at *
      generalize w2.heap.size = h at *
      have f2 := HI3.out.f.cell 2
      have f3 := HI3.out.f.cell 3
      simp [fnd] at f2 f3
      have r0 := HI3.out.r.cell 0
      have r1 := HI3.out.r.cell 1
      have r2 := HI3.out.r.free 0
      have r3 := HI3.out.r.free 1
      simp [fnv] at r0 r1
      have b0 := HI3.out.b.cell 0
      have b1 := HI3.out.b.cell 1
      have b2 := HI3.out.b.free 0
      have b3 := HI3.out.b.free 1
      simp [fnv] at b0 b1
      have x0 := HX.out.cell 0
      have x1 := HX.out.cell 1
      simp at x0 x1
      by_cases hA : 0 < m ∧ m' ≤ m
      · have i1 : (0 : Int) < (m : Int) := by omega
        have i2 : (m' : Int) ≤ (m : Int) := by omega
        obtain ⟨p1, hp1⟩ : ∃ p1, p = p1 + 1 := by
          cases HS.out with
          | none _ => omega
          | one _ _ => exact ⟨_, rfl⟩
        subst hp1
        have HF : Hid (fr ≤ p1 ∧ Cp xs p1 m o) := by
          cases HS.out with
          | none _ => omega
          | one h1 h => exact ⟨h1, h⟩
        have i3 : ((p1 + 1 : Nat) : Int) - 1 = (p1 : Int) := by omega
        go_wp2_with fail
        go_region
        go_wp2_with fail
        have HE := HI3.out.told (Nat.le_refl _) m o
        have hr0 := HE.1
        have hr1 := HE.2.1
        refine bodyPost_ret (v := .tuple #[.int .i64 (p1 : Int), .agg (fnv m o)]) ?_ rfl ⟨⟨p1, m, o, rfl, .inr HF.out⟩, below_drewN HE.2.2 1⟩
        have hres : Tryd.f13.results = #[.tmp 4, .cell 5 52] := by kernel_rfl
        simp only [results, hres]
        unfold fnv
        go_simp
      · have HNS : Hid (m' ≤ m → m = 0) := fun h => by
          rcases Nat.eq_zero_or_pos m with q | q
          · exact q
          · exact absurd ⟨q, h⟩ hA
        by_cases hB : E ≤ m'
        · have i5 : (E : Int) ≤ (m' : Int) := by omega
          have HF : Hid (fr ≤ p ∧ Cp xs p m' o') := by
            rcases HL2.out with ⟨h, _, _⟩ | ⟨h, _⟩
            · omega
            · exact ⟨hfp, h⟩
          by_cases hm0 : 0 < m
          · have i1 : (0 : Int) < (m : Int) := by omega
            have i2 : ¬ (m' : Int) ≤ (m : Int) := by omega
            go_wp2_with fail
            go_region
            go_wp2_with fail
            have HE := HI3.out.told (Nat.le_refl _) m' o'
            have hr0 := HE.1
            have hr1 := HE.2.1
            refine bodyPost_ret (v := .tuple #[.int .i64 (p : Int), .agg (fnv m' o')]) ?_ rfl ⟨⟨p, m', o', rfl, .inr HF.out⟩, below_drewN HE.2.2 1⟩
            have hres : Tryd.f13.results = #[.tmp 4, .cell 5 52] := by kernel_rfl
            simp only [results, hres]
            unfold fnv
            go_simp
          · obtain rfl : m = 0 := by omega
            go_wp2_with fail
            go_region
            go_wp2_with fail
            have HE := HI3.out.told (Nat.le_refl _) m' o'
            have hr0 := HE.1
            have hr1 := HE.2.1
            refine bodyPost_ret (v := .tuple #[.int .i64 (p : Int), .agg (fnv m' o')]) ?_ rfl ⟨⟨p, m', o', rfl, .inr HF.out⟩, below_drewN HE.2.2 1⟩
            have hres : Tryd.f13.results = #[.tmp 4, .cell 5 52] := by kernel_rfl
            simp only [results, hres]
            unfold fnv
            go_simp
        · have i5 : ¬ (E : Int) ≤ (m' : Int) := by omega
          have HF : Hid (NS xs B fr (p + 1) m' o') := by
            rcases HL2.out with ⟨rfl, rfl, h⟩ | ⟨h, _⟩
            · refine NS.none fun j h1 h2 => ?_
              rcases Nat.lt_or_ge j p with q | q
              · have := HNS.out (Nat.zero_le _)
                cases HS.out with
                | none h => exact h j h1 q
                | one _ h => have := h.least; omega
              · obtain rfl : j = p := by omega
                exact h
            · exact NS.one hfp h
          by_cases hm0 : 0 < m
          · have i1 : (0 : Int) < (m : Int) := by omega
            have i2 : ¬ (m' : Int) ≤ (m : Int) := by omega
            go_wp2_with fail
            go_roundg g'
            case rel => exact ⟨p + 1, m', o', by go_num, by omega, by have := HPG.out; omega, HI3.out.best (Nat.le_refl _) m' o', HF.out⟩
            case measure => omega
          · obtain rfl : m = 0 := by omega
            go_wp2_with fail
            go_roundg g'
            case rel => exact ⟨p + 1, m', o', by go_num, by omega, by have := HPG.out; omega, HI3.out.best (Nat.le_refl _) m' o', HF.out⟩
            case measure => omega
    · obtain rfl : p = n := by omega
      have hpi : ¬ (p : Int) < (p : Int) := by omega
      have HF : Hid (∀ j, fr ≤ j → j < p → B.getD j 0 = 0) := by
        cases HS.out with
        | none h => exact h
        | one _ h => have h1 := h.least; have h2 := h.room; have := HN.out; omega
      go_wp2_with fail
      have HE := HI.out.told (Nat.le_refl _) 0 0
      rw [show ((0 : Nat) : Int) = 0 from rfl] at HE
      have hr0 := HE.1
      have hr1 := HE.2.1
      refine bodyPost_ret (v := .tuple #[.int .i64 (p : Int), .agg (fnv 0 0)]) ?_ rfl ⟨⟨p, 0, 0, rfl, .inl ⟨rfl, rfl, rfl, by simpa using HF.out⟩⟩, HE.2.2⟩
      have hres : Tryd.f13.results = #[.tmp 4, .cell 5 52] := by kernel_rfl
      simp only [results, hres]
      unfold fnv
      go_simp
end Go.Proofs.YtfaonmggiffemaaDoor
