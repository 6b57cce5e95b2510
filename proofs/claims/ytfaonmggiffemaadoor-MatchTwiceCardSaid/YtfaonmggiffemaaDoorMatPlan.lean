
/- The contract of plan: sequences that make the bytes from a place on. -/
import Derived.Test.YtfaonmggiffemaaDoorMatNext
import Derived.Test.YtfaonmggiffemaaDoorAppR
namespace Go.Proofs.YtfaonmggiffemaaDoor
open Go.RowKit

theorem mcells_len (s : MSq) : s.cells.length = 3 := rfl
theorem mcells_one (s : MSq) : ∀ v ∈ s.cells, v.oneCell' = true := by
  intro v hv
  simp [MSq.cells] at hv
  rcases hv with rfl | rfl | rfl <;> rfl
theorem seq_row : (Tryd.prog.info? 45).map (fun i => (i.zero, i.size, i.bytes)) = some (some (.agg #[.int .u32 0, .int .u32 0, .int .u32 0]), 3, 12) := by kernel_rfl

theorem OwR.off_box {α : Type} {z : Nat} {f : α → List Value} {w : World} {u base g : Nat} {t : TypeId} {cs : Array Value} {v : Value} {xs : List α} (h : OwR z f w u base v xs) (hg : Box w g t cs) (hne : u ≠ t) : v.ownBlock ≠ some g := by
  rcases h.2 with ⟨rfl, h0⟩ | ⟨g', cap, cur, rfl, _, hh, _⟩
  · simp [Value.ownBlock]
  · intro he
    have : g' = g := by simpa [Value.ownBlock] using he
    subst this
    unfold Box at hg
    rw [hg] at hh
    injection hh with hh
    injection hh with _ ht
    exact hne ht.symm

/-- What plan holds: the finder's block, its own sequences. -/
structure PI (w0 w : World) (F : Array Value) (g : Nat) (v : Value) (L : List MSq) : Prop where
  f : Box w g 40 F
  own : OwR 3 MSq.cells w 45 (g + 1) v L
  be : Below w0.heap.size w0 w

set_option maxRecDepth 100000 in
set_option maxHeartbeats 4000000 in
theorem plan_any {w : World} {lo hi lo2 hi2 : Nat} {A A2 : Option Addr} {n c c2 : Nat} {xs : List UInt8} {B : List Nat} {fb : Nat} (R : Int) (T E : Nat) (hd : Dat false w lo hi A xs) (hn : xs.length = n) (hm : n ≤ 1000000) (hhi : hi ≤ w.heap.size)
    (hb : DatE ncel w lo2 hi2 A2 B) (hhi2 : hi2 ≤ w.heap.size) (hk : Bk xs fb B) (hT : 1 ≤ T) (hT2 : T ≤ 1000) (hE : 1 ≤ E) (fr : Nat) (hfr : fr ≤ n) :
    Calls Tryd.prog 11 #[.agg (fnd R T E A A2 n c c2), .int .i64 (fr : Int)] w fun e w' => (∃ (v : Value) (L : List MSq) (b : Nat), e = .returned (.tuple #[v, .int .i64 (b : Int)]) ∧ ∃ q : Nat, q + b = n ∧
      OwR 3 MSq.cells w' 45 w.heap.size v L ∧ MkP xs n fr L q ∧ (L = [] → ∀ j, fr ≤ j → j < n → B.getD j 0 = 0)) ∧ Below w.heap.size w w' := by
  have HN := Lib.hid hn
  have HD := Lib.hid hd
  have HB := Lib.hid hb
  have HK := Lib.hid hk
  obtain ⟨i0, hi0, hz0, hz1, hz2⟩ := info_parts seq_row
  have HI := Lib.hid (And.intro hi0 (And.intro hz0 (And.intro hz1 hz2)))
  have hP0 : PI w (w.alloc (.cells (fnd R T E A A2 n c c2) 40)) (fnd R T E A A2 n c c2) w.heap.size (.slice none 0 0) [] :=
    ⟨Box.new _ _ _, OwR.nil _ _ _ _ _, (Below.refl _ _).alloc (Nat.le_refl _) _⟩
  have HP0 := Lib.hid hP0
  clear hd hn hb hk hi0 hz0 hz1 hz2 hP0
  unfold fnd
  go_enter Tryd.func11, Tryd.ntmps11
  go_wp2_with fail
  go_loopg [1, 6] (n - fr) (fun gh i v wx => ∃ (q : Nat) (L : List MSq), i = .int .i64 (q : Int) ∧ q + gh = n ∧ Hid (PI w wx (fnd R T E A A2 n c c2) w.heap.size v L) ∧ Hid (MkP xs n fr L q ∧ (L = [] → q = fr)))
  case atStart => exact ⟨fr, [], rfl, by omega, HP0, rfl, fun _ => rfl⟩
  case round =>
    obtain ⟨q, L, rfl, hqg, HP, HM⟩ := hrel
    have HQG := Lib.hid hqg
    have hqn : q ≤ n := by omega
    clear HP0 hqg
    have f0 := HP.out.f.cell 0
    have f1 := HP.out.f.cell 1
    have f2 := HP.out.f.cell 2
    have f3 := HP.out.f.cell 3
    have f4 := HP.out.f.cell 4
    simp [fnd] at f0 f1 f2 f3 f4
    have hs := HP.out.be.size
    have HX := Lib.hid (next_any (w := wr) (c := c) (c2 := c2) R T E (HD.out.below HP.out.be hhi) HN.out hm (by omega) (HB.out.below HP.out.be hhi2) (by omega) HK.out hT hT2 hE q hqn)
    unfold fnd fnv at HX
    go_upto_region 3 with (go_at_call 13; refine HX.out.mono ?_; rintro e' w2 ⟨⟨p, m, o, rfl, hL⟩, hB2⟩; have HL2 := Lib.hid hL; have HB2 := Lib.hid hB2; clear hL hB2)
    have hF3 : PI w (w2.alloc (.cells #[.int .i64 (m : Int), .int .i64 (o : Int)] 52)) (fnd R T E A A2 n c c2) w.heap.size u6 L := by
      have hb := HB2.out.alloc HB2.out.size (.cells #[.int .i64 (m : Int), .int .i64 (o : Int)] 52)
      exact ⟨HP.out.f.below hb HP.out.f.lt, HP.out.own.below hb (Nat.le_refl _), HP.out.be.trans (hb.mono hs)⟩
    have hX : Box (w2.alloc (.cells #[.int .i64 (m : Int), .int .i64 (o : Int)] 52)) w2.heap.size 52 #[.int .i64 (m : Int), .int .i64 (o : Int)] := Box.new _ _ _
    have HP3 := Lib.hid hF3
    have HX3 := Lib.hid hX
    clear hF3 hX HB2 HP f0 f1 f2 f3 f4 HX
    generalize w2.alloc (.cells #[.int .i64 (m : Int), .int .i64 (o : Int)] 52) = w3 at *
    generalize w2.heap.size = h at *
    have x0 := HX3.out.cell 0
    have x1 := HX3.out.cell 1
    simp at x0 x1
    by_cases hm0 : m = 0
    · subst hm0
      have HF : Hid (p = n ∧ ∀ j, q ≤ j → j < n → B.getD j 0 = 0) := by
        rcases HL2.out with ⟨_, _, h1, h2⟩ | ⟨_, h⟩
        · exact ⟨h1, h2⟩
        · exact absurd h.least (by omega)
      obtain ⟨b, hb⟩ : ∃ b, q + b = n := ⟨n - q, by omega⟩
      have HBq := Lib.hid hb
      have hbm : b ≤ 1000000 := by omega
      have hbi : (p : Int) - (q : Int) = (b : Int) := by have := HF.out.1; omega
      clear hb
      go_wp2_with fail
      go_ret2
      refine ⟨⟨_, L, b, rfl, q, HBq.out, HP3.out.own.mono (Nat.le_succ _), HM.out.1, fun h j h1 h2 => HF.out.2 j (by have := HM.out.2 h; omega) h2⟩, HP3.out.be⟩
    · have HF : Hid (q ≤ p ∧ Cp xs p m o) := by
        rcases HL2.out with ⟨h, _⟩ | h
        · exact absurd h hm0
        · exact h
      obtain ⟨d, hd⟩ : ∃ d, d = p - q := ⟨_, rfl⟩
      have h1 := HF.out.1
      have h2 := HF.out.2.least
      have h3 := HF.out.2.most
      have h4 := HF.out.2.room
      have h5 := HF.out.2.ahead
      rw [HN.out] at h4
      have hdi : (p : Int) - (q : Int) = (d : Int) := by omega
      have k1 : IntKind.u32.wrap (d : Int) = (d : Int) := by rw [IntKind.wrap_u32']; omega
      have k2 : IntKind.u32.wrap (m : Int) = (m : Int) := by rw [IntKind.wrap_u32']; omega
      have k3 : IntKind.u32.wrap (o : Int) = (o : Int) := by rw [IntKind.wrap_u32']; omega
      have hmb : ((m : Int) == 0) = false := by simp; omega
      have HDd := Lib.hid hd
      have hLl := HM.out.1.all
      have HD1 := Lib.hid (datR_one (f := MSq.cells) (z := 3) w3 (⟨d, m, o⟩ : MSq) 45 #[.int .u32 (d : Int), .int .u32 (m : Int), .int .u32 (o : Int)] rfl)
      have HAl := Lib.hid (HP3.out.own.alloc (.cells #[.int .u32 (d : Int), .int .u32 (m : Int), .int .u32 (o : Int)] 45))
      have hgz : w.heap.size < w3.heap.size := HP3.out.f.lt
      clear hd
      go_wp2_with (at_builtin; refine list_appR mcells_len (by decide) mcells_one _ rfl _ _ 24 rfl i0 (.agg #[.int .u32 0, .int .u32 0, .int .u32 0]) 12 Tryd.underlying24 HI.out.1 HI.out.2.1 HI.out.2.2.1 HI.out.2.2.2 rfl (by decide) rfl HAl.out rfl HD1.out rfl ?_ ?_ ?_)
      · simp; omega
      · simp; omega
      intro v9 w9 ho9 hg9 hw9
      have hne : ∀ k, u6.ownBlock = some k → w.heap.size + 1 ≤ k := fun k hk => (HP3.out.own.block k hk).1
      have HP9 : Hid (PI w w9 (fnd R T E A A2 n c c2) w.heap.size v9 (L ++ [⟨d, m, o⟩])) := by
        refine ⟨(HP3.out.f.alloc _).grown hg9 (fun e => ?_), ho9, ((HP3.out.be.alloc (by omega) _).grown hg9 (by simp; omega) (fun k hk => ?_))⟩
        · have := hne _ e.symm
          omega
        · have := hne k hk
          omega
      have HM9 : Hid (MkP xs n fr (L ++ [⟨d, m, o⟩]) (p + m) ∧ (L ++ [(⟨d, m, o⟩ : MSq)] = [] → p + m = fr)) := by
        refine ⟨?_, fun h => absurd h (by simp)⟩
        have hs' := HM.out.1.snoc (HF.out.2.fits HN.out HF.out.1)
        rw [← HDd.out] at hs'
        have e : q + d + m = p + m := by have := HDd.out; omega
        rw [show q + (⟨d, m, o⟩ : MSq).l + (⟨d, m, o⟩ : MSq).m = p + m from e] at hs'
        exact hs'
      have hy0 : w9.cell? ⟨h, 0, none⟩ = some (.int .i64 (m : Int)) := (((HX3.out.alloc _).grown hg9 (fun e => (HP3.out.own.off_box HX3.out (by decide)) e.symm)).cell 0).trans rfl
      clear HAl HD1 ho9 hg9 hw9 k1 k2 k3 hne
      go_wp2_with fail
      go_roundg (n - (p + m))
      case rel => exact ⟨p + m, L ++ [⟨d, m, o⟩], by go_num, by omega, HP9, HM9⟩
      case measure => have := HQG.out; omega
end Go.Proofs.YtfaonmggiffemaaDoor
