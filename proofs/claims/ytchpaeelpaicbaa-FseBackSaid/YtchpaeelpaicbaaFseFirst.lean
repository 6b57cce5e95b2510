
/- The contracts of the program's First and Before. -/
import Derived.Test.YtchpaeelpaicbaaFseBuild
import Derived.Deep.QuietTactic
import Derived.BigQuiet
namespace Go.Proofs.Ytchpaeelpaicbaa
open Go.RowKit

/-- What First answers. -/
def FirstPost (es : List En) (y : Int) (w : World) (e : Ending) (w' : World) : Prop :=
  Below w.heap.size w w' ∧ ((∃ i, ∃ h : i < es.length, e = .returned (.tuple #[.int .i64 (i : Int), .int .i64 0]) ∧ es[i].s = y ∧ ∀ j (hj : j < i), es[j].s ≠ y) ∨
    ((∀ j (h : j < es.length), es[j].s ≠ y) ∧ e = .returned (.tuple #[.int .i64 0, .int .i64 21])))

section
variable {w : World} {lo hi n c : Nat} {A : Option Addr} {es : List En}
set_option maxRecDepth 100000 in
set_option maxHeartbeats 1000000 in
theorem first_any (L y : Int) (hd : DatR 3 ecell w lo hi A es) (hn : es.length = n) (hn2 : n ≤ 65536) (hhi : hi ≤ w.heap.size) :
    Calls Try.prog 24 #[.agg #[.int .i64 L, .slice A n c], .int .u8 y] w (FirstPost es y w) := by
  have HD := Lib.hid hd
  have HN := Lib.hid hn
  clear hd hn
  go_enter Try.func24, Try.ntmps24
  go_wp2_with fail
  go_loopg [11] n (fun gh i wx => ∃ k : Nat, k + gh = n ∧ i = .int .i64 (k : Int) ∧ (∀ j (hj : j < k) (h : j < es.length), es[j].s ≠ y) ∧ Below w.heap.size w wx)
  case atStart => exact ⟨0, by omega, rfl, fun j hj => absurd hj (by omega), (Below.refl _ _).alloc (Nat.le_refl _) _⟩
  case round =>
    obtain ⟨k, hk, rfl, hall, hB⟩ := hrel
    have HB := Lib.hid hB
    have HK := Lib.hid hk
    have HAll := Lib.hid hall
    have hkn : k ≤ n := by omega
    have hsz := hB.size
    clear hall hB hk
    by_cases hlt : k < n
    · obtain ⟨g', rfl⟩ : ∃ g', gk = g' + 1 := ⟨gk - 1, by have := HK.out; omega⟩
      have hkl : k < es.length := by have := HN.out; omega
      obtain ⟨d, o, rfl, q1, q2, hc⟩ := (HD.out.below HB.out hhi).ent (by omega)
      obtain ⟨c0, c1, c2⟩ := hc k hkl
      have hki : (k : Int) < (n : Int) := by omega
      obtain ⟨x, hx⟩ : ∃ x, x = es[k] := ⟨_, rfl⟩
      rw [← hx] at c0 c1 c2
      have HX := Lib.hid hx
      clear hc hx
      obtain ⟨s, b, e⟩ := x
      simp only at c0 c1 c2
      by_cases hs : s = y
      · subst hs
        go_wp2_with fail
        go_ret2
        exact ⟨HB.out.alloc hsz _, .inl ⟨k, hkl, rfl, by rw [← HX.out], fun j hj => HAll.out j hj (by omega)⟩⟩
      · have hs1 : (s == y) = false := by rw [beq_eq_false_iff_ne]; exact hs
        go_wp2_with fail
        go_roundg g'
        case rel =>
          refine ⟨k + 1, by have := HK.out; omega, by go_num, fun j hj h => ?_, HB.out.alloc hsz _⟩
          by_cases hjk : j = k
          · subst hjk
            rw [← HX.out]; exact hs
          · exact HAll.out j (by omega) h
        case measure => omega
    · obtain rfl : k = n := by omega
      have hki : ¬ (k : Int) < (k : Int) := by omega
      go_wp2_with fail
      go_ret2
      exact ⟨HB.out, .inr ⟨fun j h => HAll.out j (by have := HN.out; omega) h, rfl⟩⟩

/-- What Before answers of a state that there is. -/
def BeforePost (es : List En) (st : Nat) (y : Int) (w : World) (e : Ending) (w' : World) : Prop :=
  Below w.heap.size w w' ∧ ((∃ i, ∃ h : i < es.length, e = .returned (.tuple #[.int .i64 (i : Int), .int .u64 ((st : Int) - es[i].e), .int .i64 es[i].b, .int .i64 0]) ∧ matB es[i] y st = true) ∨
    ((∀ j (h : j < es.length), matB es[j] y st = false) ∧ e = .returned (.tuple #[.int .i64 0, .int .u64 0, .int .i64 0, .int .i64 21])))
/-- What entries may be. -/
def Fine (es : List En) : Prop := ∀ i (h : i < es.length), ∃ s b e : Nat, es[i] = ⟨s, b, e⟩ ∧ s < 256 ∧ b ≤ 15 ∧ e + 2 ^ b ≤ 65536
theorem mat_rch (x : En) (y st : Int) : matB x y st = (decide (x.s = y) && rchB x st) := by unfold matB rchB; rw [Bool.and_assoc]

set_option maxRecDepth 100000 in
set_option maxHeartbeats 1000000 in
theorem before_none (L y st : Int) (hs : st < 0 ∨ (n : Int) ≤ st) (hn2 : n ≤ 65536) :
    Calls Try.prog 23 #[.agg #[.int .i64 L, .slice A n c], .int .i64 st, .int .u8 y] w fun e w' => e = .returned (.tuple #[.int .i64 0, .int .u64 0, .int .i64 0, .int .i64 1]) ∧ Below w.heap.size w w' := by
  have HC := Lib.hid (isState_no (w := w.alloc (.cells #[.int .i64 L, .slice A n c] 28)) (L := L) (A := A) (c := c) st hs (by unfold maxLen; omega))
  clear hs
  go_enter Try.func23, Try.ntmps23
  go_wp2_with fail
  refine HC.out.mono ?_
  rintro e w1 ⟨rfl, hB⟩
  have HB := Lib.hid (((Below.refl _ _).alloc (Nat.le_refl _) (.cells #[.int .i64 L, .slice A n c] 28)).trans (hB.mono (by simp)))
  clear hB
  go_wp2_with fail
  refine bodyPost_ret (v := .tuple #[.int .i64 0, .int .u64 0, .int .i64 0, .int .i64 1]) (by simp [results, Try.results23, go_sem]) rfl ⟨rfl, HB.out⟩

set_option maxRecDepth 100000 in
set_option maxHeartbeats 2000000 in
theorem before_any (L : Int) (y st : Nat) (hd : DatR 3 ecell w lo hi A es) (hf : Fine es) (hn : es.length = n) (hn2 : n ≤ 65536) (hhi : hi ≤ w.heap.size) (hst : st < n) :
    Calls Try.prog 23 #[.agg #[.int .i64 L, .slice A n c], .int .i64 (st : Int), .int .u8 (y : Int)] w (BeforePost es st y w) := by
  have HC := Lib.hid (isState_yes (w := w.alloc (.cells #[.int .i64 L, .slice A n c] 28)) (L := L) (A := A) (c := c) st hst)
  have hx := Box.new w 28 #[.int .i64 L, .slice A n c]
  have HX := Lib.hid hx
  have HD := Lib.hid hd
  have HN := Lib.hid hn
  have HF := Lib.hid hf
  clear hd hn hf hx
  go_enter Try.func23, Try.ntmps23
  go_wp2_with fail
  refine HC.out.mono ?_
  rintro e w1 ⟨rfl, hB⟩
  have HB := Lib.hid (((Below.refl _ _).alloc (Nat.le_refl _) (.cells #[.int .i64 L, .slice A n c] 28)).trans (hB.mono (by simp)))
  obtain ⟨c0, c1, f0, f1⟩ := box2 (HX.out.below hB (by simp))
  clear hB HC HX
  go_wp2_with fail
  clear c0 c1 f0 f1
  go_loopg [19] n (fun gh i wx => ∃ k : Nat, k + gh = n ∧ i = .int .i64 (k : Int) ∧ (∀ j (hj : j < k) (h : j < es.length), matB es[j] y st = false) ∧ Below w.heap.size w wx)
  case atStart => exact ⟨0, by omega, rfl, fun j hj => absurd hj (by omega), HB.out⟩
  case round =>
    clear HB
    obtain ⟨k, hk, rfl, hall, hB⟩ := hrel
    have HB := Lib.hid hB
    have HK := Lib.hid hk
    have HAll := Lib.hid hall
    have hkn : k ≤ n := by omega
    have hsz := hB.size
    clear hall hB hk
    by_cases hlt : k < n
    · obtain ⟨g', rfl⟩ : ∃ g', gk = g' + 1 := ⟨gk - 1, by have := HK.out; omega⟩
      have hkl : k < es.length := by have := HN.out; omega
      obtain ⟨d, o, rfl, q1, q2, hc⟩ := (HD.out.below HB.out hhi).ent (by omega)
      obtain ⟨c0, c1, c2⟩ := hc k hkl
      have hki : (k : Int) < (n : Int) := by omega
      obtain ⟨s, b, e, hx, hs256, hb15, he2⟩ := HF.out k hkl
      have hp := Nat.two_pow_pos b
      have he : e ≤ 65536 := by omega
      rw [hx] at c0 c1 c2
      simp only at c0 c1 c2
      have HXk := Lib.hid hx
      have HMt := Lib.hid (mat_rch es[k] y st)
      rw [hx] at HMt
      clear hc hx hp he2
      have HNx : Hid (matB es[k] y st = false → ∀ j (hj : j < k + 1) (h : j < es.length), matB es[j] y st = false) := by
        intro h1 j hj h
        by_cases hjk : j = k
        · subst hjk
          exact h1
        · exact HAll.out j (by omega) h
      by_cases hs : s = y
      · subst hs
        have HRe := Lib.hid (reaches_any (s : Int) b e st (wr.alloc (.cells #[.int .u8 (s : Int), .int .i64 (b : Int), .int .i64 (e : Int)] 67)) hb15 he (by omega))
        have hbx := Box.new wr 67 #[.int .u8 (s : Int), .int .i64 (b : Int), .int .i64 (e : Int)]
        have HBx := Lib.hid hbx
        clear hbx
        rcases hr : rchB ⟨s, b, e⟩ st with _ | _
        · rw [hr] at HRe HMt
          clear hr
          go_wp2_with fail
          refine HRe.out.mono ?_
          rintro e' w2 ⟨rfl, hB⟩
          have HB2 := Lib.hid ((HB.out.alloc hsz (.cells #[.int .u8 (s : Int), .int .i64 (b : Int), .int .i64 (e : Int)] 67)).trans (hB.mono (by simp; omega)))
          clear hB
          go_wp2_with fail
          go_roundg g'
          case rel => exact ⟨k + 1, by have := HK.out; omega, by go_num, HNx.out (by rw [HXk.out, HMt.out]; simp), HB2.out⟩
          case measure => omega
        · rw [hr] at HRe HMt
          have hle : e ≤ st := by
            unfold rchB at hr
            simp only [Bool.and_eq_true, decide_eq_true_eq] at hr
            omega
          clear hr
          have hw : IntKind.u64.wrap ((st : Int) - (e : Int)) = (st : Int) - (e : Int) := by rw [IntKind.wrap_u64]; omega
          go_wp2_with fail
          refine HRe.out.mono ?_
          rintro e' w2 ⟨rfl, hB⟩
          have HB2 := Lib.hid ((HB.out.alloc hsz (.cells #[.int .u8 (s : Int), .int .i64 (b : Int), .int .i64 (e : Int)] 67)).trans (hB.mono (by simp; omega)))
          have z0 := (HBx.out.below hB (by simp)).cell 0
          have z1 := (HBx.out.below hB (by simp)).cell 1
          have z2 := (HBx.out.below hB (by simp)).cell 2
          simp at z0 z1 z2
          clear hB c0 c1 c2
          go_wp2_with fail
          go_quiet (fail)
          go_wp2_with fail
          refine bodyPost_ret (v := .tuple #[.int .i64 (k : Int), .int .u64 ((st : Int) - (e : Int)), .int .i64 (b : Int), .int .i64 0]) (by simp [results, Try.results23, go_sem]) rfl ⟨below_drawn HB2.out _, .inl ⟨k, hkl, by rw [HXk.out], by rw [HXk.out, HMt.out]; simp⟩⟩
      · have hs1 : ((s : Int) == (y : Int)) = false := by rw [beq_eq_false_iff_ne]; omega
        go_wp2_with fail
        go_roundg g'
        case rel => exact ⟨k + 1, by have := HK.out; omega, by go_num, HNx.out (by rw [HXk.out, HMt.out]; simp; omega), HB.out.alloc hsz _⟩
        case measure => omega
    · obtain rfl : k = n := by omega
      have hki : ¬ (k : Int) < (k : Int) := by omega
      go_wp2_with fail
      refine bodyPost_ret (v := .tuple #[.int .i64 0, .int .u64 0, .int .i64 0, .int .i64 21]) (by simp [results, Try.results23, go_sem]) rfl ⟨HB.out, .inr ⟨fun j h => HAll.out j (by have := HN.out; omega) h, rfl⟩⟩
end
end Go.Proofs.Ytchpaeelpaicbaa
