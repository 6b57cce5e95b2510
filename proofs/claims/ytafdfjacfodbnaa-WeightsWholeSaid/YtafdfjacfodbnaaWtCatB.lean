
/- slices.Grow of nothing and slices.Concat of two slices, of bytes. -/
import Derived.Test.YtafdfjacfodbnaaWtCat
namespace Go.Proofs.Ytafdfjacfodbnaa
open Go.RowKit

/-- A byte's cells. -/
def bcel (x : UInt8) : List Value := [cel x]
theorem bcel_len (x : UInt8) : (bcel x).length = 1 := rfl
theorem bcel_one (x : UInt8) : ∀ v ∈ bcel x, v.oneCell' = true := by
  intro v hv
  rw [List.mem_singleton.1 hv]
  rfl
theorem info_byte : (Try.prog.info? 5).map (fun i => (i.zero, i.size, i.bytes)) = some (some (.int .u8 0), 1, 1) := by kernel_rfl

section
variable {w : World}
set_option maxRecDepth 100000 in
theorem growB_any (m : Nat) (hm : m ≤ 100000) :
    Calls Try.prog 85 #[.slice none 0 0, .int .i64 (m : Int)] w fun e w' => ∃ v, e = .returned v ∧ OwR 1 bcel w' 5 w.heap.size v [] ∧ Below w.heap.size w w' := by
  obtain ⟨i0, hi0, hi1⟩ := Option.map_eq_some_iff.1 info_byte
  simp only [Prod.mk.injEq] at hi1
  obtain ⟨hz0, hz1, hz2⟩ := hi1
  have HI := Lib.hid (And.intro hi0 (And.intro hz0 (And.intro hz1 hz2)))
  clear hi0 hz0 hz1 hz2
  by_cases h0 : 0 < m
  · have h0z : (0 : Int) < (m : Int) := by omega
    go_enter Try.func85, Try.ntmps85
    go_wp2_with (at_builtin; refine list_appNil (f := bcel) (z := 1) (base := w.heap.size) _ rfl _ _ 22 3 rfl i0 (.int .u8 0) .i64 .i64 1 Try.underlying22 Try.underlying3 HI.out.1 HI.out.2.1 HI.out.2.2.1 HI.out.2.2.2 rfl (by decide) (by decide) rfl m h0 rfl ?_ (Nat.le_refl _) ?_)
    · omega
    intro cp w' ho hc hb
    have HO := Lib.hid (And.intro ho hb)
    clear ho hb
    go_wp2_with fail
    go_ret
    exact ⟨_, rfl, HO.out.1, HO.out.2⟩
  · obtain rfl : m = 0 := by omega
    go_enter Try.func85, Try.ntmps85
    go_wp2_with fail
    go_ret
    exact ⟨_, rfl, OwR.nil _ _ _ _ _, Below.refl _ _⟩

set_option maxRecDepth 100000 in
set_option maxHeartbeats 1000000 in
theorem catB_any {lo1 hi1 lo2 hi2 h n1 n2 k1 k2 : Nat} {A1 A2 : Option Addr} {xs ys : List UInt8} (c0 : w.cell? ⟨h, 0, none⟩ = some (.slice A1 n1 k1)) (c1 : w.cell? ⟨h, 1, none⟩ = some (.slice A2 n2 k2)) (hx : DatR 1 bcel w lo1 hi1 A1 xs) (hy : DatR 1 bcel w lo2 hi2 A2 ys)
    (hn1 : xs.length = n1) (hn2 : ys.length = n2) (hb1 : n1 ≤ 10000) (hb2 : n2 ≤ 10000) (hh1 : hi1 ≤ w.heap.size) (hh2 : hi2 ≤ w.heap.size) :
    Calls Try.prog 66 #[.slice (some ⟨h, 0, none⟩) 2 2] w fun e w' => ∃ v, e = .returned v ∧ OwR 1 bcel w' 5 w.heap.size v (xs ++ ys) ∧ Below w.heap.size w w' := by
  obtain ⟨i0, hi0, hi1⟩ := Option.map_eq_some_iff.1 info_byte
  simp only [Prod.mk.injEq] at hi1
  obtain ⟨hz0, hz1, hz2⟩ := hi1
  have HI := Lib.hid (And.intro hi0 (And.intro hz0 (And.intro hz1 hz2)))
  have HX := Lib.hid (And.intro hx (And.intro hy (And.intro hn1 hn2)))
  have HCs := Lib.hid (And.intro c0 c1)
  have hlh : h < w.heap.size := World.block_lt_of_cell? w _ c0
  have hG := growB_any (w := w) (n1 + n2) (by omega)
  rw [Int.natCast_add] at hG
  have HG := Lib.hid hG
  clear hi0 hz0 hz1 hz2 hx hy hn1 hn2 hG
  go_enter Try.func66, Try.ntmps66
  go_wp2_with fail
  go_loopg [3, 11] 2 (fun g1 vs vk wr => ∃ k s : Nat, vk = .int .i64 (k : Int) ∧ vs = .int .i64 (s : Int) ∧ k + g1 = 2 ∧ (k = 0 ∧ 0 = s ∨ k = 1 ∧ n1 = s ∨ k = 2 ∧ n1 + n2 = s) ∧ wr = w)
  case atStart => exact ⟨0, 0, rfl, rfl, rfl, .inl ⟨rfl, rfl⟩, rfl⟩
  case round =>
    obtain ⟨k, s, rfl, rfl, hk, hc, rfl⟩ := hrel
    rcases hc with ⟨rfl, rfl⟩ | ⟨rfl, rfl⟩ | ⟨rfl, rfl⟩
    · have h3 : ¬ ((0 : Int) + (n1 : Int)) < 0 := by omega
      go_wp2_with fail
      go_roundg 1
      case measure => omega
      case rel => exact ⟨1, n1, by go_num, by go_num, rfl, .inr (.inl ⟨rfl, rfl⟩), rfl⟩
    · have h3 : ¬ ((n1 : Int) + (n2 : Int)) < 0 := by omega
      go_wp2_with fail
      go_roundg 0
      case measure => omega
      case rel => exact ⟨2, n1 + n2, by go_num, by go_num, rfl, .inr (.inr ⟨rfl, rfl⟩), rfl⟩
    · clear c0 c1
      go_wp2_with fail
      refine HG.out.mono ?_
      rintro _ w2 ⟨v, rfl, ho, hb⟩
      have HO := Lib.hid ho
      have HB := Lib.hid hb
      clear HG ho hb
      go_wp2_with fail
      go_loopg [6, 27] 2 (fun g1 vr vk wx => ∃ k : Nat, vk = .int .i64 (k : Int) ∧ k + g1 = 2 ∧ Below wr.heap.size wr wx ∧ (k = 0 ∧ OwR 1 bcel wx 5 wr.heap.size vr [] ∨ k = 1 ∧ OwR 1 bcel wx 5 wr.heap.size vr xs ∨ k = 2 ∧ OwR 1 bcel wx 5 wr.heap.size vr (xs ++ ys)))
      case atStart => exact ⟨0, rfl, rfl, HB.out, .inl ⟨rfl, HO.out⟩⟩
      case round =>
        clear HO HB
        obtain ⟨k, rfl, hk2, hB, hc⟩ := hrel
        have hsz := hB.size
        have c0 := (World.cell?_of_block (hB.block h (by omega))).trans HCs.out.1
        have c1 := (World.cell?_of_block (hB.block h (by omega))).trans HCs.out.2
        have HB := Lib.hid hB
        rename Value => vr
        rcases hc with ⟨rfl, ho⟩ | ⟨rfl, ho⟩ | ⟨rfl, ho⟩
        · have HO := Lib.hid ho
          have HD := Lib.hid (HX.out.1.below hB hh1)
          clear ho hB
          go_wp2_with (at_builtin; refine list_appR bcel_len (by decide) bcel_one _ rfl _ _ 22 rfl i0 (.int .u8 0) 1 Try.underlying22 HI.out.1 HI.out.2.1 HI.out.2.2.1 HI.out.2.2.2 rfl (by decide) rfl HO.out rfl HD.out HX.out.2.2.1 ?_ ?_ ?_)
          · first | omega | (simp; omega)
          · omega
          intro v1 w3 ho1 hg1 _
          have HB3 := Lib.hid (below_grown HB.out hg1 (fun k hk => (HO.out.block k hk).1) hsz)
          have HO3 := Lib.hid ho1
          clear ho1 hg1 HO HB HD
          go_wp2_with fail
          go_roundg 1
          case measure => omega
          case rel => exact ⟨1, by go_num, rfl, HB3.out, .inr (.inl ⟨rfl, by simpa using HO3.out⟩)⟩
        · have HO := Lib.hid ho
          have HD := Lib.hid (HX.out.2.1.below hB hh2)
          have hl1 := HX.out.2.2.1
          clear ho hB
          go_wp2_with (at_builtin; refine list_appR bcel_len (by decide) bcel_one _ rfl _ _ 22 rfl i0 (.int .u8 0) 1 Try.underlying22 HI.out.1 HI.out.2.1 HI.out.2.2.1 HI.out.2.2.2 rfl (by decide) rfl HO.out rfl HD.out HX.out.2.2.2 ?_ ?_ ?_)
          · first | omega | (simp; omega)
          · omega
          intro v1 w3 ho1 hg1 _
          have HB3 := Lib.hid (below_grown HB.out hg1 (fun k hk => (HO.out.block k hk).1) hsz)
          have HO3 := Lib.hid ho1
          clear ho1 hg1 HO HB HD
          go_wp2_with fail
          go_roundg 0
          case measure => omega
          case rel => exact ⟨2, by go_num, rfl, HB3.out, .inr (.inr ⟨rfl, HO3.out⟩)⟩
        · have HO := Lib.hid ho
          clear ho hB
          go_wp2_with fail
          go_ret
          exact ⟨_, rfl, HO.out, HB.out⟩
end
end Go.Proofs.Ytafdfjacfodbnaa
