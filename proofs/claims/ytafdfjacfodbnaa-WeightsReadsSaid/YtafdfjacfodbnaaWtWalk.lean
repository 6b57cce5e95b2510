
/- The contract of the program's walk. -/
import Derived.Test.YtafdfjacfodbnaaWtWlk
import Derived.Deep.RegionWith
import Derived.Deep.RegionHeld3
import Derived.Deep.DeepCutAuto
import Derived.WalkMore
import Derived.BigQuiet
import Derived.Deep.QuietTactic
namespace Go.Proofs.Ytafdfjacfodbnaa
open Go.RowKit

theorem u8cel_oneW (x : Nat) : (u8cel x).oneCell' = true := rfl
theorem under_two : Try.prog.underlying 143 = some (.array 2 3) := by kernel_rfl
theorem info_int1 : (Try.prog.info? 3).map (fun i => i.size) = some 1 := by kernel_rfl
theorem idx_zero (x y : Int) (W : World) : (Instr.index 143 (.agg #[.int .i64 x, .int .i64 y]) (.int .i64 0)).run Try.prog W = .ok (.int .i64 x) W := by
  obtain ⟨i0, hi0, hi1⟩ := Option.map_eq_some_iff.1 info_int1
  simp [Instr.index, run_underlying under_two, asIntOf, sizeOf, typeInfo, hi0, hi1, part, go_sem]
theorem idx_one (x y : Int) (W : World) : (Instr.index 143 (.agg #[.int .i64 x, .int .i64 y]) (.int .i64 1)).run Try.prog W = .ok (.int .i64 y) W := by
  obtain ⟨i0, hi0, hi1⟩ := Option.map_eq_some_iff.1 info_int1
  simp [Instr.index, run_underlying under_two, asIntOf, sizeOf, typeInfo, hi0, hi1, part, go_sem]

/-- What walk answers. -/
def WalkPost (es : List En) (xs : List UInt8) (l : Nat) (left : Int) (g : Nat) (w : World) (e : Ending) (w' : World) : Prop :=
  w.grownBy w' (some g) ∧ (((bread xs (bread xs left (l : Int)).2 (l : Int)).2 < 0 ∧ e = .returned (.tuple #[.slice none 0 0, .int .i64 11])) ∨
    (0 ≤ (bread xs (bread xs left (l : Int)).2 (l : Int)).2 ∧ ∃ v, e = .returned (.tuple #[v, .int .i64 0]) ∧ OwE u8cel w' 5 w.heap.size v (wlk es xs 256 (bread xs left (l : Int)).1 (bread xs (bread xs left (l : Int)).2 (l : Int)).1 (bread xs (bread xs left (l : Int)).2 (l : Int)).2).1))

section
variable {w : World}
set_option maxRecDepth 100000 in
set_option maxHeartbeats 4000000 in
theorem walk_any {lo g lo2 hi2 n c l : Nat} {A : Option Addr} {xs : List UInt8} {left : Int} {es : List En} (hb : BW w lo g xs left) (hl : -1000000 ≤ left) (hu : left ≤ 1000000) (hl15 : l ≤ 15) (hd : DatR 3 ecell w lo2 hi2 A es) (hg2 : g < lo2) (hhi : hi2 ≤ w.heap.size)
    (hn : es.length = n) (hn2 : n ≤ 65536) (hf : FineW es n) (h2 : 2 ^ l ≤ n) :
    Calls Try.prog 55 #[.agg #[.int .i64 (l : Int), .slice A n c], .pointer (some ⟨g, 0, none⟩)] w (WalkPost es xs l left g w) := by
  have HS1 := fun W (h : BW W lo g xs left) => Lib.hid (start_any (A := A) (n := n) (c := c) l h (by omega) hl15)
  have hlt1 := bread_lt xs left l
  have hle1 := bread_le' xs left (l : Int)
  unfold WalkPost
  generalize bread xs left (l : Int) = t1 at *
  obtain ⟨X, left1⟩ := t1
  dsimp only at *
  have HS2 := fun W (h : BW W lo g xs left1) => Lib.hid (start_any (A := A) (n := n) (c := c) l h (by omega) hl15)
  have hlt2 := bread_lt xs left1 l
  have hle2 := bread_le' xs left1 (l : Int)
  generalize bread xs left1 (l : Int) = t2 at *
  obtain ⟨Y, left2⟩ := t2
  dsimp only at *
  have hXn : X < n := by omega
  have hYn : Y < n := by omega
  have hX16 : X < 65536 := by omega
  have hY16 : Y < 65536 := by omega
  have hk0 : Wk0 w (w.alloc (.cells #[.int .i64 (l : Int), .slice A n c] 106)) (l : Int) A n c lo2 hi2 es lo g xs left :=
    ⟨Box.new w _ _, hd.alloc hhi _, hb.keep fun k _ hk => Below.heap_alloc w _ k (by have := hb.lt; omega), gb_alloc (World.grownBy.refl w _) _, hhi, hb.lt, hg2⟩
  have HK0 := Lib.hid hk0
  have HK0d := Lib.hid hk0.drew
  have HN := Lib.hid hn
  have HF := Lib.hid hf
  have hglt := hb.lt
  clear hb hd hn hf hlt1 hlt2 h2 hk0
  obtain ⟨x0, x1, _, _⟩ := box2 HK0.out.t
  have hWs : (w.alloc (.cells #[.int .i64 (l : Int), .slice A n c] 106)).heap.size = w.heap.size + 1 := World.size_alloc _ _
  have HK0a : Hid (Wk0 w (((w.alloc (.cells #[.int .i64 (l : Int), .slice A n c] 106)).alloc (.cells #[.int .i64 0, .int .i64 0] 143)).drew) (l : Int) A n c lo2 hi2 es lo g xs left) := (HK0.out.alloc _).drew
  have HZ0 : Hid (Box (((w.alloc (.cells #[.int .i64 (l : Int), .slice A n c] 106)).alloc (.cells #[.int .i64 0, .int .i64 0] 143)).drew) (w.heap.size + 1) 143 #[.int .i64 0, .int .i64 0]) := by
    have := Box.new (w.alloc (.cells #[.int .i64 (l : Int), .slice A n c] 106)) 143 #[.int .i64 0, .int .i64 0]
    rw [hWs] at this
    exact this
  go_enter Try.func55, Try.ntmps55
  go_wp2_with fail
  go_step3
  go_upto_region 1 with fail
  go_cut [6] (fun v6 wx => ∃ q, v6 = .pointer (some ⟨q, 0, none⟩) ∧ WkO w w.heap.size q lo2 hi2 lo g ∧ Wk w wx w.heap.size q (l : Int) A n c lo2 hi2 es lo g xs left2 X Y (.slice none 0 0) [])
  case first =>
    go_region_with (go_at_call 77; first
      | (refine (HS2 _ (by exact HC1.out.r)).out.mono ?_; rintro e w2 ⟨rfl, hb2, hg2⟩; have HZ2 := Lib.hid (box_hid HZ1.out hg2 (by omega)); obtain ⟨z0, z1, zf0, zf1⟩ := box2 HZ2.out; have HC2 := Lib.hid (HC1.out.next hb2 hg2); clear hb2 hg2)
      | (refine (HS2 _ (by exact (HC1.out.alloc _).r)).out.mono ?_; rintro e w2 ⟨rfl, hb2, hg2⟩; have HZ2 := Lib.hid (box_hid (Box.new _ _ _) hg2 (by have := HC1.out.k.size; simp; omega)); obtain ⟨z0, z1, zf0, zf1⟩ := box2 HZ2.out; have HC2 := Lib.hid ((HC1.out.alloc _).next hb2 hg2); clear hb2 hg2)
      | (refine (HS2 _ (by exact HC1.out.r)).out.mono ?_; rintro e w2 ⟨rfl, hb2, hg2⟩; have HC2 := Lib.hid (HC1.out.next hb2 hg2); clear hb2 hg2)
      | (refine (HS1 _ (by exact HK0a.out.r)).out.mono ?_; rintro e w1 ⟨rfl, hb1, hg1⟩; have HZ1 := Lib.hid (box_hid HZ0.out hg1 (by omega)); have HC1 := Lib.hid (HK0a.out.next hb1 hg1); obtain ⟨y0, y1, _, _⟩ := box2 HC1.out.t; have hl1 := HC1.out.t.lt; clear hb1 hg1)
      | (refine (HS1 _ (by exact HK0d.out.r)).out.mono ?_; rintro e w1 ⟨rfl, hb1, hg1⟩; have HC1 := Lib.hid (HK0d.out.next hb1 hg1); obtain ⟨y0, y1, _, _⟩ := box2 HC1.out.t; have hl1 := HC1.out.t.lt; clear hb1 hg1))
    all_goals go_wp2_with fail
    all_goals go_meet
    all_goals first | exact ⟨_, rfl, HC2.out.new⟩ | exact ⟨_, rfl, HC2.out.old HZ2.out (by omega)⟩
  case rest =>
    obtain ⟨q, rfl, hord, hwk⟩ := hcut
    have HO := Lib.hid hord
    have HWk := Lib.hid hwk
    have hqw := hwk.s.lt
    obtain ⟨i0, hi0, hi1⟩ := Option.map_eq_some_iff.1 info_byte
    simp only [Prod.mk.injEq] at hi1
    obtain ⟨hz0, hz1, hz2⟩ := hi1
    have HI := Lib.hid (And.intro hi0 (And.intro hz0 (And.intro hz1 hz2)))
    clear hi0 hz0 hz1 hz2
    have hqt : w.heap.size < q := by have := hord.b; omega
    clear hwk hord HK0 HK0d HK0a HZ0 HS1 HS2 x0 x1 hWs
    have HLf := Lib.hid (left_any HWk.out.r)
    by_cases h0 : left2 < 0
    · go_wp2_with (go_at_call 78; refine HLf.out.mono ?_; rintro e w' ⟨rfl, rfl⟩)
      rw [Exit.noGoto_ret]
      go_ret2
      exact ⟨HWk.out.k, .inl ⟨h0, rfl⟩⟩
    · have h0z : ¬ left2 < 0 := h0
      go_wp2_with (go_at_call 78; refine HLf.out.mono ?_; rintro e w' ⟨rfl, rfl⟩)
      go_step3
      go_wp2_with fail
      clear HLf
      obtain ⟨Tg, hTg⟩ : ∃ Tg, Tg = (wlk es xs 256 X Y left2).1 := ⟨_, rfl⟩
      have HTg := Lib.hid hTg
      have HTgE := Lib.hid hTg
      clear hTg
      go_loopg [7, 22] 128 (fun gh vl vt wx => ∃ (t a b : Nat) (left : Int) (acc : List Nat), vt = .int .i64 (t : Int) ∧ t + gh = 128 ∧ a < n ∧ b < n ∧ 0 ≤ left ∧ left ≤ 1000000 ∧ Wk w wx w.heap.size q (l : Int) A n c lo2 hi2 es lo g xs left a b vl acc ∧ acc.length = 2 * t ∧ Tg = acc ++ (wlk es xs (2 * gh) a b left).1)
      case atStart => exact ⟨0, X, Y, left2, [], rfl, rfl, hXn, hYn, by omega, by omega, HWk.out, rfl, HTg.out⟩
      case round =>
        clear HTg HWk
        obtain ⟨t, a, b, left, acc, rfl, ht, ha, hb, hl0, hlm, hwk, hal, htg⟩ := hrel
        have HT := Lib.hid ht
        have HWk := Lib.hid hwk
        have HTg := Lib.hid htg
        have HAl := Lib.hid hal
        have ht128 : t ≤ 128 := by omega
        clear ht hwk htg hal
        by_cases hlt : t < 128
        · have hltz : (t : Int) < 128 := by omega
          obtain ⟨gk', rfl⟩ : ∃ g', gk = g' + 1 := ⟨gk - 1, by have := HT.out; omega⟩
          obtain ⟨b0, b1, bf0, bf1⟩ := box2 HWk.out.s
          go_wp2_with fail
          clear b0 b1 bf0 bf1
          obtain ⟨a0, ha0⟩ : ∃ a0, a0 = a := ⟨_, rfl⟩
          obtain ⟨b0, hb0⟩ : ∃ b0, b0 = b := ⟨_, rfl⟩
          go_loopg [7, 25] 2 (fun g2 vl vi wx => ∃ (i x y : Nat) (left : Int) (acc : List Nat), vi = .int .i64 (i : Int) ∧ i + g2 = 2 ∧ x < n ∧ y < n ∧ 0 ≤ left ∧ left ≤ 1000000 ∧ Wk w wx w.heap.size q (l : Int) A n c lo2 hi2 es lo g xs left (if i = 1 then y else x) (if i = 1 then x else y) vl acc ∧ acc.length = 2 * t + i ∧ Tg = acc ++ (wlk es xs (2 * gk' + g2) x y left).1 ∧ (i = 0 → x = a ∧ y = b) ∧ (i = 1 → x = b))
          case atStart => exact ⟨0, a, b, left, acc, rfl, rfl, ha, hb, hl0, hlm, HWk.out, HAl.out, HTg.out, fun _ => ⟨rfl, rfl⟩, fun h => by omega⟩
          case round =>
            clear HTg HWk HAl hl0 hlm
            obtain ⟨i, x, y, left, acc, rfl, hi, hx, hy, hl0, hlm, hwk, hal, htg, hi0, hi1⟩ := hrel
            have HAl := Lib.hid hal
            have HTg := Lib.hid htg
            have hi3 : i = 0 ∨ i = 1 ∨ i = 2 := by omega
            clear hal htg
            rcases hi3 with hi3 | hi3 | hi3
            · subst hi3
              obtain rfl : gk = 2 := by omega
              obtain ⟨rfl, rfl⟩ := hi0 rfl
              have HWk : Hid (Wk w wr w.heap.size q (l : Int) A n c lo2 hi2 es lo g xs left x y u7 acc) := hwk
              clear hwk hi hi0 hi1
              have hxl : x < es.length := by rw [HN.out]; exact hx
              have hyl : y < es.length := by rw [HN.out]; exact hy
              obtain ⟨hex, hs256, hb15, hen⟩ := e_get HF.out hxl
              obtain ⟨hey, hs256', _, _⟩ := e_get HF.out hyl
              obtain ⟨d, o, hA, hd1, hd2, hcs⟩ := HWk.out.e.ent (by omega)
              have HCs := Lib.hid hcs
              obtain ⟨k0, k1, k2⟩ := hcs x hxl
              rw [hex] at k0 k1 k2
              simp only at k0 k1 k2
              obtain ⟨b0, b1, bf0, bf1⟩ := box2 HWk.out.s
              obtain ⟨t0, t1, _, _⟩ := box2 HWk.out.t
              rw [hA] at t1
              have HA := Lib.hid hA
              have HEx := Lib.hid hex
              have HEy := Lib.hid hey
              obtain ⟨S1, hS1⟩ : ∃ S1, S1 = eS es x := ⟨_, rfl⟩
              obtain ⟨B1, hB1⟩ : ∃ B1, B1 = eB es x := ⟨_, rfl⟩
              obtain ⟨E1, hE1⟩ : ∃ E1, E1 = eE es x := ⟨_, rfl⟩
              rw [← hS1] at k0 hs256
              rw [← hB1] at k1 hb15 hen
              rw [← hE1] at k2 hen
              have HSx := Lib.hid (And.intro hS1 (And.intro hB1 hE1))
              have hp15 := Nat.two_pow_pos B1
              have hE16 : E1 ≤ 65536 := by omega
              have hxi : (x : Int) < (n : Int) := by omega
              have hyi : (y : Int) < (n : Int) := by omega
              have hql := HWk.out.s.lt
              have hd2' : d < wr.heap.size := by have := HWk.out.k.size; omega
              clear hcs hA hex hey hS1 hB1 hE1
              have hidx := idx_zero (x : Int) (y : Int)
              have hal : acc.length ≤ 1000 := by have := HAl.out; omega
              have HW1 := Lib.hid (HWk.out.below HO.out ((Below.refl wr.heap.size wr).alloc (Nat.le_refl _) (.cells #[.int .u8 (S1 : Int), .int .i64 (B1 : Int), .int .i64 (E1 : Int)] 145)))
              have HX1 := Lib.hid (Box.new wr 145 #[.int .u8 (S1 : Int), .int .i64 (B1 : Int), .int .i64 (E1 : Int)])
              have HA1 := Lib.hid (HW1.out.o.alloc (.cells #[.int .u8 (S1 : Int)] 5))
              have hd1e := datE_one u8cel (wr.alloc (.cells #[.int .u8 (S1 : Int), .int .i64 (B1 : Int), .int .i64 (E1 : Int)] 145)) S1 5 _ rfl
              rw [World.size_alloc] at hd1e
              have HD1 := Lib.hid hd1e
              clear hd1e
              go_wp2_with (at_builtin; refine list_appE u8cel_oneW _ rfl _ _ 22 rfl i0 (.int .u8 0) 1 Try.underlying22 HI.out.1 HI.out.2.1 HI.out.2.2.1 HI.out.2.2.2 rfl (by decide) rfl HA1.out rfl HD1.out rfl ?_ ?_ ?_)
              · first | omega | (simp; omega)
              · first | omega | (simp; omega)
              intro v1 w4 ho1 hg1 hat1
              have HW4 := Lib.hid (HW1.out.push HO.out ho1 hg1)
              have HX4 := Lib.hid ((HX1.out.alloc (.cells #[.int .u8 (S1 : Int)] 5)).grown hg1 (fun e => by have := (HWk.out.o.block _ e.symm).2; omega))
              obtain ⟨A1, n1, c1, rfl⟩ := ho1.slice
              have hq4 := HW4.out.s.lt
              have x1 := HX4.out.cell 1
              simp only [List.getElem?_toArray, List.getElem?_cons_succ, List.getElem?_cons_zero] at x1
              clear ho1 hg1 hat1 HA1 HD1 HW1 HX1 k0 k1 k2 t0 t1 b0 b1 bf0 bf1 hidx
              go_wp2_with fail
              go_quiet ((go_at_call 78; exact quiet_one (left_any (HW4.out.r.drawn _))))
              clear x1
              by_cases hlb : left < (B1 : Int)
              · have HW5 := Lib.hid (HW4.out.drewN nq)
                clear HW4 HX4
                generalize w4.drewN nq = w5 at *
                obtain ⟨d', o', hA', _, _, hcs'⟩ := HW5.out.e.ent (by omega)
                rw [HA.out] at hA'
                injection hA' with hA'
                injection hA' with hA1 hA2 _
                subst hA1 hA2
                obtain ⟨k0, k1, k2⟩ := hcs' y hyl
                rw [HEy.out] at k0 k1 k2
                simp only at k0 k1 k2
                obtain ⟨S2, hS2⟩ : ∃ S2, S2 = eS es y := ⟨_, rfl⟩
                rw [← hS2] at k0 hs256'
                generalize eB es y = B2 at *
                generalize eE es y = E2 at *
                obtain ⟨b0, b1, _, _⟩ := box2 HW5.out.s
                obtain ⟨t0, t1, _, _⟩ := box2 HW5.out.t
                rw [HA.out] at t1
                have HS2 := Lib.hid hS2
                have hql4 := HW5.out.t.lt
                have hq5 := HW5.out.s.lt
                have hd4 : d < w5.heap.size := by have := HW5.out.k.size; omega
                clear hcs' hS2
                go_wp2_with fail
                have HW6 := Lib.hid (HW5.out.below HO.out ((Below.refl w5.heap.size w5).alloc (Nat.le_refl _) (.cells #[.int .u8 (S2 : Int), .int .i64 (B2 : Int), .int .i64 (E2 : Int)] 145)))
                have HA2 : Hid (OwE u8cel (((w5.alloc (.cells #[.int .u8 (S2 : Int), .int .i64 (B2 : Int), .int .i64 (E2 : Int)] 145)).alloc (.cells #[.int .u8 (S2 : Int)] 5)).drew) 5 (q + 1) (.slice A1 n1 c1) (acc ++ [S1])) := HW6.out.o.alloc _
                have hd1e := datE_one u8cel (w5.alloc (.cells #[.int .u8 (S2 : Int), .int .i64 (B2 : Int), .int .i64 (E2 : Int)] 145)) S2 5 _ rfl
                rw [World.size_alloc] at hd1e
                have HD2 : Hid (DatE u8cel (((w5.alloc (.cells #[.int .u8 (S2 : Int), .int .i64 (B2 : Int), .int .i64 (E2 : Int)] 145)).alloc (.cells #[.int .u8 (S2 : Int)] 5)).drew) (w5.heap.size + 1) (w5.heap.size + 1 + 1) (some ⟨w5.heap.size + 1, 0, none⟩) [S2]) := hd1e
                have HG6 : Hid (w.grownBy (((w5.alloc (.cells #[.int .u8 (S2 : Int), .int .i64 (B2 : Int), .int .i64 (E2 : Int)] 145)).alloc (.cells #[.int .u8 (S2 : Int)] 5)).drew) (some g)) := gb_below (gb_alloc HW6.out.k _) (Below.refl _ _).drew
                clear hd1e
                go_region
                all_goals
                  go_wp2_with (at_builtin; refine list_appE u8cel_oneW _ rfl _ _ 22 rfl i0 (.int .u8 0) 1 Try.underlying22 HI.out.1 HI.out.2.1 HI.out.2.2.1 HI.out.2.2.2 rfl (by decide) rfl HA2.out rfl HD2.out rfl ?_ ?_ ?_)
                  · first | omega | (simp; omega)
                  · first | omega | (simp [World.drew]; omega)
                  intro v2 w7 ho2 hg2 hat2
                  have HG7 := Lib.hid (gb_then HG6.out hg2 (fun k hk => by have := (HW5.out.o.block k hk).1; omega))
                  have HO7 := Lib.hid ho2
                  clear ho2 hg2 hat2 HA2 HD2 HG6 HW6
                  go_wp2_with fail
                  try rw [Exit.noGoto_ret]
                  go_ret2
                  refine ⟨HG7.out, .inr ⟨by omega, _, rfl, ?_⟩⟩
                  have e2 : (wlk es xs (2 * gk' + 2) x y left).1 = [eS es x, eS es y] := by
                    rw [show (2 * gk' + 2) = (2 * gk' + 1) + 1 from rfl, wlk_stop (by rw [← HSx.out.2.1]; exact hlb)]
                  have e := HTg.out
                  rw [e2, ← HSx.out.1, ← HS2.out, HTgE.out] at e
                  rw [e]
                  have hO := HO7.out.mono (show w.heap.size ≤ q + 1 by omega)
                  simpa using hO
              · have hlz : ¬ left < (B1 : Int) := hlb
                have HW5 := Lib.hid (HW4.out.drewN nq)
                clear HW4 HX4
                generalize w4.drewN nq = w5 at *
                obtain ⟨t0, t1, _, _⟩ := box2 HW5.out.t
                rw [HA.out] at t1
                have hEd := HW5.out.e
                rw [HA.out] at hEd
                have hh5 : hi2 ≤ w5.heap.size := by have := HO.out.c; have := HW5.out.k.size; omega
                have hexx := HEx.out
                rw [← HSx.out.1, ← HSx.out.2.1, ← HSx.out.2.2] at hexx
                have HNx := Lib.hid (next_any (A := some ⟨d, o, none⟩) (n := n) (c := c) (l : Int) x HW5.out.r (by omega) hEd hh5 HN.out hn2 hx hexx hb15 hE16)
                have hlt3 := bread_lt xs left B1
                have hge3 := bread_stays (xs := xs) hl0 hlb
                have hle3 := (bread_le' xs left (B1 : Int)).1
                generalize hbr : bread xs left (B1 : Int) = tt at HNx hlt3 hge3 hle3
                obtain ⟨X3, left3⟩ := tt
                dsimp only at HNx hlt3 hge3 hle3
                obtain ⟨EX, hEX⟩ : ∃ EX, EX = E1 + X3 := ⟨_, rfl⟩
                rw [← hEX] at HNx
                have hEXn : EX < n := by omega
                have HTn : Hid (Tg = (acc ++ [S1]) ++ (wlk es xs (2 * gk' + 1) y EX left3).1) := by
                  have e2 : (wlk es xs (2 * gk' + 2) x y left).1 = S1 :: (wlk es xs (2 * gk' + 1) y EX left3).1 := by
                    have hb' : bread xs left (eB es x : Int) = (X3, left3) := by rw [← HSx.out.2.1]; exact hbr
                    have hl' : ¬ left < (eB es x : Int) := by rw [← HSx.out.2.1]; exact hlb
                    rw [show (2 * gk' + 2) = (2 * gk' + 1) + 1 from rfl, wlk_go hl' hb', ← HSx.out.1, ← HSx.out.2.2, ← hEX]
                    try rfl
                  have e := HTg.out
                  rw [e2] at e
                  show Tg = _
                  rw [e]
                  simp
                clear hEd hexx hlt3 hbr hEX HTg
                go_wp2_with fail
                refine HNx.out.mono ?_
                rintro e wd ⟨rfl, hbw, hgr⟩
                have HW6 := Lib.hid (HW5.out.next HO.out hbw hgr)
                obtain ⟨b0, b1, bf0, bf1⟩ := box2 HW6.out.s
                clear hbw hgr HNx HW5 t0 t1
                have HW7 := Lib.hid (HW6.out.setA HO.out EX)
                go_wp2_with fail
                go_roundg 1
                case measure => omega
                case rel => exact ⟨1, y, EX, left3, acc ++ [S1], rfl, by omega, hy, hEXn, hge3, by omega, HW7.out, by have := HAl.out; simp; omega, HTn.out, fun h => by omega, fun h => rfl⟩
            · subst hi3
              obtain rfl : gk = 1 := by omega
              obtain rfl := hi1 rfl
              have HWk : Hid (Wk w wr w.heap.size q (l : Int) A n c lo2 hi2 es lo g xs left y x u7 acc) := hwk
              clear hwk hi hi0 hi1
              have hxl : x < es.length := by rw [HN.out]; exact hx
              have hyl : y < es.length := by rw [HN.out]; exact hy
              obtain ⟨hex, hs256, hb15, hen⟩ := e_get HF.out hxl
              obtain ⟨hey, hs256', _, _⟩ := e_get HF.out hyl
              obtain ⟨d, o, hA, hd1, hd2, hcs⟩ := HWk.out.e.ent (by omega)
              have HCs := Lib.hid hcs
              obtain ⟨k0, k1, k2⟩ := hcs x hxl
              rw [hex] at k0 k1 k2
              simp only at k0 k1 k2
              obtain ⟨b0, b1, bf0, bf1⟩ := box2 HWk.out.s
              obtain ⟨t0, t1, _, _⟩ := box2 HWk.out.t
              rw [hA] at t1
              have HA := Lib.hid hA
              have HEx := Lib.hid hex
              have HEy := Lib.hid hey
              obtain ⟨S1, hS1⟩ : ∃ S1, S1 = eS es x := ⟨_, rfl⟩
              obtain ⟨B1, hB1⟩ : ∃ B1, B1 = eB es x := ⟨_, rfl⟩
              obtain ⟨E1, hE1⟩ : ∃ E1, E1 = eE es x := ⟨_, rfl⟩
              rw [← hS1] at k0 hs256
              rw [← hB1] at k1 hb15 hen
              rw [← hE1] at k2 hen
              have HSx := Lib.hid (And.intro hS1 (And.intro hB1 hE1))
              have hp15 := Nat.two_pow_pos B1
              have hE16 : E1 ≤ 65536 := by omega
              have hxi : (x : Int) < (n : Int) := by omega
              have hyi : (y : Int) < (n : Int) := by omega
              have hql := HWk.out.s.lt
              have hd2' : d < wr.heap.size := by have := HWk.out.k.size; omega
              clear hcs hA hex hey hS1 hB1 hE1
              have hidx := idx_one (a : Int) (x : Int)
              have hal : acc.length ≤ 1000 := by have := HAl.out; omega
              have HW1 := Lib.hid (HWk.out.below HO.out ((Below.refl wr.heap.size wr).alloc (Nat.le_refl _) (.cells #[.int .u8 (S1 : Int), .int .i64 (B1 : Int), .int .i64 (E1 : Int)] 145)))
              have HX1 := Lib.hid (Box.new wr 145 #[.int .u8 (S1 : Int), .int .i64 (B1 : Int), .int .i64 (E1 : Int)])
              have HA1 := Lib.hid (HW1.out.o.alloc (.cells #[.int .u8 (S1 : Int)] 5))
              have hd1e := datE_one u8cel (wr.alloc (.cells #[.int .u8 (S1 : Int), .int .i64 (B1 : Int), .int .i64 (E1 : Int)] 145)) S1 5 _ rfl
              rw [World.size_alloc] at hd1e
              have HD1 := Lib.hid hd1e
              clear hd1e
              go_wp2_with (at_builtin; refine list_appE u8cel_oneW _ rfl _ _ 22 rfl i0 (.int .u8 0) 1 Try.underlying22 HI.out.1 HI.out.2.1 HI.out.2.2.1 HI.out.2.2.2 rfl (by decide) rfl HA1.out rfl HD1.out rfl ?_ ?_ ?_)
              · first | omega | (simp; omega)
              · first | omega | (simp; omega)
              intro v1 w4 ho1 hg1 hat1
              have HW4 := Lib.hid (HW1.out.push HO.out ho1 hg1)
              have HX4 := Lib.hid ((HX1.out.alloc (.cells #[.int .u8 (S1 : Int)] 5)).grown hg1 (fun e => by have := (HWk.out.o.block _ e.symm).2; omega))
              obtain ⟨A1, n1, c1, rfl⟩ := ho1.slice
              have hq4 := HW4.out.s.lt
              have x1 := HX4.out.cell 1
              simp only [List.getElem?_toArray, List.getElem?_cons_succ, List.getElem?_cons_zero] at x1
              clear ho1 hg1 hat1 HA1 HD1 HW1 HX1 k0 k1 k2 t0 t1 b0 b1 bf0 bf1 hidx
              go_wp2_with fail
              go_quiet ((go_at_call 78; exact quiet_one (left_any (HW4.out.r.drawn _))))
              clear x1
              by_cases hlb : left < (B1 : Int)
              · have HW5 := Lib.hid (HW4.out.drewN nq)
                clear HW4 HX4
                generalize w4.drewN nq = w5 at *
                obtain ⟨d', o', hA', _, _, hcs'⟩ := HW5.out.e.ent (by omega)
                rw [HA.out] at hA'
                injection hA' with hA'
                injection hA' with hA1 hA2 _
                subst hA1 hA2
                obtain ⟨k0, k1, k2⟩ := hcs' y hyl
                rw [HEy.out] at k0 k1 k2
                simp only at k0 k1 k2
                obtain ⟨S2, hS2⟩ : ∃ S2, S2 = eS es y := ⟨_, rfl⟩
                rw [← hS2] at k0 hs256'
                generalize eB es y = B2 at *
                generalize eE es y = E2 at *
                obtain ⟨b0, b1, _, _⟩ := box2 HW5.out.s
                obtain ⟨t0, t1, _, _⟩ := box2 HW5.out.t
                rw [HA.out] at t1
                have HS2 := Lib.hid hS2
                have hql4 := HW5.out.t.lt
                have hq5 := HW5.out.s.lt
                have hd4 : d < w5.heap.size := by have := HW5.out.k.size; omega
                clear hcs' hS2
                go_wp2_with fail
                have HW6 := Lib.hid (HW5.out.below HO.out ((Below.refl w5.heap.size w5).alloc (Nat.le_refl _) (.cells #[.int .u8 (S2 : Int), .int .i64 (B2 : Int), .int .i64 (E2 : Int)] 145)))
                have HA2 : Hid (OwE u8cel (((w5.alloc (.cells #[.int .u8 (S2 : Int), .int .i64 (B2 : Int), .int .i64 (E2 : Int)] 145)).alloc (.cells #[.int .u8 (S2 : Int)] 5)).drew) 5 (q + 1) (.slice A1 n1 c1) (acc ++ [S1])) := HW6.out.o.alloc _
                have hd1e := datE_one u8cel (w5.alloc (.cells #[.int .u8 (S2 : Int), .int .i64 (B2 : Int), .int .i64 (E2 : Int)] 145)) S2 5 _ rfl
                rw [World.size_alloc] at hd1e
                have HD2 : Hid (DatE u8cel (((w5.alloc (.cells #[.int .u8 (S2 : Int), .int .i64 (B2 : Int), .int .i64 (E2 : Int)] 145)).alloc (.cells #[.int .u8 (S2 : Int)] 5)).drew) (w5.heap.size + 1) (w5.heap.size + 1 + 1) (some ⟨w5.heap.size + 1, 0, none⟩) [S2]) := hd1e
                have HG6 : Hid (w.grownBy (((w5.alloc (.cells #[.int .u8 (S2 : Int), .int .i64 (B2 : Int), .int .i64 (E2 : Int)] 145)).alloc (.cells #[.int .u8 (S2 : Int)] 5)).drew) (some g)) := gb_below (gb_alloc HW6.out.k _) (Below.refl _ _).drew
                clear hd1e
                go_region
                all_goals
                  go_wp2_with (at_builtin; refine list_appE u8cel_oneW _ rfl _ _ 22 rfl i0 (.int .u8 0) 1 Try.underlying22 HI.out.1 HI.out.2.1 HI.out.2.2.1 HI.out.2.2.2 rfl (by decide) rfl HA2.out rfl HD2.out rfl ?_ ?_ ?_)
                  · first | omega | (simp; omega)
                  · first | omega | (simp [World.drew]; omega)
                  intro v2 w7 ho2 hg2 hat2
                  have HG7 := Lib.hid (gb_then HG6.out hg2 (fun k hk => by have := (HW5.out.o.block k hk).1; omega))
                  have HO7 := Lib.hid ho2
                  clear ho2 hg2 hat2 HA2 HD2 HG6 HW6
                  go_wp2_with fail
                  try rw [Exit.noGoto_ret]
                  go_ret2
                  refine ⟨HG7.out, .inr ⟨by omega, _, rfl, ?_⟩⟩
                  have e2 : (wlk es xs (2 * gk' + 1) x y left).1 = [eS es x, eS es y] := by
                    rw [show (2 * gk' + 1) = (2 * gk' + 0) + 1 from rfl, wlk_stop (by rw [← HSx.out.2.1]; exact hlb)]
                  have e := HTg.out
                  rw [e2, ← HSx.out.1, ← HS2.out, HTgE.out] at e
                  rw [e]
                  have hO := HO7.out.mono (show w.heap.size ≤ q + 1 by omega)
                  simpa using hO
              · have hlz : ¬ left < (B1 : Int) := hlb
                have HW5 := Lib.hid (HW4.out.drewN nq)
                clear HW4 HX4
                generalize w4.drewN nq = w5 at *
                obtain ⟨t0, t1, _, _⟩ := box2 HW5.out.t
                rw [HA.out] at t1
                have hEd := HW5.out.e
                rw [HA.out] at hEd
                have hh5 : hi2 ≤ w5.heap.size := by have := HO.out.c; have := HW5.out.k.size; omega
                have hexx := HEx.out
                rw [← HSx.out.1, ← HSx.out.2.1, ← HSx.out.2.2] at hexx
                have HNx := Lib.hid (next_any (A := some ⟨d, o, none⟩) (n := n) (c := c) (l : Int) x HW5.out.r (by omega) hEd hh5 HN.out hn2 hx hexx hb15 hE16)
                have hlt3 := bread_lt xs left B1
                have hge3 := bread_stays (xs := xs) hl0 hlb
                have hle3 := (bread_le' xs left (B1 : Int)).1
                generalize hbr : bread xs left (B1 : Int) = tt at HNx hlt3 hge3 hle3
                obtain ⟨X3, left3⟩ := tt
                dsimp only at HNx hlt3 hge3 hle3
                obtain ⟨EX, hEX⟩ : ∃ EX, EX = E1 + X3 := ⟨_, rfl⟩
                rw [← hEX] at HNx
                have hEXn : EX < n := by omega
                have HTn : Hid (Tg = (acc ++ [S1]) ++ (wlk es xs (2 * gk' + 0) y EX left3).1) := by
                  have e2 : (wlk es xs (2 * gk' + 1) x y left).1 = S1 :: (wlk es xs (2 * gk' + 0) y EX left3).1 := by
                    have hb' : bread xs left (eB es x : Int) = (X3, left3) := by rw [← HSx.out.2.1]; exact hbr
                    have hl' : ¬ left < (eB es x : Int) := by rw [← HSx.out.2.1]; exact hlb
                    rw [show (2 * gk' + 1) = (2 * gk' + 0) + 1 from rfl, wlk_go hl' hb', ← HSx.out.1, ← HSx.out.2.2, ← hEX]
                    try rfl
                  have e := HTg.out
                  rw [e2] at e
                  show Tg = _
                  rw [e]
                  simp
                clear hEd hexx hlt3 hbr hEX HTg
                go_wp2_with fail
                refine HNx.out.mono ?_
                rintro e wd ⟨rfl, hbw, hgr⟩
                have HW6 := Lib.hid (HW5.out.next HO.out hbw hgr)
                obtain ⟨b0, b1, bf0, bf1⟩ := box2 HW6.out.s
                clear hbw hgr HNx HW5 t0 t1
                have HW7 := Lib.hid (HW6.out.setB HO.out EX)
                go_wp2_with fail
                go_roundg 0
                case measure => omega
                case rel => exact ⟨2, y, EX, left3, acc ++ [S1], rfl, by omega, hy, hEXn, hge3, by omega, HW7.out, by have := HAl.out; simp; omega, HTn.out, fun h => by omega, fun h => by omega⟩
            · subst hi3
              obtain rfl : gk = 0 := by omega
              have HWk : Hid (Wk w wr w.heap.size q (l : Int) A n c lo2 hi2 es lo g xs left x y u7 acc) := hwk
              clear hwk hi hi0 hi1
              go_wp2_with fail
              go_roundg gk'
              case measure => omega
              case rel => exact ⟨t + 1, x, y, left, acc, by go_num, by have := HT.out; omega, hx, hy, hl0, hlm, HWk.out, by rw [HAl.out]; omega, HTg.out⟩
        · obtain rfl : t = 128 := by omega
          obtain rfl : gk = 0 := by have := HT.out; omega
          have hTg := HTg.out
          rw [show (wlk es xs (2 * 0) a b left).1 = [] from rfl, List.append_nil] at hTg
          rw [HTgE.out] at hTg
          have HTg2 := Lib.hid hTg
          clear hTg
          go_wp2_with fail
          try rw [Exit.noGoto_ret]
          go_ret2
          exact ⟨HWk.out.k, .inr ⟨by omega, _, rfl, by rw [HTg2.out]; exact HWk.out.o.mono (by omega)⟩⟩
end
end Go.Proofs.Ytafdfjacfodbnaa
