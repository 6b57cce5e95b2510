/- CursorReads holds: for every slice of bytes and every script the law returns true, and both read behind the call as they read before. No condition. -/
import Derived.Test.YtppjilfhpiknbaaCurActs
import Derived.Deep.RegionWith
import Derived.Deep.RegionHeld3
import Derived.Deep.LoopGhost
import Derived.Deep.CutRange
import Derived.Deep.DeepCutAuto
import Derived.Deep.QuietTactic
import Derived.BigQuiet
namespace Go.Proofs.Ytppjilfhpiknbaa.cursorReads
open Go.ChangeShapes Go.WideShapes Go.ChangeAt Go.RowKit Go.Deep

theorem own : ownKnob Try.prog.godebug = none := by kernel_rfl
theorem laidOut : laidOutB Try.prog = true := by kernel_rfl

/-- Where the loop stands: the reader and the document's reader hold the same. -/
def Inv (w wr : World) (lo g bw : Nat) (xs : List UInt8) (e : Int) : Prop :=
  RD true wr lo g xs e ∧ Box wr bw 29 #[.string (str xs), .int .i64 e] ∧ Below w.heap.size w wr

/-- What the document's call leaves: its reader in a new block, where that block came behind the call. -/
theorem left_behind {w3 w4 : World} {u0 u1 : Value} {y y' : Value} (hy : y = y') (hB : Below w3.drew.heap.size w3.drew w4) :
    ∃ bv : Nat, Value.pointer (some ⟨w4.heap.size, 0, none⟩) = .pointer (some ⟨bv, 0, none⟩) ∧ y = y' ∧ w3.heap.size ≤ bv ∧ Box (w4.alloc (.cells #[u0, u1] 29)) bv 29 #[u0, u1] ∧ Below w3.heap.size w3 (w4.alloc (.cells #[u0, u1] 29)) := by
  have hB' : Below w3.heap.size w3 w4 := ((Below.refl _ _).drew).trans hB
  exact ⟨_, rfl, hy, hB'.size, Box.new _ _ _, hB'.alloc hB'.size _⟩
/-- The same, where that block was there ahead of the call. -/
theorem left_ahead {w3 w4 : World} {z0 z1 u0 u1 : Value} {y y' : Value} (hy : y = y') (hB : Below (w3.alloc (.cells #[z0, z1] 29)).drew.heap.size (w3.alloc (.cells #[z0, z1] 29)).drew w4) :
    ∃ bv : Nat, Value.pointer (some ⟨w3.heap.size, 0, none⟩) = .pointer (some ⟨bv, 0, none⟩) ∧ y = y' ∧ w3.heap.size ≤ bv ∧ Box ((w4.setCell ⟨w3.heap.size, 0, none⟩ u0).setCell ⟨w3.heap.size, 1, none⟩ u1) bv 29 #[u0, u1] ∧
      Below w3.heap.size w3 ((w4.setCell ⟨w3.heap.size, 0, none⟩ u0).setCell ⟨w3.heap.size, 1, none⟩ u1) := by
  have hb : Box w4 w3.heap.size 29 #[z0, z1] := Box.below (w := (w3.alloc (.cells #[z0, z1] 29)).drew) (Box.new w3 _ _) hB (by simp [World.drew])
  have hB' : Below w3.heap.size w3 w4 := (((Below.refl _ _).alloc (Nat.le_refl _) _).drew).trans (hB.mono (by simp [World.drew]))
  exact ⟨_, rfl, hy, Nat.le_refl _, (hb.put 0 u0).put 1 u1, (hB'.setCell (Nat.le_refl _) _).setCell (Nat.le_refl _) _⟩

theorem inv_drew {w wc w5 : World} {lo g bw : Nat} {ys : List UInt8} {e : Int} {S : ByteArray} (hS : S = str ys) (h : RD true wc lo g ys e ∧ Box wc bw 29 #[.string S, .int .i64 e] ∧ Below w.heap.size w wc) (hB : Below wc.drew.heap.size wc.drew w5) (hbc : bw < wc.heap.size) :
    Inv w w5 lo g bw ys e := by
  subst hS
  have hB' : Below wc.heap.size wc w5 := ((Below.refl _ _).drew).trans hB
  exact ⟨h.1.below hB' h.1.lt, h.2.1.below hB' hbc, h.2.2.trans (hB'.mono h.2.2.size)⟩

set_option maxRecDepth 100000 in
set_option maxHeartbeats 2000000 in
theorem walk_body (a0 : Option Addr) (xs0 : List UInt8) (cap0 : Nat) (a1 : Option Addr) (rs : List Rec) (cap1 : Nat) (w : World) (hd : Dat false w 0 w.heap.size a0 xs0) (hr : Acts w a1 rs) (hx : xs0.length ≤ 2000) (hm : rs.length ≤ maxLen) :
    Calls Try.prog 3 #[.slice a0 xs0.length cap0, .slice a1 rs.length cap1] w fun e w' => e = .returned (.bool true) ∧ Below w.heap.size w w' := by
  unfold maxLen at hm
  have HD := Lib.hid hd
  have HA := Lib.hid hr
  clear hd hr
  have hq : decide (2000 < (xs0.length : Int)) = false := decide_eq_false (by omega)
  go_enter Try.func3, Try.ntmps3
  go_wp2_with fail
  refine (awake_any _).mono ?_
  rintro e w1 ⟨rfl, hB⟩
  have HB1 := Lib.hid hB
  have hs1 := hB.size
  clear hB
  go_wp2_with fail
  refine (reader_any (HD.out.below HB1.out (Nat.le_refl _)) rfl (by omega) hs1).mono ?_
  rintro e w2 ⟨g, rfl, hg, hr, hB⟩
  have HR2 := Lib.hid hr
  have HB2 := Lib.hid (HB1.out.trans (hB.mono hs1))
  have hs2 := hB.size
  have hg2 := hr.lt
  have hcv := run_str (P := Try.prog) w2 22 Try.underlying22 Try.underlying5 (c := cap0) (HD.out.below HB2.out (Nat.le_refl _)) rfl 9 Try.underlying9
  clear hr hB
  go_wp2_with fail
  have HI : Hid (Inv w ((w2.alloc (.cells #[.string (str xs0), .int .i64 0] 29))) w1.heap.size g w2.heap.size xs0 0) := ⟨HR2.out.alloc _, Box.new _ _ _, HB2.out.alloc (HB2.out.size) _⟩
  have hbw : w.heap.size ≤ w2.heap.size := by omega
  have hg2' : g ≤ w2.heap.size := by omega
  clear hcv
  go_loopg [8] 60 (fun gh i wr => ∃ (k : Nat) (xs : List UInt8) (e : Int), k ≤ rs.length ∧ gh + k = 60 ∧ i = .int .i64 k ∧ Inv w wr w1.heap.size g w2.heap.size xs e)
  case atStart => exact ⟨0, xs0, 0, Nat.zero_le _, rfl, rfl, HI.out⟩
  case round =>
    obtain ⟨k, xs, e, hk, hgk, rfl, hi⟩ := hrel
    have HK := Lib.hid hgk
    have hk60 : k ≤ 60 := by omega
    clear hgk
    obtain ⟨hrd, hbx, hB⟩ := hi
    have HR := Lib.hid hrd
    have HX := Lib.hid hbx
    have HB := Lib.hid hB
    have hsz := hB.size
    have hbl := hbx.lt
    have hgl := hrd.lt
    clear hrd hbx hB
    by_cases hlt : k < rs.length
    · by_cases h60 : k < 60
      · have d1 : decide ((k : Int) < (rs.length : Int)) = true := decide_eq_true (by omega)
        have d2 : decide ((k : Int) < 60) = true := decide_eq_true (by omega)
        obtain ⟨b, o, rfl, hbl1, hcs⟩ := HA.out (by omega)
        have hrec := (hcs k hlt).below HB.out hbl1
        obtain ⟨r, hr⟩ : ∃ r, r = rs[k] := ⟨_, rfl⟩
        rw [← hr] at hrec
        obtain ⟨num, n, x, A, c, bs⟩ := r
        have q0 := hrec.c0
        have q1 := hrec.c1
        clear hcs hrec hr
        dsimp only at q0 q1
        have HS := Lib.hid hsz
        go_upto_if 40 with fail
        go_cut [9, 10, 11, 12, 13, 14] (fun _ _ _ _ _ _ wx => ∃ (ys : List UInt8) (e2 : Int), Inv w wx w1.heap.size g w2.heap.size ys e2 ∧ w2.heap.size < wx.heap.size)
        case first =>
          cases num with
          | true =>
            go_wp2_with fail
            refine (number_any HR.out).mono ?_
            rintro e' w3 ⟨rfl, hrd, hs⟩
            have hs3 : wr.heap.size ≤ w3.heap.size := Nat.le_of_eq hs.2.symm
            have hx3 := HX.out.grown hs.1 (by intro h; injection h with h; omega)
            have p0 : w3.cell? ⟨w2.heap.size, 0, none⟩ = some (.string (str xs)) := hx3.cell 0
            have p1 : w3.cell? ⟨w2.heap.size, 1, none⟩ = some (.int .i64 e) := hx3.cell 1
            have pf0 := hx3.free 0
            have pf1 := hx3.free 1
            have q3 : w3.cell? ⟨b, o + k * 4 + 1, none⟩ = some (.int .i64 n) := (World.cell?_of_block (a := ⟨b, o + k * 4 + 1, none⟩) (hs.1.block b (by omega) (by intro h; injection h with h; omega))).trans q1
            have HB3 := Lib.hid (HB.out.grown hs.1 (by omega) (by intro k hk; injection hk with hk; omega))
            have HR3 := Lib.hid hrd
            have HX3 := Lib.hid hx3
            have hbl3 := hx3.lt
            have hgl3 := hrd.lt
            have hb3 : b < w3.heap.size := by omega
            clear hrd hs hx3 q0 q1
            have hN := fun W => refNumber_any xs e n W
            have HN := Lib.hid hN
            clear hN
            generalize tk xs e n (wid n) = t at *
            obtain ⟨ys, e2, out⟩ := t
            dsimp only at *
            go_upto_region 13 with fail
            go_cut [10, 11] (fun v y wx => ∃ bv : Nat, v = .pointer (some ⟨bv, 0, none⟩) ∧ y = .int .u64 (le out : Nat) ∧ w3.heap.size ≤ bv ∧ Box wx bv 29 #[.string (str ys), .int .i64 e2] ∧ Below w3.heap.size w3 wx)
            case first =>
              go_region_with (go_at_call 11; refine (HN.out _).mono ?_; rintro e' w4 ⟨rfl, hB4⟩; have z0 := hB4.cell (p := ⟨w3.heap.size, 0, none⟩); have z1 := hB4.cell (p := ⟨w3.heap.size, 1, none⟩); have y0 := hB4.frozen (p := ⟨w3.heap.size, 0, none⟩); have y1 := hB4.frozen (p := ⟨w3.heap.size, 1, none⟩); have zs := hB4.size; simp at z0 z1 y0 y1 zs; have HB4 := Lib.hid hB4; clear hB4)
              all_goals go_wp2_with fail
              all_goals go_meet
              all_goals first | exact left_behind rfl HB4.out | exact left_ahead rfl HB4.out
            case rest =>
              obtain ⟨bv, rfl, rfl, hbv, hbxv, hBv⟩ := hcut
              have v0 : wc.cell? ⟨bv, 0, none⟩ = some (.string (str ys)) := hbxv.cell 0
              have v1 : wc.cell? ⟨bv, 1, none⟩ = some (.int .i64 e2) := hbxv.cell 1
              have hxc := HX3.out.below hBv hbl3
              have t0 : wc.cell? ⟨w2.heap.size, 0, none⟩ = some (.string (str xs)) := hxc.cell 0
              have t1 : wc.cell? ⟨w2.heap.size, 1, none⟩ = some (.int .i64 e) := hxc.cell 1
              have tf0 := hxc.free 0
              have tf1 := hxc.free 1
              have hrc := HR3.out.below hBv hgl3
              have hxn : Box ((wc.setCell ⟨w2.heap.size, 0, none⟩ (.string (str ys))).setCell ⟨w2.heap.size, 1, none⟩ (.int .i64 e2)) w2.heap.size 29 #[.string (str ys), .int .i64 e2] := (hxc.put 0 _).put 1 _
              have hrn : RD true ((wc.setCell ⟨w2.heap.size, 0, none⟩ (.string (str ys))).setCell ⟨w2.heap.size, 1, none⟩ (.int .i64 e2)) w1.heap.size g ys e2 := (hrc.far (.inr hg2) hg _).far (.inr hg2) hg _
              have HBn := Lib.hid (((HB3.out.trans (hBv.mono (by omega))).setCell (p := ⟨w2.heap.size, 0, none⟩) hbw (.string (str ys))).setCell (p := ⟨w2.heap.size, 1, none⟩) hbw (.int .i64 e2))
              have HXn := Lib.hid hxn
              have HRn := Lib.hid hrn
              clear p0 p1 pf0 pf1 q3 hbxv hxc hrc hxn hrn hBv
              go_wp2_with fail
              go_meet
              exact ⟨ys, e2, ⟨HRn.out, HXn.out, HBn.out⟩, HXn.out.lt⟩
          | false =>
            go_wp2_with fail
            refine (bytes_any HR.out).mono ?_
            rintro e' w3 ⟨v, rfl, hv, hrd, hs⟩
            obtain ⟨Av, cv, rfl, _, hdv⟩ := hv
            have HV := Lib.hid hdv
            clear hdv
            have hs3 : wr.heap.size ≤ w3.heap.size := Nat.le_of_eq hs.2.symm
            have hx3 := HX.out.grown hs.1 (by intro h; injection h with h; omega)
            have p0 : w3.cell? ⟨w2.heap.size, 0, none⟩ = some (.string (str xs)) := hx3.cell 0
            have p1 : w3.cell? ⟨w2.heap.size, 1, none⟩ = some (.int .i64 e) := hx3.cell 1
            have pf0 := hx3.free 0
            have pf1 := hx3.free 1
            have q3 : w3.cell? ⟨b, o + k * 4 + 1, none⟩ = some (.int .i64 n) := (World.cell?_of_block (a := ⟨b, o + k * 4 + 1, none⟩) (hs.1.block b (by omega) (by intro h; injection h with h; omega))).trans q1
            have HB3 := Lib.hid (HB.out.grown hs.1 (by omega) (by intro k hk; injection hk with hk; omega))
            have HR3 := Lib.hid hrd
            have HX3 := Lib.hid hx3
            have hbl3 := hx3.lt
            have hgl3 := hrd.lt
            have hb3 : b < w3.heap.size := by omega
            clear hrd hs hx3 q0 q1
            have hN := fun W => refTake_any xs e n W
            have HN := Lib.hid hN
            clear hN
            generalize tk xs e n (decide (0 ≤ n)) = t at *
            obtain ⟨ys, e2, out⟩ := t
            dsimp only at *
            go_upto_region 18 with fail
            go_cut [13, 14] (fun v y wx => ∃ bv : Nat, v = .pointer (some ⟨bv, 0, none⟩) ∧ y = .string (str out) ∧ w3.heap.size ≤ bv ∧ Box wx bv 29 #[.string (str ys), .int .i64 e2] ∧ Below w3.heap.size w3 wx)
            case first =>
              go_region_with (go_at_call 13; refine (HN.out _).mono ?_; rintro e' w4 ⟨rfl, hB4⟩; have z0 := hB4.cell (p := ⟨w3.heap.size, 0, none⟩); have z1 := hB4.cell (p := ⟨w3.heap.size, 1, none⟩); have y0 := hB4.frozen (p := ⟨w3.heap.size, 0, none⟩); have y1 := hB4.frozen (p := ⟨w3.heap.size, 1, none⟩); have zs := hB4.size; simp at z0 z1 y0 y1 zs; have HB4 := Lib.hid hB4; clear hB4)
              all_goals go_wp2_with fail
              all_goals go_meet
              all_goals first | exact left_behind rfl HB4.out | exact left_ahead rfl HB4.out
            case rest =>
              obtain ⟨bv, rfl, rfl, hbv, hbxv, hBv⟩ := hcut
              have v0 : wc.cell? ⟨bv, 0, none⟩ = some (.string (str ys)) := hbxv.cell 0
              have v1 : wc.cell? ⟨bv, 1, none⟩ = some (.int .i64 e2) := hbxv.cell 1
              have hxc := HX3.out.below hBv hbl3
              have t0 : wc.cell? ⟨w2.heap.size, 0, none⟩ = some (.string (str xs)) := hxc.cell 0
              have t1 : wc.cell? ⟨w2.heap.size, 1, none⟩ = some (.int .i64 e) := hxc.cell 1
              have tf0 := hxc.free 0
              have tf1 := hxc.free 1
              have hrc := HR3.out.below hBv hgl3
              have hxn : Box ((wc.setCell ⟨w2.heap.size, 0, none⟩ (.string (str ys))).setCell ⟨w2.heap.size, 1, none⟩ (.int .i64 e2)) w2.heap.size 29 #[.string (str ys), .int .i64 e2] := (hxc.put 0 _).put 1 _
              have hrn : RD true ((wc.setCell ⟨w2.heap.size, 0, none⟩ (.string (str ys))).setCell ⟨w2.heap.size, 1, none⟩ (.int .i64 e2)) w1.heap.size g ys e2 := (hrc.far (.inr hg2) hg _).far (.inr hg2) hg _
              have HBn := Lib.hid (((HB3.out.trans (hBv.mono (by omega))).setCell (p := ⟨w2.heap.size, 0, none⟩) hbw (.string (str ys))).setCell (p := ⟨w2.heap.size, 1, none⟩) hbw (.int .i64 e2))
              have HXn := Lib.hid hxn
              have HRn := Lib.hid hrn
              have hdn := ((HV.out.below hBv (by omega)).far (p := ⟨w2.heap.size, 0, none⟩) (.inr hg2') (.string (str ys))).far (p := ⟨w2.heap.size, 1, none⟩) (.inr hg2') (.int .i64 e2)
              have hcv := run_str (P := Try.prog) _ 22 Try.underlying22 Try.underlying5 (c := cv) hdn rfl 9 Try.underlying9
              clear hdn
              clear p0 p1 pf0 pf1 q3 hbxv hxc hrc hxn hrn hBv
              go_wp2_with fail
              go_meet
              exact ⟨ys, e2, ⟨HRn.out, HXn.out, HBn.out⟩, HXn.out.lt⟩
        case rest =>
          obtain ⟨ys, e2, ⟨hrd, hbx, hB⟩, hbc⟩ := hcut
          have HSz := str_size ys
          have t0 : wc.cell? ⟨w2.heap.size, 0, none⟩ = some (.string (str ys)) := hbx.cell 0
          have t1 : wc.cell? ⟨w2.heap.size, 1, none⟩ = some (.int .i64 e2) := hbx.cell 1
          have HIn := Lib.hid (show RD true wc w1.heap.size g ys e2 ∧ Box wc w2.heap.size 29 #[.string (str ys), .int .i64 e2] ∧ Below w.heap.size w wc from ⟨hrd, hbx, hB⟩)
          have HBc := Lib.hid hB
          have HRd := Lib.hid (show RD true wc.drew w1.heap.size g ys e2 from hrd)
          have hE := fun W => refEnd_any (str ys) e2 W
          rw [HSz] at hE
          have HE := Lib.hid hE
          clear hrd hbx hB hE
          obtain ⟨S, hSt⟩ : ∃ S, S = str ys := ⟨_, rfl⟩
          rw [← hSt] at t0 HIn HE HSz
          have HSt := Lib.hid hSt
          clear hSt
          have d3 : ((ys.length : Int) != (S.size : Int)) = false := by rw [HSz]; simp
          clear HSz
          clear q0 q1 hbl hgl hsz
          go_upto_region 22 with fail
          go_region_held3 (fun w' => w'.cell? ⟨w2.heap.size, 0, none⟩ = some (.string S) ∧ w'.cell? ⟨w2.heap.size, 1, none⟩ = some (.int .i64 e2)) (go_keep) (first | (go_at_call 14; refine (rd_err HRd.out).mono ?_; rintro e' w' ⟨rfl, rfl⟩) | (go_at_call 15; refine (rd_left HRd.out).mono ?_; rintro e' w' ⟨rfl, rfl⟩) | (go_at_call 16; refine (rd_end HRd.out).mono ?_; rintro e' w' ⟨rfl, rfl⟩) | (go_at_call 17; refine (HE.out _).mono ?_; rintro e' w5 ⟨rfl, hB5⟩; have s0 : w5.cell? ⟨w2.heap.size, 0, none⟩ = some (.string S) := (hB5.cell (p := ⟨w2.heap.size, 0, none⟩) (by exact hbc)).trans t0; have s1 : w5.cell? ⟨w2.heap.size, 1, none⟩ = some (.int .i64 e2) := (hB5.cell (p := ⟨w2.heap.size, 1, none⟩) (by exact hbc)).trans t1; have HB5 := Lib.hid hB5; clear hB5))
          all_goals
            go_wp2_with fail
            go_roundg (60 - (k + 1))
            case measure => have := HK.out; omega
            case rel =>
              refine ⟨k + 1, ys, e2, by omega, by omega, by go_num, ?_⟩
              exact inv_drew HSt.out HIn.out HB5.out hbc
      · go_wp2_with fail
        go_ret
        exact ⟨rfl, HB.out⟩
    · go_wp2_with fail
      go_ret
      exact ⟨rfl, HB.out⟩
end Go.Proofs.Ytppjilfhpiknbaa.cursorReads
