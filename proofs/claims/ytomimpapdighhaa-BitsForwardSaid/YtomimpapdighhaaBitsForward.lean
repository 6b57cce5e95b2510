/- BitsForward holds: for every slice of bytes and every slice of ints the law returns true, and both read behind the call as they read before. No condition. -/
import Derived.Test.YtomimpapdighhaaBitAwake
import Derived.Test.YtomimpapdighhaaBitRefF
import Derived.Test.YtomimpapdighhaaArgsInts
import Derived.Deep.RegionWith
import Derived.Deep.RegionHeld3
import Derived.Deep.LoopGhost
import Derived.Deep.CutRange
import Derived.Deep.DeepCutAuto
import Derived.Deep.QuietTactic
import Derived.BigQuiet
namespace Go.Proofs.Ytomimpapdighhaa.bitsForward
open Go.ChangeShapes Go.WideShapes Go.ChangeAt Go.RowKit

/-- Where the loop stands: the Forward and the document's one stand at the same bit of the same bits. -/
def Inv (w wr : World) (lo g mid bw : Nat) (A : Option Addr) (c : Nat) (xs : List UInt8) (at_ : Nat) : Prop :=
  FW wr lo g xs at_ ∧ Box wr bw 30 #[.slice A (8 * xs.length) c, .int .i64 (at_ : Int)] ∧ DatE Value.bool wr mid bw A (bitsOf xs) ∧ Below w.heap.size w wr

theorem Inv.below {w wr wx : World} {lo g mid bw c at_ : Nat} {A : Option Addr} {xs : List UInt8} (h : Inv w wr lo g mid bw A c xs at_) (hB : Below wr.heap.size wr wx) (hg : g < bw) (hw : w.heap.size ≤ wr.heap.size) : Inv w wx lo g mid bw A c xs at_ :=
  ⟨h.1.below hB (by have := h.2.1.lt; omega), h.2.1.below hB h.2.1.lt, h.2.2.1.below hB (by have := h.2.1.lt; omega), h.2.2.2.trans (hB.mono hw)⟩
/-- The Forward has gone on. -/
theorem Inv.step {w wr wx : World} {lo g mid bw c at_ at2 : Nat} {A : Option Addr} {xs : List UInt8} (h : Inv w wr lo g mid bw A c xs at_) (hs : Stp wr wx g) (hf : FW wx lo g xs at2) (hg : g < mid) (hm : mid ≤ bw) (hw : w.heap.size ≤ wr.heap.size) (hgw : w.heap.size ≤ g) :
    FW wx lo g xs at2 ∧ Box wx bw 30 #[.slice A (8 * xs.length) c, .int .i64 (at_ : Int)] ∧ DatE Value.bool wx mid bw A (bitsOf xs) ∧ Below w.heap.size w wx :=
  ⟨hf, h.2.1.grown hs.1 (by intro e; injection e with e; omega), h.2.2.1.keep fun k h1 h2 => hs.1.block k (by have := h.2.1.lt; omega) (by intro e; injection e with e; omega), h.2.2.2.trans (hs.below hw hgw)⟩
/-- So has the document's. -/
theorem Inv.put {w wr : World} {lo g mid bw c at_ at2 : Nat} {A : Option Addr} {xs : List UInt8} (h : FW wr lo g xs at2 ∧ Box wr bw 30 #[.slice A (8 * xs.length) c, .int .i64 (at_ : Int)] ∧ DatE Value.bool wr mid bw A (bitsOf xs) ∧ Below w.heap.size w wr) (hg : g < bw) (hw : w.heap.size ≤ bw) :
    Inv w ((wr.setCell ⟨bw, 0, none⟩ (.slice A (8 * xs.length) c)).setCell ⟨bw, 1, none⟩ (.int .i64 (at2 : Int))) lo g mid bw A c xs at2 := by
  obtain ⟨h1, h2, h3, h4⟩ := h
  refine ⟨h1.keep fun k hl hk => ?_, (h2.put 0 _).put 1 _, (h3.far (.inr (Nat.le_refl _)) _).far (.inr (Nat.le_refl _)) _, (h4.setCell hw _).setCell hw _⟩
  rw [Below.heap_setCell _ _ _ k (by show k ≠ bw; omega), Below.heap_setCell _ _ _ k (by show k ≠ bw; omega)]
theorem inv_drew {w wr wx : World} {lo g mid bw c at_ : Nat} {A : Option Addr} {xs : List UInt8} (h : Inv w wr lo g mid bw A c xs at_) (hB : Below wr.drew.heap.size wr.drew wx) (hg : g < bw) (hw : w.heap.size ≤ wr.heap.size) : Inv w wx lo g mid bw A c xs at_ :=
  h.below (((Below.refl _ _).drew).trans hB) hg hw

/-- What the document's call leaves: its state in a new block, where that block came behind the call. -/
theorem left_behind {w3 w4 : World} {u0 u1 : Value} {y y' z z' : Value} (hy : y = y') (hz : z = z') (hB : Below w3.drew.heap.size w3.drew w4) :
    ∃ bv : Nat, Value.pointer (some ⟨w4.heap.size, 0, none⟩) = .pointer (some ⟨bv, 0, none⟩) ∧ y = y' ∧ z = z' ∧ w3.heap.size ≤ bv ∧ Box (w4.alloc (.cells #[u0, u1] 30)) bv 30 #[u0, u1] ∧ Below w3.heap.size w3 (w4.alloc (.cells #[u0, u1] 30)) := by
  have hB' : Below w3.heap.size w3 w4 := ((Below.refl _ _).drew).trans hB
  exact ⟨_, rfl, hy, hz, hB'.size, Box.new _ _ _, hB'.alloc hB'.size _⟩
/-- The same, where that block was there ahead of the call. -/
theorem left_ahead {w3 w4 : World} {z0 z1 u0 u1 : Value} {y y' z z' : Value} (hy : y = y') (hz : z = z') (hB : Below (w3.alloc (.cells #[z0, z1] 30)).drew.heap.size (w3.alloc (.cells #[z0, z1] 30)).drew w4) :
    ∃ bv : Nat, Value.pointer (some ⟨w3.heap.size, 0, none⟩) = .pointer (some ⟨bv, 0, none⟩) ∧ y = y' ∧ z = z' ∧ w3.heap.size ≤ bv ∧ Box ((w4.setCell ⟨w3.heap.size, 0, none⟩ u0).setCell ⟨w3.heap.size, 1, none⟩ u1) bv 30 #[u0, u1] ∧
      Below w3.heap.size w3 ((w4.setCell ⟨w3.heap.size, 0, none⟩ u0).setCell ⟨w3.heap.size, 1, none⟩ u1) := by
  have hb : Box w4 w3.heap.size 30 #[z0, z1] := Box.below (w := (w3.alloc (.cells #[z0, z1] 30)).drew) (Box.new w3 _ _) hB (by simp [World.drew])
  have hB' : Below w3.heap.size w3 w4 := (((Below.refl _ _).alloc (Nat.le_refl _) _).drew).trans (hB.mono (by simp [World.drew]))
  exact ⟨_, rfl, hy, hz, Nat.le_refl _, (hb.put 0 u0).put 1 u1, (hB'.setCell (Nat.le_refl _) _).setCell (Nat.le_refl _) _⟩

set_option maxRecDepth 100000 in
set_option maxHeartbeats 2000000 in
theorem walk_body (a0 : Option Addr) (xs : List UInt8) (cap0 : Nat) (a1 : Option Addr) (ns : List Int) (cap1 : Nat) (w : World) (hd : Dat false w 0 w.heap.size a0 xs) (hr : DatE icel w 0 w.heap.size a1 ns) (hx : xs.length ≤ 300) (hm : ns.length ≤ maxLen)
    (hns : ∀ n ∈ ns, -9223372036854775808 ≤ n ∧ n ≤ 9223372036854775807) :
    Calls Try.prog 3 #[.slice a0 xs.length cap0, .slice a1 ns.length cap1] w fun e w' => e = .returned (.bool true) ∧ Below w.heap.size w w' := by
  unfold maxLen at hm
  have HD := Lib.hid hd
  have HA := Lib.hid hr
  have HNS := Lib.hid hns
  clear hd hr hns
  have hq : decide (300 < (xs.length : Int)) = false := decide_eq_false (by omega)
  go_enter Try.func3, Try.ntmps3
  go_wp2_with fail
  refine (awake_any _).mono ?_
  rintro e w1 ⟨rfl, hB⟩
  have HB1 := Lib.hid hB
  have hs1 := hB.size
  clear hB
  go_wp2_with fail
  refine (newForward_any (HD.out.below HB1.out (Nat.le_refl _)) rfl (by omega) hs1).mono ?_
  rintro e w2 ⟨g, rfl, hr, hB⟩
  have hg0 := hr.1
  have HR2 := Lib.hid hr
  have HB2 := Lib.hid (HB1.out.trans (hB.mono hs1))
  have hs2 := hB.size
  have hg2 := hr.lt
  have hcv := run_str (P := Try.prog) w2 22 Try.underlying22 Try.underlying5 (c := cap0) (HD.out.below HB2.out (Nat.le_refl _)) rfl 9 Try.underlying9
  have HSz : Hid ((str xs).size ≤ 100000000) := by show (str xs).size ≤ _; simp [str, ByteArray.size]; omega
  have HSl : Hid ((str xs).data.toList = xs) := by show (str xs).data.toList = xs; simp [str]
  clear hr hB
  go_wp2_with fail
  refine (refBits_any _ _ HSz.out).mono ?_
  rintro e w3 ⟨v3, rfl, ho, hB⟩
  rw [HSl.out] at ho
  obtain ⟨A, c, rfl, hc, hdb⟩ := ho.form
  rw [bitsOf_length] at hc
  have hs3 := hB.size
  have HB3 := Lib.hid (HB2.out.trans (hB.mono HB2.out.size))
  have HR3 := Lib.hid (HR2.out.below hB hg2)
  have HDb := Lib.hid hdb
  have hlenb := bitsOf_length xs
  rw [hlenb]
  clear ho hB hdb hcv hlenb
  go_wp2_with fail
  have HI : Hid (Inv w (w3.alloc (.cells #[.slice A (8 * xs.length) c, .int .i64 0] 30)) w1.heap.size g w2.heap.size w3.heap.size A c xs 0) :=
    ⟨HR3.out.keep fun k _ hk => Below.heap_alloc _ _ k (by omega), Box.new _ _ _, HDb.out.alloc (Nat.le_refl _) _, HB3.out.alloc HB3.out.size _⟩
  have hgb : g < w3.heap.size := by omega
  have hwb : w.heap.size ≤ w3.heap.size := by omega
  have hgw : w.heap.size ≤ g := by omega
  go_loopg [8] 60 (fun gh i wr => ∃ (k : Nat) (at_ : Nat), k ≤ ns.length ∧ gh + k = 60 ∧ i = .int .i64 k ∧ Inv w wr w1.heap.size g w2.heap.size w3.heap.size A c xs at_)
  case atStart => exact ⟨0, 0, Nat.zero_le _, rfl, rfl, HI.out⟩
  case round =>
    obtain ⟨k, at_, hk, hgk, rfl, hi⟩ := hrel
    have HK := Lib.hid hgk
    have hk60 : k ≤ 60 := by omega
    have hat : at_ ≤ 8 * xs.length := hi.1.2.1
    have hbl := hi.2.1.lt
    have hsz := hi.2.2.2.size
    have HI := Lib.hid hi
    clear hgk hi
    by_cases hlt : k < ns.length
    · by_cases h60 : k < 60
      · have d1 : decide ((k : Int) < (ns.length : Int)) = true := decide_eq_true (by omega)
        have d2 : decide ((k : Int) < 60) = true := decide_eq_true (by omega)
        obtain ⟨b, o, rfl, _, hbl1, hcs⟩ := HA.out (by omega)
        obtain ⟨n, hn⟩ : ∃ n, n = ns[k] := ⟨_, rfl⟩
        have hnb := HNS.out n (by rw [hn]; exact List.getElem_mem hlt)
        have q0 : wr.cell? ⟨b, o + k, none⟩ = some (.int .i64 n) := (HI.out.2.2.2.cell (p := ⟨b, o + k, none⟩) hbl1).trans (by rw [hcs k hlt, hn]; rfl)
        clear hcs hn
        obtain ⟨t, ht⟩ : ∃ t : Bool, ((k : Int) % 4 == 3) = t := ⟨_, rfl⟩
        have hb3 : b < w3.heap.size := by omega
        have hbw : b < w.heap.size := hbl1
        go_upto_if 38 with fail
        go_cut [9, 10, 11, 12, 13] (fun _ _ _ _ _ wx => ∃ at2 : Nat, Inv w wx w1.heap.size g w2.heap.size w3.heap.size A c xs at2)
        case first =>
          clear ht
          cases t with
          | true =>
            go_wp2_with fail
            refine (fback_any n HI.out.1 hnb.2).mono ?_
            rintro e' w4 ⟨rfl, hf, hs⟩
            have hst := HI.out.step hs hf hg2 hs3 hsz hgw
            have hsz4 := hst.2.2.2.size
            have hbl4 := hst.2.1.lt
            have c0 : w4.cell? ⟨w3.heap.size, 0, none⟩ = some (.slice A (8 * xs.length) c) := hst.2.1.cell 0
            have c1 : w4.cell? ⟨w3.heap.size, 1, none⟩ = some (.int .i64 (at_ : Int)) := hst.2.1.cell 1
            have q4 : w4.cell? ⟨b, o + k, none⟩ = some (.int .i64 n) := (World.cell?_of_block (a := ⟨b, o + k, none⟩) (hs.1.block b (by omega) (by intro h; injection h with h; omega))).trans q0
            have HST := Lib.hid hst
            have hb4 : b < w4.heap.size := by omega
            clear hf hs hst q0
            go_wp2_with fail
            go_still_tail 5, (by kernel_rfl)
            change wpList _ _ _ _ _ w4.drew
            go_wp2_with fail
            refine (refBack_any A (8 * xs.length) c at_ n w4.drew (by omega)).mono ?_
            rintro e' w5 ⟨rfl, hB⟩
            have hB' : Below w4.heap.size w4 w5 := ((Below.refl _ _).drew).trans hB
            have hst5 : FW w5 w1.heap.size g xs (fback at_ n) ∧ Box w5 w3.heap.size 30 #[.slice A (8 * xs.length) c, .int .i64 (at_ : Int)] ∧ DatE Value.bool w5 w2.heap.size w3.heap.size A (bitsOf xs) ∧ Below w.heap.size w w5 :=
              ⟨HST.out.1.below hB' (by omega), HST.out.2.1.below hB' hbl4, HST.out.2.2.1.below hB' (by omega), HST.out.2.2.2.trans (hB'.mono hsz4)⟩
            have z0 : w5.cell? ⟨w3.heap.size, 0, none⟩ = some (.slice A (8 * xs.length) c) := hst5.2.1.cell 0
            have z1 : w5.cell? ⟨w3.heap.size, 1, none⟩ = some (.int .i64 (at_ : Int)) := hst5.2.1.cell 1
            have y0 := hst5.2.1.free 0
            have y1 := hst5.2.1.free 1
            have HP := Lib.hid (Inv.put (at2 := fback at_ n) hst5 hgb hwb)
            clear hB hB' hst5
            go_wp2_with fail
            go_meet
            exact ⟨_, HP.out⟩
          | false =>
            go_wp2_with fail
            refine (fread_any n HI.out.1).mono ?_
            rintro e' w4 ⟨rfl, hf, hs⟩
            have hst := HI.out.step hs hf hg2 hs3 hsz hgw
            have hsz4 := hst.2.2.2.size
            have hbl4 := hst.2.1.lt
            have c0 : w4.cell? ⟨w3.heap.size, 0, none⟩ = some (.slice A (8 * xs.length) c) := hst.2.1.cell 0
            have c1 : w4.cell? ⟨w3.heap.size, 1, none⟩ = some (.int .i64 (at_ : Int)) := hst.2.1.cell 1
            have f0 := hst.2.1.free 0
            have f1 := hst.2.1.free 1
            have q4 : w4.cell? ⟨b, o + k, none⟩ = some (.int .i64 n) := (World.cell?_of_block (a := ⟨b, o + k, none⟩) (hs.1.block b (by omega) (by intro h; injection h with h; omega))).trans q0
            have HST := Lib.hid hst
            have hb4 : b < w4.heap.size := by omega
            have HN1 := Lib.hid (refRead_any (xs := xs) (w := w4.drew) (lo := w2.heap.size) (hi := w3.heap.size) (A := A) (c := c) (at_ := at_) n (show DatE Value.bool w4.drew w2.heap.size w3.heap.size A (bitsOf xs) from hst.2.2.1) rfl hc (by omega) (show w3.heap.size ≤ w4.heap.size by omega) hat)
            have hdf : DatE Value.bool (w4.alloc (.cells #[.slice none 0 0, .int .i64 0] 30)) w2.heap.size w3.heap.size A (bitsOf xs) := hst.2.2.1.alloc (by omega) _
            have HN2 := Lib.hid (refRead_any (xs := xs) (w := (w4.alloc (.cells #[.slice none 0 0, .int .i64 0] 30)).drew) (lo := w2.heap.size) (hi := w3.heap.size) (A := A) (c := c) (at_ := at_) n (show DatE Value.bool (w4.alloc (.cells #[.slice none 0 0, .int .i64 0] 30)).drew w2.heap.size w3.heap.size A (bitsOf xs) from hdf) rfl hc (by omega) (show w3.heap.size ≤ (w4.alloc (.cells #[.slice none 0 0, .int .i64 0] 30)).heap.size by simp; omega) hat)
            clear hdf
            clear hf hs hst q0
            generalize fread xs at_ n = tt at *
            obtain ⟨X, E, at2⟩ := tt
            dsimp only at *
            go_upto_region 15 with fail
            go_cut [11, 12, 13] (fun v y z wx => ∃ bv : Nat, v = .pointer (some ⟨bv, 0, none⟩) ∧ y = .int .u64 (X : Nat) ∧ z = .int .i64 E ∧ w4.heap.size ≤ bv ∧ Box wx bv 30 #[.slice A (8 * xs.length) c, .int .i64 (at2 : Int)] ∧ Below w4.heap.size w4 wx)
            case first =>
              go_region_with (go_at_call 16; (first | refine HN1.out.mono ?_ | refine HN2.out.mono ?_); rintro e' w5 ⟨rfl, hB4⟩; have z0 := hB4.cell (p := ⟨w4.heap.size, 0, none⟩); have z1 := hB4.cell (p := ⟨w4.heap.size, 1, none⟩); have y0 := hB4.frozen (p := ⟨w4.heap.size, 0, none⟩); have y1 := hB4.frozen (p := ⟨w4.heap.size, 1, none⟩); have zs := hB4.size; simp at z0 z1 y0 y1 zs; have HB4 := Lib.hid hB4; clear hB4)
              all_goals go_wp2_with fail
              all_goals go_meet
              all_goals first | exact left_behind rfl rfl HB4.out | exact left_ahead rfl rfl HB4.out
            case rest =>
              obtain ⟨bv, rfl, rfl, rfl, hbv, hbxv, hBv⟩ := hcut
              have v0 : wc.cell? ⟨bv, 0, none⟩ = some (.slice A (8 * xs.length) c) := hbxv.cell 0
              have v1 : wc.cell? ⟨bv, 1, none⟩ = some (.int .i64 (at2 : Int)) := hbxv.cell 1
              have hst5 : FW wc w1.heap.size g xs at2 ∧ Box wc w3.heap.size 30 #[.slice A (8 * xs.length) c, .int .i64 (at_ : Int)] ∧ DatE Value.bool wc w2.heap.size w3.heap.size A (bitsOf xs) ∧ Below w.heap.size w wc :=
                ⟨HST.out.1.below hBv (by omega), HST.out.2.1.below hBv hbl4, HST.out.2.2.1.below hBv (by omega), HST.out.2.2.2.trans (hBv.mono hsz4)⟩
              have z0 : wc.cell? ⟨w3.heap.size, 0, none⟩ = some (.slice A (8 * xs.length) c) := hst5.2.1.cell 0
              have z1 : wc.cell? ⟨w3.heap.size, 1, none⟩ = some (.int .i64 (at_ : Int)) := hst5.2.1.cell 1
              have y0 := hst5.2.1.free 0
              have y1 := hst5.2.1.free 1
              have HP := Lib.hid (Inv.put (at2 := at2) hst5 hgb hwb)
              clear c0 c1 f0 f1 q4 hbxv hBv hst5
              go_wp2_with fail
              go_meet
              exact ⟨_, HP.out⟩
        case rest =>
          obtain ⟨at2, hi⟩ := hcut
          have hat2 : at2 ≤ 8 * xs.length := hi.1.2.1
          have hbc := hi.2.1.lt
          have hszc := hi.2.2.2.size
          have t0 : wc.cell? ⟨w3.heap.size, 0, none⟩ = some (.slice A (8 * xs.length) c) := hi.2.1.cell 0
          have t1 : wc.cell? ⟨w3.heap.size, 1, none⟩ = some (.int .i64 (at2 : Int)) := hi.2.1.cell 1
          have HU1 := Lib.hid (used_any (show FW wc.drew w1.heap.size g xs at2 from hi.1))
          have HU2 := Lib.hid (fun W => refUsed_any A (8 * xs.length) c at2 W (by omega))
          have HIn := Lib.hid hi
          clear hi q0
          generalize (at2 + 7) / 8 = U at *
          go_upto_region 19 with fail
          go_region_held3 (fun w' => w'.cell? ⟨w3.heap.size, 0, none⟩ = some (.slice A (8 * xs.length) c) ∧ w'.cell? ⟨w3.heap.size, 1, none⟩ = some (.int .i64 (at2 : Int))) (go_keep) (first | (go_at_call 17; refine HU1.out.mono ?_; rintro e' w' ⟨rfl, rfl⟩) | (go_at_call 18; refine (HU2.out _).mono ?_; rintro e' w5 ⟨rfl, hB5⟩; have s0 : w5.cell? ⟨w3.heap.size, 0, none⟩ = some (.slice A (8 * xs.length) c) := (hB5.cell (p := ⟨w3.heap.size, 0, none⟩) (by exact hbc)).trans t0; have s1 : w5.cell? ⟨w3.heap.size, 1, none⟩ = some (.int .i64 (at2 : Int)) := (hB5.cell (p := ⟨w3.heap.size, 1, none⟩) (by exact hbc)).trans t1; have HB5 := Lib.hid hB5; clear hB5))
          all_goals
            go_wp2_with fail
            go_roundg (60 - (k + 1))
            case measure => have := HK.out; omega
            case rel => exact ⟨k + 1, at2, by omega, by omega, by go_num, inv_drew HIn.out HB5.out hgb hszc⟩
      · go_wp2_with fail
        go_ret
        exact ⟨rfl, HI.out.2.2.2⟩
    · go_wp2_with fail
      go_ret
      exact ⟨rfl, HI.out.2.2.2⟩

set_option maxHeartbeats 1000000 in
theorem walk_long (a0 : Option Addr) (n cap0 : Nat) (v1 : Value) (w : World) (h : 300 < n) :
    Calls Try.prog 3 #[.slice a0 n cap0, v1] w fun e w' => e = .returned (.bool true) ∧ Below w.heap.size w w' := by
  have hd : decide (300 < (n : Int)) = true := decide_eq_true (by omega)
  go_enter Try.func3, Try.ntmps3
  go_wp2_with fail
  refine (awake_any _).mono ?_
  rintro e w1 ⟨rfl, hB⟩
  have HB := Lib.hid hB
  clear hB
  go_wp2_with fail
  go_ret
  exact ⟨rfl, HB.out⟩

theorem walk (a0 : Option Addr) (xs : List UInt8) (cap0 : Nat) (a1 : Option Addr) (ns : List Int) (cap1 : Nat) (w : World) (hd : Dat false w 0 w.heap.size a0 xs) (_h : xs.length ≤ maxLen) (hr : DatE icel w 0 w.heap.size a1 ns) (hm : ns.length ≤ maxLen)
    (hns : ∀ n ∈ ns, -9223372036854775808 ≤ n ∧ n ≤ 9223372036854775807) :
    Calls Try.prog 3 #[.slice a0 xs.length cap0, .slice a1 ns.length cap1] w fun e w' => e = .returned (.bool true) ∧ Below w.heap.size w w' := by
  by_cases h : 300 < xs.length
  · exact walk_long a0 _ cap0 _ w h
  · exact walk_body a0 xs cap0 a1 ns cap1 w hd hr (by omega) hm hns

set_option maxRecDepth 100000 in
theorem lifted (os : Os) (started : os.Started) (H : Type) (enc : TypeId × Value → H) :
    ReturnsInHanded {} Try.checked os 3 .any (Rows.bitsForwardSpec.pre6 enc Try.prog Try.f3 Rows.bitsForwardRow.domain false) (Rows.bitsForwardSpec.post enc Try.prog Try.f3 false true false false) := by
  refine returnsInHanded_of_change (C := Try.checked) own started (by kernel_rfl) Try.func3
    (ChangeSpec.witness6 (enc := enc) (C := Try.checked) false ⟨#[], #[.slice none 0 0, .slice none 0 0], []⟩ 8 (by kernel_rfl) (by kernel_rfl) (by kernel_rfl) (by kernel_rfl)) ?_
  intro W base args ds gs before hval0 hW hcnd _
  have hval : ∀ (j : Nat) t v, Try.f3.params[j]? = some t → args[j]? = some v → Value.okWide Try.prog W .any base t v := hval0
  have hW' := hW
  obtain ⟨p, q, hA0, hV, rfl, hfz, hnd⟩ := hW
  have hA : DataW.TrodAll enc Try.prog W 0 (fun _ => true) true Try.f3.params.toList args.toList ds p := hA0
  rw [Try.params3] at hA hval
  obtain ⟨v0, vs0, d0, ds0, p0, q0, hargs, rfl, rfl, h0, r0⟩ := trodAll_cons hA
  obtain ⟨v1, vs1, d1, ds1, p1, q1, rfl, rfl, rfl, h1, r1⟩ := trodAll_cons r0
  obtain ⟨rfl, rfl, rfl⟩ := trodAll_nil r1
  obtain rfl : args = #[v0, v1] := by cases args; simp_all
  obtain ⟨rfl, rfl⟩ := trodVars_none hV
  obtain ⟨a0, len0, cap0, rfl⟩ := okWide_slice Try.underlying22 (hval 0 22 v0 rfl rfl)
  have k0 := h0
  have lt0 : ∀ x ∈ p0, x.block < W.heap.size := by obtain ⟨m, hm⟩ := k0; exact DataW.trod_lt m _ _ _ hm
  obtain ⟨z0, w0⟩ := row_of_trod h0
  obtain ⟨xs0, rfl, hl0, hm0, hd0⟩ := row_dat w0
  obtain ⟨a1, len1, cap1, rfl⟩ := okWide_slice Try.underlying23 (hval 1 23 v1 rfl rfl)
  have k1 := h1
  have lt1 : ∀ x ∈ p1, x.block < W.heap.size := by obtain ⟨m, hm⟩ := k1; exact DataW.trod_lt m _ _ _ hm
  obtain ⟨ns1, rfl, hl1, hm1, hd1, hb1⟩ := ints_of_trod h1
  clear hA0 hval0
  refine (walk a0 xs0 cap0 a1 ns1 cap1 W hd0 (by omega) hd1 (by omega) hb1).mono fun e W' ⟨he, bel⟩ => ?_
  subst he
  exact ⟨_, rfl, _, _, _, [], _, [], hW', trodAll_mk1 (shut_bool Try.underlying4 _), (trodAll_cons_mk (Below.trod laidOut (by kernel_rfl) (of_decide_eq_true (by kernel_rfl)) k0 bel lt0) (trodAll_cons_mk (Below.trod laidOut (by kernel_rfl) (of_decide_eq_true (by kernel_rfl)) k1 bel lt1) trodAll_mk0)), rfl, bel.frame _, fun h => by cases h⟩

theorem over : Rows.bitsForwardRow.holds Try.pinned (OpenSpec.ofChange Rows.bitsForwardSpec) :=
  OpenClaim.holds_of_wide 3 Try.f3 rfl rfl rfl rfl rfl rfl rfl ⟨rfl, rfl, rfl, rfl, rfl⟩ rfl rfl rfl rfl rfl (by kernel_rfl) Try.func3 (by kernel_rfl)
    (of_decide_eq_true (by kernel_rfl)) (by unfold Func.isWrapper; first | (rw [if_pos (by decide +kernel)]; kernel_rfl) | (rw [if_neg (by decide +kernel)]; exact ⟨rfl, rfl⟩))
    (fun os started H enc _ => lifted os started H enc)

theorem proved : Rows.BitsForwardSaid := over
end Go.Proofs.Ytomimpapdighhaa.bitsForward
