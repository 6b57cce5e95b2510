/- CursorWrites: the loop that writes, and what stands behind it, for every script. -/
import Derived.Test.YtppjilfhpiknbaaCurActs
import Derived.Deep.RegionHeld3
import Derived.Deep.LoopGhost
import Derived.Deep.QuietTactic
import Derived.BigQuiet
namespace Go.Proofs.Ytppjilfhpiknbaa.cursorWrites
open Go.ChangeShapes Go.WideShapes Go.ChangeAt Go.RowKit Go.Deep

theorem own : ownKnob Try.prog.godebug = none := by kernel_rfl
theorem laidOut : laidOutB Try.prog = true := by kernel_rfl

theorem str_append (xs ys : List UInt8) : str xs ++ str ys = str (xs ++ ys) := by
  apply ByteArray.ext
  simp [str, ByteArray.data_append]

theorem add_str (w : World) (xs ys : List UInt8) (hx : xs.length ≤ 100000) (hy : ys.length ≤ 100000) : (Op.stringOp .add (str xs) (str ys)).run Try.prog w = .ok (.string (str (xs ++ ys))) w := by
  rw [run_string_add_sum w _ _ (by rw [str_size, str_size]; omega), str_append]

/-- Block g is a row whose first n cells are bytes. -/
def Cur8 (w : World) (g u n : Nat) : Prop := ∃ cur, Box w g u cur ∧ ∀ j, j < n → ∃ z, cur[j]? = some (.int .u8 z)
theorem own_cells {w : World} {u base : Nat} {v : Value} {xs : List UInt8} (h : OwB w u base v xs) :
    (v = .slice none 0 0 ∧ xs = []) ∨ ∃ g c cur, v = .slice (some ⟨g, 0, none⟩) xs.length c ∧ base ≤ g ∧ Box w g u cur ∧ ∀ j, j < xs.length → ∃ z, cur[j]? = some (.int .u8 z) := by
  rcases h.2 with ⟨hv, h0⟩ | ⟨g, cap, cur, hv, hb, hh, _, _, _, ht⟩
  · exact .inl ⟨hv, List.eq_nil_of_length_eq_zero h0⟩
  · refine .inr ⟨g, cap, cur, hv, hb, hh, fun j hj => ⟨(xs[j].toNat : Int), ?_⟩⟩
    have h1 : (cur.toList.take (xs.length * 1))[j]? = some (cel xs[j]) := by rw [ht]; simp [hj]
    rw [List.getElem?_take, if_pos (by omega)] at h1
    simpa [cel] using h1
theorem Cur8.at_ {w : World} {g u n j : Nat} (h : Cur8 w g u n) (hj : j < n) : ∃ z, w.cell? ⟨g, j, none⟩ = some (.int .u8 z) ∧ w.frozen? ⟨g, j, none⟩ = false ∧ ∀ y, Cur8 (w.setCell ⟨g, j, none⟩ (.int .u8 y)) g u n := by
  obtain ⟨cur, hb, hz⟩ := h
  obtain ⟨z, hzj⟩ := hz j hj
  refine ⟨z, by rw [hb.cell, hzj], hb.free j, fun y => ⟨_, hb.put j _, fun i hi => ?_⟩⟩
  obtain ⟨zi, hzi⟩ := hz i hi
  by_cases hij : j = i
  · subst hij
    have hl : j < cur.size := (Array.getElem?_eq_some_iff.1 hzj).1
    exact ⟨y, by rw [Array.getElem?_setIfInBounds_self_of_lt hl]⟩
  · exact ⟨zi, by rw [Array.getElem?_setIfInBounds_ne hij]; exact hzi⟩

/-- How many bytes a script may have written. -/
def Few (n k : Nat) : Prop := n ≤ 200 * k

set_option maxRecDepth 100000 in
set_option maxHeartbeats 2000000 in
theorem walk (a0 : Option Addr) (rs : List Rec) (cap0 : Nat) (w : World) (hr : Acts w a0 rs) (hm : rs.length ≤ maxLen) :
    Calls Try.prog 4 #[.slice a0 rs.length cap0] w fun e w' => e = .returned (.bool true) ∧ Below w.heap.size w w' := by
  unfold maxLen at hm
  have HA := Lib.hid hr
  clear hr
  go_enter Try.func4, Try.ntmps4
  go_wp2_with fail
  refine (awake_any _).mono ?_
  rintro e w1 ⟨rfl, hB⟩
  have HB1 := Lib.hid hB
  have hs1 := hB.size
  clear hB
  go_wp2_with fail
  refine (newWriter_any _).mono ?_
  rintro e w2 ⟨rfl, hw, hB⟩
  have HW2 := Lib.hid hw
  have HB2 := Lib.hid (HB1.out.trans (hB.mono hs1))
  clear hw hB
  go_wp2_with fail
  go_loopg [5, 6] 60 (fun gh want i wr => ∃ (k : Nat) (ys : List UInt8), k ≤ rs.length ∧ gh + k = 60 ∧ i = .int .i64 k ∧ want = .string (str ys) ∧ Few ys.length k ∧ Wtr wr w1.heap.size w1.heap.size ys ∧ Below w.heap.size w wr)
  case atStart => exact ⟨0, [], Nat.zero_le _, rfl, rfl, rfl, Nat.le_refl _, HW2.out, HB2.out⟩
  case round =>
    obtain ⟨k, ys, hk, hgk, rfl, rfl, hf, hw, hB⟩ := hrel
    have HK := Lib.hid hgk
    have HF := Lib.hid hf
    have HW := Lib.hid hw
    have HB := Lib.hid hB
    have hsz := hB.size
    have hk60 : k ≤ 60 := by omega
    clear hgk hf hw hB
    by_cases hlt : k < rs.length
    · by_cases h60 : k < 60
      · have d1 : decide ((k : Int) < (rs.length : Int)) = true := decide_eq_true (by omega)
        have d2 : decide ((k : Int) < 60) = true := decide_eq_true (by omega)
        obtain ⟨b, o, rfl, hbl1, hcs⟩ := HA.out (by omega)
        have hrec := (hcs k hlt).below HB.out hbl1
        have hd0 := (hcs k hlt).hd.below HB.out (Nat.le_refl _)
        obtain ⟨r, hr⟩ : ∃ r, r = rs[k] := ⟨_, rfl⟩
        rw [← hr] at hrec hd0
        obtain ⟨num, n, x, A, c, bs⟩ := r
        have q0 := hrec.c0
        have q1 := hrec.c1
        have q2 := hrec.c2
        have q3 := hrec.c3
        have HX := Lib.hid hrec.wx
        have HD := Lib.hid hd0
        clear hcs hrec hr hd0
        dsimp only at q0 q1 q2 q3 HX HD
        by_cases hbs : 200 < bs.length
        · have d3 : decide (200 < (bs.length : Int)) = true := decide_eq_true (by omega)
          go_wp2_with fail
          go_ret
          exact ⟨rfl, HB.out⟩
        · have d3 : decide (200 < (bs.length : Int)) = false := decide_eq_false (by omega)
          have hb3 : b < wr.heap.size := by omega
          cases num with
          | true =>
            have HWd := Lib.hid (show Wtr wr.drew w1.heap.size w1.heap.size ys from HW.out)
            have hb1 : b < w1.heap.size := by omega
            have hadd := fun W => add_str W ys (putw x n) (by have := HF.out; unfold Few at this; omega) (by have := putw_length x n; omega)
            have HL : Hid (ys.length + 8 ≤ 1099511627776) := by have := HF.out; unfold Few at this; unfold Hid; omega
            go_wp2_with fail
            go_region_held3 (fun w' => w'.cell? ⟨b, o + k * 4 + 1, none⟩ = some (.int .i64 n) ∧ w'.cell? ⟨b, o + k * 4 + 2, none⟩ = some (.int .u64 (x : Int))) (go_keep)
              (first | (go_at_call 19; refine (wnumber_any x n HWd.out HL.out).mono ?_; rintro e' w3 ⟨rfl, hw3, hB3⟩; have s1 : w3.cell? ⟨b, o + k * 4 + 1, none⟩ = some (.int .i64 n) := (hB3.cell (p := ⟨b, o + k * 4 + 1, none⟩) (by exact hb1)).trans q1; have s2 : w3.cell? ⟨b, o + k * 4 + 2, none⟩ = some (.int .u64 (x : Int)) := (hB3.cell (p := ⟨b, o + k * 4 + 2, none⟩) (by exact hb1)).trans q2; have hs3 : wr.heap.size ≤ w3.heap.size := hB3.size; have HW3 := Lib.hid hw3; have HB3 := Lib.hid hB3; clear hw3 hB3))
            have hb4 : b < w3.heap.size := by omega
            go_wp2_with fail
            go_region_held3 (fun w' => w'.cell? ⟨b, o + k * 4 + 1, none⟩ = some (.int .i64 n) ∧ w'.cell? ⟨b, o + k * 4 + 2, none⟩ = some (.int .u64 (x : Int))) (go_keep)
              (first | (go_at_call 20; refine (put_any x n _ HX.out).mono ?_; rintro e' w4 ⟨rfl, hB4⟩; have s3 := (hB4.cell (p := ⟨b, o + k * 4 + 1, none⟩) (by exact hb4)).trans s1; have s4 := (hB4.cell (p := ⟨b, o + k * 4 + 2, none⟩) (by exact hb4)).trans s2; have HB4 := Lib.hid hB4; clear hB4))
            go_wp2_with fail
            go_roundg (60 - (k + 1))
            case measure => have := HK.out; omega
            case rel =>
              refine ⟨k + 1, ys ++ putw x n, by omega, by omega, by go_num, rfl, ?_, ?_, ?_⟩
              · have h1 := HF.out
                have h2 := putw_length x n
                unfold Few at *
                rw [List.length_append]
                omega
              · exact HW3.out.below (w' := w4) (((Below.refl _ _).drew).trans HB4.out) (Nat.le_refl _)
              · have e3 : Below w1.heap.size wr w3 := ((Below.refl _ _).drew).trans HB3.out
                have e4 : Below w3.heap.size w3 w4 := ((Below.refl _ _).drew).trans HB4.out
                exact (HB.out.trans (e3.mono hs1)).trans (e4.mono (by omega))
          | false =>
            have hadd := fun W => add_str W ys bs (by have := HF.out; unfold Few at this; omega) (by omega)
            have hb1 : b < w1.heap.size := by omega
            go_wp2_with fail
            refine (wbytes_any HW.out HD.out rfl (by have := HF.out; unfold Few at this; omega)).mono ?_
            rintro e' w3 ⟨rfl, hw3, hB3⟩
            have s3 := (hB3.cell (p := ⟨b, o + k * 4 + 3, none⟩) hb1).trans q3
            have hcv := run_str (P := Try.prog) w3 22 Try.underlying22 Try.underlying5 (c := c) (HD.out.below hB3 hs1) rfl 9 Try.underlying9
            have HW3 := Lib.hid hw3
            have HB3 := Lib.hid hB3
            clear hw3 hB3
            go_wp2_with fail
            go_roundg (60 - (k + 1))
            case measure => have := HK.out; omega
            case rel =>
              refine ⟨k + 1, ys ++ bs, by omega, by omega, by go_num, rfl, ?_, HW3.out, HB.out.trans (HB3.out.mono (by omega))⟩
              have h1 := HF.out
              unfold Few at *
              rw [List.length_append]
              omega
      · have d1 : decide ((k : Int) < (rs.length : Int)) = true := decide_eq_true (by omega)
        have d2 : decide ((k : Int) < 60) = false := decide_eq_false (by omega)
        have HL : Hid (ys.length ≤ 1099511627776) := by have := HF.out; unfold Few at this; unfold Hid; omega
        go_wp2_with fail
        refine (out_any HW.out HL.out).mono ?_
        rintro e' w3 ⟨v, rfl, ho, hB3⟩
        have HB3 := Lib.hid hB3
        have hs3 := hB3.size
        have HWw := Lib.hid (HW.out.below hB3 (Nat.le_refl _))
        rcases own_cells ho with ⟨rfl, hy0⟩ | ⟨g, c, cur, rfl, hgb, hbx, hz⟩
        · have hcv : (convert 22 9 (.slice none 0 0)).run Try.prog w3 = .ok (.string (str ys)) w3 := by rw [hy0]; exact run_str (P := Try.prog) w3 22 Try.underlying22 Try.underlying5 (A := none) (m := 0) (c := 0) (Dat.nil true w3 0 0 none) rfl 9 Try.underlying9
          clear ho hB3 hy0
          go_wp2_with fail
          go_loopg [8] 0 (fun gh i wx => i = .int .i64 0 ∧ w3 = wx)
          case atStart => exact ⟨rfl, rfl⟩
          case round =>
            obtain ⟨rfl, rfl⟩ := hrel
            go_wp2_with fail
            refine (out_any HWw.out HL.out).mono ?_
            rintro e' w5 ⟨v, rfl, ho, hB5⟩
            obtain ⟨A5, c5, rfl, _, hd5⟩ := ho.form
            have hcv5 := run_str (P := Try.prog) w5 22 Try.underlying22 Try.underlying5 (c := c5) hd5 rfl 9 Try.underlying9
            have HB5 := Lib.hid hB5
            clear ho hB5 hd5 hcv
            go_wp2_with fail
            go_ret
            exact ⟨rfl, (HB.out.trans (HB3.out.mono (by omega))).trans (HB5.out.mono (by omega))⟩
        · obtain ⟨A3, c3, hv3, _, hd3⟩ := ho.form
          injection hv3 with e1 e2 e3
          subst e1
          have hcv := run_str (P := Try.prog) w3 22 Try.underlying22 Try.underlying5 (c := c) hd3 rfl 9 Try.underlying9
          have hylen : ys.length ≤ 12000 := by have := HF.out; unfold Few at this; omega
          obtain ⟨n, hn⟩ : ∃ n, n = ys.length := ⟨_, rfl⟩
          rw [← hn] at hcv hz hylen ⊢
          have HBx := Lib.hid (show Cur8 w3 g 5 n from ⟨cur, hbx, hz⟩)
          clear ho hB3 hd3 e2 e3 hbx hz hn
          go_wp2_with fail
          go_loopg [8] n (fun gh i wx => ∃ k : Nat, k + gh = n ∧ i = .int .i64 k ∧ Cur8 wx g 5 n ∧ Below wr.heap.size wr wx)
          case atStart => exact ⟨0, by omega, rfl, HBx.out, HB3.out⟩
          case round =>
            obtain ⟨j, hj, rfl, hcur, hBx⟩ := hrel
            have HJ := Lib.hid hj
            have hjn : j ≤ n := by omega
            clear hj
            have HBw := Lib.hid hBx
            clear hBx
            by_cases hjl : j < n
            · obtain ⟨z, hz0, hz1, hz2⟩ := hcur.at_ hjl
              have HZ := Lib.hid hz2
              clear hcur hz2
              go_wp2_with fail
              go_roundg (n - (j + 1))
              case measure => have := HJ.out; omega
              case rel => exact ⟨j + 1, by omega, by go_num, HZ.out _, HBw.out.setCell hgb _⟩
            · clear hcur
              go_wp2_with fail
              refine (out_any (HW.out.below HBw.out (Nat.le_refl _)) HL.out).mono ?_
              rintro e' w5 ⟨v, rfl, ho, hB5⟩
              obtain ⟨A5, c5, rfl, _, hd5⟩ := ho.form
              have hcv5 := run_str (P := Try.prog) w5 22 Try.underlying22 Try.underlying5 (c := c5) hd5 rfl 9 Try.underlying9
              have HB5 := Lib.hid hB5
              have hs5 := HBw.out.size
              clear ho hB5 hd5 hcv
              go_wp2_with fail
              go_ret
              exact ⟨rfl, (HB.out.trans (HBw.out.mono (by omega))).trans (HB5.out.mono (by omega))⟩
    · have d1 : decide ((k : Int) < (rs.length : Int)) = false := decide_eq_false (by omega)
      have HL : Hid (ys.length ≤ 1099511627776) := by have := HF.out; unfold Few at this; unfold Hid; omega
      go_wp2_with fail
      refine (out_any HW.out HL.out).mono ?_
      rintro e' w3 ⟨v, rfl, ho, hB3⟩
      have HB3 := Lib.hid hB3
      have hs3 := hB3.size
      have HWw := Lib.hid (HW.out.below hB3 (Nat.le_refl _))
      rcases own_cells ho with ⟨rfl, hy0⟩ | ⟨g, c, cur, rfl, hgb, hbx, hz⟩
      · have hcv : (convert 22 9 (.slice none 0 0)).run Try.prog w3 = .ok (.string (str ys)) w3 := by rw [hy0]; exact run_str (P := Try.prog) w3 22 Try.underlying22 Try.underlying5 (A := none) (m := 0) (c := 0) (Dat.nil true w3 0 0 none) rfl 9 Try.underlying9
        clear ho hB3 hy0
        go_wp2_with fail
        go_loopg [8] 0 (fun gh i wx => i = .int .i64 0 ∧ w3 = wx)
        case atStart => exact ⟨rfl, rfl⟩
        case round =>
          obtain ⟨rfl, rfl⟩ := hrel
          go_wp2_with fail
          refine (out_any HWw.out HL.out).mono ?_
          rintro e' w5 ⟨v, rfl, ho, hB5⟩
          obtain ⟨A5, c5, rfl, _, hd5⟩ := ho.form
          have hcv5 := run_str (P := Try.prog) w5 22 Try.underlying22 Try.underlying5 (c := c5) hd5 rfl 9 Try.underlying9
          have HB5 := Lib.hid hB5
          clear ho hB5 hd5 hcv
          go_wp2_with fail
          go_ret
          exact ⟨rfl, (HB.out.trans (HB3.out.mono (by omega))).trans (HB5.out.mono (by omega))⟩
      · obtain ⟨A3, c3, hv3, _, hd3⟩ := ho.form
        injection hv3 with e1 e2 e3
        subst e1
        have hcv := run_str (P := Try.prog) w3 22 Try.underlying22 Try.underlying5 (c := c) hd3 rfl 9 Try.underlying9
        have hylen : ys.length ≤ 12000 := by have := HF.out; unfold Few at this; omega
        obtain ⟨n, hn⟩ : ∃ n, n = ys.length := ⟨_, rfl⟩
        rw [← hn] at hcv hz hylen ⊢
        have HBx := Lib.hid (show Cur8 w3 g 5 n from ⟨cur, hbx, hz⟩)
        clear ho hB3 hd3 e2 e3 hbx hz hn
        go_wp2_with fail
        go_loopg [8] n (fun gh i wx => ∃ k : Nat, k + gh = n ∧ i = .int .i64 k ∧ Cur8 wx g 5 n ∧ Below wr.heap.size wr wx)
        case atStart => exact ⟨0, by omega, rfl, HBx.out, HB3.out⟩
        case round =>
          obtain ⟨j, hj, rfl, hcur, hBx⟩ := hrel
          have HJ := Lib.hid hj
          have hjn : j ≤ n := by omega
          clear hj
          have HBw := Lib.hid hBx
          clear hBx
          by_cases hjl : j < n
          · obtain ⟨z, hz0, hz1, hz2⟩ := hcur.at_ hjl
            have HZ := Lib.hid hz2
            clear hcur hz2
            go_wp2_with fail
            go_roundg (n - (j + 1))
            case measure => have := HJ.out; omega
            case rel => exact ⟨j + 1, by omega, by go_num, HZ.out _, HBw.out.setCell hgb _⟩
          · clear hcur
            go_wp2_with fail
            refine (out_any (HW.out.below HBw.out (Nat.le_refl _)) HL.out).mono ?_
            rintro e' w5 ⟨v, rfl, ho, hB5⟩
            obtain ⟨A5, c5, rfl, _, hd5⟩ := ho.form
            have hcv5 := run_str (P := Try.prog) w5 22 Try.underlying22 Try.underlying5 (c := c5) hd5 rfl 9 Try.underlying9
            have HB5 := Lib.hid hB5
            have hs5 := HBw.out.size
            clear ho hB5 hd5 hcv
            go_wp2_with fail
            go_ret
            exact ⟨rfl, (HB.out.trans (HBw.out.mono (by omega))).trans (HB5.out.mono (by omega))⟩
end Go.Proofs.Ytppjilfhpiknbaa.cursorWrites
