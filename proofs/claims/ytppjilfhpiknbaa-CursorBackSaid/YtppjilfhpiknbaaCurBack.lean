/- CursorBack: the loop that writes, and the loop that reads it again, for every script. -/
import Derived.Test.YtppjilfhpiknbaaCurActs
import Derived.Deep.RegionHeld3
import Derived.Deep.LoopGhost
import Derived.Deep.QuietTactic
import Derived.BigQuiet
namespace Go.Proofs.Ytppjilfhpiknbaa.cursorBack
open Go.ChangeShapes Go.WideShapes Go.ChangeAt Go.RowKit Go.Deep

theorem own : ownKnob Try.prog.godebug = none := by kernel_rfl
theorem laidOut : laidOutB Try.prog = true := by kernel_rfl

theorem i64_and7 (n : Int) : bits .and .i64 n 7 = n % 8 := by
  have h7 : (BitVec.ofInt 64 7).toNat = 2 ^ 3 - 1 := by decide
  have key : (BitVec.ofInt 64 n &&& BitVec.ofInt 64 7).toNat = (n % ((2 ^ 64 : Nat) : Int)).toNat % 2 ^ 3 := by
    rw [BitVec.toNat_and, BitVec.toNat_ofInt, h7, Nat.and_two_pow_sub_one_eq_mod]
  show IntKind.i64.wrap ((BitVec.ofInt 64 n &&& BitVec.ofInt 64 7).toNat : Nat) = n % 8
  rw [key, IntKind.wrap_i64]
  omega

/-- How many bytes a record's number is written in, less one. -/
def jn (n : Int) : Nat := (n % 8).toNat
theorem jn_le (n : Int) : jn n ≤ 7 := by unfold jn; omega
theorem and_jn (n : Int) : bits .and .i64 n 7 = (jn n : Int) := by rw [i64_and7]; unfold jn; omega

/-- What a record is written as, and what records are, one behind the other. -/
def e1 (r : Rec) : List UInt8 := put r.x (jn r.n + 1) ++ r.bs
def en : List Rec → List UInt8
  | [] => []
  | r :: q => e1 r ++ en q
theorem en_append (a b : List Rec) : en (a ++ b) = en a ++ en b := by
  induction a with
  | nil => rfl
  | cons r q ih => simp [en, ih]
theorem en_take (rs : List Rec) (k : Nat) (h : k < rs.length) : en (rs.take (k + 1)) = en (rs.take k) ++ (put rs[k].x (jn rs[k].n + 1) ++ rs[k].bs) := by
  rw [List.take_succ_eq_append_getElem h, en_append]
  simp [en, e1]
theorem en_drop (rs : List Rec) (k : Nat) (h : k < rs.length) : en (rs.drop k) = put rs[k].x (jn rs[k].n + 1) ++ (rs[k].bs ++ en (rs.drop (k + 1))) := by
  rw [List.drop_eq_getElem_cons h, en, e1, List.append_assoc]

theorem putw_jn (x : Nat) (n : Int) : putw x ((jn n : Int) + 1) = put x (jn n + 1) := by
  have h := jn_le n
  unfold putw wid
  rw [if_pos (by simp; omega)]
  congr 1
theorem tk_number (x j : Nat) (hj : j ≤ 7) (q : List UInt8) : tk (put x (j + 1) ++ q) 0 ((j : Int) + 1) (wid ((j : Int) + 1)) = (q, 0, put x (j + 1)) := by
  have hw : wid ((j : Int) + 1) = true := by simp [wid]; omega
  have hn : ((j : Int) + 1).toNat = j + 1 := by omega
  have hl := put_length x (j + 1)
  have hs : ¬ (((put x (j + 1) ++ q).length : Int) < (j : Int) + 1) := by rw [List.length_append, hl]; omega
  unfold tk
  rw [hw, hn, if_neg (by simp), if_neg (by simp), if_neg hs]
  have h1 : (put x (j + 1) ++ q).drop (j + 1) = q := by rw [List.drop_append_of_le_length (by omega), List.drop_of_length_le (by omega)]; rfl
  have h2 : (put x (j + 1) ++ q).take (j + 1) = put x (j + 1) := by rw [List.take_append_of_le_length (by omega), List.take_of_length_le (by omega)]
  rw [h1, h2]
theorem tk_bytes (bs q : List UInt8) : tk (bs ++ q) 0 (bs.length : Int) (decide (0 ≤ (bs.length : Int))) = (q, 0, bs) := by
  have hs : ¬ (((bs ++ q).length : Int) < (bs.length : Int)) := by rw [List.length_append]; omega
  have h0 : decide (0 ≤ (bs.length : Int)) = true := decide_eq_true (by omega)
  unfold tk
  rw [h0, if_neg (by simp), if_neg (by simp), if_neg hs]
  simp

def Few (n k : Nat) : Prop := n ≤ 208 * k

/-- Cut above its lowest bytes by a shift up and down again. -/
theorem up_down (x j : Nat) (hj : j ≤ 7) : (IntKind.u64.wrap ((x : Int) * 2 ^ (64 - 8 * (j + 1)))) / 2 ^ (64 - 8 * (j + 1)) = ((le (put x (j + 1)) : Nat) : Int) := by
  rw [le_put, IntKind.wrap_u64]
  have hp : (256 : Nat) ^ (j + 1) = 2 ^ (8 * (j + 1)) := by rw [Nat.pow_mul]
  have h64 : (18446744073709551616 : Nat) = 2 ^ (8 * (j + 1)) * 2 ^ (64 - 8 * (j + 1)) := by
    rw [← Nat.pow_add, show 8 * (j + 1) + (64 - 8 * (j + 1)) = 64 by omega]
  have hpos : 0 < 2 ^ (64 - 8 * (j + 1)) := Nat.pow_pos (by omega)
  have e : (x * 2 ^ (64 - 8 * (j + 1)) % 18446744073709551616) / 2 ^ (64 - 8 * (j + 1)) = x % 256 ^ (j + 1) := by
    rw [h64, Nat.mul_mod_mul_right, Nat.mul_div_cancel _ hpos, hp]
  rw [← e]
  simp

theorem dat_drewN {own : Bool} {w : World} {lo hi : Nat} {A : Option Addr} {xs : List UInt8} (h : Dat own w lo hi A xs) (n : Nat) : Dat own (w.drewN n) lo hi A xs := h

set_option maxRecDepth 100000 in
set_option maxHeartbeats 2000000 in
theorem walk (a0 : Option Addr) (rs : List Rec) (cap0 : Nat) (w : World) (hr : Acts w a0 rs) (hm : rs.length ≤ maxLen) :
    Calls Try.prog 5 #[.slice a0 rs.length cap0] w fun e w' => e = .returned (.bool true) ∧ Below w.heap.size w w' := by
  unfold maxLen at hm
  have HA := Lib.hid hr
  clear hr
  go_enter Try.func5, Try.ntmps5
  go_wp2_with fail
  refine (awake_any _).mono ?_
  rintro e w1 ⟨rfl, hB⟩
  have HB1 := Lib.hid hB
  have hs1 := hB.size
  clear hB
  go_wp2_with fail
  refine (newWriter_any _).mono ?_
  rintro e w2 ⟨rfl, hw, hB⟩
  have HW2 := Lib.hid hw
  have HB2 := Lib.hid (HB1.out.trans (hB.mono hs1))
  clear hw hB
  go_wp2_with fail
  go_loopg [5] 40 (fun gh i wr => ∃ (k : Nat) (ys : List UInt8), k ≤ rs.length ∧ gh + k = 40 ∧ i = .int .i64 k ∧ Hid (ys = en (rs.take k)) ∧ Few ys.length k ∧ Wtr wr w1.heap.size w1.heap.size ys ∧ Below w.heap.size w wr)
  case atStart => exact ⟨0, [], Nat.zero_le _, rfl, rfl, by simp [Hid, en], Nat.le_refl _, HW2.out, HB2.out⟩
  case round =>
    obtain ⟨k, ys, hk, hgk, rfl, HY, hf, hw, hB⟩ := hrel
    have HK := Lib.hid hgk
    have HF := Lib.hid hf
    have HW := Lib.hid hw
    have HB := Lib.hid hB
    have hsz := hB.size
    have hk40 : k ≤ 40 := by omega
    clear hgk hf hw hB
    by_cases hlt : k < rs.length
    · by_cases h40 : k < 40
      · have d1 : decide ((k : Int) < (rs.length : Int)) = true := decide_eq_true (by omega)
        have d2 : decide ((k : Int) < 40) = true := decide_eq_true (by omega)
        obtain ⟨b, o, rfl, hbl1, hcs⟩ := HA.out (by omega)
        have hrec := (hcs k hlt).below HB.out hbl1
        have hd0 := (hcs k hlt).hd.below HB.out (Nat.le_refl _)
        have het := en_take rs k hlt
        obtain ⟨r, hr⟩ : ∃ r, r = rs[k] := ⟨_, rfl⟩
        rw [← hr] at hrec hd0 het
        obtain ⟨num, n, x, A, c, bs⟩ := r
        have q1 := hrec.c1
        have q2 := hrec.c2
        have q3 := hrec.c3
        have HD := Lib.hid hd0
        have HE := Lib.hid het
        clear hcs hrec hr hd0 het
        dsimp only at q1 q2 q3 HD HE
        by_cases hbs : 200 < bs.length
        · have d3 : decide (200 < (bs.length : Int)) = true := decide_eq_true (by omega)
          go_wp2_with fail
          go_ret
          exact ⟨rfl, HB.out⟩
        · have d3 : decide (200 < (bs.length : Int)) = false := decide_eq_false (by omega)
          have hb3 : b < wr.heap.size := by omega
          have hb1 : b < w1.heap.size := by omega
          have HWd := Lib.hid (show Wtr wr.drew w1.heap.size w1.heap.size ys from HW.out)
          have HL : Hid (ys.length + 8 ≤ 1099511627776) := by have := HF.out; unfold Few at this; unfold Hid; omega
          have hand := and_jn n
          have hpw := Lib.hid (putw_jn x n)
          have hj7 := jn_le n
          generalize jn n = J at *
          have hs : IntKind.i64.wrap ((J : Int) + 1) = (J : Int) + 1 := IntWalk.i64_in _ (by omega)
          go_wp2_with fail
          go_region_held3 (fun w' => w'.cell? ⟨b, o + k * 4 + 1, none⟩ = some (.int .i64 n) ∧ w'.cell? ⟨b, o + k * 4 + 2, none⟩ = some (.int .u64 (x : Int))) (go_keep)
            (first | (go_at_call 19; refine (wnumber_any x ((J : Int) + 1) HWd.out HL.out).mono ?_; rintro e' w3 ⟨rfl, hw3, hB3⟩; have s1 : w3.cell? ⟨b, o + k * 4 + 1, none⟩ = some (.int .i64 n) := (hB3.cell (p := ⟨b, o + k * 4 + 1, none⟩) (by exact hb1)).trans q1; have s2 : w3.cell? ⟨b, o + k * 4 + 2, none⟩ = some (.int .u64 (x : Int)) := (hB3.cell (p := ⟨b, o + k * 4 + 2, none⟩) (by exact hb1)).trans q2; have s3 : w3.cell? ⟨b, o + k * 4 + 3, none⟩ = some (.slice A bs.length c) := (hB3.cell (p := ⟨b, o + k * 4 + 3, none⟩) (by exact hb1)).trans q3; have hs3 : wr.heap.size ≤ w3.heap.size := hB3.size; have HW3 := Lib.hid hw3; have HB3 := Lib.hid hB3; clear hw3 hB3))
          have e3 : Below w1.heap.size wr w3 := ((Below.refl _ _).drew).trans HB3.out
          have HE3 := Lib.hid e3
          have HD3 := Lib.hid (HD.out.below e3 hs1)
          have hlen3 : Hid ((ys ++ putw x ((J : Int) + 1)).length ≤ 208 * k + 8) := by
            have h1 := HF.out
            have h2 := putw_length x ((J : Int) + 1)
            unfold Few at h1
            unfold Hid
            rw [List.length_append]
            omega
          clear e3
          go_wp2_with fail
          refine (wbytes_any HW3.out HD3.out rfl (by have := hlen3.out; omega)).mono ?_
          rintro e' w4 ⟨rfl, hw4, hB4⟩
          have HW4 := Lib.hid hw4
          have HB4 := Lib.hid hB4
          clear hw4 hB4
          go_wp2_with fail
          go_roundg (40 - (k + 1))
          case measure => have := HK.out; omega
          case rel =>
            refine ⟨k + 1, _, by omega, by omega, by go_num, ?_, ?_, HW4.out, (HB.out.trans (HE3.out.mono hs1)).trans (HB4.out.mono hs1)⟩
            · unfold Hid
              rw [HE.out, HY.out, hpw.out, List.append_assoc]
            · have h1 := hlen3.out
              unfold Few
              rw [List.length_append]
              omega
      · have d1 : decide ((k : Int) < (rs.length : Int)) = true := decide_eq_true (by omega)
        have d2 : decide ((k : Int) < 40) = false := decide_eq_false (by omega)
        have HY40 : Hid (ys = en (rs.take 40)) := by rw [HY.out, show k = 40 by omega]; rfl
        have HL : Hid (ys.length ≤ 1099511627776) := by have := HF.out; unfold Few at this; unfold Hid; omega
        clear d1
        go_wp2_with fail
        refine (out_any HW.out HL.out).mono ?_
        rintro e' w3 ⟨v, rfl, ho, hB3⟩
        obtain ⟨A3, c3, rfl, _, hd3⟩ := ho.form
        have HB3 := Lib.hid (HB.out.trans (hB3.mono hsz))
        have hs3 := hB3.size
        have HD3 := Lib.hid hd3
        clear ho hB3 hd3
        go_wp2_with fail
        refine (reader_any HD3.out rfl HL.out (Nat.le_refl _)).mono ?_
        rintro e' w4 ⟨g, rfl, hg, hrd, hB4⟩
        have hs4 := hB4.size
        have HB4 := Lib.hid (HB3.out.trans (hB4.mono (by omega)))
        rw [HY40.out] at hrd
        have HR4 := Lib.hid hrd
        clear hrd hB4
        go_wp2_with fail
        go_loopg [7] 40 (fun gh i wx => ∃ k : Nat, k ≤ rs.length ∧ gh + k = 40 ∧ i = .int .i64 k ∧ RD true wx w3.heap.size g (en ((rs.take 40).drop k)) 0 ∧ Below w.heap.size w wx)
        case atStart => exact ⟨0, Nat.zero_le _, rfl, rfl, HR4.out, HB4.out⟩
        case round =>
          clear hlt hk hk40 HK HF HW HB HY HY40 HL
          obtain ⟨k, hk, hgk, rfl, hrd, hB⟩ := hrel
          have HK := Lib.hid hgk
          have HR := Lib.hid hrd
          have HB := Lib.hid hB
          have hsz5 := hB.size
          have hk40 : k ≤ 40 := by omega
          have hlen40 : Hid ((rs.take 40).length = min 40 rs.length) := by unfold Hid; simp
          clear hgk hrd hB
          by_cases hlt : k < rs.length
          · by_cases h40 : k < 40
            · have d1 : decide ((k : Int) < (rs.length : Int)) = true := decide_eq_true (by omega)
              have d2 : decide ((k : Int) < 40) = true := decide_eq_true (by omega)
              obtain ⟨b, o, rfl, hbl1, hcs⟩ := HA.out (by omega)
              have hrec := (hcs k hlt).below HB.out hbl1
              have hd0 := (hcs k hlt).hd
              have hk4 : k < (rs.take 40).length := by rw [hlen40.out]; omega
              have het := en_drop (rs.take 40) k hk4
              rw [List.getElem_take] at het
              obtain ⟨r, hr⟩ : ∃ r, r = rs[k] := ⟨_, rfl⟩
              rw [← hr] at hrec hd0 het
              obtain ⟨num, n, x, A, c, bs⟩ := r
              have q1 := hrec.c1
              have q2 := hrec.c2
              have q3 := hrec.c3
              have HD := Lib.hid hd0
              dsimp only at het
              obtain ⟨q, hq⟩ : ∃ q, q = en ((rs.take 40).drop (k + 1)) := ⟨_, rfl⟩
              rw [← hq] at het
              have HQ := Lib.hid hq
              clear hq
              have hr5 := HR.out
              rw [het] at hr5
              clear hcs hrec hr hd0 het hk4
              dsimp only at q1 q2 q3 HD
              have hand := and_jn n
              have hj7 := jn_le n
              generalize jn n = J at *
              have HR5 := Lib.hid hr5
              have hn := Lib.hid (tk_number x J hj7 (bs ++ q))
              have hb5 : b < wr.heap.size := by omega
              have hbg : b < g := by omega
              clear hr5
              go_wp2_with fail
              refine (number_any HR5.out).mono ?_
              rw [hn.out]
              rintro e' w5 ⟨rfl, hrd, hs⟩
              have hs5 : wr.heap.size ≤ w5.heap.size := Nat.le_of_eq hs.2.symm
              have s1 : w5.cell? ⟨b, o + k * 4 + 1, none⟩ = some (.int .i64 n) := (World.cell?_of_block (a := ⟨b, o + k * 4 + 1, none⟩) (hs.1.block b hb5 (by intro h; injection h with h; omega))).trans q1
              have s2 : w5.cell? ⟨b, o + k * 4 + 2, none⟩ = some (.int .u64 (x : Int)) := (World.cell?_of_block (a := ⟨b, o + k * 4 + 2, none⟩) (hs.1.block b hb5 (by intro h; injection h with h; omega))).trans q2
              have s3 : w5.cell? ⟨b, o + k * 4 + 3, none⟩ = some (.slice A bs.length c) := (World.cell?_of_block (a := ⟨b, o + k * 4 + 3, none⟩) (hs.1.block b hb5 (by intro h; injection h with h; omega))).trans q3
              have HB5 := Lib.hid (HB.out.grown hs.1 hsz5 (by intro j hj; injection hj with hj; omega))
              have HR6 := Lib.hid hrd
              clear hrd hs q1 q2 q3
              go_wp2_with fail
              refine (bytes_any HR6.out).mono ?_
              rw [tk_bytes]
              rintro e' w6 ⟨v, rfl, ⟨Av, cv, rfl, _, hdv⟩, hrd, hs⟩
              have hs6 : w5.heap.size ≤ w6.heap.size := Nat.le_of_eq hs.2.symm
              have r2 : w6.cell? ⟨b, o + k * 4 + 2, none⟩ = some (.int .u64 (x : Int)) := (World.cell?_of_block (a := ⟨b, o + k * 4 + 2, none⟩) (hs.1.block b (by omega) (by intro h; injection h with h; omega))).trans s2
              have r3 : w6.cell? ⟨b, o + k * 4 + 3, none⟩ = some (.slice A bs.length c) := (World.cell?_of_block (a := ⟨b, o + k * 4 + 3, none⟩) (hs.1.block b (by omega) (by intro h; injection h with h; omega))).trans s3
              have HB6 := Lib.hid (HB5.out.grown hs.1 (by omega) (by intro j hj; injection hj with hj; omega))
              have HR7 := Lib.hid hrd
              have hdw := HD.out.below HB6.out (Nat.le_refl _)
              have hcv := run_str (P := Try.prog) w6.drew 22 Try.underlying22 Try.underlying5 (c := cv) hdv.drew rfl 9 Try.underlying9
              have hcw := run_str (P := Try.prog) w6.drew 22 Try.underlying22 Try.underlying5 (c := c) hdw.drew rfl 9 Try.underlying9
              have a1 : IntKind.i64.wrap (8 * ((J : Int) + 1)) = 8 * ((J : Int) + 1) := IntWalk.i64_in _ (by omega)
              have a2 : IntKind.i64.wrap (64 - 8 * ((J : Int) + 1)) = 64 - 8 * ((J : Int) + 1) := IntWalk.i64_in _ (by omega)
              have a3 : IntKind.u64.wrap (64 - 8 * ((J : Int) + 1)) = 64 - 8 * ((J : Int) + 1) := by rw [IntKind.wrap_u64]; omega
              have a30 : (0 : Int) ≤ 64 - 8 * ((J : Int) + 1) := by omega
              have a4 : (64 - 8 * ((J : Int) + 1)).toNat = 64 - 8 * (J + 1) := by omega
              have a5 : min (64 - 8 * (J + 1)) 64 = 64 - 8 * (J + 1) := by omega
              have a6 := up_down x J hj7
              clear hrd hs s1 s2 s3 hdv hdw
              go_wp2_with fail
              go_region_held3 (fun w' => w'.cell? ⟨b, o + k * 4 + 2, none⟩ = some (.int .u64 (x : Int)) ∧ w'.cell? ⟨b, o + k * 4 + 3, none⟩ = some (.slice A bs.length c) ∧
                  (convert 22 9 (.slice Av bs.length cv)).run Try.prog w' = .ok (.string (str bs)) w' ∧ (convert 22 9 (.slice A bs.length c)).run Try.prog w' = .ok (.string (str bs)) w') (first | go_keep | exact ⟨r2, r3, hcv, hcw⟩) (fail)
              go_wp2_with fail
              go_roundg (40 - (k + 1))
              case measure => have := HK.out; omega
              case rel =>
                refine ⟨k + 1, by omega, by omega, by go_num, ?_, HB6.out.drew⟩
                rw [← HQ.out]
                exact HR7.out
            · have d1 : decide ((k : Int) < (rs.length : Int)) = true := decide_eq_true (by omega)
              have d2 : decide ((k : Int) < 40) = false := decide_eq_false (by omega)
              have hr5 := HR.out
              rw [List.drop_of_length_le (by rw [hlen40.out]; omega)] at hr5
              have HR5 := Lib.hid (show RD true wr w3.heap.size g [] 0 from hr5)
              clear hr5
              go_wp2_with fail
              refine (rd_end HR5.out).mono ?_
              rintro e' w' ⟨he, rfl⟩
              obtain rfl : e' = .returned (.int .i64 0) := he
              go_wp2_with fail
              go_ret
              exact ⟨rfl, HB.out⟩
          · have d1 : decide ((k : Int) < (rs.length : Int)) = false := decide_eq_false (by omega)
            have hr5 := HR.out
            rw [List.drop_of_length_le (by rw [hlen40.out]; omega)] at hr5
            have HR5 := Lib.hid (show RD true wr w3.heap.size g [] 0 from hr5)
            clear hr5
            go_wp2_with fail
            refine (rd_end HR5.out).mono ?_
            rintro e' w' ⟨he, rfl⟩
            obtain rfl : e' = .returned (.int .i64 0) := he
            go_wp2_with fail
            go_ret
            exact ⟨rfl, HB.out⟩
    · have d1 : decide ((k : Int) < (rs.length : Int)) = false := decide_eq_false (by omega)
      have HY40 : Hid (ys = en (rs.take 40)) := by unfold Hid; rw [HY.out, List.take_of_length_le (by omega), List.take_of_length_le (by omega)]
      have HL : Hid (ys.length ≤ 1099511627776) := by have := HF.out; unfold Few at this; unfold Hid; omega
      clear d1
      go_wp2_with fail
      refine (out_any HW.out HL.out).mono ?_
      rintro e' w3 ⟨v, rfl, ho, hB3⟩
      obtain ⟨A3, c3, rfl, _, hd3⟩ := ho.form
      have HB3 := Lib.hid (HB.out.trans (hB3.mono hsz))
      have hs3 := hB3.size
      have HD3 := Lib.hid hd3
      clear ho hB3 hd3
      go_wp2_with fail
      refine (reader_any HD3.out rfl HL.out (Nat.le_refl _)).mono ?_
      rintro e' w4 ⟨g, rfl, hg, hrd, hB4⟩
      have hs4 := hB4.size
      have HB4 := Lib.hid (HB3.out.trans (hB4.mono (by omega)))
      rw [HY40.out] at hrd
      have HR4 := Lib.hid hrd
      clear hrd hB4
      go_wp2_with fail
      go_loopg [7] 40 (fun gh i wx => ∃ k : Nat, k ≤ rs.length ∧ gh + k = 40 ∧ i = .int .i64 k ∧ RD true wx w3.heap.size g (en ((rs.take 40).drop k)) 0 ∧ Below w.heap.size w wx)
      case atStart => exact ⟨0, Nat.zero_le _, rfl, rfl, HR4.out, HB4.out⟩
      case round =>
        clear hlt hk hk40 HK HF HW HB HY HY40 HL
        obtain ⟨k, hk, hgk, rfl, hrd, hB⟩ := hrel
        have HK := Lib.hid hgk
        have HR := Lib.hid hrd
        have HB := Lib.hid hB
        have hsz5 := hB.size
        have hk40 : k ≤ 40 := by omega
        have hlen40 : Hid ((rs.take 40).length = min 40 rs.length) := by unfold Hid; simp
        clear hgk hrd hB
        by_cases hlt : k < rs.length
        · by_cases h40 : k < 40
          · have d1 : decide ((k : Int) < (rs.length : Int)) = true := decide_eq_true (by omega)
            have d2 : decide ((k : Int) < 40) = true := decide_eq_true (by omega)
            obtain ⟨b, o, rfl, hbl1, hcs⟩ := HA.out (by omega)
            have hrec := (hcs k hlt).below HB.out hbl1
            have hd0 := (hcs k hlt).hd
            have hk4 : k < (rs.take 40).length := by rw [hlen40.out]; omega
            have het := en_drop (rs.take 40) k hk4
            rw [List.getElem_take] at het
            obtain ⟨r, hr⟩ : ∃ r, r = rs[k] := ⟨_, rfl⟩
            rw [← hr] at hrec hd0 het
            obtain ⟨num, n, x, A, c, bs⟩ := r
            have q1 := hrec.c1
            have q2 := hrec.c2
            have q3 := hrec.c3
            have HD := Lib.hid hd0
            dsimp only at het
            obtain ⟨q, hq⟩ : ∃ q, q = en ((rs.take 40).drop (k + 1)) := ⟨_, rfl⟩
            rw [← hq] at het
            have HQ := Lib.hid hq
            clear hq
            have hr5 := HR.out
            rw [het] at hr5
            clear hcs hrec hr hd0 het hk4
            dsimp only at q1 q2 q3 HD
            have hand := and_jn n
            have hj7 := jn_le n
            generalize jn n = J at *
            have HR5 := Lib.hid hr5
            have hn := Lib.hid (tk_number x J hj7 (bs ++ q))
            have hb5 : b < wr.heap.size := by omega
            have hbg : b < g := by omega
            clear hr5
            go_wp2_with fail
            refine (number_any HR5.out).mono ?_
            rw [hn.out]
            rintro e' w5 ⟨rfl, hrd, hs⟩
            have hs5 : wr.heap.size ≤ w5.heap.size := Nat.le_of_eq hs.2.symm
            have s1 : w5.cell? ⟨b, o + k * 4 + 1, none⟩ = some (.int .i64 n) := (World.cell?_of_block (a := ⟨b, o + k * 4 + 1, none⟩) (hs.1.block b hb5 (by intro h; injection h with h; omega))).trans q1
            have s2 : w5.cell? ⟨b, o + k * 4 + 2, none⟩ = some (.int .u64 (x : Int)) := (World.cell?_of_block (a := ⟨b, o + k * 4 + 2, none⟩) (hs.1.block b hb5 (by intro h; injection h with h; omega))).trans q2
            have s3 : w5.cell? ⟨b, o + k * 4 + 3, none⟩ = some (.slice A bs.length c) := (World.cell?_of_block (a := ⟨b, o + k * 4 + 3, none⟩) (hs.1.block b hb5 (by intro h; injection h with h; omega))).trans q3
            have HB5 := Lib.hid (HB.out.grown hs.1 hsz5 (by intro j hj; injection hj with hj; omega))
            have HR6 := Lib.hid hrd
            clear hrd hs q1 q2 q3
            go_wp2_with fail
            refine (bytes_any HR6.out).mono ?_
            rw [tk_bytes]
            rintro e' w6 ⟨v, rfl, ⟨Av, cv, rfl, _, hdv⟩, hrd, hs⟩
            have hs6 : w5.heap.size ≤ w6.heap.size := Nat.le_of_eq hs.2.symm
            have r2 : w6.cell? ⟨b, o + k * 4 + 2, none⟩ = some (.int .u64 (x : Int)) := (World.cell?_of_block (a := ⟨b, o + k * 4 + 2, none⟩) (hs.1.block b (by omega) (by intro h; injection h with h; omega))).trans s2
            have r3 : w6.cell? ⟨b, o + k * 4 + 3, none⟩ = some (.slice A bs.length c) := (World.cell?_of_block (a := ⟨b, o + k * 4 + 3, none⟩) (hs.1.block b (by omega) (by intro h; injection h with h; omega))).trans s3
            have HB6 := Lib.hid (HB5.out.grown hs.1 (by omega) (by intro j hj; injection hj with hj; omega))
            have HR7 := Lib.hid hrd
            have hdw := HD.out.below HB6.out (Nat.le_refl _)
            have hcv := run_str (P := Try.prog) w6.drew 22 Try.underlying22 Try.underlying5 (c := cv) hdv.drew rfl 9 Try.underlying9
            have hcw := run_str (P := Try.prog) w6.drew 22 Try.underlying22 Try.underlying5 (c := c) hdw.drew rfl 9 Try.underlying9
            have a1 : IntKind.i64.wrap (8 * ((J : Int) + 1)) = 8 * ((J : Int) + 1) := IntWalk.i64_in _ (by omega)
            have a2 : IntKind.i64.wrap (64 - 8 * ((J : Int) + 1)) = 64 - 8 * ((J : Int) + 1) := IntWalk.i64_in _ (by omega)
            have a3 : IntKind.u64.wrap (64 - 8 * ((J : Int) + 1)) = 64 - 8 * ((J : Int) + 1) := by rw [IntKind.wrap_u64]; omega
            have a30 : (0 : Int) ≤ 64 - 8 * ((J : Int) + 1) := by omega
            have a4 : (64 - 8 * ((J : Int) + 1)).toNat = 64 - 8 * (J + 1) := by omega
            have a5 : min (64 - 8 * (J + 1)) 64 = 64 - 8 * (J + 1) := by omega
            have a6 := up_down x J hj7
            clear hrd hs s1 s2 s3 hdv hdw
            go_wp2_with fail
            go_region_held3 (fun w' => w'.cell? ⟨b, o + k * 4 + 2, none⟩ = some (.int .u64 (x : Int)) ∧ w'.cell? ⟨b, o + k * 4 + 3, none⟩ = some (.slice A bs.length c) ∧
                (convert 22 9 (.slice Av bs.length cv)).run Try.prog w' = .ok (.string (str bs)) w' ∧ (convert 22 9 (.slice A bs.length c)).run Try.prog w' = .ok (.string (str bs)) w') (first | go_keep | exact ⟨r2, r3, hcv, hcw⟩) (fail)
            go_wp2_with fail
            go_roundg (40 - (k + 1))
            case measure => have := HK.out; omega
            case rel =>
              refine ⟨k + 1, by omega, by omega, by go_num, ?_, HB6.out.drew⟩
              rw [← HQ.out]
              exact HR7.out
          · have d1 : decide ((k : Int) < (rs.length : Int)) = true := decide_eq_true (by omega)
            have d2 : decide ((k : Int) < 40) = false := decide_eq_false (by omega)
            have hr5 := HR.out
            rw [List.drop_of_length_le (by rw [hlen40.out]; omega)] at hr5
            have HR5 := Lib.hid (show RD true wr w3.heap.size g [] 0 from hr5)
            clear hr5
            go_wp2_with fail
            refine (rd_end HR5.out).mono ?_
            rintro e' w' ⟨he, rfl⟩
            obtain rfl : e' = .returned (.int .i64 0) := he
            go_wp2_with fail
            go_ret
            exact ⟨rfl, HB.out⟩
        · have d1 : decide ((k : Int) < (rs.length : Int)) = false := decide_eq_false (by omega)
          have hr5 := HR.out
          rw [List.drop_of_length_le (by rw [hlen40.out]; omega)] at hr5
          have HR5 := Lib.hid (show RD true wr w3.heap.size g [] 0 from hr5)
          clear hr5
          go_wp2_with fail
          refine (rd_end HR5.out).mono ?_
          rintro e' w' ⟨he, rfl⟩
          obtain rfl : e' = .returned (.int .i64 0) := he
          go_wp2_with fail
          go_ret
          exact ⟨rfl, HB.out⟩
end Go.Proofs.Ytppjilfhpiknbaa.cursorBack
