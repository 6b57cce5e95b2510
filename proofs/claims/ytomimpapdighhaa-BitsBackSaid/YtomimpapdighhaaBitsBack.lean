/- BitsBack holds: for every slice of pieces the law returns true, and the slice reads behind the call as it read before. No condition. -/
import Derived.Test.YtomimpapdighhaaBitAwake
import Derived.Test.YtomimpapdighhaaBitMask
import Derived.Test.YtomimpapdighhaaBitPieces
import Derived.Deep.RegionHeld3
import Derived.Deep.LoopGhost
namespace Go.Proofs.Ytomimpapdighhaa.bitsBack
open Go.ChangeShapes Go.WideShapes Go.ChangeAt Go.RowKit

theorem i64_and31 (n : Int) : bits .and .i64 n 31 = n % 32 := by
  have h7 : (BitVec.ofInt 64 31).toNat = 2 ^ 5 - 1 := by decide
  have key : (BitVec.ofInt 64 n &&& BitVec.ofInt 64 31).toNat = (n % ((2 ^ 64 : Nat) : Int)).toNat % 2 ^ 5 := by
    rw [BitVec.toNat_and, BitVec.toNat_ofInt, h7, Nat.and_two_pow_sub_one_eq_mod]
  show IntKind.i64.wrap ((BitVec.ofInt 64 n &&& BitVec.ofInt 64 31).toNat : Nat) = n % 32
  rw [key, IntKind.wrap_i64]
  omega

/-- How many bits a piece's number is written in, less one. -/
def jn (n : Int) : Nat := (n % 32).toNat
theorem jn_le (n : Int) : jn n ≤ 31 := by unfold jn; omega
theorem and_jn (n : Int) : bits .and .i64 n 31 = (jn n : Int) := by rw [i64_and31]; unfold jn; omega
/-- What is written of pieces, one behind the other. -/
def bb (rs : List Pce) : List Bool := rs.flatMap fun r => low r.x (jn r.n + 1)
/-- Where piece k begins. -/
def off (rs : List Pce) (k : Nat) : Nat := (bb (rs.take k)).length
theorem lows_j (x J : Nat) (h : J ≤ 31) : lows x ((J : Int) + 1) = low x (J + 1) := by
  unfold lows
  rw [if_pos (by simp [wid]; omega)]
  rfl
theorem bb_more (rs : List Pce) (k : Nat) (h : k < rs.length) : bb (rs.take (k + 1)) = bb (rs.take k) ++ low rs[k].x (jn rs[k].n + 1) := by
  unfold bb
  rw [List.take_succ_eq_append_getElem h, List.flatMap_append]
  simp
theorem bb_len (rs : List Pce) : (bb rs).length ≤ 32 * rs.length := by
  induction rs with
  | nil => simp [bb]
  | cons r q ih =>
    have := jn_le r.n
    unfold bb at *
    simp only [List.flatMap_cons, List.length_append, List.length_cons, low_length]
    omega
theorem off_more (rs : List Pce) (k : Nat) (h : k < rs.length) : off rs (k + 1) = off rs k + (jn rs[k].n + 1) := by
  unfold off
  rw [bb_more rs k h, List.length_append, low_length]
theorem off_zero (rs : List Pce) : off rs 0 = 0 := by simp [off, bb]
theorem off_all (rs : List Pce) : off rs rs.length = (bb rs).length := by simp [off]
theorem bb_parts (rs : List Pce) (k : Nat) (h : k < rs.length) : bb rs = bb (rs.take k) ++ (low rs[k].x (jn rs[k].n + 1) ++ bb (rs.drop (k + 1))) := by
  have e : rs = rs.take k ++ rs[k] :: rs.drop (k + 1) := by
    conv => lhs; rw [← List.take_append_drop k rs, List.drop_eq_getElem_cons h]
  conv => lhs; rw [e]
  unfold bb
  rw [List.flatMap_append, List.flatMap_cons]
theorem off_le (rs : List Pce) (k : Nat) (h : k < rs.length) : off rs k + (jn rs[k].n + 1) ≤ (bb rs).length := by
  have := congrArg List.length (bb_parts rs k h)
  simp only [List.length_append, low_length] at this
  unfold off
  omega
/-- The bits of piece k, out of any bits that begin with those of all pieces. -/
theorem piece_bits (rs : List Pce) (k : Nat) (h : k < rs.length) (M : List Bool) (hM : M.take (bb rs).length = bb rs) :
    num ((M.drop (off rs k)).take (jn rs[k].n + 1)) = rs[k].x % 2 ^ (jn rs[k].n + 1) := by
  have hle := off_le rs k h
  have e : (M.drop (off rs k)).take (jn rs[k].n + 1) = ((bb rs).drop (off rs k)).take (jn rs[k].n + 1) := by
    rw [← hM, List.drop_take, List.take_take, Nat.min_eq_left (by omega)]
  rw [e, bb_parts rs k h, show off rs k = (bb (rs.take k)).length by rfl, List.drop_left, ← low_length rs[k].x (jn rs[k].n + 1)]
  rw [low_length, List.take_left' (by rw [low_length]), num_low]
theorem take_open (l : List Bool) : (bitsOf (bytesOf l)).take l.length = l := take_bits l
theorem take_closed (l : List Bool) : (bitsOf (bytesOf (l ++ [true]))).take l.length = l := by
  have h := take_bits (l ++ [true])
  have h2 : ((bitsOf (bytesOf (l ++ [true]))).take (l ++ [true]).length).take l.length = (l ++ [true]).take l.length := by rw [h]
  rw [List.take_take, Nat.min_eq_left (by simp), List.take_left] at h2
  exact h2
theorem closed_back (l : List Bool) : noBack (bytesOf (l ++ [true])) = false := by
  have hlen : (bytesOf (l ++ [true])).length = l.length / 8 + 1 := by rw [bytesOf_length]; simp; omega
  have hset : bitAt (bytesOf (l ++ [true])) l.length = true := by rw [bitAt_bytesOf]; simp [List.getD]
  unfold noBack
  rw [hlen]
  have hz : (bytesOf (l ++ [true])).getD (l.length / 8 + 1 - 1) 0 ≠ 0 := by
    intro e
    unfold bitAt at hset
    rw [show l.length / 8 + 1 - 1 = l.length / 8 by omega] at e
    rw [e] at hset
    simp at hset
  simp only [Bool.or_eq_false_iff, decide_eq_false_iff_not]
  exact ⟨by omega, hz⟩
theorem fread_ok (xs : List UInt8) (at_ m : Nat) (h32 : m ≤ 32) (h : at_ + m ≤ 8 * xs.length) : fread xs at_ (m : Int) = (num (((bitsOf xs).drop at_).take m), 0, at_ + m) := by
  rw [fread, if_neg (by omega), if_neg (by omega)]
  rfl
theorem fread_piece (rs : List Pce) (k : Nat) (h : k < rs.length) : fread (bytesOf (bb rs)) (off rs k) ((jn rs[k].n : Int) + 1) = (rs[k].x % 2 ^ (jn rs[k].n + 1), 0, off rs (k + 1)) := by
  have hj := jn_le rs[k].n
  have hle := off_le rs k h
  rw [show (jn rs[k].n : Int) + 1 = ((jn rs[k].n + 1 : Nat) : Int) by omega, fread_ok _ _ _ (by omega) (by rw [bytesOf_length]; omega), piece_bits rs k h _ (take_open _), off_more rs k h]
theorem bread_piece (rs : List Pce) (k : Nat) (h : k < rs.length) : bread (bytesOf (bb rs ++ [true])) (off rs (k + 1) : Nat) ((jn rs[k].n : Int) + 1) = (rs[k].x % 2 ^ (jn rs[k].n + 1), ((off rs k : Nat) : Int)) := by
  have hj := jn_le rs[k].n
  have hle := off_le rs k h
  have ho := off_more rs k h
  unfold bread
  rw [if_pos (by simp [wid]; omega)]
  have ht : there (off rs (k + 1) : Nat) ((jn rs[k].n : Int) + 1) = jn rs[k].n + 1 := by unfold there; omega
  rw [ht, show ((off rs (k + 1) : Nat) : Int).toNat - (jn rs[k].n + 1) = off rs k by omega, piece_bits rs k h _ (take_closed _), show ((jn rs[k].n : Int) + 1).toNat - (jn rs[k].n + 1) = 0 by omega, Nat.pow_zero, Nat.mul_one]
  congr 1
  omega

set_option maxRecDepth 100000 in
set_option maxHeartbeats 4000000 in
theorem walk (a0 : Option Addr) (rs : List Pce) (cap0 : Nat) (w : World) (hr : Pcs w a0 rs) (hm : rs.length ≤ maxLen) :
    Calls Try.prog 6 #[.slice a0 rs.length cap0] w fun e w' => e = .returned (.bool true) ∧ Below w.heap.size w w' := by
  unfold maxLen at hm
  have HA := Lib.hid hr
  clear hr
  by_cases hlen : 60 < rs.length
  · go_enter Try.func6, Try.ntmps6
    go_wp2_with fail
    refine (awake_any _).mono ?_
    rintro e w1 ⟨rfl, hB⟩
    have HB := Lib.hid hB
    clear hB
    go_wp2_with fail
    go_ret
    exact ⟨rfl, HB.out⟩
  · have hl : rs.length ≤ 60 := by omega
    have h60 : decide (60 < (rs.length : Int)) = false := by simp; omega
    have hbl := bb_len rs
    go_enter Try.func6, Try.ntmps6
    go_wp2_with fail
    refine (awake_any _).mono ?_
    rintro e w1 ⟨rfl, hB⟩
    have HB1 := Lib.hid hB
    have hs1 := hB.size
    clear hB
    go_wp2_with fail
    refine (newWriter_any _).mono ?_
    rintro e w2 ⟨rfl, hw, hB⟩
    have HI2 : Hid (WR w2 w1.heap.size w1.heap.size (.slice none 0 0) (bb (rs.take 0)) ∧ Below w.heap.size w w2) :=
      ⟨by simpa [bb] using hw, HB1.out.trans (hB.mono hs1)⟩
    clear hw hB
    go_wp2_with fail
    go_loopg [5] rs.length (fun gh i wr => ∃ (k : Nat) (v : Value), k + gh = rs.length ∧ i = .int .i64 k ∧ WR wr w1.heap.size w1.heap.size v (bb (rs.take k)) ∧ Below w.heap.size w wr)
    case atStart => exact ⟨0, _, by omega, rfl, HI2.out.1, HI2.out.2⟩
    case round =>
      obtain ⟨k, v, hk, rfl, hw, hB⟩ := hrel
      have HK := Lib.hid hk
      have hkl : k ≤ rs.length := by omega
      have hLn : (bb (rs.take k)).length ≤ 3360 := by have := bb_len (rs.take k); simp at this; omega
      have hsz := hB.size
      have HW := Lib.hid hw
      have HB := Lib.hid hB
      clear hk hw hB
      by_cases hlt : k < rs.length
      · obtain ⟨b, o, rfl, hbl1, hps⟩ := HA.out (by omega)
        have hp := (hps k hlt).below HB.out hbl1
        have HBM := Lib.hid (bb_more rs k hlt)
        obtain ⟨r, hr⟩ : ∃ r, r = rs[k] := ⟨_, rfl⟩
        rw [← hr] at hp HBM
        obtain ⟨x, n⟩ := r
        have q0 : wr.cell? ⟨b, o + k * 2, none⟩ = some (.int .u64 (x : Int)) := hp.c0
        have q1 : wr.cell? ⟨b, o + k * 2 + 1, none⟩ = some (.int .i64 n) := hp.c1
        have hx : x < 18446744073709551616 := hp.wx
        clear hps hp hr
        have hJ := jn_le n
        have hand := and_jn n
        dsimp only at HBM
        generalize jn n = J at *
        generalize bb (rs.take k) = L at *
        have HWr := Lib.hid (write_any (w := wr.drew) x ((J : Int) + 1) (show WR wr.drew w1.heap.size w1.heap.size v L from HW.out) hx (by omega))
        rw [lows_j x J hJ] at HWr
        have ew : IntKind.i64.wrap ((J : Int) + 1) = (J : Int) + 1 := IntWalk.i64_in _ (by omega)
        go_wp2_with fail
        go_still_tail 13, (by kernel_rfl)
        change wpList _ _ _ _ _ wr.drew
        clear ew
        go_wp2_with fail
        refine HWr.out.mono ?_
        rintro e' w3 ⟨rfl, v2, hw, hF, _⟩
        have HW3 := Lib.hid hw
        have HB3 := Lib.hid (HB.out.trans (Foot.below ⟨hF.os, hF.tape, hF.output, hF.size, hF.block⟩ hsz (by omega) (fun q hq => by have := (HW.out.row q hq).1; omega) : Below w.heap.size wr w3))
        clear hw hF q0 q1
        go_wp2_with fail
        go_roundg (rs.length - (k + 1))
        case measure => have := HK.out; omega
        case rel => exact ⟨k + 1, v2, by omega, by go_num, by rw [HBM.out]; exact HW3.out, HB3.out⟩
      · obtain rfl : k = rs.length := by omega
        rw [List.take_length] at HW
        have HO := Lib.hid (out_any HW.out (by omega))
        go_wp2_with fail
        refine HO.out.mono ?_
        rintro e' w3 ⟨v3, rfl, ho, hB⟩
        obtain ⟨A3, c3, rfl, _, hd3⟩ := ho.form
        have HW3 := Lib.hid (HW.out.below hB (Nat.le_refl _))
        have HB3 := Lib.hid (HB.out.trans (hB.mono hsz))
        have hs3 := HB3.out.size
        have HD3 := Lib.hid hd3
        have hy : (bytesOf (bb rs)).length ≤ 1099511627776 := by rw [bytesOf_length]; omega
        have HY := Lib.hid hy
        clear ho hB hd3 hy
        go_wp2_with fail
        refine (newForward_any HD3.out rfl HY.out (Nat.le_refl _)).mono ?_
        rintro e' w4 ⟨g4, rfl, hf, hB⟩
        have HW4 := Lib.hid (HW3.out.below hB (Nat.le_refl _))
        have HB4 := Lib.hid (HB3.out.trans (hB.mono hs3))
        have hg4 := hf.1
        have hgl4 := hf.lt
        have HF4 := Lib.hid hf
        have hs4 := HB4.out.size
        clear hf hB
        go_wp2_with fail
        refine (closed_any HW4.out (by omega)).mono ?_
        rintro e' w5 ⟨v5, rfl, ho, hB⟩
        obtain ⟨A5, c5, rfl, _, hd5⟩ := ho.form
        have HF5 := Lib.hid (HF4.out.below hB hgl4)
        have HB5 := Lib.hid (HB4.out.trans (hB.mono hs4))
        have hs5 := HB5.out.size
        have hs45 := hB.size
        have HD5 := Lib.hid hd5
        have hy : (bytesOf (bb rs ++ [true])).length ≤ 1099511627776 := by rw [bytesOf_length]; simp; omega
        have HY2 := Lib.hid hy
        clear ho hB hd5 hy
        go_wp2_with fail
        refine (newBack_yes HD5.out rfl HY2.out (Nat.le_refl _) (closed_back _)).mono ?_
        rintro e' w6 ⟨g6, rfl, hr, hB⟩
        rw [top_closed, ← off_all] at hr
        have hg6 := hr.1
        have HR6 := Lib.hid hr
        have HF6 := Lib.hid (HF5.out.below hB (by omega))
        have HB6 := Lib.hid (HB5.out.trans (hB.mono hs5))
        have hs6 := HB6.out.size
        have hg46 : g4 < w5.heap.size := by omega
        clear hr hB
        go_wp2_with fail
        go_loopg [9] rs.length (fun gh i wx => ∃ k : Nat, k + gh = rs.length ∧ i = .int .i64 k ∧ FW wx w3.heap.size g4 (bytesOf (bb rs)) (off rs k) ∧ BW wx w5.heap.size g6 (bytesOf (bb rs ++ [true])) (off rs rs.length : Nat) ∧ Below w.heap.size w wx)
        case atStart => exact ⟨0, by omega, rfl, by rw [off_zero]; exact HF6.out, HR6.out, HB6.out⟩
        case round =>
          obtain ⟨k, hk, rfl, hF, hR, hB⟩ := hrel
          have HK := Lib.hid hk
          have hkl : k ≤ rs.length := by omega
          have hsz := hB.size
          have hgl := hF.lt
          have HFr := Lib.hid hF
          have HRr := Lib.hid hR
          have HBr := Lib.hid hB
          clear hk hF hR hB
          by_cases hlt : k < rs.length
          · obtain ⟨b, o, rfl, hbl1, hps⟩ := HA.out (by omega)
            have hp := (hps k hlt).below HBr.out hbl1
            have HFP := Lib.hid (fread_piece rs k hlt)
            obtain ⟨r, hr⟩ : ∃ r, r = rs[k] := ⟨_, rfl⟩
            rw [← hr] at hp HFP
            obtain ⟨x, n⟩ := r
            have q0 : wr.cell? ⟨b, o + k * 2, none⟩ = some (.int .u64 (x : Int)) := hp.c0
            have q1 : wr.cell? ⟨b, o + k * 2 + 1, none⟩ = some (.int .i64 n) := hp.c1
            have hx : x < 18446744073709551616 := hp.wx
            clear hps hp hr
            have hJ := jn_le n
            have hand := and_jn n
            dsimp only at HFP
            generalize jn n = J at *
            have hJ1 : J + 1 ≤ 56 := by omega
            have HM := Lib.hid (mask_low x (J + 1) hx hJ1)
            go_wp2_with fail
            refine (fread_any _ HFr.out).mono ?_
            rintro e' w7 ⟨rfl, hF, hs⟩
            rw [HFP.out] at hF ⊢
            have q2 : w7.cell? ⟨b, o + k * 2, none⟩ = some (.int .u64 (x : Int)) := (World.cell?_of_block (a := ⟨b, o + k * 2, none⟩) (hs.1.block b (by omega) (by intro h; injection h with h; omega))).trans q0
            have HF7 := Lib.hid hF
            have HR7 := Lib.hid (HRr.out.stp hs (by omega))
            have HB7 := Lib.hid (HBr.out.trans (hs.below hsz (by omega)))
            have et : ((J : Int) + 1).toNat = J + 1 := by omega
            clear hF hs q0 q1
            generalize x % 2 ^ (J + 1) = Y at *
            have hmk := HM.out
            go_wp2_with fail
            go_roundg (rs.length - (k + 1))
            case measure => have := HK.out; omega
            case rel => exact ⟨k + 1, by omega, by go_num, HF7.out, HR7.out, HB7.out⟩
          · obtain rfl : k = rs.length := by omega
            go_wp2_with fail
            go_loopg [13] rs.length (fun gh i wx => ∃ k : Nat, k = gh ∧ k ≤ rs.length ∧ i = .int .i64 ((k : Int) - 1) ∧ BW wx w5.heap.size g6 (bytesOf (bb rs ++ [true])) (off rs k : Nat) ∧ Below w.heap.size w wx)
            case atStart => exact ⟨rs.length, rfl, Nat.le_refl _, rfl, HRr.out, HBr.out⟩
            case round =>
              obtain ⟨k, hgk, hk, rfl, hR, hB⟩ := hrel
              have HG := Lib.hid hgk
              have hsz3 := hB.size
              have hgl3 := hR.lt
              have HR3 := Lib.hid hR
              have HB3' := Lib.hid hB
              clear hgk hR hB
              by_cases hk0 : 0 < k
              · obtain ⟨j, rfl⟩ : ∃ j, k = j + 1 := ⟨k - 1, by omega⟩
                have hlt : j < rs.length := by omega
                obtain ⟨b, o, rfl, hbl1, hps⟩ := HA.out (by omega)
                have hp := (hps j hlt).below HB3'.out hbl1
                have HBP := Lib.hid (bread_piece rs j hlt)
                obtain ⟨r, hr⟩ : ∃ r, r = rs[j] := ⟨_, rfl⟩
                rw [← hr] at hp HBP
                obtain ⟨x, n⟩ := r
                have hx : x < 18446744073709551616 := hp.wx
                have q0 : wr.cell? ⟨b, o + j * 2, none⟩ = some (.int .u64 (x : Int)) := hp.c0
                have q1 : wr.cell? ⟨b, o + j * 2 + 1, none⟩ = some (.int .i64 n) := hp.c1
                clear hps hp hr
                have hJ := jn_le n
                have hand := and_jn n
                dsimp only at HBP
                generalize jn n = J at *
                have hJ1 : J + 1 ≤ 56 := by omega
                have HM := Lib.hid (mask_low x (J + 1) hx hJ1)
                have e1 : ((j + 1 : Nat) : Int) - 1 = (j : Int) := by omega
                rw [e1]
                have HRd := Lib.hid (bread_any ((J : Int) + 1) (show BW wr.drew w5.heap.size g6 (bytesOf (bb rs ++ [true])) (off rs (j + 1) : Nat) from HR3.out) (by omega))
                rw [HBP.out] at HRd
                have et : ((J : Int) + 1).toNat = J + 1 := by omega
                have hbr : b < wr.heap.size := by omega
                have hbg : b ≠ g6 := by omega
                generalize x % 2 ^ (J + 1) = Y at *
                go_wp2_with fail
                have hmk := HM.out
                have hji : (j : Int) < (rs.length : Int) := by omega
                have hj0 : (0 : Int) ≤ (j : Int) := by omega
                have eu : IntKind.u64.wrap ((J : Int) + 1) = (J : Int) + 1 := by rw [IntKind.wrap_u64]; omega
                go_region_held3 (fun w' => w'.cell? ⟨b, o + j * 2, none⟩ = some (.int .u64 (x : Int))) (first | exact q0 | go_keep) ((go_at_call 21; refine HRd.out.mono ?_; rintro e' w8 ⟨rfl, hR, hs⟩; have k0 : w8.cell? ⟨b, o + j * 2, none⟩ = some (.int .u64 (x : Int)) := (World.cell?_of_block (a := ⟨b, o + j * 2, none⟩) (hs.1.block b (by exact hbr) (by intro h; injection h with h; exact hbg h))).trans q0; have HR8 := Lib.hid hR; have HB8 := Lib.hid (HB3'.out.trans ((Below.refl _ _).drew.trans (hs.below hsz3 (by omega)))); clear hR hs))
                all_goals
                  go_wp2_with fail
                  go_roundg j
                  case measure => have := HG.out; omega
                  case rel => exact ⟨j, rfl, by omega, by go_num, HR8.out, HB8.out⟩
              · obtain rfl : k = 0 := by omega
                rw [off_zero] at HR3
                go_wp2_with fail
                refine (left_any HR3.out).mono ?_
                rintro e' w' ⟨rfl, rfl⟩
                go_wp2_with fail
                go_ret
                exact ⟨rfl, HB3'.out⟩

set_option maxRecDepth 100000 in
theorem lifted (os : Os) (started : os.Started) (H : Type) (enc : TypeId × Value → H) :
    ReturnsInHanded {} Try.checked os 6 .any (Rows.bitsBackSpec.pre6 enc Try.prog Try.f6 Rows.bitsBackRow.domain false) (Rows.bitsBackSpec.post enc Try.prog Try.f6 false true false false) := by
  refine returnsInHanded_of_change (C := Try.checked) own started (by kernel_rfl) Try.func6
    (ChangeSpec.witness6 (enc := enc) (C := Try.checked) false ⟨#[], #[.slice none 0 0], []⟩ 8 (by kernel_rfl) (by kernel_rfl) (by kernel_rfl) (by kernel_rfl)) ?_
  intro W base args ds gs before hval0 hW hcnd _
  have hval : ∀ (j : Nat) t v, Try.f6.params[j]? = some t → args[j]? = some v → Value.okWide Try.prog W .any base t v := hval0
  have hW' := hW
  obtain ⟨p, q, hA0, hV, rfl, hfz, hnd⟩ := hW
  have hA : DataW.TrodAll enc Try.prog W 0 (fun _ => true) true Try.f6.params.toList args.toList ds p := hA0
  rw [Try.params6] at hA hval
  obtain ⟨v0, vs0, d0, ds0, p0, q0, hargs, rfl, rfl, h0, r0⟩ := trodAll_cons hA
  obtain ⟨rfl, rfl, rfl⟩ := trodAll_nil r0
  obtain rfl : args = #[v0] := by cases args; simp_all
  obtain ⟨rfl, rfl⟩ := trodVars_none hV
  obtain ⟨a0, len0, cap0, rfl⟩ := okWide_slice Try.underlying53 (hval 0 53 v0 rfl rfl)
  have k0 := h0
  have lt0 : ∀ x ∈ p0, x.block < W.heap.size := by obtain ⟨m, hm⟩ := k0; exact DataW.trod_lt m _ _ _ hm
  obtain ⟨rs0, rfl, hl0, hm0, hd0⟩ := pieces_of h0
  clear hA0 hval0
  refine (walk a0 rs0 cap0 W hd0 (by omega)).mono fun e W' ⟨he, bel⟩ => ?_
  subst he
  exact ⟨_, rfl, _, _, _, [], _, [], hW', trodAll_mk1 (shut_bool Try.underlying4 _), (trodAll_cons_mk (Below.trod laidOut (by kernel_rfl) (of_decide_eq_true (by kernel_rfl)) k0 bel lt0) trodAll_mk0), rfl, bel.frame _, fun h => by cases h⟩

theorem over : Rows.bitsBackRow.holds Try.pinned (OpenSpec.ofChange Rows.bitsBackSpec) :=
  OpenClaim.holds_of_wide 6 Try.f6 rfl rfl rfl rfl rfl rfl rfl ⟨rfl, rfl, rfl, rfl, rfl⟩ rfl rfl rfl rfl rfl (by kernel_rfl) Try.func6 (by kernel_rfl)
    (of_decide_eq_true (by kernel_rfl)) (by unfold Func.isWrapper; first | (rw [if_pos (by decide +kernel)]; kernel_rfl) | (rw [if_neg (by decide +kernel)]; exact ⟨rfl, rfl⟩))
    (fun os started H enc _ => lifted os started H enc)

theorem proved : Rows.BitsBackSaid := over
end Go.Proofs.Ytomimpapdighhaa.bitsBack
