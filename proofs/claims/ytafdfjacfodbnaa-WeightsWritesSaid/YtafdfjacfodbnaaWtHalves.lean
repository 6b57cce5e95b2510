
/- The contract of the program's readHalves, and of Read where weights stand in half bytes. -/
import Derived.Test.YtafdfjacfodbnaaWtWrite
namespace Go.Proofs.Ytafdfjacfodbnaa
open Go.RowKit

/-- The half byte i. -/
def hfW (xs : List Nat) (i : Nat) : Nat := xs.getD (i / 2) 0 / 2 ^ (4 * (1 - i % 2)) % 16
/-- So many half bytes. -/
def halvesL (xs : List Nat) (n : Nat) : List Nat := (List.range n).map (hfW xs)
theorem halves_len (xs : List Nat) (n : Nat) : (halvesL xs n).length = n := by simp [halvesL]
theorem halves_lt {xs : List Nat} {n : Nat} : ∀ x ∈ halvesL xs n, x < 16 := by
  intro x hx
  obtain ⟨i, _, rfl⟩ := List.mem_map.1 hx
  exact Nat.mod_lt _ (by omega)
/-- Numbers as bytes. -/
def byt (l : List Nat) : List UInt8 := l.map UInt8.ofNat
theorem nat_byt {l : List Nat} (h : ∀ x ∈ l, x < 256) : nat (byt l) = l := by
  unfold nat byt
  rw [List.map_map]
  conv => rhs; rw [← List.map_id l]
  refine List.map_congr_left fun x hx => ?_
  have := h x hx
  simp only [Function.comp, UInt8.toNat_ofNat', id]
  omega
theorem DatE.bytes {w : World} {lo hi : Nat} {A : Option Addr} {l : List Nat} (h : DatE u8cel w lo hi A l) (hb : ∀ x ∈ l, x < 256) : Dat false w lo hi A (byt l) := fun hx => by
  obtain ⟨d, o, hA, h1, h2, hc⟩ := h (by simpa [byt] using hx)
  refine ⟨d, o, hA, h1, h2, fun j hj => ?_, fun q => by cases q⟩
  have hj' : j < l.length := by simpa [byt] using hj
  have h8 := hb l[j] (List.getElem_mem hj')
  rw [hc j hj']
  unfold cel u8cel
  congr 2
  simp only [byt, List.getD_eq_getElem?_getD, List.getElem?_map, List.getElem?_eq_getElem hj', Option.map_some, Option.getD_some, UInt8.toNat_ofNat']
  omega

section
variable {w : World}
set_option maxRecDepth 100000 in
set_option maxHeartbeats 1000000 in
theorem readHalves_any {lo hi n c k : Nat} {A : Option Addr} {xs : List Nat} (hd : DatE u8cel w lo hi A xs) (hn : xs.length = k) (h8 : ∀ x ∈ xs, x ≤ 255) (hnk : n ≤ 2 * k) (hn0 : n ≤ 1000) (hhi : hi ≤ w.heap.size) :
    Calls Try.prog 40 #[.slice A k c, .int .i64 (n : Int)] w fun e w' => ∃ v, e = .returned v ∧ OwE u8cel w' 5 w.heap.size v (halvesL xs n) ∧ Below w.heap.size w w' := by
  obtain ⟨i0, hi0, hi1⟩ := Option.map_eq_some_iff.1 info_byte
  simp only [Prod.mk.injEq] at hi1
  obtain ⟨hz0, hz1', hz2'⟩ := hi1
  have HI := Lib.hid (And.intro hi0 (And.intro hz0 (And.intro hz1' hz2')))
  have HD := Lib.hid (And.intro hd (And.intro hn h8))
  clear hi0 hz0 hz1' hz2' hd hn h8
  go_enter Try.func40, Try.ntmps40
  go_wp2_with (at_make; refine wpList_make_full _ rfl _ _ 22 rfl w.heap.size 5 i0 (.int .u8 0) 1 Try.underlying22 HI.out.1 HI.out.2.1 HI.out.2.2.1 .i64 .i64 _ _ n rfl rfl rfl rfl ?_ ?_ ?_ ?_)
  · rw [HI.out.2.2.2]; omega
  · unfold maxLen; omega
  · exact Nat.le_refl _
  intro w3 ho hg
  have ho1 : OwE u8cel w3 5 w.heap.size (.slice (some ⟨w.heap.size, 0, none⟩) n n) (List.replicate n 0) := by
    unfold OwE
    rw [made_nats] at ho
    simpa using ho
  have HO := Lib.hid (And.intro ho1 ((Below.refl w.heap.size w).grown hg (Nat.le_refl _) (by simp)))
  clear ho ho1 hg
  go_wp2_with fail
  go_loopg [11] n (fun g1 vi wx => ∃ i : Nat, vi = .int .i64 (i : Int) ∧ i + g1 = n ∧ OwE u8cel wx 5 w.heap.size (.slice (some ⟨w.heap.size, 0, none⟩) n n) (halvesL xs i ++ List.replicate (n - i) 0) ∧ Below w.heap.size w wx)
  case atStart => exact ⟨0, rfl, by omega, by simpa [halvesL] using HO.out.1, HO.out.2⟩
  case round =>
    clear HO
    obtain ⟨i, rfl, hi, hO, hB⟩ := hrel
    by_cases hlt : i < n
    · have hltz : (i : Int) < (n : Int) := by omega
      have hil : i / 2 < xs.length := by rw [HD.out.2.1]; omega
      obtain ⟨dd, oo, rfl, qd1, qd2, hc⟩ := HD.out.1 (by omega)
      have hci := (World.cell?_of_block (hB.block dd (by omega))).trans (hc (i / 2) hil)
      unfold u8cel at hci
      have hgi : xs.getD (i / 2) 0 = xs[i / 2] := by simp [List.getD, hil]
      have hx8 := HD.out.2.2 xs[i / 2] (List.getElem_mem hil)
      have hnx : halvesL xs (i + 1) = halvesL xs i ++ [hfW xs i] := by simp [halvesL, List.range_succ]
      have hlen : (halvesL xs i ++ List.replicate (n - i) 0).length = n := by simp [halves_len]; omega
      have hq := hO.cellAt i (by omega)
      obtain ⟨z0, hz0⟩ : ∃ z, z = (halvesL xs i ++ List.replicate (n - i) 0)[i]'(by omega) := ⟨_, rfl⟩
      rw [← hz0] at hq
      have hset : (halvesL xs i ++ List.replicate (n - i) 0).set i (hfW xs i) = halvesL xs (i + 1) ++ List.replicate (n - (i + 1)) 0 := by
        rw [hnx, List.set_append_right _ _ (by rw [halves_len]; exact Nat.le_refl _), halves_len, Nat.sub_self, show n - i = n - (i + 1) + 1 by omega, List.replicate_succ, List.set_cons_zero]
        simp
      have HQ := Lib.hid (And.intro hO (And.intro hB hset))
      obtain ⟨cq, fq⟩ := hq
      unfold u8cel at cq
      have hfe : hfW xs i = xs[i / 2] / 2 ^ (4 * (1 - i % 2)) % 16 := by unfold hfW; rw [hgi]
      have HFe := Lib.hid hfe
      have hik : i / 2 < k := by have := HD.out.2.1; omega
      clear hO hB hset hz0 hlen hgi hnx hc hfe
      generalize xs[i / 2] = x at *
      have HPl := fun W => Lib.hid (placeOf_any (w := W) i (by omega))
      have hp4 : 4 * (1 - i % 2) ≤ 4 := by omega
      generalize 4 * (1 - i % 2) = p at *
      have ePw : (x : Int) / 2 ^ p = ((x / 2 ^ p : Nat) : Int) := by simp
      have hxp : x / 2 ^ p ≤ 255 := Nat.le_trans (Nat.div_le_self _ _) hx8
      generalize x / 2 ^ p = X at *
      have eAnd := u8_and_nat X 15 (by omega) (by decide)
      have e16 : X &&& 15 = X % 16 := Nat.and_two_pow_sub_one_eq_mod X 4
      rw [e16] at eAnd
      have eAnd' : bits BinOp.and IntKind.u8 (X : Int) 15 = ((X % 16 : Nat) : Int) := eAnd
      have e0 : (i : Int) / 2 = ((i / 2 : Nat) : Int) := by omega
      have r1 : IntKind.i64.wrap (((i / 2 : Nat)) : Int) = ((i / 2 : Nat) : Int) := by rw [IntKind.wrap_i64]; omega
      generalize i / 2 = q at *
      have e5 : (q : Int) < (k : Int) := by omega
      have r3 : IntKind.i64.wrap (p : Int) = (p : Int) := by rw [IntKind.wrap_i64]; omega
      clear e16 eAnd hxp
      go_wp2_with fail
      go_region_with (first | (go_at_call 34; refine (HPl _).out.mono ?_; rintro e w' ⟨rfl, rfl⟩))
      all_goals
        have HF : Hid (OwE u8cel (wr.setCell ⟨w.heap.size, i, none⟩ (.int .u8 ((X : Int) % 16))).drew 5 w.heap.size (.slice (some ⟨w.heap.size, 0, none⟩) n n) (halvesL xs (i + 1) ++ List.replicate (n - (i + 1)) 0) ∧ Below w.heap.size w (wr.setCell ⟨w.heap.size, i, none⟩ (.int .u8 ((X : Int) % 16))).drew) := by
          obtain ⟨hO, hB, hset⟩ := HQ.out
          have := hO.put i (hfW xs i)
          rw [hset, HFe.out] at this
          exact ⟨this, (hB.setCell (Nat.le_refl _) _).drew⟩
        clear cq fq
        generalize World.drew _ = w9 at HF ⊢
        go_wp2_with fail
        go_roundg (n - (i + 1))
        case measure => omega
        case rel => exact ⟨i + 1, by go_num, by omega, HF.out.1, HF.out.2⟩
    · obtain rfl : i = n := by omega
      have hltz : ¬ (i : Int) < (i : Int) := by omega
      rw [Nat.sub_self, List.replicate_zero, List.append_nil] at hO
      have HQ := Lib.hid (And.intro hO hB)
      clear hO hB
      go_wp2_with fail
      go_ret
      exact ⟨_, rfl, HQ.out.1, HQ.out.2⟩
end
end Go.Proofs.Ytafdfjacfodbnaa
