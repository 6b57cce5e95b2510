
/- The contract of the program's read: so many symbols of a stream, all that it has. -/
import Derived.Test.YtjpjbbbpmhcgnaaHufTree
import Derived.Test.YtjpjbbbpmhcgnaaPileD
namespace Go.Proofs.Ytjpjbbbpmhcgnaa
open Go.RowKit

/-- What a call answers that tells bytes, or an error: the bytes in memory of its own. -/
def BPost (w : World) (r : List UInt8 × Int) (e : Ending) (w' : World) : Prop :=
  Below w.heap.size w w' ∧ ∃ A c, e = .returned (.tuple #[.slice A r.1.length c, .int .i64 r.2]) ∧ r.1.length ≤ c ∧ Dat false w' w.heap.size w'.heap.size A r.1
theorem BPost.none {w w' : World} {er : Int} {e : Ending} (hB : Below w.heap.size w w') (he : e = .returned (.tuple #[.slice none 0 0, .int .i64 er])) : BPost w ([], er) e w' :=
  ⟨hB, Option.none, 0, he, Nat.le_refl _, fun h => absurd h (by simp)⟩

section
variable {w : World}
set_option maxRecDepth 100000 in
set_option maxHeartbeats 2000000 in
theorem hufRead_any {own : Bool} {lo hi t n c m d : Nat} {L : List Nat} {A : Option Addr} {xs : List UInt8} (hM : MayW d L) (hT : Tb w t (tbl d L L.length)) (hd : Dat own w lo hi A xs) (hm : xs.length = m) (hmb : m ≤ 1099511627776) (hhi : hi ≤ w.heap.size) (hn : n ≤ 1000000) :
    Calls Try.prog 19 #[.pointer (some ⟨t, 0, none⟩), .slice A m c, .int .i64 (n : Int)] w (BPost w (strm d L xs n)) := by
  have HM := Lib.hid hM
  have HT := Lib.hid hT
  by_cases hx : noBack xs = true
  · have HN := Lib.hid (newBack_no (c := c) hd hm (by omega) hx)
    have hr : strm d L xs n = ([], 11) := by unfold strm; rw [if_pos hx]
    rw [hr]
    clear hM hT hd
    go_enter Try.func19, Try.ntmps19
    go_wp2_with (go_at_call 33; refine HN.out.mono ?_; rintro e w' ⟨rfl, rfl⟩)
    go_ret2
    exact BPost.none (Below.refl _ _) rfl
  · have hx' : noBack xs = false := by simpa using hx
    have HN := Lib.hid (newBack_yes (c := c) hd hm (by omega) hhi hx')
    have HX := Lib.hid hx
    have htl := hT.lt
    obtain ⟨i0, hi0, hi1⟩ := Option.map_eq_some_iff.1 info_byte
    simp only [Prod.mk.injEq] at hi1
    obtain ⟨hz0, hz1', hz2'⟩ := hi1
    have HI := Lib.hid (And.intro hi0 (And.intro hz0 (And.intro hz1' hz2')))
    clear hi0 hz0 hz1' hz2' hM hT hd hx hx'
    go_enter Try.func19, Try.ntmps19
    go_wp2_with fail
    refine HN.out.mono ?_
    rintro e w1 ⟨g, rfl, hW1, hB1⟩
    have HW1 := Lib.hid (And.intro hW1 hB1)
    clear hW1 hB1
    go_wp2_with (at_make; refine wpList_make_full _ rfl _ _ 22 rfl w1.heap.size 5 i0 (.int .u8 0) 1 Try.underlying22 HI.out.1 HI.out.2.1 HI.out.2.2.1 .i64 .i64 _ _ n rfl rfl rfl rfl ?_ ?_ ?_ ?_)
    · rw [HI.out.2.2.2]; omega
    · unfold maxLen; omega
    · exact Nat.le_refl _
    intro w3 ho hg
    have ho1 : OwE u8cel w3 5 w1.heap.size (.slice (some ⟨w1.heap.size, 0, none⟩) n n) (List.replicate n 0) := by
      unfold OwE
      rw [made_nats] at ho
      simpa using ho
    have hB3 : Below w1.heap.size w1 w3 := (Below.refl w1.heap.size w1).grown hg (Nat.le_refl _) (by simp)
    have hg1 := HW1.out.1.lt
    have hs1 := HW1.out.2.size
    have hgw := HW1.out.1.1
    have HO := Lib.hid (And.intro ho1 (And.intro (HW1.out.1.below hB3 hg1) (HW1.out.2.trans (hB3.mono hs1))))
    clear ho ho1 hg hB3
    go_wp2_with fail
    go_loopg [25] n (fun g1 vi wx => ∃ i : Nat, vi = .int .i64 (i : Int) ∧ i + g1 = n ∧ OwE u8cel wx 5 w1.heap.size (.slice (some ⟨w1.heap.size, 0, none⟩) n n) ((rds d L xs i (top xs : Nat)).1 ++ List.replicate (n - i) 0) ∧ BW wx w.heap.size g xs (rds d L xs i (top xs : Nat)).2 ∧ Below w.heap.size w wx)
    case atStart => exact ⟨0, rfl, by omega, by simpa [rds] using HO.out.1, HO.out.2.1, HO.out.2.2⟩
    case round =>
      clear HO
      obtain ⟨i, rfl, hi, hO, hW, hB⟩ := hrel
      have hrl := rds_len (d := d) (l := L) (xs := xs) i (top xs : Nat)
      have hle := rds_le (xs := xs) HM.out i (top xs : Nat)
      have HTw := Lib.hid (HT.out.keep (hB.block t htl))
      by_cases hlt : i < n
      · have hltz : (i : Int) < (n : Int) := by omega
        have hlen : ((rds d L xs i (top xs : Nat)).1 ++ List.replicate (n - i) 0).length = n := by simp [hrl]; omega
        have hq := hO.cellAt i (by omega)
        obtain ⟨z0, hz0⟩ : ∃ z, z = ((rds d L xs i (top xs : Nat)).1 ++ List.replicate (n - i) 0)[i]'(by omega) := ⟨_, rfl⟩
        rw [← hz0] at hq
        obtain ⟨cq, fq⟩ := hq
        unfold u8cel at cq
        have hset : ((rds d L xs i (top xs : Nat)).1 ++ List.replicate (n - i) 0).set i (symOf d L xs (rds d L xs i (top xs : Nat)).2) = (rds d L xs (i + 1) (top xs : Nat)).1 ++ List.replicate (n - (i + 1)) 0 := by
          rw [rds_snoc, List.set_append_right _ _ (by rw [hrl]; exact Nat.le_refl _), hrl, Nat.sub_self, show n - i = n - (i + 1) + 1 by omega, List.replicate_succ, List.set_cons_zero]
          simp
        have HNx := Lib.hid (hufNext_any HM.out HTw.out hW (by omega) (by omega))
        have hsn : (rds d L xs (i + 1) (top xs : Nat)).2 = (rds d L xs i (top xs : Nat)).2 - bitsW d L (symOf d L xs (rds d L xs i (top xs : Nat)).2) := by rw [rds_snoc]
        rw [← hsn] at HNx
        have h256 := symOf_lt (xs := xs) (left := (rds d L xs i (top xs : Nat)).2) HM.out
        have HQ := Lib.hid (And.intro hO (And.intro hB hset))
        have hg2 := hW.lt
        have HLen := Lib.hid hlen
        clear hO hB hset hz0 hlen hW hsn hle hrl
        generalize symOf d L xs (rds d L xs i (top xs : Nat)).2 = S at *
        clear cq fq z0
        go_wp2_with (go_at_call 34; refine HNx.out.mono ?_; rintro e w4 ⟨rfl, hW4, hS4⟩; have hO4 := OwE.grown HQ.out.1 hS4.1 (.inr (by simp [Value.ownBlock]; omega)); have hq4 := hO4.cellAt i (by have := HLen.out; omega); obtain ⟨cq4, fq4⟩ := hq4; unfold u8cel at cq4)
        go_roundg (n - (i + 1))
        case measure => omega
        case rel =>
          have hp := hO4.put i S
          rw [HQ.out.2.2] at hp
          exact ⟨i + 1, by go_num, by omega, hp, hW4.keep fun k h1 h2 => Below.heap_setCell _ _ _ k (by simp; omega), (HQ.out.2.1.trans (Foot.below (Foot.stp (r := none) hS4) HQ.out.2.1.size hgw (fun k hk => by cases hk))).setCell hs1 _⟩
      · obtain rfl : i = n := by omega
        have hltz : ¬ (i : Int) < (i : Int) := by omega
        rw [Nat.sub_self, List.replicate_zero, List.append_nil] at hO
        have hnb := left_any hW
        have HLf := Lib.hid hnb
        have hOf := hO.form
        obtain ⟨A', c', hv, hc', hD⟩ := hOf
        have hD8 := hD.bytes (rds_lt HM.out _ _)
        rw [hrl] at hv hc'
        injection hv with hv1 _ hv3
        subst hv1 hv3
        have HQ := Lib.hid (And.intro hB (And.intro hD8 hc'))
        have HR := Lib.hid hrl
        clear hO hB hW hnb hD hD8 hle
        by_cases h1 : (rds d L xs i (top xs : Nat)).2 < 0
        · have hr : strm d L xs i = ([], 11) := by unfold strm; rw [if_neg HX.out, if_pos h1]
          have HR2 := Lib.hid hr
          clear hr
          generalize (rds d L xs i (top xs : Nat)).2 = Lf at *
          go_wp2_with (go_at_call 35; refine HLf.out.mono ?_; rintro e w4 ⟨rfl, rfl⟩)
          go_ret2
          rw [HR2.out]; exact BPost.none HQ.out.1 rfl
        · by_cases h2 : 0 < (rds d L xs i (top xs : Nat)).2
          · have hr : strm d L xs i = ([], 15) := by unfold strm; rw [if_neg HX.out, if_neg h1, if_pos h2]
            have HR2 := Lib.hid hr
            clear hr
            generalize (rds d L xs i (top xs : Nat)).2 = Lf at *
            go_wp2_with (go_at_call 35; refine HLf.out.mono ?_; rintro e w4 ⟨rfl, rfl⟩)
            go_ret2
            rw [HR2.out]; exact BPost.none HQ.out.1 rfl
          · have hr : strm d L xs i = (byt (rds d L xs i (top xs : Nat)).1, 0) := by unfold strm; rw [if_neg HX.out, if_neg h1, if_neg h2]; rfl
            have hbl : (byt (rds d L xs i (top xs : Nat)).1).length = i := by unfold byt; rw [List.length_map]; exact HR.out
            have HR2 := Lib.hid hr
            have HBl := Lib.hid hbl
            clear hbl hr
            have h0 : (rds d L xs i (top xs : Nat)).2 = 0 := by omega
            rw [h0] at HLf
            clear h0 h1 h2
            go_wp2_with (go_at_call 35; refine HLf.out.mono ?_; rintro e w4 ⟨rfl, rfl⟩)
            go_ret2
            rw [HR2.out]
            exact ⟨HQ.out.1, _, _, by rw [HBl.out]; rfl, by rw [HBl.out]; exact HQ.out.2.2, HQ.out.2.1.mono hs1 (Nat.le_refl _)⟩
end
end Go.Proofs.Ytjpjbbbpmhcgnaa
