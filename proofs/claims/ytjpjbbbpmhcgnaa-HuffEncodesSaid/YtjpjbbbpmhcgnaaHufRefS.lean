
/- The contracts of the document's stream and Decode. -/
import Derived.Test.YtjpjbbbpmhcgnaaHufRef
import Derived.Test.YtjpjbbbpmhcgnaaPileA
import Derived.Test.YtjpjbbbpmhcgnaaPileD
namespace Go.Proofs.Ytjpjbbbpmhcgnaa
open Go.RowKit

/-- What a call answers that tells a string, or an error. -/
def SPost (w : World) (r : List UInt8 × Int) (e : Ending) (w' : World) : Prop := Below w.heap.size w w' ∧ e = .returned (.tuple #[.string (str r.1), .int .i64 r.2])
theorem str_nil : str [] = (⟨#[]⟩ : ByteArray) := rfl
theorem map_snoc8 (l : List Nat) (x : Nat) : byt (l ++ [x]) = byt l ++ [UInt8.ofNat x] := by simp [byt]

section
variable {w : World}
set_option maxRecDepth 100000 in
set_option maxHeartbeats 4000000 in
theorem refStreamH_any {lo hi k cC d n : Nat} {C : Option Addr} {L : List Nat} (S : ByteArray) (hM : MayW d L) (hcs : DatR 2 ccell w lo hi C (codesOf d L)) (hk : L.length = k) (hhi : hi ≤ w.heap.size) (hs : S.size ≤ 100000000) (hn : n ≤ 1000000) :
    Calls Try.prog 22 #[.slice C k cC, .string S, .int .i64 (n : Int)] w (SPost w (strm d L S.data.toList n)) := by
  have HM := Lib.hid (And.intro hM hk)
  have HC := Lib.hid hcs
  have hsl : S.data.toList.length = S.size := by simp
  clear hM hcs hk
  by_cases hx : noBack S.data.toList = true
  · have HN := Lib.hid (refNew_no S w hs hx)
    have hr : strm d L S.data.toList n = ([], 11) := by unfold strm; rw [if_pos hx]
    rw [hr]
    go_enter Try.func22, Try.ntmps22
    go_wp2_with fail
    refine HN.out.mono ?_
    rintro e w1 ⟨rfl, hB⟩
    have HB := Lib.hid hB
    have hs1 := hB.size
    clear hB
    go_wp2_with fail
    go_ret2
    exact ⟨HB.out.alloc hs1 _, rfl⟩
  · have HN := Lib.hid (refNew_yes S w hs (by simpa using hx))
    have HX := Lib.hid hx
    obtain ⟨xs, hxs⟩ : ∃ xs, xs = S.data.toList := ⟨_, rfl⟩
    rw [← hxs] at HN HX hsl ⊢
    clear hxs hx
    have htl : top xs ≤ 8 * xs.length := by
      rcases Nat.eq_zero_or_pos xs.length with h0 | h0
      · exact absurd (show noBack xs = true by unfold noBack; simp [h0]) HX.out
      · have := top_lt xs h0
        omega
    obtain ⟨i0, hi0, hz0, hz1, hz2⟩ := info_parts u8_info
    have HI := Lib.hid (And.intro hi0 (And.intro hz0 (And.intro hz1 hz2)))
    clear hi0 hz0 hz1 hz2
    go_enter Try.func22, Try.ntmps22
    go_wp2_with fail
    refine HN.out.mono ?_
    rintro e w1 ⟨A, c, rfl, hD, hc, hB⟩
    have hs1 := hB.size
    have HD := Lib.hid (And.intro hD (And.intro hc hB))
    clear hD hc hB HN
    go_wp2_with fail
    have hbx := Box.new w1 78 #[.slice A (top xs) c, .int .i64 0]
    have H0 := Lib.hid (And.intro hbx (((Below.refl w1.heap.size w1).alloc (Nat.le_refl _) (.cells #[.slice A (top xs) c, .int .i64 0] 78))))
    clear hbx
    generalize w1.alloc (.cells #[.slice A (top xs) c, .int .i64 0] 78) = w2 at *
    have hlk0 : lkB (top xs : Nat) = 0 := by unfold lkB; omega
    have hnb0 : nB (top xs : Nat) = top xs := by unfold nB; omega
    go_loopg [10, 11] n (fun gh vo vi wx => ∃ i : Nat, vi = .int .i64 (i : Int) ∧ i + gh = n ∧ OwB wx 5 w1.heap.size vo (byt (rds d L xs i (top xs : Nat)).1) ∧
      Box wx w1.heap.size 78 #[.slice A (nB (rds d L xs i (top xs : Nat)).2) c, .int .i64 (lkB (rds d L xs i (top xs : Nat)).2)] ∧ Below w1.heap.size w1 wx)
    case atStart => exact ⟨0, rfl, by omega, OwB.nil _ _ _, by show Box w2 w1.heap.size _ #[.slice A (nB (top xs : Nat)) c, .int .i64 (lkB (top xs : Nat))]; rw [hlk0, hnb0]; exact H0.out.1, H0.out.2⟩
    case round =>
      clear H0 hlk0 hnb0
      obtain ⟨i, rfl, hi, hO, hbx, hB⟩ := hrel
      have HJ := Lib.hid hi
      have hin : i ≤ n := by omega
      clear hi
      have hle := rds_le (xs := xs) HM.out.1 i (top xs : Nat)
      have hrl := rds_len (d := d) (l := L) (xs := xs) i (top xs : Nat)
      have hbl : (byt (rds d L xs i (top xs : Nat)).1).length = i := by unfold byt; rw [List.length_map]; exact hrl
      have hBw : Below w.heap.size w wr := HD.out.2.2.trans (hB.mono hs1)
      obtain ⟨b0, b1, y0, y1⟩ := bbox hbx
      have hbxl := hbx.lt
      obtain ⟨Ao, no, co, rfl⟩ := hO.slice
      by_cases hlt : i < n
      · obtain ⟨g', rfl⟩ : ∃ g', gk = g' + 1 := ⟨gk - 1, by have := HJ.out; omega⟩
        have hiz : (i : Int) < (n : Int) := by omega
        have hnn : nB (rds d L xs i (top xs : Nat)).2 ≤ top xs := by unfold nB; omega
        have HOne := Lib.hid (refOneH_any (w := wr) (cC := cC) (c := c) (left := (rds d L xs i (top xs : Nat)).2) HM.out.1 (HC.out.below hBw hhi) HM.out.2 (by have := hBw.size; omega) (by
          have hdt := (HD.out.1.below hB (Nat.le_refl _)).take (nB (rds d L xs i (top xs : Nat)).2)
          rw [List.take_take, Nat.min_eq_left hnn] at hdt
          exact hdt) (by have := HD.out.2.1; omega) (by omega) hB.size (by omega) (by omega))
        have hsn := rds_snoc (d := d) (l := L) (xs := xs) i (top xs : Nat)
        have h256 := symOf_lt (xs := xs) (left := (rds d L xs i (top xs : Nat)).2) HM.out.1
        have HSn := Lib.hid hsn
        have HO := Lib.hid (And.intro hO (And.intro hbx (And.intro hB hbl)))
        obtain ⟨lf, hlf⟩ : ∃ lf, lf = (rds d L xs i (top xs : Nat)).2 := ⟨_, rfl⟩
        rw [← hlf] at HOne b0 b1 h256 HSn
        obtain ⟨Sy, hSy⟩ : ∃ Sy, Sy = symOf d L xs lf := ⟨_, rfl⟩
        rw [← hSy] at HOne h256 HSn
        obtain ⟨l2, hl2⟩ : ∃ l2, l2 = lf - bitsW d L Sy := ⟨_, rfl⟩
        rw [← hl2] at HOne HSn
        clear hl2
        have HLf := Lib.hid hlf
        clear hO hbx hB hsn hlf hSy hle hrl hbl hnn hBw
        go_wp2_with fail
        refine HOne.out.mono ?_
        rintro e w3 ⟨rfl, hB3⟩
        have HB3 := Lib.hid hB3
        have hs3 := hB3.size
        have e0 := HO.out.2.1.below hB3 hbxl
        have hoc := HO.out.1.below hB3 (Nat.le_refl _)
        have he0l := e0.lt
        obtain ⟨c0, c1, f0, f1⟩ := bbox e0
        have HE := Lib.hid (And.intro e0 hoc)
        clear hB3 e0 hoc b0 b1 y0 y1 HOne
        have H8 : Hid (Box (((w3.setCell ⟨w1.heap.size, 0, none⟩ (.slice A (nB l2) c)).setCell ⟨w1.heap.size, 1, none⟩ (.int .i64 (lkB l2))).alloc (.cells #[.slice A (nB l2) c, .int .i64 (lkB l2)] 78)) w1.heap.size 78 #[.slice A (nB l2) c, .int .i64 (lkB l2)] ∧
            OwB (((w3.setCell ⟨w1.heap.size, 0, none⟩ (.slice A (nB l2) c)).setCell ⟨w1.heap.size, 1, none⟩ (.int .i64 (lkB l2))).alloc (.cells #[.slice A (nB l2) c, .int .i64 (lkB l2)] 78)) 5 w1.heap.size (.slice Ao no co) (byt (rds d L xs i (top xs : Nat)).1) ∧
            Below w1.heap.size w1 (((w3.setCell ⟨w1.heap.size, 0, none⟩ (.slice A (nB l2) c)).setCell ⟨w1.heap.size, 1, none⟩ (.int .i64 (lkB l2))).alloc (.cells #[.slice A (nB l2) c, .int .i64 (lkB l2)] 78))) := by
          have hne := HE.out.2.ne_box HE.out.1 (by decide)
          refine ⟨((HE.out.1.put 0 _).put 1 _).alloc _, ?_, ?_⟩
          · exact ((HE.out.2.grown (Stp.set w3 w1.heap.size 0 (.slice A (nB l2) c)).1 (.inr hne)).grown (Stp.set _ w1.heap.size 1 (.int .i64 (lkB l2))).1 (.inr hne)).alloc _
          · have hb := ((HO.out.2.2.1.trans (HB3.out.mono HO.out.2.2.1.size)).setCell (p := ⟨w1.heap.size, 0, none⟩) (Nat.le_refl _) (.slice A (nB l2) c)).setCell (p := ⟨w1.heap.size, 1, none⟩) (Nat.le_refl _) (.int .i64 (lkB l2))
            exact hb.alloc hb.size _
        obtain ⟨W8, hW8⟩ : ∃ W8, W8 = (((w3.setCell ⟨w1.heap.size, 0, none⟩ (.slice A (nB l2) c)).setCell ⟨w1.heap.size, 1, none⟩ (.int .i64 (lkB l2))).alloc (.cells #[.slice A (nB l2) c, .int .i64 (lkB l2)] 78)) := ⟨_, rfl⟩
        rw [← hW8] at H8
        have hsz : W8.heap.size = w3.heap.size + 1 := by rw [hW8, World.size_alloc]; simp
        have HW8 := Lib.hid hW8
        clear hW8
        obtain ⟨z, hz⟩ : ∃ z, z = UInt8.ofNat Sy := ⟨_, rfl⟩
        have hzn : z.toNat = Sy := by rw [hz, UInt8.toNat_ofNat']; omega
        have hd1 := cu.dat_one W8 z 5
        have hce : cel z = .int .u8 (Sy : Int) := by unfold cel; rw [hzn]
        rw [hce, hsz] at hd1
        have HD1 := Lib.hid hd1
        have HZ := Lib.hid hz
        have HA := Lib.hid (H8.out.2.1.alloc (.cells #[.int .u8 (Sy : Int)] 5))
        have h8s := H8.out.2.2.size
        clear hd1 hce hz hzn hsz
        go_wp2_with (at_builtin; rw [← HW8.out]; refine list_app _ rfl _ _ 22 rfl i0 Try.underlying22 HI.out.1 HI.out.2.1 HI.out.2.2.1 HI.out.2.2.2 rfl HA.out rfl HD1.out rfl ?_ ?_ ?_)
        · have := HO.out.2.2.2; omega
        · rw [World.size_alloc]; have := H8.out.2.2.size; omega
        intro v9 w9 ho9 hg9 _
        have HO9 := Lib.hid (And.intro ho9 hg9)
        clear ho9 hg9
        go_wp2_with fail
        go_roundg g'
        case measure => omega
        case rel =>
          have hne := H8.out.2.1.ne_box H8.out.1 (by decide)
          have hs8 := HSn.out
          refine ⟨i + 1, by go_num, by have := HJ.out; omega, ?_, ?_, below_grown (H8.out.2.2.alloc h8s _) HO9.out.2 (fun k hk => (H8.out.2.1.block k hk).1) (by rw [World.size_alloc]; omega)⟩
          · rw [hs8, map_snoc8, ← HZ.out]
            exact HO9.out.1
          · rw [hs8]
            exact (H8.out.1.alloc _).grown HO9.out.2 (fun e => hne e.symm)
      · obtain rfl : i = n := by omega
        have hiz : ¬ (i : Int) < (i : Int) := by omega
        have hLk : (rds d L xs i (top xs : Nat)).2 = (nB (rds d L xs i (top xs : Nat)).2 : Int) - lkB (rds d L xs i (top xs : Nat)).2 := by unfold nB lkB; omega
        have HLf := Lib.hid (refLeft_any A (nB (rds d L xs i (top xs : Nat)).2) c (lkB (rds d L xs i (top xs : Nat)).2) _ wr hLk (by omega) (by omega))
        have HBw := Lib.hid hBw
        obtain ⟨Ao', co', hvo, _, hDo⟩ := hO.form
        injection hvo with q1 q2 q3
        subst q1 q3
        rw [hbl] at q2
        subst q2
        have HDo := Lib.hid (And.intro hDo hbl)
        clear hO hbx hB hLk hDo hle
        by_cases h1 : (rds d L xs no (top xs : Nat)).2 < 0
        · have hr : strm d L xs no = ([], 11) := by unfold strm; rw [if_neg HX.out, if_pos h1]
          have HR := Lib.hid hr
          clear hr hrl hbl
          generalize (rds d L xs no (top xs : Nat)).2 = lf at *
          go_wp2_with fail
          refine HLf.out.mono ?_
          rintro e w4 ⟨rfl, hB4⟩
          have HB4 := Lib.hid (HBw.out.trans (hB4.mono HBw.out.size))
          clear hB4
          go_wp2_with fail
          go_ret2
          rw [HR.out]
          exact ⟨HB4.out, rfl⟩
        · by_cases h2 : 0 < (rds d L xs no (top xs : Nat)).2
          · have hr : strm d L xs no = ([], 15) := by unfold strm; rw [if_neg HX.out, if_neg h1, if_pos h2]
            have HR := Lib.hid hr
            clear hr hrl hbl
            generalize (rds d L xs no (top xs : Nat)).2 = lf at *
            go_wp2_with fail
            refine HLf.out.mono ?_
            rintro e w4 ⟨rfl, hB4⟩
            have HB4 := Lib.hid (HBw.out.trans (hB4.mono HBw.out.size))
            clear hB4
            go_wp2_with fail
            go_ret2
            rw [HR.out]
            exact ⟨HB4.out, rfl⟩
          · have hr : strm d L xs no = (byt (rds d L xs no (top xs : Nat)).1, 0) := by unfold strm; rw [if_neg HX.out, if_neg h1, if_neg h2]; rfl
            have HR := Lib.hid hr
            have h0 : (rds d L xs no (top xs : Nat)).2 = 0 := by omega
            rw [h0] at HLf b0 b1
            clear hr hrl hbl h0 h1 h2
            go_wp2_with fail
            refine HLf.out.mono ?_
            rintro e w4 ⟨rfl, hB4⟩
            have HB4 := Lib.hid (HBw.out.trans (hB4.mono HBw.out.size))
            have hcv := run_str (P := Try.prog) w4 22 Try.underlying22 Try.underlying5 (c := co) (m := no) (HDo.out.1.below hB4 (Nat.le_refl _)) HDo.out.2 9 Try.underlying9
            clear hB4
            go_wp2_with fail
            go_ret2
            rw [HR.out]
            exact ⟨HB4.out, rfl⟩

set_option maxRecDepth 100000 in
set_option maxHeartbeats 2000000 in
theorem refDecodeH_any (n : Int) (V S : ByteArray) (hv : V.size ≤ 100000) (hs : S.size ≤ 100000000) :
    Calls Try.prog 11 #[.string V, .string S, .int .i64 n] w fun e w' => ∃ r, DRes V.data.toList S.data.toList n r ∧ SPost w r e w' := by
  have HC := Lib.hid (refCodes_any (w := w) V hv)
  go_enter Try.func11, Try.ntmps11
  go_wp2_with fail
  refine HC.out.mono ?_
  rintro e w1 ⟨hB1, ⟨d, v, hM, rfl, hO⟩ | ⟨hno, rfl⟩⟩
  · obtain ⟨C, c, rfl, hc, hR⟩ := hO.form ccell_len
    have hcl : (codesOf d (nat V.data.toList)).length = (nat V.data.toList).length := by simp [codesOf]
    obtain ⟨q, hq⟩ : ∃ q, q = (codesOf d (nat V.data.toList)).length := ⟨_, rfl⟩
    rw [← hq]
    have HM := Lib.hid (And.intro hM (And.intro hB1 (And.intro hR (hcl.symm.trans hq.symm))))
    have hs1 := hB1.size
    clear hM hO hB1 hR hcl hc hq HC
    by_cases h1 : n < 0
    · go_wp2_with fail
      go_ret2
      exact ⟨_, .inr ⟨fun _ _ h => by have := h.1; omega, rfl⟩, HM.out.2.1, rfl⟩
    · by_cases h2 : 131072 < n
      · go_wp2_with fail
        go_ret2
        exact ⟨_, .inr ⟨fun _ _ h => by have := h.2; omega, rfl⟩, HM.out.2.1, rfl⟩
      · obtain ⟨m, rfl⟩ := Int.eq_ofNat_of_zero_le (show 0 ≤ n by omega)
        have HS := Lib.hid (refStreamH_any (n := m) (cC := c) S HM.out.1 HM.out.2.2.1 HM.out.2.2.2 (Nat.le_refl _) hs (by omega))
        go_wp2_with fail
        refine HS.out.mono ?_
        rintro e w2 ⟨hB2, rfl⟩
        have hfin : SPost w (strm d (nat V.data.toList) S.data.toList m) _ w2 := ⟨HM.out.2.1.trans (hB2.mono hs1), rfl⟩
        have HF := Lib.hid (And.intro hfin (show DRes V.data.toList S.data.toList (m : Int) (strm d (nat V.data.toList) S.data.toList m) from .inl ⟨d, HM.out.1, ⟨by omega, by omega⟩, rfl⟩))
        clear hB2 hfin HS
        generalize strm d (nat V.data.toList) S.data.toList m = r at *
        obtain ⟨ys, er⟩ := r
        dsimp only at HF ⊢
        generalize str ys = Y at HF ⊢
        go_wp2_with fail
        go_ret2
        exact ⟨_, HF.out.2, HF.out.1⟩
  · go_wp2_with fail
    go_ret2
    exact ⟨_, .inr ⟨fun d h => absurd h (hno d), rfl⟩, hB1, rfl⟩
end
end Go.Proofs.Ytjpjbbbpmhcgnaa
