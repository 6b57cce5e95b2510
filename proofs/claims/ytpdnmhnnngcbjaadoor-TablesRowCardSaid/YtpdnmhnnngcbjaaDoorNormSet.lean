
/- The contracts of the program's shares and settle. -/
import Derived.Test.YtpdnmhnnngcbjaaDoorNormOf
namespace Go.Proofs.YtpdnmhnnngcbjaaDoor
open Go.RowKit

theorem fill_set (l : List Int) (k n : Nat) (y : Int) (hk : k < n) (hl : l.length = n) (hy : l[k]? = some y) : (l.take k ++ List.replicate (n - k) 0).set k y = l.take (k + 1) ++ List.replicate (n - (k + 1)) 0 := by
  obtain ⟨m, hm⟩ : ∃ m, n - k = m + 1 := ⟨n - k - 1, by omega⟩
  have hlk : k < l.length := by omega
  rw [List.getElem?_eq_getElem hlk] at hy
  injection hy with hy
  rw [hm, List.replicate_succ, List.set_append_right _ _ (by simp; omega), List.take_succ_eq_append_getElem hlk, show n - (k + 1) = m by omega, hy]
  have : k - (l.take k).length = 0 := by simp; omega
  rw [this, List.set_cons_zero, List.append_assoc]
  rfl
theorem set_self (l : List Int) (k : Nat) (y : Int) (h : l[k]? = some y) : l.set k y = l := by
  apply List.ext_getElem?
  intro i
  rw [List.getElem?_set]
  split
  · next e => subst e; rw [h]; split
              · rfl
              · next hn => rw [List.getElem?_eq_none (by omega)] at h; cases h
  · rfl
theorem made_ints (L : Nat) : (madeCells #[Value.int .i64 0] L).toList = (List.replicate L (0 : Int)).map icel := by
  apply List.ext_getElem
  · simp [madeCells]
  · intro i h1 h2
    simp [madeCells, icel, Nat.mod_one]

set_option maxRecDepth 100000 in
set_option maxHeartbeats 1000000 in
theorem shares_any {w : World} {lo hi : Nat} {A : Option Addr} {n c S Z : Nat} {os : List Nat} (hd : DatE ucel w lo hi A os) (hhi : hi ≤ w.heap.size) (hn : os.length = n) (hm : n ≤ 256) (hb : ∀ i, os.getD i 0 ≤ 2147483647) (hS : 0 < S) (hS2 : S ≤ 2147483647) (hZ : Z ≤ 32768) :
    Calls Tryd.prog 58 #[.slice A n c, .int .u64 (S : Int), .int .i64 (Z : Int)] w fun e w' =>
      ∃ v, e = .returned v ∧ OwE icel w' 3 w.heap.size v (os.map (shr S Z)) ∧ Below w.heap.size w w' := by
  obtain ⟨i0, hi0, hz0, hz1, hz2⟩ := info_parts int_info
  have HD := Lib.hid hd
  have HN := Lib.hid hn
  have HB := Lib.hid hb
  clear hd hn hb
  go_enter Tryd.func58, Tryd.ntmps58
  go_wp2_with (refine wpList_make_full _ rfl _ _ 22 rfl w.heap.size 3 i0 (.int .i64 0) 1 Tryd.underlying22 hi0 hz0 hz1 .i64 .i64 _ _ n rfl rfl rfl rfl ?_ ?_ ?_ ?_)
  · rw [hz2]; omega
  · unfold maxLen; omega
  · exact Nat.le_refl _
  intro w1 ho hg
  have ho1 : OwE icel w1 3 w.heap.size (.slice (some ⟨w.heap.size, 0, none⟩) n n) (List.replicate n (0 : Int)) := by
    unfold OwE
    rw [made_ints] at ho
    simpa using ho
  have HO := Lib.hid ho1
  have HB1 := Lib.hid ((Below.refl w.heap.size w).grown hg (Nat.le_refl _) (by simp))
  clear ho ho1 hg
  go_wp2_with fail
  go_loopg [15] n (fun gh i wx => ∃ k : Nat, k + gh = n ∧ i = .int .i64 k ∧ OwE icel wx 3 w.heap.size (.slice (some ⟨w.heap.size, 0, none⟩) n n) ((os.map (shr S Z)).take k ++ List.replicate (n - k) 0) ∧ Below w.heap.size w wx)
  case atStart => exact ⟨0, by omega, rfl, by simpa using HO.out, HB1.out⟩
  case round =>
    obtain ⟨k, hk, rfl, ho, hB⟩ := hrel
    have HK := Lib.hid hk
    have hkn : k ≤ n := by omega
    clear hk
    by_cases hlt : k < n
    · have hko : k < os.length := by have := HN.out; omega
      obtain ⟨g', rfl⟩ : ∃ g', gk = g' + 1 := ⟨gk - 1, by have := HK.out; omega⟩
      obtain ⟨d, o, rfl, _, hdh, hc⟩ := HD.out.below hB hhi (by omega)
      have e1 := hc k hko
      unfold ucel at e1
      have b1 := HB.out k
      rw [getD_eq os k 0 hko] at b1
      obtain ⟨c1, f1⟩ := ho.cellAt k (by rw [ho.len]; exact hlt)
      have HP := Lib.hid (ho.put k (shr S Z os[k]))
      have hml : (os.map (shr S Z)).length = n := by rw [List.length_map]; exact HN.out
      have hfs := fill_set (os.map (shr S Z)) k n (shr S Z os[k]) hlt hml (by rw [List.getElem?_map, List.getElem?_eq_getElem hko]; rfl)
      rw [show icel (((os.map (shr S Z)).take k ++ List.replicate (n - k) 0)[k]'(by rw [ho.len]; exact hlt)) = .int .i64 0 by
        rw [List.getElem_append_right (by simp; omega)]; simp [icel]] at c1
      have HFS := Lib.hid hfs
      have HC0 : Hid (((os.map (shr S Z)).take k ++ List.replicate (n - k) 0)[k]? = some 0) := by
        unfold Hid
        have hlk : ((os.map (shr S Z)).take k).length = k := by rw [List.length_take, hml]; omega
        rw [List.getElem?_append_right (by omega), hlk, List.getElem?_replicate, if_pos (by omega)]
      have HBx := Lib.hid hB
      have HO1 := Lib.hid ho
      clear ho hB hc hfs hml
      have hki : (k : Int) < (n : Int) := by omega
      generalize os[k] = ok at *
      by_cases h0 : 0 < ok
      · have hm1 : ok * Z ≤ 2147483647 * 32768 := Nat.mul_le_mul b1 hZ
        obtain ⟨M, hM⟩ : ∃ M, M = ok * Z := ⟨_, rfl⟩
        obtain ⟨Q, hQ⟩ : ∃ Q, Q = M / S := ⟨_, rfl⟩
        have hQM : Q ≤ M := by rw [hQ]; exact Nat.div_le_self _ _
        have HSh : Hid (shr S Z ok = ((max 1 Q : Nat) : Int)) := by unfold Hid shr; rw [if_pos h0, hQ, hM]
        have z1 : IntKind.u64.wrap ((ok : Int) * (Z : Int)) = (M : Int) := by
          have e : (ok : Int) * (Z : Int) = ((ok * Z : Nat) : Int) := by simp
          rw [e, IntKind.wrap_u64, hM]
          omega
        have z2 : (M : Int) / (S : Int) = (Q : Int) := by rw [hQ]; simp
        have hQb : Q ≤ 2147483647 * 32768 := by omega
        have h0i : (0 : Int) < (ok : Int) := by omega
        have hSi : (1 : Int) ≤ (S : Int) := by omega
        have hM0 : (0 : Int) ≤ (M : Int) := by omega
        have hSne : ((S : Int) == 0) = false := by simp; omega
        clear hm1 hM hQ
        go_wp2_with fail
        · go_roundg g'
          case rel =>
            have hv : shr S Z ok = (Q : Int) := by rw [HSh.out]; omega
            have h1 := HP.out
            rw [hv] at h1
            refine ⟨k + 1, by have := HK.out; omega, by go_num, ?_, HBx.out.setCell (Nat.le_refl _) _⟩
            rw [← HFS.out, hv]
            exact h1
          case measure => omega
        · go_roundg g'
          case rel =>
            have hv : shr S Z ok = 1 := by rw [HSh.out]; omega
            have h1 := HP.out
            rw [hv] at h1
            refine ⟨k + 1, by have := HK.out; omega, by go_num, ?_, HBx.out.setCell (Nat.le_refl _) _⟩
            rw [← HFS.out, hv]
            exact h1
          case measure => omega
      · obtain rfl : ok = 0 := by omega
        go_wp2_with fail
        go_roundg g'
        case rel =>
          refine ⟨k + 1, by have := HK.out; omega, by go_num, ?_, HBx.out⟩
          rw [← HFS.out, set_self _ _ _ (by rw [HC0.out]; rfl)]
          exact HO1.out
        case measure => omega
    · obtain rfl : k = n := by omega
      have hki : ¬ (k : Int) < (k : Int) := by omega
      have HO2 := Lib.hid ho
      have HBx := Lib.hid hB
      clear ho hB
      go_wp2_with fail
      go_ret
      refine ⟨_, rfl, ?_, HBx.out⟩
      have h1 := HO2.out
      rw [Nat.sub_self, List.replicate_zero, List.append_nil, List.take_of_length_le (by rw [List.length_map]; have := HN.out; omega)] at h1
      exact h1

theorem isum_le (l : List Int) (B : Int) (h : ∀ p ∈ l, 0 ≤ p ∧ p ≤ B) : 0 ≤ l.sum ∧ l.sum ≤ B * l.length := by
  induction l with
  | nil => simp
  | cons p r ih =>
    obtain ⟨i1, i2⟩ := ih fun q hq => h q (by simp [hq])
    have hp := h p (by simp)
    rw [List.sum_cons, List.length_cons]
    have : B * ((r.length + 1 : Nat) : Int) = B * r.length + B := by rw [Int.natCast_add, Int.mul_add]; simp
    omega
theorem isum_take (l : List Int) (k : Nat) (h : k < l.length) : (l.take (k + 1)).sum = (l.take k).sum + l[k] := by
  rw [List.take_succ_eq_append_getElem h, List.sum_append]
  simp
theorem OwE.dat {α : Type} {f : α → Value} {w : World} {u base n c : Nat} {A : Option Addr} {xs : List α} (h : OwE f w u base (.slice A n c) xs) : DatE f w base w.heap.size A xs := by
  obtain ⟨A', c', hv, _, hd⟩ := h.form
  injection hv with h1 _ _
  rw [h1]
  exact hd
theorem OwE.lt {α : Type} {f : α → Value} {w : World} {u base d n c : Nat} {xs : List α} (h : OwE f w u base (.slice (some ⟨d, 0, none⟩) n c) xs) : base ≤ d ∧ d < w.heap.size := h.block d rfl

/-- What settle leaves. -/
def Settled (w : World) (base d n c Z : Nat) (os : List Nat) (e : Ending) (w' : World) : Prop :=
  e = .returned (.tuple #[]) ∧ ∃ ps, OwE icel w' 3 base (.slice (some ⟨d, 0, none⟩) n c) ps ∧ Good os ps ∧ ps.sum = Z ∧ Stp w w' d

set_option maxRecDepth 100000 in
set_option maxHeartbeats 2000000 in
theorem settle_any {w : World} {lo hi base d n c c2 Z : Nat} {A2 : Option Addr} {os : List Nat} {ps : List Int} (ho : OwE icel w 3 base (.slice (some ⟨d, 0, none⟩) n c) ps) (hd : DatE ucel w lo hi A2 os) (hhb : hi ≤ base) (hg : Good os ps) (hn : os.length = n) (hm : n ≤ 256)
    (hb : ∀ i, os.getD i 0 ≤ 2147483647) (hpb : ∀ p ∈ ps, p ≤ 32768) (hpos : 0 < cnt os) (hcz : cnt os ≤ Z) (hZ : Z ≤ 32768) :
    Calls Tryd.prog 59 #[.slice (some ⟨d, 0, none⟩) n c, .slice A2 n c2, .int .i64 (Z : Int)] w (Settled w base d n c Z os) := by
  have hpl := ho.len
  have hdl := ho.lt
  have hnn : ∀ p ∈ ps, 0 ≤ p := by
    intro p hp
    obtain ⟨i, hi, rfl⟩ := List.getElem_of_mem hp
    have := (hg.get i).1
    rw [getD_eq ps i 0 hi] at this
    exact this
  have HO := Lib.hid ho
  have HD := Lib.hid hd
  have HG := Lib.hid hg
  have HN := Lib.hid hn
  have HPL := Lib.hid hpl
  have HB := Lib.hid hb
  have HPB := Lib.hid (fun p hp => And.intro (hnn p hp) (hpb p hp))
  have HP : Hid (∃ i, i < n ∧ 0 < os.getD i 0) := by
    obtain ⟨i, h1, h2⟩ := cnt_pos hpos
    exact ⟨i, by omega, h2⟩
  have hn0 : 0 < n := by
    obtain ⟨i, h1, _⟩ := cnt_pos hpos
    omega
  clear ho hd hg hn hb hpb hpl hnn
  go_enter Tryd.func59, Tryd.ntmps59
  go_wp2_with fail
  go_loop [6, 11] (fun t i => ∃ k : Nat, k ≤ n ∧ i = .int .i64 k ∧ t = .int .i64 (ps.take k).sum) (fun _ i => n - (intOf i).toNat)
  case atStart => exact ⟨0, Nat.zero_le _, rfl, rfl⟩
  case round =>
    obtain ⟨k, hk, rfl, rfl⟩ := hrel
    have hsb := isum_le (ps.take k) 32768 fun p hp => HPB.out p (List.mem_of_mem_take hp)
    have hlen : (ps.take k).length = k := by rw [List.length_take]; have := HPL.out; omega
    rw [hlen] at hsb
    have hs0 := hsb.1
    have hs1 : (ps.take k).sum ≤ 8388608 := by omega
    clear hsb hlen
    by_cases hlt : k < n
    · have hkp : k < ps.length := by have := HPL.out; omega
      obtain ⟨c1, _⟩ := HO.out.cellAt k hkp
      unfold icel at c1
      have HT := Lib.hid (isum_take ps k hkp)
      have hpk := HPB.out ps[k] (List.getElem_mem hkp)
      have hki : (k : Int) < (n : Int) := by omega
      generalize ps[k] = pk at *
      generalize (ps.take k).sum = T at *
      go_wp2_with fail
      go_round
      case rel => exact ⟨k + 1, by omega, by go_num, by rw [HT.out]⟩
      case measure => simp [intOf]; omega
    · obtain rfl : k = n := by omega
      have hfull : ps.take k = ps := List.take_of_length_le (by have := HPL.out; omega)
      rw [hfull] at hs0 hs1 ⊢
      clear hfull
      have hki : ¬ (k : Int) < (k : Int) := by omega
      go_wp2_with fail
      go_loopg [6] Z (fun gh t wx => ∃ ps1 : List Int, t = .int .i64 ps1.sum ∧ ps1.sum ≤ 8388608 ∧ (Z : Int) ≤ ps1.sum + gh ∧ OwE icel wx 3 base (.slice (some ⟨d, 0, none⟩) k c) ps1 ∧ Good os ps1 ∧ Stp w wx d)
      case atStart => exact ⟨ps, rfl, hs1, by omega, HO.out, HG.out, World.grownBy.refl _ _, rfl⟩
      case round =>
        obtain ⟨ps1, rfl, hb1, hgh, ho1, hg1, hs⟩ := hrel
        have HO1 := Lib.hid ho1
        have HG1 := Lib.hid hg1
        have HS1 := Lib.hid hs
        have hlt1 := ho1.lt
        have hdw : DatE ucel wr lo hi A2 os := HD.out.grown hs.1 (by omega) (fun j hj => by injection hj with hj; omega)
        have HDw := Lib.hid hdw
        have hls := hg1.le_sum
        have hp8 : ∀ i, ps1.getD i 0 ≤ 100000000 := fun i => by have := hls.2 i; omega
        have HP8 := Lib.hid hp8
        have hs00 := hls.1
        clear ho1 hg1 hs hdw hls hp8
        by_cases hlt : ps1.sum < (Z : Int)
        · obtain ⟨g', rfl⟩ : ∃ g', gk = g' + 1 := ⟨gk - 1, by omega⟩
          have HC := Lib.hid (scarcest_any (c := c) (c2 := c2) HO1.out.dat HDw.out HG1.out HN.out hn0 (by omega) HB.out HP8.out HP.out)
          obtain ⟨T, hT⟩ : ∃ T, T = ps1.sum := ⟨_, rfl⟩
          rw [← hT] at hlt hb1 hgh hs00 ⊢
          have HT := Lib.hid hT
          clear hT
          go_wp2_with fail
          refine HC.out.mono ?_
          rintro e w2 ⟨b, q, rfl, hbn, hbp, rfl⟩
          have hbl : b < ps1.length := by rw [HO1.out.len]; exact hbn
          obtain ⟨c1, f1⟩ := HO1.out.cellAt b hbl
          unfold icel at c1
          have h0 := (HG1.out.get b).1
          have h8 := HP8.out b
          rw [getD_eq ps1 b 0 hbl] at h0 h8
          have HSet := Lib.hid (sum_set ps1 b (ps1[b] + 1) hbl)
          rw [getD_eq ps1 b 0 hbl] at HSet
          have HGs := Lib.hid (HG1.out.set b (ps1[b] + 1) (by omega) hbp)
          have HOs := Lib.hid ((HO1.out.drawn q).put b (ps1[b] + 1))
          have hbi : (b : Int) < (k : Int) := by omega
          generalize ps1[b] = pb at *
          clear hbp
          go_wp2_with fail
          go_roundg g'
          case rel =>
            refine ⟨_, ?_, ?_, ?_, HOs.out, HGs.out, ?_⟩
            · rw [HSet.out, ← HT.out]; go_num
            · rw [HSet.out, ← HT.out]; omega
            · rw [HSet.out, ← HT.out]; omega
            · exact HS1.out.trans ((Stp.set _ _ _ _).drawn q)
          case measure => omega
        · clear hgh
          have hge : (Z : Int) ≤ ps1.sum := by omega
          obtain ⟨T, hT⟩ : ∃ T, T = ps1.sum := ⟨_, rfl⟩
          rw [← hT] at hlt hb1 hs00 hge ⊢
          have HT := Lib.hid hT
          clear hT
          go_wp2_with fail
          go_loopg [6] 8388608 (fun gh t wx => ∃ ps1 : List Int, t = .int .i64 ps1.sum ∧ ps1.sum ≤ 8388608 ∧ (Z : Int) ≤ ps1.sum ∧ ps1.sum ≤ Z + gh ∧ OwE icel wx 3 base (.slice (some ⟨d, 0, none⟩) k c) ps1 ∧ Good os ps1 ∧ Stp w wx d)
          case atStart => exact ⟨ps1, by rw [HT.out], by rw [← HT.out]; omega, by rw [← HT.out]; omega, by rw [← HT.out]; omega, HO1.out, HG1.out, HS1.out⟩
          case round =>
            obtain ⟨ps2, rfl, hb1, hge2, hgh, ho1, hg1, hs⟩ := hrel
            have HO2 := Lib.hid ho1
            have HG2 := Lib.hid hg1
            have HS2 := Lib.hid hs
            have hlt2 := ho1.lt
            have hdw : DatE ucel wr lo hi A2 os := HD.out.grown hs.1 (by omega) (fun j hj => by injection hj with hj; omega)
            have HDw2 := Lib.hid hdw
            have hls := hg1.le_sum
            have hp8 : ∀ i, ps2.getD i 0 ≤ 100000000 := fun i => by have := hls.2 i; omega
            have HP82 := Lib.hid hp8
            clear ho1 hg1 hs hdw hls hp8
            by_cases hgt : (Z : Int) < ps2.sum
            · obtain ⟨g', rfl⟩ : ∃ g', gk = g' + 1 := ⟨gk - 1, by omega⟩
              obtain ⟨ib, hib1, hib2⟩ := HG2.out.big (by omega)
              have HC := Lib.hid (richest_any (c := c) (c2 := c2) HO2.out.dat HDw2.out HG2.out HN.out (by omega) HB.out HP82.out ⟨ib, by rw [← HO2.out.len]; exact hib1, hib2⟩)
              obtain ⟨T2, hT2⟩ : ∃ T2, T2 = ps2.sum := ⟨_, rfl⟩
              rw [← hT2] at hgt hb1 hgh hge2 ⊢
              have HT2 := Lib.hid hT2
              clear hT2 hib2
              go_wp2_with fail
              refine HC.out.mono ?_
              rintro e w2 ⟨b, q, rfl, hbn, hbp, rfl⟩
              have hbl : b < ps2.length := by rw [HO2.out.len]; exact hbn
              obtain ⟨c1, f1⟩ := HO2.out.cellAt b hbl
              unfold icel at c1
              have h0 := (HG2.out.get b)
              have h8 := HP82.out b
              have hos : 0 < os.getD b 0 := h0.2.1 (by omega)
              rw [getD_eq ps2 b 0 hbl] at h8 hbp
              have HSet := Lib.hid (sum_set ps2 b (ps2[b] - 1) hbl)
              rw [getD_eq ps2 b 0 hbl] at HSet
              have HGs := Lib.hid (HG2.out.set b (ps2[b] - 1) (by omega) hos)
              have HOs := Lib.hid ((HO2.out.drawn q).put b (ps2[b] - 1))
              have hbi : (b : Int) < (k : Int) := by omega
              clear h0 hos
              generalize ps2[b] = pb at *
              go_wp2_with fail
              go_roundg g'
              case rel =>
                refine ⟨_, ?_, ?_, ?_, ?_, HOs.out, HGs.out, ?_⟩
                · rw [HSet.out, ← HT2.out]; go_num
                · rw [HSet.out, ← HT2.out]; omega
                · rw [HSet.out, ← HT2.out]; omega
                · rw [HSet.out, ← HT2.out]; omega
                · exact HS2.out.trans ((Stp.set _ _ _ _).drawn q)
              case measure => omega
            · have hZe : ps2.sum = (Z : Int) := by omega
              have HZe := Lib.hid hZe
              obtain ⟨T2, hT2⟩ : ∃ T2, T2 = ps2.sum := ⟨_, rfl⟩
              rw [← hT2] at hgt hb1 hgh hge2 ⊢
              clear hT2 hZe
              go_wp2_with fail
              go_end0
              exact ⟨rfl, ps2, HO2.out, HG2.out, HZe.out, HS2.out⟩
end Go.Proofs.YtpdnmhnnngcbjaaDoor
