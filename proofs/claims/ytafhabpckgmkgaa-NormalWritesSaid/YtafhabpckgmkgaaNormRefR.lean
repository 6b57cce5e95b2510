
/- The contract of the document's Read. -/
import Derived.Test.YtafhabpckgmkgaaNormRefN
namespace Go.Proofs.Ytafhabpckgmkgaa
open Go.RowKit

/-- One symbol more, whatever its number. -/
theorem rdP_step {f : Nat} {L : List Bool} {sy : Int} {a left v a1 : Nat} {acc : List Int} (h0 : left ≠ 0) (hv : nextV L a left = some (v, a1)) :
    rdP (f + 1) L sy a left acc = match (if v = 1 then rowA f L a1 0 else some (0, a1)) with
      | none => .error 10
      | some (r, a2) => if sy < ((acc.length + 1 + r : Nat) : Int) then .error 11 else rdP f L sy a2 (left - wv v) (acc ++ ((v : Int) - 1) :: List.replicate r 0) := by
  rw [rdP, if_neg h0, hv]
  by_cases h1 : v = 1
  · subst h1
    simp only [if_true]
    cases rowA f L a1 0 with
    | none => rfl
    | some ra => rfl
  · simp only [if_neg h1]
    simp

/-- The document's Read in its midst: block b6 the answer, b9 the bits, b12 the counts; the bits are read up to 'at', the parts acc are there. -/
structure RInv (w wx : World) (b6 b9 b12 lo n c : Nat) (A : Option Addr) (xs : List UInt8) (at_ : Nat) (lg : Int) (v : Value) (acc : List Int) : Prop where
  x6 : Box wx b6 30 #[.int .i64 0, .slice none 0 0]
  x9 : Box wx b9 63 #[.slice A n c, .int .i64 (at_ : Int)]
  x12 : Box wx b12 30 #[.int .i64 lg, v]
  own : OwE icel wx 3 (b12 + 1) v acc
  dat : DatE Value.bool wx lo b9 A (bitsOf xs)
  bel : Below w.heap.size w wx
  l6 : w.heap.size ≤ b6
  l69 : b6 < b9
  l9 : b9 < b12

section
variable {w wx w2 : World} {b6 b9 b12 lo n c at_ : Nat} {A : Option Addr} {xs : List UInt8} {lg : Int} {v v1 : Value} {acc ys : List Int} {o : Obj}
theorem RInv.below (h : RInv w wx b6 b9 b12 lo n c A xs at_ lg v acc) (hB : Below wx.heap.size wx w2) : RInv w w2 b6 b9 b12 lo n c A xs at_ lg v acc :=
  have q := h.bel.size
  have q6 := h.x6.lt
  have q9 := h.x9.lt
  have q12 := h.x12.lt
  ⟨h.x6.below hB q6, h.x9.below hB q9, h.x12.below hB q12, h.own.below hB (Nat.le_refl _), h.dat.below hB (by omega), h.bel.trans (hB.mono q), h.l6, h.l69, h.l9⟩
theorem RInv.move (h : RInv w wx b6 b9 b12 lo n c A xs at_ lg v acc) (a' : Nat) : RInv w ((wx.setCell ⟨b9, 0, none⟩ (.slice A n c)).setCell ⟨b9, 1, none⟩ (.int .i64 (a' : Int))) b6 b9 b12 lo n c A xs a' lg v acc := by
  have q69 := h.l69
  have q9 := h.l9
  have q6 := h.l6
  refine ⟨(h.x6.far (by simp; omega) _).far (by simp; omega) _, ?_, (h.x12.far (by simp; omega) _).far (by simp; omega) _, ?_, (h.dat.far (.inr (Nat.le_refl _)) _).far (.inr (Nat.le_refl _)) _, (h.bel.setCell (by simp; omega) _).setCell (by simp; omega) _, h.l6, h.l69, h.l9⟩
  · have := (h.x9.put 0 (.slice A n c)).put 1 (.int .i64 (a' : Int))
    simpa using this
  · exact h.own.keep fun k hk => by
      have := (h.own.block k hk).1
      rw [Below.heap_setCell _ _ _ k (by simp; omega), Below.heap_setCell _ _ _ k (by simp; omega)]
theorem RInv.push (h : RInv w wx b6 b9 b12 lo n c A xs at_ lg v acc) (ho1 : OwE icel w2 3 (b12 + 1) v1 ys) (hg : (wx.alloc o).grownBy w2 v.ownBlock) :
    w2.cell? ⟨b12, 0, none⟩ = some (.int .i64 lg) ∧ w2.cell? ⟨b12, 1, none⟩ = some v ∧ w2.frozen? ⟨b12, 1, none⟩ = false ∧ Hid (RInv w (w2.setCell ⟨b12, 1, none⟩ v1) b6 b9 b12 lo n c A xs at_ lg v1 ys) := by
  have q69 := h.l69
  have q9 := h.l9
  have q6 := h.l6
  obtain ⟨k0, k1, kf, HK⟩ := push_facts h.x12 h.own ho1 hg
  have hrow : ∀ k, v.ownBlock = some k → b12 + 1 ≤ k := fun k hk => (h.own.block k hk).1
  refine ⟨k0, k1, kf, ?_, ?_, HK.out.1, HK.out.2.1, ?_, ?_, h.l6, h.l69, h.l9⟩
  · exact ((h.x6.alloc o).grown hg (fun e => by have := hrow _ e.symm; omega)).far (by simp; omega) _
  · exact ((h.x9.alloc o).grown hg (fun e => by have := hrow _ e.symm; omega)).far (by simp; omega) _
  · exact ((h.dat.alloc (by have := h.x9.lt; omega) o).grown hg (by have := h.x9.lt; simp; omega) (fun k hk => by have := hrow k hk; omega)).far (by simp; omega) _
  · exact h.bel.trans (HK.out.2.2.mono (by omega))
/-- The cells of the three boxes. -/
theorem RInv.cells (h : RInv w wx b6 b9 b12 lo n c A xs at_ lg v acc) :
    (wx.cell? ⟨b6, 0, none⟩ = some (.int .i64 0) ∧ wx.cell? ⟨b6, 1, none⟩ = some (.slice none 0 0) ∧ wx.frozen? ⟨b6, 0, none⟩ = false ∧ wx.frozen? ⟨b6, 1, none⟩ = false) ∧
    (wx.cell? ⟨b9, 0, none⟩ = some (.slice A n c) ∧ wx.cell? ⟨b9, 1, none⟩ = some (.int .i64 (at_ : Int)) ∧ wx.frozen? ⟨b9, 0, none⟩ = false ∧ wx.frozen? ⟨b9, 1, none⟩ = false) ∧
    (wx.cell? ⟨b12, 0, none⟩ = some (.int .i64 lg) ∧ wx.cell? ⟨b12, 1, none⟩ = some v ∧ wx.frozen? ⟨b12, 0, none⟩ = false ∧ wx.frozen? ⟨b12, 1, none⟩ = false) :=
  ⟨box2 h.x6, box2 h.x9, box2 h.x12⟩
/-- An error is answered: the answer's box is laid anew. -/
theorem RInv.err (h : RInv w wx b6 b9 b12 lo n c A xs at_ lg v acc) : Below w.heap.size w ((wx.setCell ⟨b6, 0, none⟩ (.int .i64 0)).setCell ⟨b6, 1, none⟩ (.slice none 0 0)) :=
  (h.bel.setCell (by have := h.l6; simpa using this) _).setCell (by have := h.l6; simpa using this) _
end

set_option maxRecDepth 100000 in
set_option maxHeartbeats 8000000 in
theorem refRead6_any (S : ByteArray) {xs : List UInt8} (hS : S.data.toList = xs) (most sy : Int) (w : World) (hx : xs.length ≤ 100000000) {R : Except Int (Nat × List Int × Nat)} (hR : rdC (bitsOf xs) most sy = R) :
    Calls Try.prog 10 #[.string S, .int .i64 most, .int .i64 sy] w (ReadPost R w) := by
  obtain ⟨i0, hi0, hz0, hz1, hz2⟩ := info_parts int_info
  have hsz : S.size = xs.length := by rw [← hS]; simp
  have HBt := Lib.hid (fun wz => refBits_any S wz (by omega))
  rw [hS] at HBt
  have HR := Lib.hid hR
  have HS := Lib.hid hsz
  clear hS hsz hR
  go_enter Try.func10, Try.ntmps10
  go_wp2_with fail
  refine (HBt.out _).mono ?_
  rintro e w1 ⟨vb, rfl, hob, hB⟩
  obtain ⟨A, c, rfl, hc, hdb⟩ := hob.form
  rw [bitsOf_length] at hc ⊢
  obtain ⟨n, hn⟩ : ∃ n, n = 8 * xs.length := ⟨_, rfl⟩
  rw [← hn] at hc ⊢
  have HN := Lib.hid hn.symm
  have hnb : n ≤ 1000000000 := by omega
  have hx6 := (Box.new w 30 #[.int .i64 0, .slice none 0 0]).below hB (by simp)
  have HX6 := Lib.hid hx6
  have HB1 : Hid (Below w.heap.size w w1) := ((Below.refl _ _).alloc (Nat.le_refl _) _).trans (hB.mono (by simp))
  have hs1 := hB.size
  simp only [World.size_alloc] at hs1
  have HX9 := Lib.hid (Box.new w1 63 #[.slice A n c, .int .i64 0])
  have HD := Lib.hid (hdb.alloc (Nat.le_refl _) (.cells #[.slice A n c, .int .i64 0] 63))
  have HR4 := Lib.hid (refRead_any (at_ := 0) 4 HD.out HN.out hc hnb (by simp) (Nat.zero_le _))
  clear hob hdb hB hx6 hn
  go_wp2_with fail
  refine HR4.out.mono ?_
  rintro e w2 ⟨rfl, hB⟩
  have hx6 := HX6.out
  have hlt6 := hx6.lt
  have hy6 := (HX6.out.alloc (.cells #[.slice A n c, .int .i64 0] 63)).below hB (by simp; omega)
  have hy9 := HX9.out.below hB (by simp)
  have hsz2 := hB.size
  simp only [World.size_alloc] at hsz2
  have HB2 := Lib.hid ((HB1.out.alloc (by omega) (.cells #[.slice A n c, .int .i64 0] 63)).trans (hB.mono (by simp; omega)))
  have HD2 := Lib.hid (HD.out.below hB (by simp))
  have HY6 := Lib.hid hy6
  have HY9 := Lib.hid hy9
  have n69 : w.heap.size < w1.heap.size := by omega
  have ne1 : w.heap.size ≠ w1.heap.size := by omega
  obtain ⟨c0, c1, f0, f1⟩ := box2 hy6
  obtain ⟨d0, d1, g0, g1⟩ := box2 hy9
  clear hB hx6 hy6 hy9
  generalize w1.heap.size = b9 at *
  unfold Hid at HR
  unfold rdC at HR
  split at HR
  · next h4 =>
    subst HR
    rw [show fread xs 0 4 = (0, 10, 0) from fread_none (n := 4) (by omega) h4]
    go_wp2_with fail
    refine bodyPost_ret (v := .tuple #[.agg #[.int .i64 0, .slice none 0 0], .int .i64 0, .int .i64 10]) (by simp [results, Try.results10, go_sem, c0, c1]) rfl ⟨?_, rfl⟩
    repeat (first | exact HB2.out | refine Below.setCell ?_ (by simp; omega) _ | refine Below.setCell ?_ (by simp) _)
  · next x h4 =>
    rw [show fread xs 0 4 = (x, 0, 4) from fread_some (n := 4) (by omega) h4]
    have hx4 := (rd_lt h4).1
    have hal := (rd_lt h4).2
    rw [bitsOf_length, HN.out] at hal
    clear h4
    obtain ⟨lg, hlg⟩ : ∃ lg, lg = x + 5 := ⟨_, rfl⟩
    have hlgi : (x : Int) + 5 = (lg : Int) := by omega
    rw [← hlg] at HR
    have hlg20 : lg ≤ 20 := by omega
    clear hlg
    go_upto_region 6 with fail
    have hi4 : RInv w (((w2.setCell ⟨b9, 0, none⟩ (.slice A n c)).setCell ⟨b9, 1, none⟩ (.int .i64 4)).alloc (.cells #[.int .i64 (lg : Int), .slice none 0 0] 30)) w.heap.size b9 w2.heap.size (w.alloc (.cells #[.int .i64 0, .slice none 0 0] 30)).heap.size n c A xs 4 (lg : Int) (.slice none 0 0) [] := by
      refine ⟨((HY6.out.far (by simp; omega) _).far (by simp; omega) _).alloc _, ?_, ?_, OwE.nil _ _ _ _, ((HD2.out.far (.inr (Nat.le_refl _)) _).far (.inr (Nat.le_refl _)) _).alloc (by simp; omega) _, ?_, Nat.le_refl _, n69, by omega⟩
      · have h9 := (HY9.out.put 0 (.slice A n c)).put 1 (.int .i64 4)
        have h10 : Box ((w2.setCell ⟨b9, 0, none⟩ (.slice A n c)).setCell ⟨b9, 1, none⟩ (.int .i64 4)) b9 63 #[.slice A n c, .int .i64 4] := by simpa using h9
        exact h10.alloc _
      · have h9 := Box.new ((w2.setCell ⟨b9, 0, none⟩ (.slice A n c)).setCell ⟨b9, 1, none⟩ (.int .i64 4)) 30 #[.int .i64 (lg : Int), .slice none 0 0]
        simpa using h9
      · exact ((HB2.out.setCell (by simp; omega) _).setCell (by simp; omega) _).alloc (by simp; omega) _
    have HI4 := Lib.hid hi4
    have hsz4 : w2.heap.size < (((w2.setCell ⟨b9, 0, none⟩ (.slice A n c)).setCell ⟨b9, 1, none⟩ (.int .i64 4)).alloc (.cells #[.int .i64 (lg : Int), .slice none 0 0] 30)).heap.size := by simp
    have hb12 : b9 < w2.heap.size := by omega
    clear c0 c1 f0 f1 d0 d1 g0 g1
    obtain ⟨⟨c0, c1, f0, f1⟩, ⟨d0, d1, g0, g1⟩, ⟨e0, e1, h0, h1⟩⟩ := hi4.cells
    clear hi4
    generalize (w.alloc (.cells #[.int .i64 0, .slice none 0 0] 30)).heap.size = lo at *
    generalize ((w2.setCell ⟨b9, 0, none⟩ (.slice A n c)).setCell ⟨b9, 1, none⟩ (.int .i64 4)).alloc (.cells #[.int .i64 (lg : Int), .slice none 0 0] 30) = w4 at *
    generalize w2.heap.size = b12 at *
    split at HR
    · next hbig =>
      subst HR
      by_cases hm : most < (lg : Int)
      · go_wp2_with fail
        refine bodyPost_ret (v := .tuple #[.agg #[.int .i64 0, .slice none 0 0], .int .i64 0, .int .i64 12]) (by simp [results, Try.results10, go_sem, c0, c1]) rfl ⟨?_, rfl⟩
        exact HI4.out.err
      · have hm' : decide (most < (lg : Int)) = false := by simp; omega
        have hlg15 : (15 : Int) < (lg : Int) := by omega
        go_wp2_with fail
        refine bodyPost_ret (v := .tuple #[.agg #[.int .i64 0, .slice none 0 0], .int .i64 0, .int .i64 12]) (by simp [results, Try.results10, go_sem, c0, c1]) rfl ⟨?_, rfl⟩
        exact HI4.out.err
    · next hbig =>
      have hm' : decide (most < (lg : Int)) = false := by simp; omega
      have hlg15 : decide ((15 : Int) < (lg : Int)) = false := by simp; omega
      have hl15 : lg ≤ 15 := by omega
      have hpw : 2 ^ lg ≤ 2 ^ 15 := Nat.pow_le_pow_right (by omega) hl15
      obtain ⟨P, hP⟩ : ∃ P : Nat, P = 2 ^ lg := ⟨_, rfl⟩
      have HPw : Hid (∀ wz, Calls Try.prog 17 #[.int .i64 (lg : Int)] wz fun e w' => e = .returned (.int .i64 (P : Int)) ∧ wz = w') := fun wz => by rw [hP]; exact refPower_any lg wz (by omega)
      rw [← hP] at HR hpw
      clear hP
      generalize hRR : rdP ((bitsOf xs).length + 1) (bitsOf xs) sy 4 P [] = RR at HR
      have HRR := Lib.hid hRR
      have HRf := Lib.hid HR
      have HLen := Lib.hid (bitsOf_length xs)
      have hlgb : lg ≤ 40 := by omega
      clear hRR HR hbig
      go_wp2_with (go_at_call 17; refine (HPw.out _).mono ?_; rintro e w' ⟨rfl, rfl⟩)
      clear c0 c1 f0 f1 d0 d1 g0 g1 e0 e1 h0 h1 hm' hlg15
      go_loopg [13] ((bitsOf xs).length + 1) (fun gh y wx => ∃ (left at1 : Nat) (acc : List Int) (v : Value), y = .int .i64 left ∧ left ≤ 32768 ∧ n < gh + at1 ∧ at1 ≤ n ∧ acc.length ≤ 2 * at1 ∧ RInv w wx w.heap.size b9 b12 lo n c A xs at1 (lg : Int) v acc ∧ rdP gh (bitsOf xs) sy at1 left acc = RR)
      case atStart => exact ⟨P, 4, [], _, rfl, by omega, by have := HLen.out; have := HN.out; omega, hal, by simp, HI4.out, HRR.out⟩
      case round =>
        obtain ⟨left, at1, acc, v, rfl, hl, hf, hat, hacc, hi, hr⟩ := hrel
        obtain ⟨Av, cv, rfl, hcv, _⟩ := hi.own.form
        have HI := Lib.hid hi
        have hi9 := hi.x9.lt
        obtain ⟨⟨c0, c1, f0, f1⟩, ⟨d0, d1, g0, g1⟩, ⟨e0, e1, h0, h1⟩⟩ := hi.cells
        have HD9 := Lib.hid hi.dat
        have n69' := hi.l69
        have n9' := hi.l9
        clear hi hcv
        cases gk with
        | zero => omega
        | succ f' =>
          by_cases hl0 : left = 0
          · subst hl0
            have hr2 : RR = .ok (acc, at1) := by
              rw [← hr, rdP, if_pos rfl]
            subst hr2
            have hR := HRf.out
            simp only at hR
            subst hR
            clear hr
            have n6 : b12 ≠ w.heap.size := by omega
            have n9 : b9 ≠ w.heap.size := by omega
            have l12 := HI.out.x12.lt
            have l6 := HI.out.x6.lt
            have n6' : w.heap.size < b12 := by omega
            go_wp2_with fail
            generalize hW0 : wr = W0 at *
            subst hW0
            go_region_held3 (fun w' => w'.cell? ⟨b12, 0, none⟩ = some (.int .i64 (lg : Int)) ∧ w'.cell? ⟨b12, 1, none⟩ = some (.slice Av acc.length cv) ∧ w'.cell? ⟨b9, 0, none⟩ = some (.slice A n c) ∧ w'.cell? ⟨b9, 1, none⟩ = some (.int .i64 (at1 : Int))) (first | exact ⟨e0, e1, d0, d1⟩ | (refine ⟨?_, ?_, ?_, ?_⟩ <;> first | (rw [cell?_far _ _ n6, cell?_far _ _ n6]; simp [*]) | (rw [cell?_far _ _ n9, cell?_far _ _ n9]; simp [*]) | simp [*]) | go_keep) ((go_at_call 26; refine (refUsed_any A n c at1 _ (by omega)).mono ?_; rintro e' wn ⟨rfl, hB⟩; have k0 := hB.cell (p := ⟨b12, 0, none⟩) (by simp; omega); have k1 := hB.cell (p := ⟨b12, 1, none⟩) (by simp; omega); have k2 := hB.cell (p := ⟨b9, 0, none⟩) (by simp; omega); have k3 := hB.cell (p := ⟨b9, 1, none⟩) (by simp; omega); have k4 := hB.cell (p := ⟨w.heap.size, 0, none⟩) (by simp; omega); have k5 := hB.cell (p := ⟨w.heap.size, 1, none⟩) (by simp; omega); have k6 := hB.frozen (p := ⟨w.heap.size, 0, none⟩) (by simp; omega); have k7 := hB.frozen (p := ⟨w.heap.size, 1, none⟩) (by simp; omega); have HBu := Lib.hid hB; clear hB))
            all_goals
              go_wp2_with fail
              refine bodyPost_ret (v := .tuple #[.agg #[.int .i64 (lg : Int), .slice Av acc.length cv], .int .i64 (((at1 : Int) + 7) / 8), .int .i64 0]) (by simp [results, Try.results10, go_sem, k4, k5, c0, c1]) rfl ⟨?_, .slice Av acc.length cv, rfl, ?_⟩
              · exact ((HI.out.bel.drew.trans (HBu.out.mono (by have := HI.out.bel.size; simpa using this))).setCell (by simp) _).setCell (by simp) _
              · have q1 := (HI.out.own.drawn 1).below HBu.out (by simp)
                refine (q1.keep fun k hk => ?_).mono (by omega)
                have hkb := (q1.block k hk).1
                rw [Below.heap_setCell _ _ _ k (by simp; omega), Below.heap_setCell _ _ _ k (by simp; omega)]
          · cases hv : nextV (bitsOf xs) at1 left with
            | none =>
              have hr2 : RR = .error 10 := by
                rw [← hr, rdP, if_neg hl0, hv]
              subst hr2
              have hR := HRf.out
              simp only at hR
              subst hR
              have HC := Lib.hid (next_no HD9.out HN.out hc hnb (Nat.le_of_lt hi9) hat (by omega) hl hv)
              clear hr
              have hlp : (0 : Int) < (left : Int) := by omega
              go_wp2_with fail
              refine HC.out.mono ?_
              rintro e w5 ⟨a5, rfl, hB⟩
              have hi5 := HI.out.below hB
              have HI5 := Lib.hid (hi5.move a5)
              clear hB c0 c1 f0 f1 d0 d1 g0 g1 e0 e1 h0 h1
              obtain ⟨⟨c0, c1, f0, f1⟩, ⟨d0, d1, g0, g1⟩, ⟨e0, e1, h0, h1⟩⟩ := hi5.cells
              clear hi5
              go_upto_region 12 with fail
              clear c0 c1 f0 f1 d0 d1 g0 g1 e0 e1 h0 h1
              generalize (w5.setCell ⟨b9, 0, none⟩ (.slice A n c)).setCell ⟨b9, 1, none⟩ (.int .i64 (a5 : Int)) = w6 at *
              obtain ⟨⟨c0, c1, f0, f1⟩, ⟨d0, d1, g0, g1⟩, ⟨e0, e1, h0, h1⟩⟩ := HI5.out.cells
              go_wp2_with fail
              refine bodyPost_ret (v := .tuple #[.agg #[.int .i64 0, .slice none 0 0], .int .i64 0, .int .i64 10]) (by simp [results, Try.results10, go_sem, c0, c1]) rfl ⟨?_, rfl⟩
              exact HI5.out.err
            | some va =>
              obtain ⟨v0, a1⟩ := va
              rw [rdP_step hl0 hv] at hr
              have hle := nextV_le hv (by omega)
              rw [HLen.out, HN.out] at hle
              have HC := Lib.hid (next_yes HD9.out HN.out hc hnb (Nat.le_of_lt hi9) hat (by omega) hl hv)
              have hlp : (0 : Int) < (left : Int) := by omega
              obtain ⟨ro, hro⟩ : ∃ ro, ro = (if v0 = 1 then rowA f' (bitsOf xs) a1 0 else some (0, a1)) := ⟨_, rfl⟩
              rw [← hro] at hr
              have HRo := Lib.hid hro
              have HRr := Lib.hid hr
              clear hv hr hro
              go_wp2_with fail
              refine HC.out.mono ?_
              rintro e w5 ⟨rfl, hB⟩
              have hi5 := HI.out.below hB
              have HI5 := Lib.hid (hi5.move a1)
              clear hB c0 c1 f0 f1 d0 d1 g0 g1 e0 e1 h0 h1
              obtain ⟨⟨c0, c1, f0, f1⟩, ⟨d0, d1, g0, g1⟩, ⟨e0, e1, h0, h1⟩⟩ := hi5.cells
              clear hi5
              go_upto_region 12 with fail
              clear c0 c1 f0 f1 d0 d1 g0 g1 e0 e1 h0 h1
              generalize (w5.setCell ⟨b9, 0, none⟩ (.slice A n c)).setCell ⟨b9, 1, none⟩ (.int .i64 (a1 : Int)) = w6 at *
              obtain ⟨⟨c0, c1, f0, f1⟩, ⟨d0, d1, g0, g1⟩, ⟨e0, e1, h0, h1⟩⟩ := HI5.out.cells
              have HA := Lib.hid (HI5.out.own.alloc (.cells #[.int .i64 ((v0 : Int) - 1)] 3))
              have HD1 := Lib.hid (datE_one icel w6 ((v0 : Int) - 1) 3 _ rfl)
              have hal2 : acc.length + 1 ≤ 1099511627775 := by omega
              have hv0b : v0 ≤ 40000 := by omega
              have l12 := HI5.out.x12.lt
              go_wp2_with (at_builtin; refine list_appE icel_one _ rfl _ _ 24 rfl i0 (.int .i64 0) 8 Try.underlying24 hi0 hz0 hz1 hz2 rfl (by decide) rfl HA.out rfl HD1.out rfl ?_ ?_ ?_)
              · first | omega | (simp; omega)
              · first | omega | (simp; omega)
              intro v1 w7 ho1 hg1 hat1
              obtain ⟨Av1, nv1, cv1, rfl⟩ := ho1.slice
              obtain ⟨k0, k1, kf, HP⟩ := HI5.out.push ho1 hg1
              clear ho1 hg1 hat1 HA HD1 c0 c1 f0 f1 d0 d1 g0 g1 e0 e1 h0 h1
              go_upto_if 68 with fail
              generalize w7.setCell ⟨b12, 1, none⟩ (.slice Av1 nv1 cv1) = w8 at *
              go_cut [13, 69, 70, 71, 72, 73, 74] (fun y _ _ _ _ _ _ wx => wx = w8 ∧ y = .int .i64 (left - wv v0 : Nat))
              case first =>
                by_cases hv0 : v0 = 0
                · subst hv0
                  have hwv : wv 0 = 1 := rfl
                  go_wp2_with fail
                  go_meet
                  exact ⟨rfl, by rw [hwv]; congr 1; omega⟩
                · have hv0i : ((v0 : Int) == 0) = false := by rw [beq_eq_false_iff_ne]; omega
                  have hwv : wv v0 = v0 - 1 := by unfold wv; rw [if_neg hv0]
                  have HWv := Lib.hid hwv
                  clear hwv
                  go_wp2_with fail
                  go_meet
                  exact ⟨rfl, by rw [HWv.out]; congr 1; omega⟩
              case rest =>
                obtain ⟨rfl, rfl⟩ := hcut
                have hwl : wv v0 ≤ left := by
                  unfold wv
                  split <;> omega
                obtain ⟨L2, hL2⟩ : ∃ L2, L2 = left - wv v0 := ⟨_, rfl⟩
                rw [← hL2] at HRr ⊢
                have hL2b : L2 ≤ 32768 := by omega
                clear hL2
                obtain ⟨th, hth⟩ : ∃ th : Bool, ((v0 : Int) == 1) = th := ⟨_, rfl⟩
                have HTh : Hid ((th = true ∧ rowA f' (bitsOf xs) a1 0 = ro ∧ n < f' + a1) ∨ (th = false ∧ ro = some (0, a1))) := by
                  have q := HRo.out
                  by_cases h1' : v0 = 1
                  · rw [if_pos h1'] at q
                    subst h1'
                    exact .inl ⟨by rw [← hth]; rfl, q.symm, by omega⟩
                  · rw [if_neg h1'] at q
                    refine .inr ⟨?_, q⟩
                    rw [← hth, beq_eq_false_iff_ne]
                    omega
                have ha1n : a1 ≤ n := by omega
                have ha11 : at1 + 1 ≤ a1 := by omega
                clear hle hlp HC HI HI5 hi9 HD9 hl0 hv0b
                go_wp2_with fail
                go_loopg [15] f' (fun gh t wx => ∃ (th : Bool) (at2 k2 : Nat) (v2 : Value), t = .bool th ∧ RInv w wx w.heap.size b9 b12 lo n c A xs at2 (lg : Int) v2 (acc ++ ((v0 : Int) - 1) :: List.replicate k2 0) ∧ at2 ≤ n ∧ a1 ≤ at2 ∧ 2 * k2 ≤ 3 * (at2 - a1) ∧ ((th = true ∧ rowA gh (bitsOf xs) at2 k2 = ro ∧ n < gh + at2) ∨ (th = false ∧ ro = some (k2, at2))))
                case atStart => exact ⟨th, a1, 0, _, rfl, HP.out, ha1n, Nat.le_refl _, by omega, HTh.out⟩
                case round =>
                  obtain ⟨th2, at2, k2, v2, rfl, hi, hat2, ha12, hk2, hor⟩ := hrel
                  obtain ⟨A2, c2, rfl, hc2, _⟩ := hi.own.form
                  have hlen2 : (acc ++ ((v0 : Int) - 1) :: List.replicate k2 0).length = acc.length + 1 + k2 := by simp; omega
                  rw [hlen2] at hi hc2
                  have HI2 := Lib.hid hi
                  have l9 := hi.x9.lt
                  have l12' := hi.x12.lt
                  have HD2' := Lib.hid hi.dat
                  obtain ⟨⟨c0, c1, f0, f1⟩, ⟨d0, d1, g0, g1⟩, ⟨e0, e1, h0, h1⟩⟩ := hi.cells
                  clear hi hlen2
                  rcases hor with ⟨rfl, hrow, hgf⟩ | ⟨rfl, hro2⟩
                  · cases gk with
                    | zero => omega
                    | succ f2 =>
                      rw [rowA] at hrow
                      cases hx2 : rd (bitsOf xs) at2 2 with
                      | none =>
                        rw [hx2] at hrow
                        simp only at hrow
                        have hr2 : RR = .error 10 := by rw [← HRr.out, ← hrow]
                        subst hr2
                        have hR := HRf.out
                        simp only at hR
                        subst hR
                        have HC2 := Lib.hid (refRead_any (at_ := at2) 2 HD2'.out HN.out hc hnb (Nat.le_of_lt l9) hat2)
                        rw [show fread xs at2 2 = (0, 10, at2) from fread_none (n := 2) (by omega) hx2] at HC2
                        clear hx2 hrow
                        go_wp2_with fail
                        refine HC2.out.mono ?_
                        rintro e w9 ⟨rfl, hB⟩
                        have hi9' := HI2.out.below hB
                        have HI9 := Lib.hid (hi9'.move at2)
                        clear hB
                        clear c0 c1 f0 f1 d0 d1 g0 g1 e0 e1 h0 h1
                        obtain ⟨⟨c0, c1, f0, f1⟩, ⟨d0, d1, g0, g1⟩, ⟨e0, e1, h0, h1⟩⟩ := hi9'.cells
                        clear hi9'
                        go_upto_region 21 with fail
                        clear c0 c1 f0 f1 d0 d1 g0 g1 e0 e1 h0 h1
                        generalize (w9.setCell ⟨b9, 0, none⟩ (.slice A n c)).setCell ⟨b9, 1, none⟩ (.int .i64 (at2 : Int)) = w10 at *
                        obtain ⟨⟨c0, c1, f0, f1⟩, ⟨d0, d1, g0, g1⟩, ⟨e0, e1, h0, h1⟩⟩ := HI9.out.cells
                        go_wp2_with fail
                        refine bodyPost_ret (v := .tuple #[.agg #[.int .i64 0, .slice none 0 0], .int .i64 0, .int .i64 10]) (by simp [results, Try.results10, go_sem, c0, c1]) rfl ⟨?_, rfl⟩
                        exact HI9.out.err
                      | some x2 =>
                        rw [hx2] at hrow
                        simp only at hrow
                        have hx24 := (rd_lt hx2).1
                        have hal2' := (rd_lt hx2).2
                        rw [HLen.out, HN.out] at hal2'
                        have HC2 := Lib.hid (refRead_any (at_ := at2) 2 HD2'.out HN.out hc hnb (Nat.le_of_lt l9) hat2)
                        rw [show fread xs at2 2 = (x2, 0, at2 + 2) from fread_some (n := 2) (by omega) hx2] at HC2
                        have HRow := Lib.hid hrow
                        clear hx2 hrow
                        go_wp2_with fail
                        refine HC2.out.mono ?_
                        rintro e w9 ⟨rfl, hB⟩
                        have hi9' := HI2.out.below hB
                        have HI9 := Lib.hid (hi9'.move (at2 + 2))
                        clear hB
                        clear c0 c1 f0 f1 d0 d1 g0 g1 e0 e1 h0 h1
                        obtain ⟨⟨c0, c1, f0, f1⟩, ⟨d0, d1, g0, g1⟩, ⟨e0, e1, h0, h1⟩⟩ := hi9'.cells
                        clear hi9'
                        rw [show ((at2 + 2 : Nat) : Int) = (at2 : Int) + 2 by omega] at HI9 ⊢
                        go_upto_region 21 with fail
                        clear c0 c1 f0 f1 d0 d1 g0 g1 e0 e1 h0 h1
                        generalize (w9.setCell ⟨b9, 0, none⟩ (.slice A n c)).setCell ⟨b9, 1, none⟩ (.int .i64 ((at2 : Int) + 2)) = w10 at *
                        go_wp2_with fail
                        go_loopg [16] x2 (fun gh i wx => ∃ (j : Nat) (v3 : Value), j + gh = x2 ∧ i = .int .i64 j ∧ RInv w wx w.heap.size b9 b12 lo n c A xs (at2 + 2) (lg : Int) v3 (acc ++ ((v0 : Int) - 1) :: List.replicate (k2 + j) 0))
                        case atStart => exact ⟨0, _, by omega, rfl, HI9.out⟩
                        case round =>
                          obtain ⟨j, v3, hj, rfl, hi⟩ := hrel
                          obtain ⟨A3, c3, rfl, hc3, _⟩ := hi.own.form
                          have hlen3 : (acc ++ ((v0 : Int) - 1) :: List.replicate (k2 + j) 0).length = acc.length + 1 + (k2 + j) := by simp; omega
                          rw [hlen3] at hi hc3
                          have HI3 := Lib.hid hi
                          have HJ := Lib.hid hj
                          have hjx : j ≤ x2 := by omega
                          have l123 := hi.x12.lt
                          obtain ⟨⟨c0, c1, f0, f1⟩, ⟨d0, d1, g0, g1⟩, ⟨e0, e1, h0, h1⟩⟩ := hi.cells
                          clear hi hj hlen3
                          by_cases hjl : j < x2
                          · obtain ⟨g', rfl⟩ : ∃ g', gk = g' + 1 := ⟨gk - 1, by have := HJ.out; omega⟩
                            have hji : (j : Int) < (x2 : Int) := by omega
                            have HA := Lib.hid (HI3.out.own.alloc (.cells #[.int .i64 0] 3))
                            have HD1 := Lib.hid (datE_one icel wr 0 3 _ rfl)
                            go_wp2_with (at_builtin; refine list_appE icel_one _ rfl _ _ 24 rfl i0 (.int .i64 0) 8 Try.underlying24 hi0 hz0 hz1 hz2 rfl (by decide) rfl HA.out rfl HD1.out rfl ?_ ?_ ?_)
                            · have := HI3.out.own.len; omega
                            · first | omega | (simp; omega)
                            intro v4 w11 ho4 hg4 hat4
                            obtain ⟨A4, n4, c4, rfl⟩ := ho4.slice
                            obtain ⟨k0, k1, kf, HP4⟩ := HI3.out.push ho4 hg4
                            clear ho4 hg4 hat4 HA HD1
                            clear c0 c1 f0 f1 d0 d1 g0 g1 e0 e1 h0 h1
                            go_wp2_with fail
                            go_roundg g'
                            case rel =>
                              refine ⟨j + 1, .slice A4 n4 c4, by have := HJ.out; omega, by go_num, ?_⟩
                              have q := HP4.out
                              rw [show List.replicate (k2 + (j + 1)) (0 : Int) = List.replicate (k2 + j) 0 ++ [0] by rw [← Nat.add_assoc, List.replicate_succ']]
                              first
                                | exact q
                                | (rw [List.append_assoc, List.cons_append] at q; exact q)
                            case measure => omega
                          · obtain rfl : j = x2 := by omega
                            have hji : ¬ (j : Int) < (j : Int) := by omega
                            by_cases hx3 : j < 3
                            · have hq : ro = some (k2 + j, at2 + 2) := by
                                have q := HRow.out
                                rw [if_pos hx3] at q
                                exact q.symm
                              have HQ := Lib.hid hq
                              have hj3 : ((j : Int) == 3) = false := by rw [beq_eq_false_iff_ne]; omega
                              clear hq
                              go_wp2_with fail
                              go_roundg f2
                              case rel => exact ⟨false, at2 + 2, k2 + j, .slice A3 (acc.length + 1 + (k2 + j)) c3, rfl, HI3.out, by omega, by omega, by omega, .inr ⟨rfl, HQ.out⟩⟩
                              case measure => omega
                            · obtain rfl : j = 3 := by omega
                              have hq : rowA f2 (bitsOf xs) (at2 + 2) (k2 + 3) = ro := by
                                have q := HRow.out
                                rw [if_neg hx3] at q
                                exact q
                              have HQ := Lib.hid hq
                              clear hq
                              go_wp2_with fail
                              go_roundg f2
                              case rel => exact ⟨true, at2 + 2, k2 + 3, .slice A3 (acc.length + 1 + (k2 + 3)) c3, rfl, HI3.out, by omega, by omega, by omega, .inl ⟨rfl, HQ.out, by omega⟩⟩
                              case measure => omega
                  · have hr3 : (if sy < ((acc.length + 1 + k2 : Nat) : Int) then Except.error 11 else rdP f' (bitsOf xs) sy at2 L2 (acc ++ ((v0 : Int) - 1) :: List.replicate k2 0)) = RR := by
                      have q := HRr.out
                      rw [hro2] at q
                      exact q
                    by_cases hs : sy < ((acc.length + 1 + k2 : Nat) : Int)
                    · rw [if_pos hs] at hr3
                      subst hr3
                      have hR := HRf.out
                      simp only at hR
                      subst hR
                      have hs2 : sy < (acc.length : Int) + 1 + (k2 : Int) := by omega
                      go_wp2_with fail
                      refine bodyPost_ret (v := .tuple #[.agg #[.int .i64 0, .slice none 0 0], .int .i64 0, .int .i64 11]) (by simp [results, Try.results10, go_sem, c0, c1]) rfl ⟨?_, rfl⟩
                      exact HI2.out.err
                    · rw [if_neg hs] at hr3
                      have HR3 := Lib.hid hr3
                      have hs2 : decide (sy < (acc.length : Int) + 1 + (k2 : Int)) = false := by simp; omega
                      have hL20 : decide ((L2 : Int) < 0) = false := by simp
                      clear hr3
                      go_wp2_with fail
                      go_roundg f'
                      case rel => exact ⟨L2, at2, acc ++ ((v0 : Int) - 1) :: List.replicate k2 0, .slice A2 (acc.length + 1 + k2) c2, rfl, hL2b, by omega, hat2, by simp; omega, HI2.out, HR3.out⟩
                      case measure => omega
end Go.Proofs.Ytafhabpckgmkgaa
