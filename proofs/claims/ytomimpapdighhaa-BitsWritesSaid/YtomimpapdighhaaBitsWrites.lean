/- BitsWrites holds: for every slice of pieces the law returns true, and the slice reads behind the call as it read before. No condition. -/
import Derived.Test.YtomimpapdighhaaBitAwake
import Derived.Test.YtomimpapdighhaaBitRefW
import Derived.Test.YtomimpapdighhaaBitPieces
import Derived.Deep.RegionWith
import Derived.Deep.RegionHeld3
import Derived.Deep.LoopGhost
namespace Go.Proofs.Ytomimpapdighhaa.bitsWrites
open Go.ChangeShapes Go.WideShapes Go.ChangeAt Go.RowKit

/-- The bits of pieces, one behind the other. -/
def bl (rs : List Pce) : List Bool := rs.flatMap fun r => lows r.x r.n
theorem bl_more (rs : List Pce) (k : Nat) (h : k < rs.length) : bl (rs.take (k + 1)) = bl (rs.take k) ++ lows rs[k].x rs[k].n := by
  unfold bl
  rw [List.take_succ_eq_append_getElem h, List.flatMap_append]
  simp
theorem bl_len (rs : List Pce) : (bl rs).length ≤ 56 * rs.length := by
  induction rs with
  | nil => simp [bl]
  | cons r q ih =>
    have := lows_len r.x r.n
    unfold bl at *
    simp only [List.flatMap_cons, List.length_append, List.length_cons]
    omega

/-- Where the loop stands: the Writer and the document's bits are the same; they share no memory. -/
def Inv (w wr : World) (lo g : Nat) (v va : Value) (l : List Bool) : Prop :=
  WR wr lo g v l ∧ OwE Value.bool wr 4 lo va l ∧ (∀ q, va.ownBlock = some q → q ≠ g ∧ some q ≠ v.ownBlock) ∧ Below w.heap.size w wr

/-- The Writer has written. -/
theorem Inv.step {w wr wx : World} {lo g : Nat} {v v2 va : Value} {l l2 : List Bool} (h : Inv w wr lo g v va l) (hw : WR wx lo g v2 l2) (hF : Foot wr wx g v.ownBlock) (hsz : w.heap.size ≤ wr.heap.size) (hlo : w.heap.size ≤ lo) :
    OwE Value.bool wx 4 lo va l ∧ WR wx lo g v2 l2 ∧ Below w.heap.size w wx :=
  ⟨h.2.1.keep fun q hq => hF.block q ((h.2.1.block q hq).2) (h.2.2.1 q hq).1 (h.2.2.1 q hq).2, hw,
    h.2.2.2.trans (hF.below hsz (by have := h.1.1; omega) (fun k hk => by have := (h.1.row k hk).1; omega))⟩
/-- So has the document. -/
theorem Inv.next {w wx wy : World} {lo g : Nat} {v2 va2 : Value} {l2 : List Bool} (hw : WR wx lo g v2 l2) (hB : Below w.heap.size w wx) (hBy : Below wx.heap.size wx wy) (ho : OwE Value.bool wy 4 wx.heap.size va2 l2) (hsz : w.heap.size ≤ wx.heap.size) :
    Inv w wy lo g v2 va2 l2 := by
  have hg := hw.lt
  have hlo := hw.1
  refine ⟨hw.below hBy (Nat.le_refl _), ho.mono (by omega), fun q hq => ?_, hB.trans (hBy.mono hsz)⟩
  have := (ho.block q hq).1
  refine ⟨by omega, fun e => ?_⟩
  have := (hw.row q e.symm).2
  omega

theorem out_str {w4 : World} {lo g : Nat} {v : Value} {l : List Bool} (h : WR w4 lo g v l) (hb : l.length ≤ 1000000000) (W : World) (hB : Below w4.heap.size w4 W) :
    Calls Try.prog 29 #[.pointer (some ⟨g, 0, none⟩)] W fun e w' => ∃ A n c, e = .returned (.slice A n c) ∧ (∀ W', Below w'.heap.size w' W' → (convert 22 9 (.slice A n c)).run Try.prog W' = .ok (.string (str (bytesOf l))) W') ∧ Below W.heap.size W w' := by
  refine (out_any (h.below hB (Nat.le_refl _)) (by omega)).mono fun e w' ⟨v', he, ho, hB'⟩ => ?_
  obtain ⟨A, c, rfl, _, hd⟩ := ho.form
  exact ⟨A, _, c, he, fun W' h => run_str (P := Try.prog) W' 22 Try.underlying22 Try.underlying5 (c := c) (hd.below h (Nat.le_refl _)) rfl 9 Try.underlying9, hB'⟩
theorem wri_str {W : World} {lo hi : Nat} {A : Option Addr} {n c : Nat} {l : List Bool} (hd : DatE Value.bool W lo hi A l) (hn : l.length = n) (hs : n ≤ 1000000) :
    Calls Try.prog 27 #[.slice A n c, .int .u64 1, .int .i64 1] W fun e w' => ∃ A1 n1 c1, e = .returned (.slice A1 n1 c1) ∧ Below W.heap.size W w' ∧
      Calls Try.prog 30 #[.slice A1 n1 c1] w' fun e' w'' => e' = .returned (.string (str (bytesOf (l ++ [true])))) ∧ Below w'.heap.size w' w'' := by
  refine (refWrite_any (x := 1) 1 hd hn (by omega) (by decide)).mono fun e w' ⟨v', he, ho, hB'⟩ => ?_
  rw [show lows 1 1 = [true] by decide] at ho
  obtain ⟨A1, c1, rfl, _, hd1⟩ := ho.form
  exact ⟨A1, _, c1, he, hB', refBytes_any hd1 rfl (Nat.le_refl _) (by simp; omega)⟩

set_option maxRecDepth 100000 in
set_option maxHeartbeats 20000000 in
theorem walk (a0 : Option Addr) (rs : List Pce) (cap0 : Nat) (w : World) (hr : Pcs w a0 rs) (hm : rs.length ≤ maxLen) :
    Calls Try.prog 5 #[.slice a0 rs.length cap0] w fun e w' => e = .returned (.bool true) ∧ Below w.heap.size w w' := by
  unfold maxLen at hm
  have HA := Lib.hid hr
  clear hr
  by_cases hlen : 60 < rs.length
  · go_enter Try.func5, Try.ntmps5
    go_wp2_with fail
    refine (awake_any _).mono ?_
    rintro e w1 ⟨rfl, hB⟩
    have HB := Lib.hid hB
    clear hB
    go_wp2_with fail
    go_ret
    exact ⟨rfl, HB.out⟩
  · have hl : rs.length ≤ 60 := by omega
    have h60 : decide (60 < (rs.length : Int)) = false := by simp; omega
    go_enter Try.func5, Try.ntmps5
    go_wp2_with fail
    refine (awake_any _).mono ?_
    rintro e w1 ⟨rfl, hB⟩
    have HB1 := Lib.hid hB
    have hs1 := hB.size
    clear hB
    go_wp2_with fail
    refine (newWriter_any _).mono ?_
    rintro e w2 ⟨rfl, hw, hB⟩
    have HI2 : Hid (Inv w w2 w1.heap.size w1.heap.size (.slice none 0 0) (.slice none 0 0) (bl (rs.take 0))) :=
      ⟨by simpa [bl] using hw, by simpa [bl] using OwE.nil Value.bool w2 4 w1.heap.size, fun q hq => by simp [Value.ownBlock] at hq, HB1.out.trans (hB.mono hs1)⟩
    clear hw hB
    go_wp2_with fail
    go_loopg [5, 6] rs.length (fun gh x i wr => ∃ (k : Nat) (v : Value), k + gh = rs.length ∧ i = .int .i64 k ∧ Inv w wr w1.heap.size w1.heap.size v x (bl (rs.take k)))
    case atStart => exact ⟨0, _, by omega, rfl, HI2.out⟩
    case round =>
      obtain ⟨k, v, hk, rfl, hi⟩ := hrel
      have HK := Lib.hid hk
      have hkl : k ≤ rs.length := by omega
      have hLn : (bl (rs.take k)).length ≤ 3360 := by have := bl_len (rs.take k); simp at this; omega
      have hsz := hi.2.2.2.size
      obtain ⟨Aa, ca, rfl, _, hda⟩ := hi.2.1.form
      have HI := Lib.hid hi
      clear hk hi hda
      by_cases hlt : k < rs.length
      · obtain ⟨b, o, rfl, hbl, hps⟩ := HA.out (by omega)
        have hp := (hps k hlt).below HI.out.2.2.2 hbl
        have HBM := Lib.hid (bl_more rs k hlt)
        obtain ⟨r, hr⟩ : ∃ r, r = rs[k] := ⟨_, rfl⟩
        rw [← hr] at hp HBM
        obtain ⟨x, n⟩ := r
        have q0 : wr.cell? ⟨b, o + k * 2, none⟩ = some (.int .u64 (x : Int)) := hp.c0
        have q1 : wr.cell? ⟨b, o + k * 2 + 1, none⟩ = some (.int .i64 n) := hp.c1
        have hx : x < 18446744073709551616 := hp.wx
        have hbr : b < wr.heap.size := by omega
        clear hps hp hr
        generalize bl (rs.take k) = L at *
        have HW := Lib.hid (write_any (w := wr.drew) x n (show WR wr.drew w1.heap.size w1.heap.size v L from HI.out.1) hx (by omega))
        go_wp2_with fail
        go_still_tail 11, (by kernel_rfl)
        change wpList _ _ _ _ _ wr.drew
        go_wp2_with fail
        refine HW.out.mono ?_
        rintro e' w3 ⟨rfl, v2, hw, hF, _⟩
        have hF' : Foot wr w3 w1.heap.size v.ownBlock := ⟨hF.os, hF.tape, hF.output, hF.size, hF.block⟩
        have hst := HI.out.step hw hF' hsz hs1
        have q2 : w3.cell? ⟨b, o + k * 2, none⟩ = some (.int .u64 (x : Int)) := (World.cell?_of_block (a := ⟨b, o + k * 2, none⟩) (hF'.block b hbr (by omega) (by intro e; have := (HI.out.1.row b e.symm).1; omega))).trans q0
        have q3 : w3.cell? ⟨b, o + k * 2 + 1, none⟩ = some (.int .i64 n) := (World.cell?_of_block (a := ⟨b, o + k * 2 + 1, none⟩) (hF'.block b hbr (by omega) (by intro e; have := (HI.out.1.row b e.symm).1; omega))).trans q1
        have hs3 := hst.2.2.size
        have HST := Lib.hid hst
        obtain ⟨Aa', ca', hve, _, hda⟩ := hst.1.form
        injection hve with h1 _ h3
        subst h1 h3
        have HWR := Lib.hid (refWrite_any (w := w3.drew) (c := ca) x n (show DatE Value.bool w3.drew w1.heap.size w3.heap.size Aa L from hda) rfl (by omega) hx)
        clear hw hF hF' hst hda q0 q1
        go_wp2_with fail
        go_still_tail 11, (by kernel_rfl)
        change wpList _ _ _ _ _ w3.drew
        go_wp2_with fail
        refine HWR.out.mono ?_
        rintro e' w4 ⟨v4, rfl, ho, hB⟩
        have hB' : Below w3.heap.size w3 w4 := ((Below.refl _ _).drew).trans hB
        have HIN := Lib.hid (Inv.next HST.out.2.1 HST.out.2.2 hB' (show OwE Value.bool w4 4 w3.heap.size v4 (L ++ lows x n) from ho) hs3)
        clear ho hB hB'
        go_wp2_with fail
        go_roundg (rs.length - (k + 1))
        case measure => have := HK.out; omega
        case rel => exact ⟨k + 1, v2, by omega, by go_num, by rw [HBM.out]; exact HIN.out⟩
      · obtain rfl : k = rs.length := by omega
        generalize bl (rs.take rs.length) = L at *
        have HC := Lib.hid (closed_any HI.out.1 (by omega))
        go_wp2_with fail
        refine HC.out.mono ?_
        rintro e' w4 ⟨v4, rfl, ho, hB⟩
        obtain ⟨Ac, cc, rfl, _, hdc⟩ := ho.form
        have hs4 := hB.size
        have hw4 : WR w4 w1.heap.size w1.heap.size v L := HI.out.1.below hB (Nat.le_refl _)
        obtain ⟨Aa', ca', hve, _, hda⟩ := HI.out.2.1.form
        injection hve with h1 _ h3
        subst h1 h3
        have hd4 : DatE Value.bool w4 w1.heap.size wr.heap.size Aa L := hda.below hB (Nat.le_refl _)
        have HB4 := Lib.hid (HI.out.2.2.2.trans (hB.mono hsz))
        have HOut := Lib.hid (fun (W : World) (h : Below w4.heap.size w4 W) => out_str (w4 := w4) hw4 (by omega) W h)
        have HByt := Lib.hid (fun (W : World) (h : Below w4.heap.size w4 W) => refBytes_any (c := ca) (hd4.below h (by omega)) rfl (by have := h.size; omega) (by omega))
        have HWri := Lib.hid (fun (W : World) (h : Below w4.heap.size w4 W) => wri_str (c := ca) (hd4.below h (by omega)) rfl (by omega))
        have HCc := Lib.hid (fun (W : World) (h : Below w4.heap.size w4 W) => run_str (P := Try.prog) W 22 Try.underlying22 Try.underlying5 (c := cc) (hdc.below h (Nat.le_refl _)) rfl 9 Try.underlying9)
        obtain ⟨Av, nv, cv, hvv⟩ := hw4.2.2.slice
        subst hvv
        have c0 : w4.cell? ⟨w1.heap.size, 0, none⟩ = some (.slice Av nv cv) := hw4.2.1.cell 0
        have hg4 := hw4.lt
        have HB : Hid (Below w4.heap.size w4 w4.drew) := (Below.refl _ _).drew
        generalize (bytesOf (L ++ [true])).length = lc at *
        generalize hS1 : str (bytesOf L) = S1 at *
        generalize hS2 : str (bytesOf (L ++ [true])) = S2 at *
        have HS1 := Lib.hid hS1
        have HS2 := Lib.hid hS2
        clear ho hB hdc hw4 hda hd4 hS1 hS2
        go_wp2_with fail
        have hcc0 := HCc.out w4.drew HB.out
        go_region_with (first | (go_at_call 29; (with_reducible refine (HOut.out _ HB.out).mono ?_); rintro e' wn ⟨A1, n1, c1, rfl, hcw, hB⟩; have HB := Lib.hid (HB.out.trans (hB.mono HB.out.size)); have k0 : wn.cell? ⟨w1.heap.size, 0, none⟩ = some (.slice Av nv cv) := (HB.out.cell (p := ⟨w1.heap.size, 0, none⟩) (by exact hg4)).trans c0; have hcc := HCc.out wn HB.out; have HCv := Lib.hid hcw; have HR := Lib.hid (Below.refl wn.heap.size wn); have hcv := HCv.out wn HR.out; clear hB hcw) | (go_at_call 30; (with_reducible refine (HByt.out _ HB.out).mono ?_); rintro e' wn ⟨rfl, hB⟩; have HB := Lib.hid (HB.out.trans (hB.mono HB.out.size)); have k0 : wn.cell? ⟨w1.heap.size, 0, none⟩ = some (.slice Av nv cv) := (HB.out.cell (p := ⟨w1.heap.size, 0, none⟩) (by exact hg4)).trans c0; have hcc := HCc.out wn HB.out; have HR := Lib.hid (HR.out.trans (hB.mono HR.out.size)); have hcv := HCv.out wn HR.out; clear hB) | (go_at_call 27; (with_reducible refine (HWri.out _ HB.out).mono ?_); rintro e' wn ⟨A1, n1, c1, rfl, hB, hnext⟩; have HB := Lib.hid (HB.out.trans (hB.mono HB.out.size)); have k0 : wn.cell? ⟨w1.heap.size, 0, none⟩ = some (.slice Av nv cv) := (HB.out.cell (p := ⟨w1.heap.size, 0, none⟩) (by exact hg4)).trans c0; have hcc := HCc.out wn HB.out; have HNx := Lib.hid hnext; clear hB hnext) | (go_at_call 30; (with_reducible refine HNx.out.mono ?_); rintro e' wn ⟨rfl, hB⟩; have HB := Lib.hid (HB.out.trans (hB.mono HB.out.size)); have k0 : wn.cell? ⟨w1.heap.size, 0, none⟩ = some (.slice Av nv cv) := (HB.out.cell (p := ⟨w1.heap.size, 0, none⟩) (by exact hg4)).trans c0; have hcc := HCc.out wn HB.out; clear hB))
        all_goals
          go_wp2_with fail
          go_ret
          exact ⟨rfl, HB4.out.trans (HB.out.mono HB4.out.size)⟩

set_option maxRecDepth 100000 in
theorem lifted (os : Os) (started : os.Started) (H : Type) (enc : TypeId × Value → H) :
    ReturnsInHanded {} Try.checked os 5 .any (Rows.bitsWritesSpec.pre6 enc Try.prog Try.f5 Rows.bitsWritesRow.domain false) (Rows.bitsWritesSpec.post enc Try.prog Try.f5 false true false false) := by
  refine returnsInHanded_of_change (C := Try.checked) own started (by kernel_rfl) Try.func5
    (ChangeSpec.witness6 (enc := enc) (C := Try.checked) false ⟨#[], #[.slice none 0 0], []⟩ 8 (by kernel_rfl) (by kernel_rfl) (by kernel_rfl) (by kernel_rfl)) ?_
  intro W base args ds gs before hval0 hW hcnd _
  have hval : ∀ (j : Nat) t v, Try.f5.params[j]? = some t → args[j]? = some v → Value.okWide Try.prog W .any base t v := hval0
  have hW' := hW
  obtain ⟨p, q, hA0, hV, rfl, hfz, hnd⟩ := hW
  have hA : DataW.TrodAll enc Try.prog W 0 (fun _ => true) true Try.f5.params.toList args.toList ds p := hA0
  rw [Try.params5] at hA hval
  obtain ⟨v0, vs0, d0, ds0, p0, q0, hargs, rfl, rfl, h0, r0⟩ := trodAll_cons hA
  obtain ⟨rfl, rfl, rfl⟩ := trodAll_nil r0
  obtain rfl : args = #[v0] := by cases args; simp_all
  obtain ⟨rfl, rfl⟩ := trodVars_none hV
  obtain ⟨a0, len0, cap0, rfl⟩ := okWide_slice Try.underlying53 (hval 0 53 v0 rfl rfl)
  have k0 := h0
  have lt0 : ∀ x ∈ p0, x.block < W.heap.size := by obtain ⟨m, hm⟩ := k0; exact DataW.trod_lt m _ _ _ hm
  obtain ⟨rs0, rfl, hl0, hm0, hd0⟩ := pieces_of h0
  clear hA0 hval0
  refine (walk a0 rs0 cap0 W hd0 (by omega)).mono fun e W' ⟨he, bel⟩ => ?_
  subst he
  exact ⟨_, rfl, _, _, _, [], _, [], hW', trodAll_mk1 (shut_bool Try.underlying4 _), (trodAll_cons_mk (Below.trod laidOut (by kernel_rfl) (of_decide_eq_true (by kernel_rfl)) k0 bel lt0) trodAll_mk0), rfl, bel.frame _, fun h => by cases h⟩

theorem over : Rows.bitsWritesRow.holds Try.pinned (OpenSpec.ofChange Rows.bitsWritesSpec) :=
  OpenClaim.holds_of_wide 5 Try.f5 rfl rfl rfl rfl rfl rfl rfl ⟨rfl, rfl, rfl, rfl, rfl⟩ rfl rfl rfl rfl rfl (by kernel_rfl) Try.func5 (by kernel_rfl)
    (of_decide_eq_true (by kernel_rfl)) (by unfold Func.isWrapper; first | (rw [if_pos (by decide +kernel)]; kernel_rfl) | (rw [if_neg (by decide +kernel)]; exact ⟨rfl, rfl⟩))
    (fun os started H enc _ => lifted os started H enc)

theorem proved : Rows.BitsWritesSaid := over
end Go.Proofs.Ytomimpapdighhaa.bitsWrites
