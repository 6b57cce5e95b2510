
/- The contract of the program's spread: a block's words, one for each round. -/
import Derived.Test.YtieepdhajjibpaaDoorShaPrt
import Derived.Test.YtieepdhajjibpaaDoorShaTurn
import Derived.Test.YtieepdhajjibpaaDoorShaWords
import Derived.Test.YtieepdhajjibpaaDoorShaRow
import Derived.Deep.RegionHeld3
import Derived.Deep.LoopGhost
import Derived.Deep.CutRange
import Derived.Deep.DeepCutAuto
import Derived.Outline
namespace Go.Proofs.YtieepdhajjibpaaDoor
open Go.RowKit

def bcells (bs : List UInt8) : Array Value := (bs.map cel).toArray
theorem bcells_get (bs : List UInt8) (i : Nat) (h : i < bs.length) : (bcells bs)[i]? = some (.int .u8 ((bs.getD i 0).toNat : Int)) := by
  simp [bcells, List.getD, h, cel]

/-- Where the words are made: the result, the words. -/
def Spr (w wx : World) (ws : List UInt32) : Prop :=
  Box wx (w.heap.size + 1) 76 (wcells []) ∧ Box wx (w.heap.size + 2) 76 (wcells ws) ∧ Below w.heap.size w wx
theorem Spr.put {w wx : World} {ws : List UInt32} (h : Spr w wx ws) (i : Nat) (u : Value) :
    Box (wx.setCell ⟨w.heap.size + 2, i, none⟩ u) (w.heap.size + 1) 76 (wcells []) ∧ Box (wx.setCell ⟨w.heap.size + 2, i, none⟩ u) (w.heap.size + 2) 76 ((wcells ws).setIfInBounds i u) ∧ Below w.heap.size w (wx.setCell ⟨w.heap.size + 2, i, none⟩ u) :=
  ⟨h.1.far (by show _ ≠ w.heap.size + 2; omega) u, h.2.1.put i u, h.2.2.setCell (by show _ ≤ w.heap.size + 2; omega) u⟩

theorem drewN_heap (w : World) (n : Nat) : (w.drewN n).heap = w.heap := rfl
theorem Spr.drawn {w wx : World} {ws : List UInt32} (h : Spr w wx ws) (n : Nat) : Spr w (wx.drewN n) ws := ⟨h.1, h.2.1, below_drawn h.2.2 n⟩

attribute [local go_sem high] w_xor w_or w_and w_add w_addm w_add3 w_add4 w_not w_dn3 w_dn10 w_u8 w_up24 w_up16 w_up8
set_option maxRecDepth 100000 in
set_option maxHeartbeats 2000000 in
theorem spread_any (bs : List UInt8) (hl : bs.length = 64) (w : World) :
    Calls Tryd.prog 56 #[.agg (bcells bs)] w fun e w' => e = .returned (.agg (wcells (sch bs 0 64))) ∧ Below w.heap.size w w' := by
  have hbs : (bcells bs).size = 64 := by simp [bcells, hl]
  obtain ⟨B, hB⟩ : ∃ B, B = bcells bs := ⟨_, rfl⟩
  rw [← hB] at hbs ⊢
  have HB := Lib.hid hB
  have HL := Lib.hid hl
  clear hB hl
  go_enter Tryd.func56, Tryd.ntmps56
  go_upto_region 2 with fail
  have hb0 : Hid (Box (((w.alloc (.cells B 89)).alloc (.cells (wcells []) 76)).alloc (.cells (wcells []) 76)) w.heap.size 89 B) := ((Box.new w _ B).alloc _).alloc _
  go_cut [9, 3, 10] (fun q p i wx => q = .agg B ∧ i = .int .i64 0 ∧ p = .pointer (some ⟨w.heap.size + 2, 0, none⟩) ∧ Spr w wx (prt bs 0))
  case first =>
    go_wp2_with (refine wpList_load_row rfl 89 _ rfl w.heap.size rfl 89 B (0, 0) _ hb0.out Tryd.underlying89 rfl (by rw [hbs]; kernel_rfl) ?_)
    go_meet
    refine ⟨rfl, rfl, by simp, ?_⟩
    have z1 : (w.alloc (.cells B 89)).heap.size = w.heap.size + 1 := by simp
    have z2 : ((w.alloc (.cells B 89)).alloc (.cells (wcells []) 76)).heap.size = w.heap.size + 2 := by simp
    have b1 := (Box.new (w.alloc (.cells B 89)) 76 (wcells [])).alloc (.cells (wcells []) 76)
    have b2 := Box.new ((w.alloc (.cells B 89)).alloc (.cells (wcells []) 76)) 76 (wcells [])
    rw [z1] at b1
    rw [z2, ← prt_zero bs] at b2
    exact ⟨b1, b2, (((Below.refl _ _).alloc (Nat.le_refl _) _).alloc (by simp) _).alloc (by simp; omega) _⟩
  case rest =>
    obtain ⟨rfl, rfl, rfl, hs⟩ := hcut
    have HS := Lib.hid hs
    clear hs hb0
    go_wp2_with fail
    go_loopg [10] 64 (fun gh i wx => ∃ k : Nat, k + gh = 64 ∧ i = .int .i64 k ∧ Spr w wx (prt bs k))
    case atStart => exact ⟨0, rfl, rfl, HS.out⟩
    case round =>
      obtain ⟨k, hk, rfl, hs⟩ := hrel
      have HK := Lib.hid hk
      have HSr := Lib.hid hs
      have hk64 : k ≤ 64 := by omega
      clear hk hs
      by_cases hlt : k < 64
      · have hlt' : (k : Int) < 64 := by omega
        have hx : B[k]? = some (.int .u8 ((bs.getD k 0).toNat : Int)) := by rw [HB.out]; exact bcells_get bs k (by rw [HL.out]; exact hlt)
        have hset := prt_set bs k hlt
        have hc : wr.cell? ⟨w.heap.size + 2, k / 4, none⟩ = some (.int .u32 (((prt bs k).getD (k / 4) 0).toNat : Int)) := (HSr.out.2.1.cell (k / 4)).trans (wcells_get _ _ (by omega))
        have hf := HSr.out.2.1.free (k / 4)
        obtain ⟨c, hcc⟩ : ∃ c, c = bs.getD k 0 := ⟨_, rfl⟩
        obtain ⟨x, hxx⟩ : ∃ x, x = (prt bs k).getD (k / 4) 0 := ⟨_, rfl⟩
        rw [← hcc] at hx hset
        rw [← hxx] at hc hset
        have HSet := Lib.hid hset
        clear hset hcc hxx
        have hq4 : (k : Int) / 4 < 64 := by omega
        have hix := fun W => run_index_agg (P := Tryd.prog) W 89 5 64 .u8 Tryd.underlying89 Tryd.underlying5 (by kernel_rfl) B .i64 (k : Int) _ (by omega) hlt' (by simpa using hx)
        go_wp2_with fail
        go_roundg (64 - (k + 1))
        case measure => have := HK.out; omega
        case rel =>
          have hp := HSr.out.put (k / 4) (.int .u32 ((wO (upw x 8) (w8 c)).toNat : Int))
          rw [wcells_upd _ _ _ (by rw [prt_length]; omega), HSet.out] at hp
          exact ⟨k + 1, by omega, by go_num, hp⟩
      · have hk : k = 64 := by omega
        subst hk
        have HS2 := Lib.hid (show Spr w wr (sch bs 0 16) by rw [← prt_all]; exact HSr.out)
        clear HSr HS HK
        go_wp2_with fail
        go_loopg [6] 48 (fun gh t wx => ∃ T : Nat, T + gh = 64 ∧ 16 ≤ T ∧ t = .int .i64 T ∧ Spr w wx (sch bs 0 T))
        case atStart => exact ⟨16, rfl, by omega, rfl, HS2.out⟩
        case round =>
          obtain ⟨T, hT, hT16, rfl, hs⟩ := hrel
          have HJT := Lib.hid hT
          have HT := Lib.hid hs
          have hT64 : T ≤ 64 := by omega
          clear hT hs HS2
          by_cases h64 : T < 64
          · have h16 : ¬ T < 16 := by omega
            obtain ⟨ws, hws0⟩ : ∃ ws, ws = sch bs 0 T := ⟨_, rfl⟩
            have hcell : ∀ i, i < 64 → wr.cell? ⟨w.heap.size + 2, i, none⟩ = some (.int .u32 ((ws.getD i 0).toNat : Int)) := fun i hi => by rw [hws0]; exact (HT.out.2.1.cell i).trans (wcells_get _ _ hi)
            have q16 := hcell (T - 16) (by omega)
            have q15 := hcell (T - 15) (by omega)
            have q7 := hcell (T - 7) (by omega)
            have q2 := hcell (T - 2) (by omega)
            have qT := hcell T h64
            have wf := HT.out.2.1.free T
            have hnx : Hid (nxt bs 0 ws T = wA (wA (wA (ws.getD (T - 16) 0) (wX (wX (rot (ws.getD (T - 15) 0) 7) (rot (ws.getD (T - 15) 0) 18)) (down (ws.getD (T - 15) 0) 3))) (ws.getD (T - 7) 0)) (wX (wX (rot (ws.getD (T - 2) 0) 17) (rot (ws.getD (T - 2) 0) 19)) (down (ws.getD (T - 2) 0) 10))) := by
              unfold Hid nxt
              rw [if_neg h16]
            have HWS := Lib.hid hws0
            clear hcell hws0
            obtain ⟨v16, e16⟩ : ∃ x, x = ws.getD (T - 16) 0 := ⟨_, rfl⟩
            obtain ⟨v15, e15⟩ : ∃ x, x = ws.getD (T - 15) 0 := ⟨_, rfl⟩
            obtain ⟨v7, e7⟩ : ∃ x, x = ws.getD (T - 7) 0 := ⟨_, rfl⟩
            obtain ⟨v2, e2⟩ : ∃ x, x = ws.getD (T - 2) 0 := ⟨_, rfl⟩
            obtain ⟨vT, eT⟩ : ∃ x, x = ws.getD T 0 := ⟨_, rfl⟩
            rw [← e16] at q16 hnx
            rw [← e15] at q15 hnx
            rw [← e7] at q7 hnx
            rw [← e2] at q2 hnx
            rw [← eT] at qT
            clear e16 e15 e7 e2 eT
            have x16 : IntKind.i64.wrap ((T : Int) - 16) = (T : Int) - 16 := IntWalk.i64_in _ (by omega)
            have x7 : IntKind.i64.wrap ((T : Int) - 7) = (T : Int) - 7 := IntWalk.i64_in _ (by omega)
            have x15 : IntKind.i64.wrap ((T : Int) - 15) = (T : Int) - 15 := IntWalk.i64_in _ (by omega)
            have x2 : IntKind.i64.wrap ((T : Int) - 2) = (T : Int) - 2 := IntWalk.i64_in _ (by omega)
            have y16 : ((T : Int) - 16).toNat = T - 16 := by omega
            have y15 : ((T : Int) - 15).toNat = T - 15 := by omega
            have y7 : ((T : Int) - 7).toNat = T - 7 := by omega
            have y2 : ((T : Int) - 2).toNat = T - 2 := by omega
            have z16 : (0 : Int) ≤ (T : Int) - 16 := by omega
            have z7 : (0 : Int) ≤ (T : Int) - 7 := by omega
            have z15 : (0 : Int) ≤ (T : Int) - 15 := by omega
            have z2 : (0 : Int) ≤ (T : Int) - 2 := by omega
            have zz16 : (T : Int) - 16 < 64 := by omega
            have zz7 : (T : Int) - 7 < 64 := by omega
            have zz15 : (T : Int) - 15 < 64 := by omega
            have zz2 : (T : Int) - 2 < 64 := by omega
            have hTi : (T : Int) < 64 := by omega
            have i16 : (16 : Int) ≤ (T : Int) := by omega
            have i15 : (15 : Int) ≤ (T : Int) := by omega
            have i7 : (7 : Int) ≤ (T : Int) := by omega
            have i2 : (2 : Int) ≤ (T : Int) := by omega
            have l16 : (T : Int) < 80 := by omega
            have l15 : (T : Int) < 79 := by omega
            have l7 : (T : Int) < 71 := by omega
            have l2 : (T : Int) < 66 := by omega
            have n16 : T ≠ T - 16 := by omega
            have n7 : T ≠ T - 7 := by omega
            go_wp2_with fail
            go_quiet (fail)
            go_upto_region 11 with fail
            go_region_held3 (fun w' => w'.cell? ⟨w.heap.size + 2, T - 16, none⟩ = some (.int .u32 (v16.toNat : Int)) ∧ w'.cell? ⟨w.heap.size + 2, T - 7, none⟩ = some (.int .u32 (v7.toNat : Int)))
              (first | exact ⟨other_cell _ _ _ _ _ _ n16 q16, other_cell _ _ _ _ _ _ n7 q7⟩ | exact ⟨q16, q7⟩ | go_keep)
              (first | (go_at_call 60; refine (goes_any _ _ _ (by decide) (by decide)).mono ?_; rintro e' w' ⟨rfl, rfl⟩))
            go_wp2_with fail
            go_roundg (64 - (T + 1))
            case measure => have := HJT.out; omega
            case rel =>
              have key : ∀ m, Spr w ((wr.drewN m).setCell ⟨w.heap.size + 2, T, none⟩ (.int .u32 ((wA (wA (wA v16 (wX (wX (rot v15 7) (rot v15 18)) (down v15 3))) v7) (wX (wX (rot v2 17) (rot v2 19)) (down v2 10))).toNat : Int))) (ws ++ [wA (wA (wA v16 (wX (wX (rot v15 7) (rot v15 18)) (down v15 3))) v7) (wX (wX (rot v2 17) (rot v2 19)) (down v2 10))]) := by
                intro m
                have hp := (HT.out.drawn m).put T (.int .u32 ((wA (wA (wA v16 (wX (wX (rot v15 7) (rot v15 18)) (down v15 3))) v7) (wX (wX (rot v2 17) (rot v2 19)) (down v2 10))).toNat : Int))
                have hlT := sch_length bs 0 T
                have hws := wcells_set (sch bs 0 T) (nxt bs 0 (sch bs 0 T) T) (by omega)
                rw [hlT, ← HWS.out, hnx.out] at hws
                rw [← HWS.out, hws] at hp
                exact hp
              refine ⟨T + 1, by omega, by omega, by go_num, ?_⟩
              have e : sch bs 0 (T + 1) = ws ++ [wA (wA (wA v16 (wX (wX (rot v15 7) (rot v15 18)) (down v15 3))) v7) (wX (wX (rot v2 17) (rot v2 19)) (down v2 10))] := by rw [sch, ← HWS.out, hnx.out]
              rw [e]
              exact key _
          · have hT : T = 64 := by omega
            subst hT
            have hb2 := HT.out.2.1
            have hsz := wcells_size (sch bs 0 64) (Nat.le_of_eq (sch_length _ _ _))
            have hone := wcells_one (sch bs 0 64)
            have hb2' := HT.out.1
            have HB2 := Lib.hid hb2
            have HB1 := Lib.hid hb2'
            clear hb2 hb2'
            obtain ⟨R, hR⟩ : ∃ R, R = wcells (sch bs 0 64) := ⟨_, rfl⟩
            rw [← hR] at HB2 hsz hone
            have HR := Lib.hid hR
            clear hR
            go_wp2_with (first
              | (refine wpList_load_row rfl 76 _ rfl (w.heap.size + 2) rfl 76 R (0, 0) _ HB2.out Tryd.underlying76 rfl (by rw [hsz]; kernel_rfl) ?_)
              | (refine wpList_store_row rfl 76 _ _ rfl (w.heap.size + 1) R rfl rfl 76 _ HB1.out (by rw [hsz]; kernel_rfl) (by rw [hsz]; rfl) hone ?_))
            refine bodyPost_ret (v := .agg R) (results_cell_row Tryd.results56 _ _ (w.heap.size + 1) 76 R (0, 0) _ rfl (setRow_heap _ _ _ _ _ _ HB1.out) Tryd.underlying76 rfl (by rw [hsz]; kernel_rfl)) rfl ⟨by rw [HR.out], ?_⟩
            exact below_row HT.out.2.2 (by omega) _
end Go.Proofs.YtieepdhajjibpaaDoor
