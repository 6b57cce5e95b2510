
/- The contract of the program's mix: the state when a block has gone into it. -/
import Derived.Test.YtieepdhajjibpaaDoorShaVecs
import Derived.Test.YtieepdhajjibpaaDoorShaSpread
import Derived.Deep.RegionLaw
namespace Go.Proofs.YtieepdhajjibpaaDoor
open Go.RowKit

/-- Where a block goes into the state: the state, the result, the words that move. -/
def Mix (w wx : World) (s : Array Value) (v : V8) : Prop :=
  Box wx w.heap.size 88 s ∧ Box wx (w.heap.size + 2) 88 (V8.cells ⟨0, 0, 0, 0, 0, 0, 0, 0⟩) ∧ Box wx (w.heap.size + 3) 88 v.cells ∧ Below w.heap.size w wx
theorem Mix.drawn {w wx : World} {s : Array Value} {v : V8} (h : Mix w wx s v) (n : Nat) : Mix w (wx.drewN n) s v := ⟨h.1, h.2.1, h.2.2.1, below_drawn h.2.2.2 n⟩
theorem Mix.step {w wx w1 : World} {s : Array Value} {v : V8} (h : Mix w wx s v) (hB : Below wx.heap.size wx w1) : Mix w w1 s v :=
  ⟨h.1.below hB h.1.lt, h.2.1.below hB h.2.1.lt, h.2.2.1.below hB h.2.2.1.lt, h.2.2.2.trans (hB.mono h.2.2.2.size)⟩
theorem Mix.row {w wx : World} {s : Array Value} {v v' : V8} {cs : Array Value} (h : Mix w wx s v) (hc : cs = v'.cells) : Mix w (wx.setRow (w.heap.size + 3) cs) s v' :=
  ⟨(setRow_other _ _ _ _ (by omega)).trans h.1, (setRow_other _ _ _ _ (by omega)).trans h.2.1, by rw [hc]; exact setRow_heap _ _ _ _ _ _ h.2.2.1, below_row h.2.2.2 (by omega) _⟩
theorem Mix.put {w wx : World} {s : Array Value} {v v' : V8} (h : Mix w wx s v) (i : Nat) (u : Value) (hc : v.cells.setIfInBounds i u = v'.cells) : Mix w (wx.setCell ⟨w.heap.size + 3, i, none⟩ u) s v' :=
  ⟨h.1.far (by show _ ≠ w.heap.size + 3; omega) u, h.2.1.far (by show _ ≠ w.heap.size + 3; omega) u, by rw [← hc]; exact h.2.2.1.put i u, h.2.2.2.setCell (by show _ ≤ w.heap.size + 3; omega) u⟩

theorem src_take {w w' : World} {g : Nat} {t : TypeId} {cs : Array Value} (h : Box w g t cs) (hh : w'.heap = w.heap) (k : Nat) : ∀ j v, (cs.toList.take k)[j]? = some v → w'.cell? ((⟨g, 0, none⟩ : Addr).add j) = some v := by
  intro j v hv
  have h' : Box w' g t cs := by unfold Box; rw [hh]; exact h
  have hadd : (⟨g, 0, none⟩ : Addr).add j = ⟨g, j, none⟩ := by unfold Addr.add; split <;> simp_all
  rw [hadd, h'.cell]
  rw [List.getElem?_take] at hv
  split at hv
  · simpa using hv
  · cases hv
theorem one_take {cs : Array Value} (h : cs.all (·.oneCell') = true) (k : Nat) : ∀ v ∈ cs.toList.take k, v.oneCell' = true :=
  fun v hv => (Array.all_eq_true_iff_forall_mem.1 h) v (by have := List.mem_of_mem_take hv; simpa using this)
theorem Mix.still {w wx w' : World} {s : Array Value} {v : V8} (h : Mix w wx s v) (h1 : w'.heap = wx.heap) (h2 : w'.os = wx.os) (h3 : w'.tape = wx.tape) (h4 : w'.output = wx.output) : Mix w w' s v := by
  obtain ⟨a, b, c, d⟩ := h
  refine ⟨?_, ?_, ?_, ⟨h2.trans d.os, h3.trans d.tape, h4.trans d.output, by rw [h1]; exact d.size, by rw [h1]; exact d.block⟩⟩ <;> (unfold Box; rw [h1]; assumption)

theorem Mix.low {w wx : World} {s : Array Value} {v : V8} (h : Mix w wx s v) (i : Nat) (u : Value) : Mix w (wx.setCell ⟨w.heap.size, i, none⟩ u) (s.setIfInBounds i u) v :=
  ⟨h.1.put i u, h.2.1.far (by show _ ≠ w.heap.size; omega) u, h.2.2.1.far (by show _ ≠ w.heap.size; omega) u, h.2.2.2.setCell (Nat.le_refl _) u⟩

attribute [local go_sem high] w_xor w_or w_and w_add w_addm w_add3 w_add4 w_not
set_option maxRecDepth 100000 in
set_option maxHeartbeats 2000000 in
theorem mix_any (s : V8) (bs : List UInt8) (hl : bs.length = 64) (w : World) (hgl : Glob w) :
    Calls Tryd.prog 51 #[.agg s.cells, .agg (bcells bs)] w fun e w' => e = .returned (.agg (block kw bs 0 s).cells) ∧ Below w.heap.size w w' := by
  have hbs : (bcells bs).size = 64 := by simp [bcells, hl]
  have HG := Lib.hid hgl
  have hsp := fun W => spread_any bs hl W
  obtain ⟨B, hB⟩ : ∃ B, B = bcells bs := ⟨_, rfl⟩
  rw [← hB] at hbs hsp ⊢
  obtain ⟨ws, hws⟩ : ∃ ws, ws = sch bs 0 64 := ⟨_, rfl⟩
  rw [← hws] at hsp
  have hwl : ws.length = 64 := by rw [hws, sch_length]
  have HWS := Lib.hid hws
  have HWL := Lib.hid hwl
  have HSP := Lib.hid hsp
  clear hB hgl hws hwl hl hsp
  have hg2 := HG.out.2.2
  obtain ⟨S, hS⟩ : ∃ S, S = s.cells := ⟨_, rfl⟩
  rw [← hS]
  have hSs : S.size = 8 := by rw [hS]; rfl
  have hSo : S.all (·.oneCell') = true := by rw [hS]; exact V8.cells_one s
  have HS := Lib.hid hS
  clear hS
  go_enter Tryd.func51, Tryd.ntmps51
  go_upto_region 0 with fail
  go_cut [2, 3, 4] (fun p q r wx => p = .pointer (some ⟨w.heap.size, 0, none⟩) ∧ q = .pointer (some ⟨w.heap.size + 1, 0, none⟩) ∧ r = .pointer (some ⟨w.heap.size + 2, 0, none⟩) ∧ Box wx w.heap.size 88 S ∧ Box wx (w.heap.size + 1) 89 B ∧ Box wx (w.heap.size + 2) 88 (V8.cells ⟨0, 0, 0, 0, 0, 0, 0, 0⟩) ∧ Below w.heap.size w wx ∧ wx.heap.size = w.heap.size + 3)
  case first =>
    go_wp2_with fail
    go_meet
    have z1 : (w.alloc (.cells S 88)).heap.size = w.heap.size + 1 := by simp
    have z2 : ((w.alloc (.cells S 88)).alloc (.cells B 89)).heap.size = w.heap.size + 2 := by simp
    have b1 := Box.new (w.alloc (.cells S 88)) 89 B
    have b2 := Box.new ((w.alloc (.cells S 88)).alloc (.cells B 89)) 88 (V8.cells ⟨0, 0, 0, 0, 0, 0, 0, 0⟩)
    rw [z1] at b1
    rw [z2] at b2
    exact ⟨rfl, by simp, by simp, ((Box.new w _ S).alloc _).alloc _, b1.alloc _, b2, (((Below.refl _ _).alloc (Nat.le_refl _) _).alloc (by simp) _).alloc (by simp; omega) _, by simp⟩
  case rest =>
    obtain ⟨rfl, rfl, rfl, hb0, hb1, hb2, hB, hsz⟩ := hcut
    have H0 := Lib.hid hb0
    have H1 := Lib.hid hb1
    have H2 := Lib.hid hb2
    have HB := Lib.hid hB
    have HZ := Lib.hid hsz
    clear hb0 hb1 hb2 hB hsz
    go_upto_region 1 with fail
    go_cut [5] (fun p wx => p = .pointer (some ⟨w.heap.size + 3, 0, none⟩) ∧ Box wx (w.heap.size + 1) 89 B ∧ Mix w wx s.cells s)
    case first =>
      have hb3 : Hid (Box (wc.alloc (.cells (V8.cells ⟨0, 0, 0, 0, 0, 0, 0, 0⟩) 88)) wc.heap.size 88 (V8.cells ⟨0, 0, 0, 0, 0, 0, 0, 0⟩)) := Box.new _ _ _
      go_wp2_with (first
        | (refine wpList_load_row rfl 88 _ rfl w.heap.size rfl 88 S (0, 0) _ H0.out Tryd.underlying88 rfl (by rw [hSs]; kernel_rfl) ?_)
        | (refine wpList_store_row rfl 88 _ _ rfl wc.heap.size S rfl rfl 88 _ hb3.out (by rw [hSs]; kernel_rfl) (by rw [hSs]; rfl) hSo ?_))
      go_meet
      have hn : wc.heap.size = w.heap.size + 3 := HZ.out
      have hb4 := setRow_heap (wc.alloc (.cells (V8.cells ⟨0, 0, 0, 0, 0, 0, 0, 0⟩) 88)) _ _ S _ _ hb3.out
      have hB4 : Below wc.heap.size wc ((wc.alloc (.cells (V8.cells ⟨0, 0, 0, 0, 0, 0, 0, 0⟩) 88)).setRow wc.heap.size S) := below_row ((Below.refl _ _).alloc (Nat.le_refl _) _) (Nat.le_refl _) _
      refine ⟨by rw [hn], H1.out.below hB4 (by omega), ?_⟩
      unfold Mix
      rw [← HS.out]
      refine ⟨H0.out.below hB4 (by omega), H2.out.below hB4 (by omega), ?_, HB.out.trans (hB4.mono (by omega))⟩
      rw [hn] at hb4
      rw [hn]
      exact hb4
    case rest =>
      obtain ⟨rfl, hb1, hm⟩ := hcut
      have H1' := Lib.hid hb1
      have HM := Lib.hid hm
      clear hb1 hm H0 H1 H2 HB HZ
      go_upto_region 2 with fail
      go_cut [14, 15] (fun p q wx => p = .agg (wcells ws) ∧ q = .int .i64 0 ∧ Mix w wx s.cells s)
      case first =>
        go_wp2_with (first
          | (refine wpList_load_row rfl 89 _ rfl (w.heap.size + 1) rfl 89 B (0, 0) _ H1'.out Tryd.underlying89 rfl (by rw [hbs]; kernel_rfl) ?_)
          | (go_at_call 56; refine (HSP.out _).mono ?_; rintro e' w5 ⟨rfl, hB5⟩; have HB5 := Lib.hid hB5; clear hB5))
        go_meet
        exact ⟨rfl, rfl, HM.out.step HB5.out⟩
      case rest =>
        obtain ⟨rfl, rfl, hm⟩ := hcut
        have HM2 := Lib.hid hm
        clear hm HM H1'
        go_wp2_with fail
        go_loopg [15] 64 (fun gh t wx => ∃ T : Nat, T + gh = 64 ∧ t = .int .i64 T ∧ Mix w wx s.cells (rounds kw ws s T))
        case atStart => exact ⟨0, rfl, rfl, HM2.out⟩
        case round =>
          obtain ⟨T, hT, rfl, hm⟩ := hrel
          have HJT := Lib.hid hT
          have HMr := Lib.hid hm
          have hT64 : T ≤ 64 := by omega
          clear hT hm HM2
          by_cases h64 : T < 64
          · have hTi : (T : Int) < 64 := by omega
            obtain ⟨v, hv⟩ : ∃ v, v = rounds kw ws s T := ⟨_, rfl⟩
            have hvc := HMr.out.2.2.1
            rw [← hv] at hvc
            obtain ⟨k, hk⟩ : ∃ k, k = kw.getD T 0 := ⟨_, rfl⟩
            obtain ⟨x, hx⟩ : ∃ x, x = ws.getD T 0 := ⟨_, rfl⟩
            have qk : wr.cell? ⟨1, T, none⟩ = some (.int .u32 (k.toNat : Int)) := by rw [hk]; exact (HG.out.below HMr.out.2.2.2 HG.out.2.2).2.1 T h64
            have hix := fun W => run_index_agg (P := Tryd.prog) W 76 33 64 .u32 Tryd.underlying76 Tryd.underlying33 (by kernel_rfl) (wcells ws) .i64 (T : Int) (.int .u32 (x.toNat : Int)) (by omega) hTi (by rw [hx]; exact wcells_get ws T h64)
            have hnext : rounds kw ws s (T + 1) = rnd v k x := by rw [rounds, ← hv, ← hk, ← hx]
            have HN := Lib.hid hnext
            have HV := Lib.hid hv
            clear hv hk hx hnext
            have HMv : Hid (Mix w wr s.cells v) := by unfold Hid; rw [HV.out]; exact HMr.out
            obtain ⟨a, b, c, d, e, f, g, h⟩ := v
            have q0 : wr.cell? ⟨w.heap.size + 3, 0, none⟩ = some (.int .u32 (a.toNat : Int)) := hvc.cell 0
            have q1 : wr.cell? ⟨w.heap.size + 3, 1, none⟩ = some (.int .u32 (b.toNat : Int)) := hvc.cell 1
            have q2 : wr.cell? ⟨w.heap.size + 3, 2, none⟩ = some (.int .u32 (c.toNat : Int)) := hvc.cell 2
            have q4 : wr.cell? ⟨w.heap.size + 3, 4, none⟩ = some (.int .u32 (e.toNat : Int)) := hvc.cell 4
            have q5 : wr.cell? ⟨w.heap.size + 3, 5, none⟩ = some (.int .u32 (f.toNat : Int)) := hvc.cell 5
            have q6 : wr.cell? ⟨w.heap.size + 3, 6, none⟩ = some (.int .u32 (g.toNat : Int)) := hvc.cell 6
            have q7 : wr.cell? ⟨w.heap.size + 3, 7, none⟩ = some (.int .u32 (h.toNat : Int)) := hvc.cell 7
            clear hvc
            go_wp2_with fail
            go_quiet ((first | (go_at_call 57; refine Calls.quiet_of_same ((turned_any _ _ _ _ _ (by decide) (by decide) (by decide) (by decide) (by decide) (by decide)).mono fun _ _ hh => ⟨hh.1, hh.2.symm⟩)) | (go_at_call 58; refine Calls.quiet_of_same ((chosen_any _ _ _ _).mono fun _ _ hh => ⟨hh.1, hh.2.symm⟩))))
            go_wp2_with fail
            go_quiet ((first | (go_at_call 57; exact quiet_left (turned_any _ _ _ _ _ (by decide) (by decide) (by decide) (by decide) (by decide) (by decide))) | (go_at_call 59; exact quiet_left (most_any _ _ _ _))))
            go_wp2_with fail
            go_cut [52] (fun _ wx => Mix w wx s.cells ⟨a, a, b, c, d, e, f, g⟩)
            case first =>
              go_region_law (refine step_copy _ rfl _ _ 99 99 rfl 33 (w.heap.size + 3) 1 7 7 ⟨w.heap.size + 3, 0, none⟩ 8 8 rfl rfl (V8.cells ⟨a, b, c, d, e, f, g, h⟩) 88 (List.take 7 (V8.cells ⟨a, b, c, d, e, f, g, h⟩).toList) Tryd.underlying99 (by kernel_rfl) (by exact HMv.out.2.2.1) rfl (src_take HMv.out.2.2.1 rfl 7) (Nat.le_of_ble_eq_true rfl) (one_take (V8.cells_one _) 7) ?_)
              go_wp2_with fail
              go_meet
              refine Mix.still (Mix.row HMv.out ?_) rfl rfl rfl rfl
              rfl
            case rest =>
              have HMc := Lib.hid (show Mix w wc s.cells ⟨a, a, b, c, d, e, f, g⟩ from hcut)
              clear hcut q0 q1 q2 q4 q5 q6 q7 HMv qk hix
              have hvc := HMc.out.2.2.1
              have q0 : wc.cell? ⟨w.heap.size + 3, 0, none⟩ = some (.int .u32 (a.toNat : Int)) := hvc.cell 0
              have q4 : wc.cell? ⟨w.heap.size + 3, 4, none⟩ = some (.int .u32 (d.toNat : Int)) := hvc.cell 4
              have f0 := hvc.free 0
              have f4 := hvc.free 4
              clear hvc
              obtain ⟨t1v, ht1⟩ : ∃ t, t = wA (wA (wA (wA h (wX (wX (rot e 6) (rot e 11)) (rot e 25))) (wX (wN e f) (wN (wC e) g))) k) x := ⟨_, rfl⟩
              obtain ⟨t2v, ht2⟩ : ∃ t, t = wA (wX (wX (rot a 2) (rot a 13)) (rot a 22)) (wX (wX (wN a b) (wN a c)) (wN b c)) := ⟨_, rfl⟩
              have hr : rnd ⟨a, b, c, d, e, f, g, h⟩ k x = ⟨wA t1v t2v, a, b, c, wA d t1v, e, f, g⟩ := by rw [ht1, ht2]; rfl
              have HR := Lib.hid hr
              rw [← ht1, ← ht2]
              clear ht1 ht2 hr
              go_wp2_with fail
              go_roundg (64 - (T + 1))
              case measure => have := HJT.out; omega
              case rel =>
                refine ⟨T + 1, by omega, by go_num, ?_⟩
                rw [HN.out, HR.out]
                have h1 : Mix w (wc.setCell ⟨w.heap.size + 3, 4, none⟩ (.int .u32 ((wA d t1v).toNat : Int))) s.cells ⟨a, a, b, c, wA d t1v, e, f, g⟩ := HMc.out.put 4 _ rfl
                have h2 : Mix w ((wc.setCell ⟨w.heap.size + 3, 4, none⟩ (.int .u32 ((wA d t1v).toNat : Int))).setCell ⟨w.heap.size + 3, 0, none⟩ (.int .u32 ((wA t1v t2v).toNat : Int))) s.cells ⟨wA t1v t2v, a, b, c, wA d t1v, e, f, g⟩ := h1.put 0 _ rfl
                exact h2
          · have hT : T = 64 := by omega
            subst hT
            obtain ⟨v, hv⟩ : ∃ v, v = rounds kw ws s 64 := ⟨_, rfl⟩
            have HMv := HMr.out
            rw [← hv] at HMv
            have HMf := Lib.hid HMv
            have hfin : block kw bs 0 s = addv s v := by rw [hv, HWS.out]; rfl
            have HF := Lib.hid hfin
            clear hv HMv hfin HMr HJT
            obtain ⟨V, hV⟩ : ∃ V, V = v.cells := ⟨_, rfl⟩
            have hb3 : Hid (Box wr (w.heap.size + 3) 88 V) := by unfold Hid; rw [hV]; exact HMf.out.2.2.1
            have hVs : V.size = 8 := by rw [hV]; rfl
            have HV := Lib.hid hV
            clear hV
            go_wp2_with (refine wpList_load_row rfl 88 _ rfl (w.heap.size + 3) rfl 88 V (0, 0) _ hb3.out Tryd.underlying88 rfl (by rw [hVs]; kernel_rfl) ?_)
            go_loopg [64] 8 (fun gh i wx => ∃ I : Nat, I + gh = 8 ∧ i = .int .i64 I ∧ Mix w wx (padd s v I) v)
            case atStart => exact ⟨0, rfl, rfl, HMf.out⟩
            case round =>
              obtain ⟨I, hI, rfl, hm⟩ := hrel
              have HJI := Lib.hid hI
              have HMi := Lib.hid hm
              have hI8 : I ≤ 8 := by omega
              clear hI hm HMf hb3
              by_cases h8 : I < 8
              · have hIi : (I : Int) < 8 := by omega
                obtain ⟨x, hx⟩ : ∃ x, x = v.list.getD I 0 := ⟨_, rfl⟩
                obtain ⟨y, hy⟩ : ∃ y, y = s.list.getD I 0 := ⟨_, rfl⟩
                have hix := fun W => run_index_agg (P := Tryd.prog) W 88 33 8 .u32 Tryd.underlying88 Tryd.underlying33 (by kernel_rfl) V .i64 (I : Int) (.int .u32 (x.toNat : Int)) (by omega) hIi (by rw [hx, HV.out]; exact V8.cells_get v I h8)
                have q : wr.cell? ⟨w.heap.size, I, none⟩ = some (.int .u32 (y.toNat : Int)) := by rw [hy]; exact (HMi.out.1.cell I).trans (padd_get s v I h8)
                have wf := HMi.out.1.free I
                have hset := padd_set s v I
                rw [← hx, ← hy] at hset
                have HSt := Lib.hid hset
                clear hset hx hy
                go_wp2_with fail
                go_roundg (8 - (I + 1))
                case measure => have := HJI.out; omega
                case rel =>
                  refine ⟨I + 1, by omega, by go_num, ?_⟩
                  rw [← HSt.out]
                  exact HMi.out.low I _
              · have hI : I = 8 := by omega
                subst hI
                have HMz := Lib.hid (show Mix w wr (addv s v).cells v from HMi.out)
                clear HMi HJI
                obtain ⟨R, hR⟩ : ∃ R, R = (addv s v).cells := ⟨_, rfl⟩
                have hb0 : Hid (Box wr w.heap.size 88 R) := by unfold Hid; rw [hR]; exact HMz.out.1
                have hRs : R.size = 8 := by rw [hR]; rfl
                have hRo : R.all (·.oneCell') = true := by rw [hR]; exact V8.cells_one _
                have hb2 : Hid (Box wr (w.heap.size + 2) 88 (V8.cells ⟨0, 0, 0, 0, 0, 0, 0, 0⟩)) := HMz.out.2.1
                have HR := Lib.hid hR
                clear hR
                go_wp2_with (first
                  | (refine wpList_load_row rfl 88 _ rfl w.heap.size rfl 88 R (0, 0) _ hb0.out Tryd.underlying88 rfl (by rw [hRs]; kernel_rfl) ?_)
                  | (refine wpList_store_row rfl 88 _ _ rfl (w.heap.size + 2) R rfl rfl 88 _ hb2.out (by rw [hRs]; kernel_rfl) (by rw [hRs]; rfl) hRo ?_))
                refine bodyPost_ret (v := .agg R) (results_cell_row Tryd.results51 _ _ (w.heap.size + 2) 88 R (0, 0) _ rfl (setRow_heap _ _ _ _ _ _ hb2.out) Tryd.underlying88 rfl (by rw [hRs]; kernel_rfl)) rfl ⟨by rw [HR.out, HF.out], ?_⟩
                exact below_row HMz.out.2.2.2 (by omega) _
end Go.Proofs.YtieepdhajjibpaaDoor
