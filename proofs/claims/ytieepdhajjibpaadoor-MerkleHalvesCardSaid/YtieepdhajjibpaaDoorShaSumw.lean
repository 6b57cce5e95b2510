
/- The contract of the program's (words).sum: the state's words written out, the highest byte of each first. -/
import Derived.Test.YtieepdhajjibpaaDoorShaVecs
import Derived.Test.YtieepdhajjibpaaDoorShaSpread
namespace Go.Proofs.YtieepdhajjibpaaDoor
open Go.RowKit

def bpart (v : V8) (k : Nat) : Array Value := ((List.range 32).map fun j => if j < k then cel ((bytesOf v).getD j 0) else Value.int .u8 0).toArray
theorem bpart_set (v : V8) (k : Nat) : (bpart v k).setIfInBounds k (cel ((bytesOf v).getD k 0)) = bpart v (k + 1) := by
  apply Array.ext'
  unfold bpart
  simp only [List.setIfInBounds_toArray]
  apply List.ext_getElem
  · simp
  intro j h1 h2
  rw [List.getElem_set]
  simp only [List.getElem_map, List.getElem_range]
  by_cases hj : k = j
  · subst hj
    simp
  · rw [if_neg hj]
    have e : (j < k) = (j < k + 1) := by apply propext; omega
    simp only [e]
theorem bytesOf_length (v : V8) : (bytesOf v).length = 32 := by simp [bytesOf]
theorem bpart_all (v : V8) : bpart v 32 = bcells (bytesOf v) := by
  unfold bpart bcells
  apply congrArg List.toArray
  apply List.ext_getElem
  · simp [bytesOf]
  intro j h1 h2
  have hj : j < 32 := by simpa using h1
  have hl : j < (bytesOf v).length := by rw [bytesOf_length]; exact hj
  simp only [List.getElem_map, List.getElem_range, if_pos hj, List.getD, List.getElem?_eq_getElem hl, Option.getD_some]
theorem bcells_one (bs : List UInt8) : (bcells bs).all (·.oneCell') = true := by
  rw [Array.all_eq_true_iff_forall_mem]
  intro v hv
  simp only [bcells, List.mem_toArray, List.mem_map] at hv
  obtain ⟨x, _, rfl⟩ := hv
  rfl
theorem bpart_get (v : V8) (k : Nat) (h : k < 32) : (bpart v k)[k]? = some (.int .u8 0) := by
  simp [bpart, h]
theorem bytesOf_get (v : V8) (k : Nat) (h : k < 32) : (bytesOf v).getD k 0 = UInt8.ofNat ((v.list.getD (k / 4) 0).toNat / 2 ^ (24 - 8 * (k % 4))) := by
  simp [bytesOf, h]
theorem byte_of (x : UInt32) (m : Nat) : IntKind.u8.wrap ((x.toNat : Int) / 2 ^ m) = (((UInt8.ofNat (x.toNat / 2 ^ m)).toNat : Nat) : Int) := by
  have h : (x.toNat : Int) / 2 ^ m = ((x.toNat / 2 ^ m : Nat) : Int) := by simp
  rw [h, IntKind.wrap_u8']
  simp

/-- Where the words are written out: the words, the result, the bytes. -/
def Sumw (w wx : World) (v : V8) (cs : Array Value) : Prop :=
  Box wx w.heap.size 88 v.cells ∧ Box wx (w.heap.size + 1) 25 (List.replicate 32 (Value.int .u8 0)).toArray ∧ Box wx (w.heap.size + 2) 25 cs ∧ Below w.heap.size w wx
theorem Sumw.put {w wx : World} {v : V8} {cs : Array Value} (h : Sumw w wx v cs) (i : Nat) (u : Value) : Sumw w (wx.setCell ⟨w.heap.size + 2, i, none⟩ u) v (cs.setIfInBounds i u) :=
  ⟨h.1.far (by show _ ≠ w.heap.size + 2; omega) u, h.2.1.far (by show _ ≠ w.heap.size + 2; omega) u, h.2.2.1.put i u, h.2.2.2.setCell (by show _ ≤ w.heap.size + 2; omega) u⟩

set_option maxRecDepth 100000 in
set_option maxHeartbeats 2000000 in
theorem sumw_any (v : V8) (w : World) :
    Calls Tryd.prog 53 #[.agg v.cells] w fun e w' => e = .returned (.agg (bcells (bytesOf v))) ∧ Below w.heap.size w w' := by
  obtain ⟨S, hS⟩ : ∃ S, S = v.cells := ⟨_, rfl⟩
  rw [← hS]
  have HS := Lib.hid hS
  clear hS
  go_enter Tryd.func53, Tryd.ntmps53
  go_upto_region 1 with fail
  go_cut [3] (fun p wx => p = .pointer (some ⟨w.heap.size + 2, 0, none⟩) ∧ Sumw w wx v (bpart v 0))
  case first =>
    go_wp2_with fail
    go_meet
    have z1 : (w.alloc (.cells S 88)).heap.size = w.heap.size + 1 := by simp
    have z2 : ((w.alloc (.cells S 88)).alloc (.cells (List.replicate 32 (Value.int .u8 0)).toArray 25)).heap.size = w.heap.size + 2 := by simp
    have b1 := Box.new (w.alloc (.cells S 88)) 25 (List.replicate 32 (Value.int .u8 0)).toArray
    have b2 := Box.new ((w.alloc (.cells S 88)).alloc (.cells (List.replicate 32 (Value.int .u8 0)).toArray 25)) 25 (bpart v 0)
    have b0 := Box.new w 88 S
    rw [z1] at b1
    rw [z2] at b2
    rw [HS.out] at b0 b1 b2
    refine ⟨by simp, ?_⟩
    rw [HS.out]
    exact ⟨(b0.alloc _).alloc _, b1.alloc _, b2, (((Below.refl _ _).alloc (Nat.le_refl _) _).alloc (by simp) _).alloc (by simp; omega) _⟩
  case rest =>
    obtain ⟨rfl, hs⟩ := hcut
    have HW := Lib.hid hs
    clear hs
    go_wp2_with fail
    go_loopg [5] 32 (fun gh i wx => ∃ k : Nat, k + gh = 32 ∧ i = .int .i64 k ∧ Sumw w wx v (bpart v k))
    case atStart => exact ⟨0, rfl, rfl, HW.out⟩
    case round =>
      obtain ⟨k, hk, rfl, hs⟩ := hrel
      have HK := Lib.hid hk
      have HWr := Lib.hid hs
      have hk32 : k ≤ 32 := by omega
      clear hk hs HW
      by_cases hlt : k < 32
      · have hki : (k : Int) < 32 := by omega
        have hbo := bytesOf_get v k hlt
        obtain ⟨x, hx⟩ : ∃ x, x = v.list.getD (k / 4) 0 := ⟨_, rfl⟩
        have q : wr.cell? ⟨w.heap.size, k / 4, none⟩ = some (.int .u32 (x.toNat : Int)) := by rw [hx]; exact (HWr.out.1.cell (k / 4)).trans (V8.cells_get v (k / 4) (by omega))
        have q2 : wr.cell? ⟨w.heap.size + 2, k, none⟩ = some (.int .u8 0) := (HWr.out.2.2.1.cell k).trans (bpart_get v k hlt)
        have wf := HWr.out.2.2.1.free k
        rw [← hx] at hbo
        have HBO := Lib.hid hbo
        clear hbo hx
        have hq4 : (k : Int) / 4 < 8 := by omega
        go_wp2_with fail
        go_roundg (32 - (k + 1))
        case measure => have := HK.out; omega
        case rel =>
          refine ⟨k + 1, by omega, by go_num, ?_⟩
          have e : (x.toNat : Int) / 2 ^ (8 * (3 - k % 4)) % 256 = ((((bytesOf v).getD k 0).toNat : Nat) : Int) := by
            rw [HBO.out, ← byte_of, IntKind.wrap_u8', show 24 - 8 * (k % 4) = 8 * (3 - k % 4) by omega]
          rw [e, ← bpart_set]
          exact HWr.out.put k _
      · have hk : k = 32 := by omega
        subst hk
        obtain ⟨R, hR⟩ : ∃ R, R = bpart v 32 := ⟨_, rfl⟩
        have hb2 : Hid (Box wr (w.heap.size + 2) 25 R) := by unfold Hid; rw [hR]; exact HWr.out.2.2.1
        have hb1 : Hid (Box wr (w.heap.size + 1) 25 (List.replicate 32 (Value.int .u8 0)).toArray) := HWr.out.2.1
        rw [bpart_all] at hR
        have hRs : R.size = 32 := by rw [hR]; simp [bcells, bytesOf_length]
        have hRo : R.all (·.oneCell') = true := by rw [hR]; exact bcells_one _
        have HR := Lib.hid hR
        have HBl := Lib.hid HWr.out.2.2.2
        clear hR HWr HK
        go_wp2_with (first
          | (refine wpList_load_row rfl 25 _ rfl (w.heap.size + 2) rfl 25 R (0, 0) _ hb2.out Tryd.underlying25 rfl (by rw [hRs]; kernel_rfl) ?_)
          | (refine wpList_store_row rfl 25 _ _ rfl (w.heap.size + 1) R rfl rfl 25 _ hb1.out (by rw [hRs]; kernel_rfl) (by rw [hRs]; rfl) hRo ?_))
        refine bodyPost_ret (v := .agg R) (results_cell_row Tryd.results53 _ _ (w.heap.size + 1) 25 R (0, 0) _ rfl (setRow_heap _ _ _ _ _ _ hb1.out) Tryd.underlying25 rfl (by rw [hRs]; kernel_rfl)) rfl ⟨by rw [HR.out], ?_⟩
        exact below_row HBl.out (by omega) _
end Go.Proofs.YtieepdhajjibpaaDoor
