
/- The contract of the document's Of: SHA-256 of any bytes. -/
import Derived.Test.YtieepdhajjibpaaDoorShaSum
import Derived.Deep.RegionHeld3
import Derived.Deep.LoopGhost
import Derived.Deep.CutRange
import Derived.Deep.DeepCutAuto
namespace Go.Proofs.YtieepdhajjibpaaDoor
open Go.RowKit

/-- Where the bytes to be hashed are laid: they are the call's own, the result's block is as it was made, nothing that was there has turned. -/
def Pre (w wx : World) (b : Value) (xs : List UInt8) : Prop := Mine wx 5 (w.heap.size + 1) b xs ∧ Box wx w.heap.size 25 z32 ∧ Below w.heap.size w wx
theorem Pre.app {w wx w1 : World} {b v : Value} {xs zs : List UInt8} {o : Obj} (h : Pre w wx b xs) (ho : Mine w1 5 (w.heap.size + 1) v zs) (hg : (wx.alloc o).grownBy w1 b.ownBlock) : Pre w w1 v zs := by
  obtain ⟨h1, h2, h3⟩ := h
  have hs := h3.size
  have hb : ∀ k, b.ownBlock = some k → w.heap.size + 1 ≤ k := fun k hk => (h1.block k hk).1
  exact ⟨ho, (h2.alloc o).grown hg (fun e => by have := hb _ e.symm; omega), (h3.alloc hs o).grown hg (by simp; omega) (fun k hk => by have := hb k hk; omega)⟩

theorem Pre.step {w wx w1 : World} {b : Value} {xs : List UInt8} (h : Pre w wx b xs) (hb : Below wx.heap.size wx w1) : Pre w w1 b xs := by
  obtain ⟨h1, h2, h3⟩ := h
  exact ⟨h1.below hb (Nat.le_refl _), h2.below hb h2.lt, h3.trans (hb.mono h3.size)⟩
/-- Where the blocks are gone through: the padded bytes, the state, the table of constants. -/
def Blo (w wx : World) (b : Value) (ps : List UInt8) (hb kb : Nat) (v : V8) : Prop :=
  Pre w wx b ps ∧ Box wx hb 75 v.cells ∧ Box wx kb 76 kcells ∧ w.heap.size + 1 ≤ hb ∧ hb < kb
theorem Blo.step {w wx w1 : World} {b : Value} {ps : List UInt8} {hb kb : Nat} {v : V8} (h : Blo w wx b ps hb kb v) (hB : Below wx.heap.size wx w1) : Blo w w1 b ps hb kb v :=
  ⟨h.1.step hB, h.2.1.below hB h.2.1.lt, h.2.2.1.below hB h.2.2.1.lt, h.2.2.2⟩

theorem Blo.far {w wx : World} {b : Value} {ps : List UInt8} {hb kb wb : Nat} {v : V8} (h : Blo w wx b ps hb kb v) (hk : kb < wb) (hbb : b.ownBlock ≠ some wb) (i : Nat) (u : Value) :
    Blo w (wx.setCell ⟨wb, i, none⟩ u) b ps hb kb v := by
  obtain ⟨⟨h1, h2, h3⟩, h4, h5, h6, h7⟩ := h
  exact ⟨⟨h1.keep fun k hk' => Below.heap_setCell wx _ u k (fun e => hbb (by rw [hk', e])), h2.far (by show _ ≠ wb; omega) u, h3.setCell (by show _ ≤ wb; omega) u⟩,
    h4.far (by show _ ≠ wb; omega) u, h5.far (by show _ ≠ wb; omega) u, h6, h7⟩

theorem Blo.row {w wx : World} {b : Value} {ps : List UInt8} {hb kb vb : Nat} {v : V8} (h : Blo w wx b ps hb kb v) (hk : kb < vb) (hbb : b.ownBlock ≠ some vb) (cs : Array Value) : Blo w (wx.setRow vb cs) b ps hb kb v := by
  obtain ⟨⟨h1, h2, h3⟩, h4, h5, h6, h7⟩ := h
  exact ⟨⟨h1.keep fun k hk' => setRow_other _ _ _ _ (fun e => hbb (by rw [hk', e])), (setRow_other _ _ _ _ (by omega)).trans h2, below_row h3 (by omega) _⟩,
    (setRow_other _ _ _ _ (by omega)).trans h4, (setRow_other _ _ _ _ (by omega)).trans h5, h6, h7⟩
theorem kcells_get (i : Nat) (h : i < 64) : kcells[i]? = some (.int .u32 ((kw.getD i 0).toNat : Int)) := by
  have hk : kw.length = 64 := rfl
  simp [kcells, List.getD, show i < kw.length by omega]

/-- Where a block's rounds are gone through. -/
def Rnd (w wx : World) (b : Value) (ps : List UInt8) (hb kb wb vb : Nat) (s v : V8) (ws : List UInt32) : Prop :=
  Blo w wx b ps hb kb s ∧ Box wx wb 76 (wcells ws) ∧ Box wx vb 75 v.cells ∧ kb < wb ∧ wb < vb
theorem Rnd.mine {w wx : World} {b : Value} {ps : List UInt8} {hb kb wb vb : Nat} {s v : V8} {ws : List UInt32} (h : Rnd w wx b ps hb kb wb vb s v ws) : b.ownBlock ≠ some vb := h.1.1.1.ne_box h.2.2.1 (by decide)
theorem Rnd.step {w wx w1 : World} {b : Value} {ps : List UInt8} {hb kb wb vb : Nat} {s v : V8} {ws : List UInt32} (h : Rnd w wx b ps hb kb wb vb s v ws) (hB : Below wx.heap.size wx w1) : Rnd w w1 b ps hb kb wb vb s v ws :=
  ⟨h.1.step hB, h.2.1.below hB h.2.1.lt, h.2.2.1.below hB h.2.2.1.lt, h.2.2.2⟩
theorem Rnd.row {w wx : World} {b : Value} {ps : List UInt8} {hb kb wb vb : Nat} {s v v' : V8} {ws : List UInt32} (h : Rnd w wx b ps hb kb wb vb s v ws) : Rnd w (wx.setRow vb v'.cells) b ps hb kb wb vb s v' ws :=
  ⟨h.1.row (by have := h.2.2.2; omega) h.mine _, (setRow_other _ _ _ _ (by have := h.2.2.2; omega)).trans h.2.1, setRow_heap _ _ _ _ _ _ h.2.2.1, h.2.2.2⟩

/-- Where the rounds' words are added to the state. -/
def Adw (w wx : World) (b : Value) (ps : List UInt8) (hb kb vb : Nat) (cs : Array Value) (v : V8) : Prop :=
  Pre w wx b ps ∧ Box wx hb 75 cs ∧ Box wx kb 76 kcells ∧ Box wx vb 75 v.cells ∧ w.heap.size + 1 ≤ hb ∧ hb < kb ∧ kb < vb
theorem Adw.put {w wx : World} {b : Value} {ps : List UInt8} {hb kb vb : Nat} {cs : Array Value} {v : V8} (h : Adw w wx b ps hb kb vb cs v) (i : Nat) (u : Value) : Adw w (wx.setCell ⟨hb, i, none⟩ u) b ps hb kb vb (cs.setIfInBounds i u) v := by
  obtain ⟨⟨h1, h2, h3⟩, h4, h5, h6, h7, h8, h9⟩ := h
  have hbb : b.ownBlock ≠ some hb := h1.ne_box h4 (by decide)
  exact ⟨⟨h1.keep fun k hk' => Below.heap_setCell wx _ u k (fun e => hbb (by rw [hk', e])), h2.far (by show _ ≠ hb; omega) u, h3.setCell (by show _ ≤ hb; omega) u⟩,
    h4.put i u, h5.far (by show _ ≠ hb; omega) u, h6.far (by show _ ≠ hb; omega) u, h7, h8, h9⟩
theorem Adw.drawn {w wx : World} {b : Value} {ps : List UInt8} {hb kb vb : Nat} {cs : Array Value} {v : V8} (h : Adw w wx b ps hb kb vb cs v) : Adw w wx.drew b ps hb kb vb cs v :=
  ⟨⟨h.1.1, h.1.2.1, h.1.2.2.drew⟩, h.2.1, h.2.2.1, h.2.2.2.1, h.2.2.2.2⟩
theorem Rnd.add {w wx : World} {b : Value} {ps : List UInt8} {hb kb wb vb : Nat} {s v : V8} {ws : List UInt32} (h : Rnd w wx b ps hb kb wb vb s v ws) : Adw w wx b ps hb kb vb (padd s v 0) v :=
  ⟨h.1.1, h.1.2.1, h.1.2.2.1, h.2.2.1, h.1.2.2.2.1, h.1.2.2.2.2, by have := h.2.2.2; omega⟩
theorem Adw.blo {w wx : World} {b : Value} {ps : List UInt8} {hb kb vb : Nat} {s v : V8} (h : Adw w wx b ps hb kb vb (padd s v 8) v) : Blo w wx b ps hb kb (addv s v) :=
  ⟨h.1, h.2.1, h.2.2.1, h.2.2.2.2.1, h.2.2.2.2.2.1⟩

attribute [local go_sem high] w_xor w_or w_and w_add w_addm w_add3 w_add4 w_not w_dn3 w_dn10 w_u8 w_up24 w_up16 w_up8
set_option maxRecDepth 100000 in
set_option maxHeartbeats 2000000 in
theorem of_any (s : ByteArray) (w : World) (hs : s.size ≤ 1000000000000) :
    Calls Tryd.prog 26 #[.string s] w fun e w' =>
      e = .returned (.agg (bcells (shaOf kw s.data.toList))) ∧ Below w.heap.size w w' := by
  obtain ⟨i0, hi0, hz0, hz1, hz2⟩ := info_parts u8_info
  have kc := fun W => Lib.run_convert_string_bytes (P := Tryd.prog) W 9 23 5 s (u := .string) Tryd.underlying9 Tryd.underlying23 Tryd.underlying5
  go_enter Tryd.func26, Tryd.ntmps26
  go_upto_region 1 with fail
  go_cut [3] (fun b wx => Mine wx 5 (w.heap.size + 1) b s.data.toList ∧ Box wx w.heap.size 25 z32 ∧ Below w.heap.size w wx)
  case first =>
    go_wp2_with fail
    go_meet
    have hb := Box.new w 25 z32
    have hm := mine_of_string (w.alloc (.cells z32 25)) 5 s (by omega)
    have hz : (w.alloc (.cells z32 25)).heap.size = w.heap.size + 1 := by simp
    rw [hz] at hm
    have ho := fun j hj => Lib.bytesWorld_at_old (w.alloc (.cells z32 25)) 5 s j hj
    exact ⟨hm, (ho w.heap.size (by rw [World.size_alloc]; omega)).trans hb, ⟨rfl, rfl, rfl, by rw [Lib.bytesWorld_size, World.size_alloc]; omega, fun k hk => (ho k (by rw [World.size_alloc]; omega)).trans (Below.heap_alloc _ _ _ hk)⟩⟩
  case rest =>
    have HP := Lib.hid (show Pre w wc _ _ from hcut)
    obtain ⟨hm, hbx, hB⟩ := hcut
    obtain ⟨A, n, c, rfl, hn⟩ := hm.slice
    have HM := Lib.hid hm
    have hsz := hbx.lt
    have HD := Lib.hid (dat_byte wc 128 5)
    have hl : s.data.toList.length = s.size := by simp
    have HL := Lib.hid hl
    clear hm hbx hB hn kc hl
    go_wp2_with (at_builtin; refine list_mine_app _ rfl _ _ 23 rfl i0 Tryd.underlying23 hi0 hz0 hz1 hz2 rfl (HM.out.alloc _) rfl HD.out (by simp) rfl ?_ ?_ ?_)
    · have := HL.out; omega
    · simp only [World.size_alloc]; omega
    intro v' w2 ho hgr hat
    have HP2 := Lib.hid (HP.out.app ho hgr)
    clear ho hgr hat
    go_wp2_with fail
    go_loopg [3] (padz s.size) (fun gh b wx => ∃ j : Nat, j + gh = padz s.size ∧ Pre w wx b (s.data.toList ++ [128] ++ List.replicate j 0))
    case atStart => exact ⟨0, by omega, by simpa using HP2.out⟩
    case round =>
      obtain ⟨j, hj, hp⟩ := hrel
      have HJ := Lib.hid hj
      have HPr := Lib.hid hp
      obtain ⟨hm, hbx, hB⟩ := hp
      obtain ⟨A1, n1, c1, hv1, hn1⟩ := hm.slice
      subst hv1
      have hn2 : n1 = s.size + 1 + j := by rw [hn1, List.length_append, List.length_append, List.length_replicate, HL.out]; rfl
      have HN := Lib.hid hn2
      have hnb : n1 ≤ 1000000000100 := by
        have : padz s.size < 64 := by unfold padz; omega
        omega
      have HM1 := Lib.hid hm
      have HD1 := Lib.hid (dat_byte wr 0 5)
      have hsz1 := hbx.lt
      clear hm hbx hB hn1 hj hn2
      by_cases hgo : j < padz s.size
      · have hd : ((((n1 : Int) + 8) % 64) != 0) = true := by
          have h1 := HN.out
          unfold padz at hgo
          rw [bne_iff_ne]
          omega
        go_wp2_with (at_builtin; refine list_mine_app _ rfl _ _ 23 rfl i0 Tryd.underlying23 hi0 hz0 hz1 hz2 rfl (HM1.out.alloc _) rfl HD1.out (by simp) rfl ?_ ?_ ?_)
        · have := HL.out
          have : padz s.size < 64 := by unfold padz; omega
          simp
          omega
        · simp only [World.size_alloc]; omega
        intro v3 w3 ho hgr hat
        have HP3 := Lib.hid (HPr.out.app ho hgr)
        clear ho hgr hat
        go_wp2_with fail
        go_roundg (padz s.size - (j + 1))
        case measure => have := HJ.out; omega
        case rel =>
          refine ⟨j + 1, by omega, ?_⟩
          have e : s.data.toList ++ [128] ++ List.replicate (j + 1) 0 = s.data.toList ++ 128 :: (List.replicate j 0 ++ [0]) := by rw [List.replicate_succ']; simp
          rw [e]
          exact HP3.out
      · have hd : ((((n1 : Int) + 8) % 64) != 0) = false := by
          have h1 := HN.out
          have h2 := HJ.out
          unfold padz at hgo h2
          rw [bne_eq_false_iff_eq]
          omega
        have hjz : j = padz s.size := by have := HJ.out; omega
        have HPz := Lib.hid (show Pre w wr _ (s.data.toList ++ [128] ++ List.replicate (padz s.size) 0 ++ be8 (8 * s.size) 0) by rw [← hjz]; simpa [be8] using HPr.out)
        clear hjz HPr HM1 HN HJ HD1 HP2 HP HM
        go_wp2_with fail
        go_loopg [3, 5] 8 (fun gh b i wx => ∃ k : Nat, k + gh = 8 ∧ i = .int .i64 k ∧ Pre w wx b (s.data.toList ++ [128] ++ List.replicate (padz s.size) 0 ++ be8 (8 * s.size) k))
        case atStart => exact ⟨0, rfl, rfl, HPz.out⟩
        case round =>
          obtain ⟨k, hk, rfl, hp⟩ := hrel
          have HK := Lib.hid hk
          have hk8 : k ≤ 8 := by omega
          have HPk := Lib.hid hp
          obtain ⟨hm, hbx, hB⟩ := hp
          obtain ⟨A2, n2, c2, hv2, hn2⟩ := hm.slice
          subst hv2
          have HM2 := Lib.hid hm
          have HN2 := Lib.hid hn2
          have hsz2 := hbx.lt
          clear hm hbx hB hn2 hk
          by_cases hk7 : k < 8
          · have HDk : Hid (Dat true (wr.alloc (.cells #[.int .u8 ((s.size : Int) * 8 / 2 ^ (56 - 8 * k) % 256)] 5)) wr.heap.size (wr.heap.size + 1) (some ⟨wr.heap.size, 0, none⟩) [UInt8.ofNat (8 * s.size / 2 ^ (56 - 8 * k) % 256)]) := by
              have e : (s.size : Int) * 8 / 2 ^ (56 - 8 * k) % 256 = (((UInt8.ofNat (8 * s.size / 2 ^ (56 - 8 * k) % 256)).toNat : Nat) : Int) := by
                simp [Nat.mul_comm]
              rw [e]
              exact dat_byte wr _ _
            go_wp2_with (at_builtin; refine list_mine_app _ rfl _ _ 23 rfl i0 Tryd.underlying23 hi0 hz0 hz1 hz2 rfl (HM2.out.alloc _) rfl HDk.out (by simp) rfl ?_ ?_ ?_)
            · have h1 := HL.out
              have h2 : padz s.size < 64 := by unfold padz; omega
              simp only [List.length_append, List.length_replicate, be8_length, List.length_singleton]
              omega
            · simp only [World.size_alloc]; omega
            intro v4 w4 ho hgr hat
            have HP4 := Lib.hid (HPk.out.app ho hgr)
            clear ho hgr hat
            go_wp2_with fail
            go_roundg (8 - (k + 1))
            case measure => have := HK.out; omega
            case rel =>
              refine ⟨k + 1, by omega, by go_num, ?_⟩
              have := HP4.out
              rw [be8, ← List.append_assoc]
              simpa using this
          · have hk88 : k = 8 := by omega
            have HPp := Lib.hid (show Pre w wr _ (padded s.data.toList) by have := HPk.out; rw [hk88] at this; unfold padded; rw [HL.out]; exact this)
            clear hk88 HPk HM2 HN2 HK HPz
            have hsz8 : w.heap.size + 1 ≤ wr.heap.size := HPp.out.2.1.lt
            go_upto_region 10 with fail
            go_cut [6] (fun p wx => ∃ hb : Nat, p = .pointer (some ⟨hb, 0, none⟩) ∧ Box wx hb 75 iv.cells ∧ Below wr.heap.size wr wx ∧ w.heap.size + 1 ≤ hb)
            case first =>
              go_wp2_with (first
                | (refine wpList_build rfl 75 _ rfl (by kernel_rfl) ?_)
                | (refine wpList_store_row rfl 75 _ _ rfl wr.heap.size iv.cells rfl (by kernel_rfl) 75 _ (heap_alloc_new wr _) (by kernel_rfl) (by kernel_rfl) (by kernel_rfl) ?_))
              go_meet
              exact ⟨_, rfl, setRow_heap _ _ _ _ _ _ (heap_alloc_new wr _), below_row ((Below.refl _ _).alloc (Nat.le_refl _) _) (Nat.le_refl _) _, hsz8⟩
            case rest =>
              obtain ⟨hb, rfl, hbh, hBh, hzh⟩ := hcut
              have hbl := hbh.lt
              have HPh := Lib.hid (HPp.out.step hBh)
              have HBh := Lib.hid hbh
              clear hbh hBh HPp
              go_upto_region 11 with fail
              go_cut [7] (fun p wx => ∃ kb : Nat, p = .pointer (some ⟨kb, 0, none⟩) ∧ Blo w wx (.slice A2 n2 c2) (padded s.data.toList) hb kb iv)
              case first =>
                go_wp2_with (first
                  | (go_at_call 42; refine (words_any _).mono ?_; rintro e' w5 ⟨rfl, hB5⟩; have HB5 := Lib.hid hB5; clear hB5)
                  | (refine wpList_store_row rfl 76 _ _ rfl w5.heap.size kcells rfl rfl 76 _ (heap_alloc_new w5 _) (by kernel_rfl) (by kernel_rfl) (by kernel_rfl) ?_))
                go_meet
                have hB6 : Below wc.heap.size wc ((w5.alloc (.cells (List.replicate 64 (Value.int .u32 0)).toArray 76)).setRow w5.heap.size kcells) := below_row (HB5.out.alloc HB5.out.size _) HB5.out.size _
                have hz5 := HB5.out.size
                exact ⟨w5.heap.size, rfl, HPh.out.step hB6, HBh.out.below hB6 (by omega), setRow_heap _ _ _ _ _ _ (heap_alloc_new w5 _), hzh, by omega⟩
              case rest =>
                obtain ⟨kb, rfl, hblo⟩ := hcut
                have HBl := Lib.hid hblo
                clear hblo
                have hplen : (padded s.data.toList).length = s.size + 9 + padz s.size := by rw [padded_length, HL.out]
                have hpz : padz s.size < 64 := by unfold padz; omega
                have hblk := padded_blocks s.data.toList
                obtain ⟨ps, hps⟩ : ∃ ps, ps = padded s.data.toList := ⟨_, rfl⟩
                rw [← hps] at HBl hplen hblk
                obtain ⟨N, hN⟩ : ∃ N, N = ps.length / 64 := ⟨_, rfl⟩
                have hn2 : n2 = ps.length := by
                  obtain ⟨⟨hm, _⟩, _⟩ := HBl.out
                  obtain ⟨A, c, hv, _⟩ := hm.form
                  injection hv
                have hnN : n2 = 64 * N := by omega
                have hN40 : N ≤ 100000000000 := by omega
                have HPS := Lib.hid hps
                have HNN := Lib.hid hN
                have HN2 := Lib.hid hn2
                have HN64 := Lib.hid hnN
                have hn2b : n2 ≤ 6400000000000 := by omega
                clear hps hN hn2 hnN hplen hblk
                go_wp2_with fail
                go_loopg [8] N (fun gh i wx => ∃ n : Nat, n + gh = N ∧ i = .int .i64 (64 * (n : Int)) ∧ Blo w wx (.slice A2 n2 c2) ps hb kb (blocks kw ps n))
                case atStart => exact ⟨0, by omega, rfl, HBl.out⟩
                case round =>
                  obtain ⟨n, hn, rfl, hbl⟩ := hrel
                  have HJn := Lib.hid hn
                  have HBn := Lib.hid hbl
                  have hnN : n ≤ N := by omega
                  clear hn hbl
                  by_cases hlt : n < N
                  · have hl64 : 64 * n + 64 ≤ n2 := by have := HN64.out; omega
                    have hd : decide (64 * (n : Int) < (n2 : Int)) = true := decide_eq_true (by omega)
                    go_upto_region 15 with fail
                    go_cut [9] (fun p wx => ∃ wb : Nat, p = .pointer (some ⟨wb, 0, none⟩) ∧ Blo w wx (.slice A2 n2 c2) ps hb kb (blocks kw ps n) ∧ Box wx wb 76 (wcells []) ∧ kb < wb)
                    case first =>
                      go_wp2_with fail
                      go_meet
                      exact ⟨_, rfl, HBn.out.step ((Below.refl _ _).alloc (Nat.le_refl _) _), Box.new wr _ (wcells []), HBn.out.2.2.1.lt⟩
                    case rest =>
                      obtain ⟨wb, rfl, hbl9, hbw, hkw⟩ := hcut
                      have HB9 := Lib.hid hbl9
                      have HW9 := Lib.hid hbw
                      clear hbl9 hbw HBn
                      go_wp2_with fail
                      go_loopg [10] 64 (fun gh t wx => ∃ T : Nat, T + gh = 64 ∧ t = .int .i64 T ∧ Blo w wx (.slice A2 n2 c2) ps hb kb (blocks kw ps n) ∧ Box wx wb 76 (wcells (sch ps (64 * n) T)))
                      case atStart => exact ⟨0, rfl, rfl, HB9.out, HW9.out⟩
                      case round =>
                        obtain ⟨T, hT, rfl, hblo, hbw⟩ := hrel
                        have HJT := Lib.hid hT
                        have HBT := Lib.hid hblo
                        have HWT := Lib.hid hbw
                        have hT64 : T ≤ 64 := by omega
                        clear hT hblo hbw
                        by_cases h16 : T < 16
                        · go_upto_region 20 with fail
                          go_cut [11] (fun q wx => wr = wx ∧ ∃ P : Nat, q = .int .i64 (P : Int) ∧ Hid (P = 64 * n + 4 * T) ∧ P + 4 ≤ n2)
                          case first =>
                            go_wp2_with fail
                            go_meet
                            exact ⟨rfl, 64 * n + 4 * T, by simp, rfl, by omega⟩
                          case rest =>
                            obtain ⟨rfl, P, rfl, HP20, hP4⟩ := hcut
                            have hdat := HBT.out.1.1.form
                            obtain ⟨A9, c9, hv9, _, hdat⟩ := hdat
                            injection hv9 with e1 e2 e3
                            subst e1 e3
                            obtain ⟨d, o, rfl, _, _, hc, _⟩ := hdat (by omega)
                            have hdw : d ≠ wb := fun e => HBT.out.1.1.ne_box HWT.out (by decide) (by rw [e]; rfl)
                            have hdw' : wb ≠ d := fun e => hdw e.symm
                            have q0 := hc P (by omega)
                            have q1 := hc (P + 1) (by omega)
                            have q2 := hc (P + 2) (by omega)
                            have q3 := hc (P + 3) (by omega)
                            unfold cel at q0 q1 q2 q3
                            have x1 : IntKind.i64.wrap ((P : Int) + 1) = (P : Int) + 1 := IntWalk.i64_in _ (by omega)
                            have x2 : IntKind.i64.wrap ((P : Int) + 2) = (P : Int) + 2 := IntWalk.i64_in _ (by omega)
                            have x3 : IntKind.i64.wrap ((P : Int) + 3) = (P : Int) + 3 := IntWalk.i64_in _ (by omega)
                            have y1 : ((P : Int) + 1).toNat = P + 1 := by omega
                            have y2 : ((P : Int) + 2).toNat = P + 2 := by omega
                            have y3 : ((P : Int) + 3).toNat = P + 3 := by omega
                            have z0 : (P : Int) < (n2 : Int) := by omega
                            have z1 : (P : Int) + 1 < (n2 : Int) := by omega
                            have z2 : (P : Int) + 2 < (n2 : Int) := by omega
                            have z3 : (P : Int) + 3 < (n2 : Int) := by omega
                            have u1 : (0 : Int) ≤ (P : Int) + 1 := by omega
                            have u2 : (0 : Int) ≤ (P : Int) + 2 := by omega
                            have u3 : (0 : Int) ≤ (P : Int) + 3 := by omega
                            have wt : wr.cell? ⟨wb, T, none⟩ = some (.int .u32 (((sch ps (64 * n) T).getD T 0).toNat : Int)) := (HWT.out.cell T).trans (wcells_get _ _ (by omega))
                            have wf := HWT.out.free T
                            have hTi : (T : Int) < 64 := by omega
                            clear hc e2 hdat
                            have hnx : Hid (nxt ps (64 * n) (sch ps (64 * n) T) T = wd4 (ps.getD P 0) (ps.getD (P + 1) 0) (ps.getD (P + 2) 0) (ps.getD (P + 3) 0)) := by
                              unfold Hid nxt wd
                              rw [if_pos h16, HP20.out]
                            obtain ⟨b0, hb0⟩ : ∃ b0, b0 = ps.getD P 0 := ⟨_, rfl⟩
                            obtain ⟨b1, hb1⟩ : ∃ b1, b1 = ps.getD (P + 1) 0 := ⟨_, rfl⟩
                            obtain ⟨b2, hb2⟩ : ∃ b2, b2 = ps.getD (P + 2) 0 := ⟨_, rfl⟩
                            obtain ⟨b3, hb3⟩ : ∃ b3, b3 = ps.getD (P + 3) 0 := ⟨_, rfl⟩
                            rw [← hb0] at q0 hnx
                            rw [← hb1] at q1 hnx
                            rw [← hb2] at q2 hnx
                            rw [← hb3] at q3 hnx
                            clear hb0 hb1 hb2 hb3
                            go_wp2_with fail
                            go_region_held3 (fun w' => w'.cell? ⟨d, o + P, none⟩ = some (.int .u8 (b0.toNat : Int)) ∧ w'.cell? ⟨d, o + (P + 1), none⟩ = some (.int .u8 (b1.toNat : Int)) ∧ w'.cell? ⟨d, o + (P + 2), none⟩ = some (.int .u8 (b2.toNat : Int)) ∧ w'.cell? ⟨d, o + (P + 3), none⟩ = some (.int .u8 (b3.toNat : Int)))
                              (first | go_keep | exact ⟨(World.cell?_setCell_other _ _ _ _ (by intro h; injection h with h; exact hdw h)).trans q0, (World.cell?_setCell_other _ _ _ _ (by intro h; injection h with h; exact hdw h)).trans q1, (World.cell?_setCell_other _ _ _ _ (by intro h; injection h with h; exact hdw h)).trans q2, (World.cell?_setCell_other _ _ _ _ (by intro h; injection h with h; exact hdw h)).trans q3⟩) (fail)
                            go_wp2_with fail
                            go_roundg (64 - (T + 1))
                            case measure => have := HJT.out; omega
                            case rel =>
                              have hw := HWT.out.put T (.int .u32 ((wd4 b0 b1 b2 b3).toNat : Int))
                              have hlT := sch_length ps (64 * n) T
                              have hws := wcells_set (sch ps (64 * n) T) (nxt ps (64 * n) (sch ps (64 * n) T) T) (by omega)
                              rw [hlT, hnx.out] at hws
                              rw [hws] at hw
                              refine ⟨T + 1, by omega, by go_num, ?_, ?_⟩
                              · exact (HBT.out.far hkw (fun e => hdw (by injection e)) T _).step ((Below.refl _ _).drew)
                              · rw [sch, hnx.out]
                                exact hw
                        · have d16 : decide ((T : Int) < 16) = false := decide_eq_false (by omega)
                          by_cases h64 : T < 64
                          · have hb9 : (Value.slice A2 n2 c2).ownBlock ≠ some wb := HBT.out.1.1.ne_box HWT.out (by decide)
                            obtain ⟨ws, hws0⟩ : ∃ ws, ws = sch ps (64 * n) T := ⟨_, rfl⟩
                            have hcell : ∀ i, i < 64 → wr.cell? ⟨wb, i, none⟩ = some (.int .u32 ((ws.getD i 0).toNat : Int)) := fun i hi => by rw [hws0]; exact (HWT.out.cell i).trans (wcells_get _ _ hi)
                            have q16 := hcell (T - 16) (by omega)
                            have q15 := hcell (T - 15) (by omega)
                            have q7 := hcell (T - 7) (by omega)
                            have q2 := hcell (T - 2) (by omega)
                            have qT := hcell T h64
                            have wf := HWT.out.free T
                            have hnx : Hid (nxt ps (64 * n) ws T = wA (wA (wA (ws.getD (T - 16) 0) (wX (wX (rot (ws.getD (T - 15) 0) 7) (rot (ws.getD (T - 15) 0) 18)) (down (ws.getD (T - 15) 0) 3))) (ws.getD (T - 7) 0)) (wX (wX (rot (ws.getD (T - 2) 0) 17) (rot (ws.getD (T - 2) 0) 19)) (down (ws.getD (T - 2) 0) 10))) := by
                              unfold Hid nxt
                              rw [if_neg h16]
                            have HWS := Lib.hid hws0
                            clear hcell hws0
                            obtain ⟨v16, e16⟩ : ∃ x, x = ws.getD (T - 16) 0 := ⟨_, rfl⟩
                            obtain ⟨v15, e15⟩ : ∃ x, x = ws.getD (T - 15) 0 := ⟨_, rfl⟩
                            obtain ⟨v7, e7⟩ : ∃ x, x = ws.getD (T - 7) 0 := ⟨_, rfl⟩
                            obtain ⟨v2, e2⟩ : ∃ x, x = ws.getD (T - 2) 0 := ⟨_, rfl⟩
                            obtain ⟨vT, eT⟩ : ∃ x, x = ws.getD T 0 := ⟨_, rfl⟩
                            rw [← e16] at q16 hnx
                            rw [← e15] at q15 hnx
                            rw [← e7] at q7 hnx
                            rw [← e2] at q2 hnx
                            rw [← eT] at qT
                            clear e16 e15 e7 e2 eT
                            have x16 : IntKind.i64.wrap ((T : Int) - 16) = (T : Int) - 16 := IntWalk.i64_in _ (by omega)
                            have x7 : IntKind.i64.wrap ((T : Int) - 7) = (T : Int) - 7 := IntWalk.i64_in _ (by omega)
                            have y16 : ((T : Int) - 16).toNat = T - 16 := by omega
                            have y15 : ((T : Int) - 15).toNat = T - 15 := by omega
                            have y7 : ((T : Int) - 7).toNat = T - 7 := by omega
                            have y2 : ((T : Int) - 2).toNat = T - 2 := by omega
                            have z16 : (0 : Int) ≤ (T : Int) - 16 := by omega
                            have z7 : (0 : Int) ≤ (T : Int) - 7 := by omega
                            have zz16 : (T : Int) - 16 < 64 := by omega
                            have zz7 : (T : Int) - 7 < 64 := by omega
                            have hTi : (T : Int) < 64 := by omega
                            have i16 : (16 : Int) ≤ (T : Int) := by omega
                            have i7 : (7 : Int) ≤ (T : Int) := by omega
                            have l16 : (T : Int) < 80 := by omega
                            have l7 : (T : Int) < 71 := by omega
                            have n16 : T ≠ T - 16 := by omega
                            have n7 : T ≠ T - 7 := by omega
                            go_upto_region 24 with fail
                            go_region_held3 (fun w' => w'.cell? ⟨wb, T - 16, none⟩ = some (.int .u32 (v16.toNat : Int)) ∧ w'.cell? ⟨wb, T - 7, none⟩ = some (.int .u32 (v7.toNat : Int)))
                              (first | exact ⟨other_cell _ _ _ _ _ _ n16 q16, other_cell _ _ _ _ _ _ n7 q7⟩ | exact ⟨q16, q7⟩ | go_keep)
                              (first | (go_at_call 43; refine (right_any _ _ _ (by decide) (by decide)).mono ?_; rintro e' w' ⟨rfl, rfl⟩))
                            go_wp2_with fail
                            go_roundg (64 - (T + 1))
                            case measure => have := HJT.out; omega
                            case rel =>
                              have hw := HWT.out.put T (.int .u32 ((wA (wA (wA v16 (wX (wX (rot v15 7) (rot v15 18)) (down v15 3))) v7) (wX (wX (rot v2 17) (rot v2 19)) (down v2 10))).toNat : Int))
                              have hlT := sch_length ps (64 * n) T
                              have hws := wcells_set (sch ps (64 * n) T) (nxt ps (64 * n) (sch ps (64 * n) T) T) (by omega)
                              rw [hlT, ← HWS.out, hnx.out] at hws
                              rw [← HWS.out, hws] at hw
                              refine ⟨T + 1, by omega, by go_num, (HBT.out.far hkw hb9 T _).step ((Below.refl _ _).drew), ?_⟩
                              rw [sch, ← HWS.out, hnx.out]
                              exact hw
                          · have hT : T = 64 := by omega
                            subst hT
                            obtain ⟨ws, hws⟩ : ∃ ws, ws = sch ps (64 * n) 64 := ⟨_, rfl⟩
                            obtain ⟨sv, hsv⟩ : ∃ sv, sv = blocks kw ps n := ⟨_, rfl⟩
                            have hnext : blocks kw ps (n + 1) = addv sv (rounds kw ws sv 64) := by rw [hws, hsv]; rfl
                            have hbl := HBT.out
                            have hwt := HWT.out
                            rw [← hsv] at hbl
                            rw [← hws] at hwt
                            have HNX := Lib.hid hnext
                            have HS := Lib.hid hbl
                            have HW := Lib.hid hwt
                            clear hws hsv hnext hbl hwt HBT HWT HB9 HW9 HJT
                            obtain ⟨S, hS⟩ : ∃ S, S = sv.cells := ⟨_, rfl⟩
                            have hSs : S.size = 8 := by rw [hS]; rfl
                            have hSo : S.all (·.oneCell') = true := by rw [hS]; exact V8.cells_one sv
                            have HSB : Hid (Box wr hb 75 S) := by unfold Hid; rw [hS]; exact HS.out.2.1
                            have HSE := Lib.hid hS
                            clear hS
                            go_upto_region 25 with fail
                            go_cut [14] (fun p wx => ∃ vb, p = .pointer (some ⟨vb, 0, none⟩) ∧ Rnd w wx (.slice A2 n2 c2) ps hb kb wb vb sv sv ws)
                            case first =>
                              go_wp2_with (first
                                | (refine wpList_load_row rfl 75 _ rfl hb rfl 75 S (0, 0) _ HSB.out Tryd.underlying75 rfl (by rw [hSs]; kernel_rfl) ?_)
                                | (refine wpList_store_row rfl 75 _ _ rfl wr.heap.size S rfl rfl 75 _ (heap_alloc_new wr _) (by rw [hSs]; kernel_rfl) (by rw [hSs]; rfl) hSo ?_))
                              go_meet
                              have hB4 : Below wr.heap.size wr ((wr.alloc (.cells (V8.cells ⟨0, 0, 0, 0, 0, 0, 0, 0⟩) 75)).setRow wr.heap.size S) := below_row ((Below.refl _ _).alloc (Nat.le_refl _) _) (Nat.le_refl _) _
                              refine ⟨_, rfl, HS.out.step hB4, HW.out.below hB4 HW.out.lt, ?_, hkw, HW.out.lt⟩
                              have h4 := setRow_heap (wr.alloc (.cells (V8.cells ⟨0, 0, 0, 0, 0, 0, 0, 0⟩) 75)) _ _ S _ _ (heap_alloc_new wr _)
                              rw [← HSE.out]
                              exact h4
                            case rest =>
                              obtain ⟨vb, rfl, hrn⟩ := hcut
                              have HRN := Lib.hid hrn
                              clear hrn HS HW HSB
                              go_wp2_with fail
                              go_loopg [15] 64 (fun gh t wx => ∃ T : Nat, T + gh = 64 ∧ t = .int .i64 T ∧ Rnd w wx (.slice A2 n2 c2) ps hb kb wb vb sv (rounds kw ws sv T) ws)
                              case atStart => exact ⟨0, rfl, rfl, HRN.out⟩
                              case round =>
                                obtain ⟨T, hT, rfl, hrn⟩ := hrel
                                have HJT := Lib.hid hT
                                have HRr := Lib.hid hrn
                                have hT64 : T ≤ 64 := by omega
                                clear hT hrn HRN
                                by_cases h64 : T < 64
                                · have hTi : (T : Int) < 64 := by omega
                                  obtain ⟨v, hv⟩ : ∃ v, v = rounds kw ws sv T := ⟨_, rfl⟩
                                  obtain ⟨kk, hkk⟩ : ∃ k, k = kw.getD T 0 := ⟨_, rfl⟩
                                  obtain ⟨ww, hww⟩ : ∃ k, k = ws.getD T 0 := ⟨_, rfl⟩
                                  have hnx : rounds kw ws sv (T + 1) = rnd v kk ww := by rw [rounds, ← hv, ← hkk, ← hww]
                                  have hrn := HRr.out
                                  rw [← hv] at hrn
                                  have qk : wr.cell? ⟨kb, T, none⟩ = some (.int .u32 (kk.toNat : Int)) := by rw [hkk]; exact (hrn.1.2.2.1.cell T).trans (kcells_get T h64)
                                  have qw : wr.cell? ⟨wb, T, none⟩ = some (.int .u32 (ww.toNat : Int)) := by rw [hww]; exact (hrn.2.1.cell T).trans (wcells_get ws T h64)
                                  have HX := Lib.hid hnx
                                  clear hv hkk hww hnx HRr
                                  obtain ⟨va, vb', vc, vd, ve, vf, vg, vh⟩ := v
                                  have q0 : wr.cell? ⟨vb, 0, none⟩ = some (.int .u32 (va.toNat : Int)) := hrn.2.2.1.cell 0
                                  have q1 : wr.cell? ⟨vb, 1, none⟩ = some (.int .u32 (vb'.toNat : Int)) := hrn.2.2.1.cell 1
                                  have q2 : wr.cell? ⟨vb, 2, none⟩ = some (.int .u32 (vc.toNat : Int)) := hrn.2.2.1.cell 2
                                  have q3 : wr.cell? ⟨vb, 3, none⟩ = some (.int .u32 (vd.toNat : Int)) := hrn.2.2.1.cell 3
                                  have q4 : wr.cell? ⟨vb, 4, none⟩ = some (.int .u32 (ve.toNat : Int)) := hrn.2.2.1.cell 4
                                  have q5 : wr.cell? ⟨vb, 5, none⟩ = some (.int .u32 (vf.toNat : Int)) := hrn.2.2.1.cell 5
                                  have q6 : wr.cell? ⟨vb, 6, none⟩ = some (.int .u32 (vg.toNat : Int)) := hrn.2.2.1.cell 6
                                  have q7 : wr.cell? ⟨vb, 7, none⟩ = some (.int .u32 (vh.toNat : Int)) := hrn.2.2.1.cell 7
                                  have HRv := Lib.hid hrn
                                  clear hrn
                                  obtain ⟨v', hv'⟩ : ∃ v', v' = rnd ⟨va, vb', vc, vd, ve, vf, vg, vh⟩ kk ww := ⟨_, rfl⟩
                                  have HRD : Hid (∀ W, Calls Tryd.prog 44 #[.agg #[.int .u32 (va.toNat : Int), .int .u32 (vb'.toNat : Int), .int .u32 (vc.toNat : Int), .int .u32 (vd.toNat : Int), .int .u32 (ve.toNat : Int), .int .u32 (vf.toNat : Int), .int .u32 (vg.toNat : Int), .int .u32 (vh.toNat : Int)], .int .u32 (kk.toNat : Int), .int .u32 (ww.toNat : Int)] W fun en w' => en = .returned (.agg v'.cells) ∧ Below W.heap.size W w') := fun W => by rw [hv']; exact round_any va vb' vc vd ve vf vg vh kk ww W
                                  have HV' := Lib.hid hv'
                                  have hVs : v'.cells.size = 8 := rfl
                                  have hVo := V8.cells_one v'
                                  obtain ⟨VC, hVC⟩ : ∃ VC, VC = v'.cells := ⟨_, rfl⟩
                                  rw [← hVC] at HRD hVs hVo
                                  have HVC := Lib.hid hVC
                                  clear hv' hVC
                                  go_upto_region 29 with fail
                                  refine wp_region_still_tail 7 (by kernel_rfl) (by kernel_rfl) ?_
                                  simp only [List.take_succ_cons, List.take_zero, List.drop_succ_cons, List.drop_zero]
                                  iterate 7 still_step
                                  refine wpStill_nil ?_
                                  go_wp2_with (first
                                    | (go_at_call 44; refine (HRD.out _).mono ?_; rintro e' w5 ⟨rfl, hB5⟩; have HB5 : Hid (Below wr.heap.size wr w5) := (⟨hB5.os, hB5.tape, hB5.output, hB5.size, hB5.block⟩ : Below wr.heap.size wr w5); have HR5 := Lib.hid (HRv.out.step HB5.out); clear hB5)
                                    | (refine wpList_store_row rfl 75 _ _ rfl vb VC rfl rfl 75 _ HR5.out.2.2.1 (by rw [hVs]; kernel_rfl) (by rw [hVs]; rfl) hVo ?_))
                                  go_roundg (64 - (T + 1))
                                  case measure => have := HJT.out; omega
                                  case rel =>
                                    refine ⟨T + 1, by omega, by go_num, ?_⟩
                                    rw [HX.out, ← HV'.out, HVC.out]
                                    exact HR5.out.row
                                · have hT : T = 64 := by omega
                                  subst hT
                                  obtain ⟨v, hv⟩ : ∃ v, v = rounds kw ws sv 64 := ⟨_, rfl⟩
                                  have hrn := HRr.out
                                  have hnx := HNX.out
                                  rw [← hv] at hrn hnx
                                  have HAD := Lib.hid hrn.add
                                  have HNy := Lib.hid hnx
                                  clear hv hrn hnx HRr HNX HJT
                                  go_wp2_with fail
                                  go_loopg [16] 8 (fun gh i wx => ∃ I : Nat, I + gh = 8 ∧ i = .int .i64 I ∧ Adw w wx (.slice A2 n2 c2) ps hb kb vb (padd sv v I) v)
                                  case atStart => exact ⟨0, rfl, rfl, HAD.out⟩
                                  case round =>
                                    obtain ⟨I, hI, rfl, had⟩ := hrel
                                    have HJI := Lib.hid hI
                                    have HAr := Lib.hid had
                                    have hI8 : I ≤ 8 := by omega
                                    clear hI had HAD
                                    by_cases h8 : I < 8
                                    · have hIi : (I : Int) < 8 := by omega
                                      obtain ⟨x, hx⟩ : ∃ x, x = v.list.getD I 0 := ⟨_, rfl⟩
                                      obtain ⟨y, hy⟩ : ∃ y, y = sv.list.getD I 0 := ⟨_, rfl⟩
                                      have qx : wr.cell? ⟨vb, I, none⟩ = some (.int .u32 (x.toNat : Int)) := by rw [hx]; exact (HAr.out.2.2.2.1.cell I).trans (V8.cells_get v I h8)
                                      have qy : wr.cell? ⟨hb, I, none⟩ = some (.int .u32 (y.toNat : Int)) := by rw [hy]; exact (HAr.out.2.1.cell I).trans (padd_get sv v I h8)
                                      have wf := HAr.out.2.1.free I
                                      have hset := padd_set sv v I
                                      rw [← hx, ← hy] at hset
                                      have HSt := Lib.hid hset
                                      clear hset hx hy
                                      go_upto_region 33 with fail
                                      refine wp_region_still_tail 8 (by kernel_rfl) (by kernel_rfl) ?_
                                      simp only [List.take_succ_cons, List.take_zero, List.drop_succ_cons, List.drop_zero]
                                      iterate 8 still_step
                                      refine wpStill_nil ?_
                                      go_wp2_with fail
                                      go_roundg (8 - (I + 1))
                                      case measure => have := HJI.out; omega
                                      case rel =>
                                        refine ⟨I + 1, by omega, by go_num, ?_⟩
                                        rw [← HSt.out]
                                        exact HAr.out.drawn.put I _
                                    · have hI : I = 8 := by omega
                                      subst hI
                                      have HBf := Lib.hid HAr.out.blo
                                      rw [← HNy.out] at HBf
                                      clear HAr HJI HNy
                                      go_wp2_with fail
                                      go_roundg (N - (n + 1))
                                      case measure => have := HJn.out; omega
                                      case rel => exact ⟨n + 1, by omega, by go_num, HBf.out⟩
                  · have hnN2 : n = N := by omega
                    subst hnN2
                    have hgi : ¬ (64 * (n : Int) < (n2 : Int)) := by have := HN64.out; omega
                    have hfin : bytesOf (blocks kw ps n) = shaOf kw s.data.toList := by rw [HNN.out, HPS.out]; rfl
                    obtain ⟨v, hv⟩ : ∃ v, v = blocks kw ps n := ⟨_, rfl⟩
                    rw [← hv] at HBn hfin
                    have HF := Lib.hid hfin
                    clear hv hfin HJn HBl
                    go_upto_region 34 with fail
                    go_cut [17] (fun p wx => ∃ ob, p = .pointer (some ⟨ob, 0, none⟩) ∧ kb < ob ∧ Blo w wx (.slice A2 n2 c2) ps hb kb v ∧ Box wx ob 25 (bpart v 0))
                    case first =>
                      go_wp2_with fail
                      go_meet
                      exact ⟨_, rfl, HBn.out.2.2.1.lt, HBn.out.step ((Below.refl _ _).alloc (Nat.le_refl _) _), Box.new wr _ (bpart v 0)⟩
                    case rest =>
                      obtain ⟨ob, rfl, hob, hbl, hbo⟩ := hcut
                      have HB0 := Lib.hid hbl
                      have HO0 := Lib.hid hbo
                      clear hbl hbo HBn
                      go_wp2_with fail
                      go_loopg [18] 32 (fun gh i wx => ∃ k : Nat, k + gh = 32 ∧ i = .int .i64 k ∧ Blo w wx (.slice A2 n2 c2) ps hb kb v ∧ Box wx ob 25 (bpart v k))
                      case atStart => exact ⟨0, rfl, rfl, HB0.out, HO0.out⟩
                      case round =>
                        obtain ⟨k, hk, rfl, hbl, hbo⟩ := hrel
                        have HK := Lib.hid hk
                        have HBk := Lib.hid hbl
                        have HOk := Lib.hid hbo
                        have hk32 : k ≤ 32 := by omega
                        clear hk hbl hbo HB0 HO0
                        by_cases hlt : k < 32
                        · have hki : (k : Int) < 32 := by omega
                          have hbo := bytesOf_get v k hlt
                          obtain ⟨x, hx⟩ : ∃ x, x = v.list.getD (k / 4) 0 := ⟨_, rfl⟩
                          have q : wr.cell? ⟨hb, k / 4, none⟩ = some (.int .u32 (x.toNat : Int)) := by rw [hx]; exact (HBk.out.2.1.cell (k / 4)).trans (V8.cells_get v (k / 4) (by omega))
                          have q2 : wr.cell? ⟨ob, k, none⟩ = some (.int .u8 0) := (HOk.out.cell k).trans (bpart_get v k hlt)
                          have wf := HOk.out.free k
                          rw [← hx] at hbo
                          have HBO := Lib.hid hbo
                          clear hbo hx
                          have hq4 : (k : Int) / 4 < 8 := by omega
                          have hr4 : (0 : Int) ≤ 24 - 8 * ((k : Int) % 4) := by omega
                          have hw1 : IntKind.i64.wrap (8 * ((k : Int) % 4)) = 8 * ((k : Int) % 4) := IntWalk.i64_in _ (by omega)
                          have hw2 : IntKind.i64.wrap (24 - 8 * ((k : Int) % 4)) = 24 - 8 * ((k : Int) % 4) := IntWalk.i64_in _ (by omega)
                          have hw3 : IntKind.u64.wrap (24 - 8 * ((k : Int) % 4)) = 24 - 8 * ((k : Int) % 4) := by rw [IntKind.wrap_u64]; omega
                          have ht4 : (24 - 8 * ((k : Int) % 4)).toNat = 24 - 8 * (k % 4) := by omega
                          have hm32 : (24 - 8 * ((k : Int) % 4)) < 32 := by omega
                          go_wp2_with fail
                          go_roundg (32 - (k + 1))
                          case measure => have := HK.out; omega
                          case rel =>
                            have e : (x.toNat : Int) / 2 ^ (24 - 8 * (k % 4)) % 256 = ((((bytesOf v).getD k 0).toNat : Nat) : Int) := by
                              rw [HBO.out, ← byte_of, IntKind.wrap_u8']
                            have hp := HOk.out.put k (cel ((bytesOf v).getD k 0))
                            rw [bpart_set] at hp
                            refine ⟨k + 1, by omega, by go_num, ?_, ?_⟩
                            · rw [e]
                              exact HBk.out.far hob (HBk.out.1.1.ne_box HOk.out (by decide)) k _
                            · rw [e]
                              exact hp
                        · have hk : k = 32 := by omega
                          subst hk
                          obtain ⟨R, hR⟩ : ∃ R, R = bpart v 32 := ⟨_, rfl⟩
                          have hb2 : Hid (Box wr ob 25 R) := by unfold Hid; rw [hR]; exact HOk.out
                          have hb1 : Hid (Box wr w.heap.size 25 z32) := HBk.out.1.2.1
                          rw [bpart_all, HF.out] at hR
                          have hRs : R.size = 32 := by rw [hR, ← HF.out]; simp [bcells, bytesOf_length]
                          have hRo : R.all (·.oneCell') = true := by rw [hR]; exact bcells_one _
                          have HR := Lib.hid hR
                          have HBw := Lib.hid HBk.out.1.2.2
                          clear hR HBk HOk HK
                          go_wp2_with (first
                            | (refine wpList_load_row rfl 25 _ rfl ob rfl 25 R (0, 0) _ hb2.out Tryd.underlying25 rfl (by rw [hRs]; kernel_rfl) ?_)
                            | (refine wpList_store_row rfl 25 _ _ rfl w.heap.size R rfl rfl 25 _ hb1.out (by rw [hRs]; kernel_rfl) (by rw [hRs]; rfl) hRo ?_))
                          refine bodyPost_ret (v := .agg R) (results_cell_row Tryd.results26 _ _ w.heap.size 25 R (0, 0) _ rfl (setRow_heap _ _ _ _ _ _ hb1.out) Tryd.underlying25 rfl (by rw [hRs]; kernel_rfl)) rfl ⟨by rw [HR.out], ?_⟩
                          exact below_row HBw.out (Nat.le_refl _) _
end Go.Proofs.YtieepdhajjibpaaDoor
