/- CrcSums holds, tied to the program's text: for every slice of slices of bytes the law returns true, and what it was handed reads behind the call as it read before. No condition of ours; the row's own: the package's table reads as the text lays it. -/
import Derived.Test.YtliieipgmjnnfaaDoorCrcArgs
import Derived.Test.YtliieipgmjnnfaaDoorCrcOf
import Derived.Deep.Slices
namespace Go.Proofs.YtliieipgmjnnfaaDoor.crcSums
open Go.ChangeShapes Go.WideShapes Go.ChangeAt Go.RowKit Go.Deep

/-- One piece: its address, its capacity, its bytes. -/
structure Rw where
  A : Option Addr
  c : Nat
  bs : List UInt8

structure RwAt (w : World) (b o : Nat) (r : Rw) : Prop where
  cell : w.cell? ⟨b, o, none⟩ = some (.slice r.A r.bs.length r.c)
  cap : r.bs.length ≤ r.c
  dat : Dat false w 0 w.heap.size r.A r.bs

/-- A slice at a of pieces. -/
def Rows_ (w : World) (a : Option Addr) (rs : List Rw) : Prop :=
  0 < rs.length → ∃ b o, a = some ⟨b, o, none⟩ ∧ b < w.heap.size ∧ ∀ i (h : i < rs.length), RwAt w b (o + i) rs[i]

/-- A list out of what is known at each place. -/
theorem list_of {α : Type} (n : Nat) (p : Nat → α → Prop) (h : ∀ i, i < n → ∃ r, p i r) : ∃ l : List α, l.length = n ∧ ∀ i (hi : i < l.length), p i l[i] := by
  induction n with
  | zero => exact ⟨[], rfl, fun i hi => absurd hi (by simp)⟩
  | succ n ih =>
    obtain ⟨l, hl, hp⟩ := ih fun i hi => h i (by omega)
    obtain ⟨r, hr⟩ := h n (by omega)
    refine ⟨l ++ [r], by simp [hl], fun i hi => ?_⟩
    by_cases hin : i < l.length
    · rw [List.getElem_append_left hin]
      exact hp i hin
    · have : i = n := by simp at hi; omega
      subst this
      rw [List.getElem_append_right (by omega)]
      simpa [hl] using hr

section
variable {H : Type} {enc : TypeId × Value → H} {w : World} {base : Nat} {held : Bool}
theorem rows_of {fuel : Nat} {a : Option Addr} {len cap : Nat} {x : DataW H × List MemPlace} (h : DataW.trod enc Tryd.prog w base (fun _ => true) held fuel 22 [.slice a len cap] = some x) :
    ∃ rs : List Rw, rs.length = len ∧ len ≤ cap ∧ cap ≤ maxLen ∧ Rows_ w a rs := by
  rcases open_slice Tryd.underlying22 h with ⟨hcs, _⟩ | ⟨ad, l, c, m, n, D, Pl, hcs, _, hl, hm, hmm, _, hi⟩
  · injection hcs with hcs _
    injection hcs with h1 h2 h3
    subst h1 h2 h3
    exact ⟨[], rfl, Nat.le_refl _, Nat.zero_le _, fun h => absurd h (by simp)⟩
  · injection hcs with hcs _
    injection hcs with h1 h2 h3
    subst h1 h2 h3
    have hlm : len ≤ m := by rw [hmm]; split <;> omega
    have hC : Tryd.prog.cellsOf 26 = 1 := by kernel_rfl
    rw [hC] at hi
    have hlist := list_of len (fun i (r : Rw) => w.cell? (ad.add (i * 1)) = some (.slice r.A r.bs.length r.c) ∧ r.bs.length ≤ r.c ∧ Dat false w 0 w.heap.size r.A r.bs) (fun i hil => by
      obtain ⟨cs', hc', ht'⟩ := hi i (by omega)
      obtain ⟨_, hcl, hat⟩ := World.cells?_some hc'
      match cs', hcl with
      | [e3], _ =>
        have a3 : w.cell? (ad.add (i * 1)) = some e3 := by have := hat 0 (by omega); rw [add_add] at this; exact this
        obtain ⟨aa, ll, cc, zs, h3, hrow⟩ : ∃ aa ll cc zs, e3 = .slice aa ll cc ∧ IsRow .u8 w aa ll cc zs := by
          rcases open_ints Tryd.underlying26 Tryd.underlying5 (by kernel_rfl) ht' with ⟨q, _⟩ | ⟨aa, ll, cc, zs, q, _, hl', hm', hz', _, hcell', hwz'⟩
          · exact ⟨none, 0, 0, [], by simpa using q, .inl ⟨rfl, rfl, rfl, rfl⟩⟩
          · exact ⟨some aa, ll, cc, zs, by simpa using q, .inr ⟨aa, rfl, hl', hm', by simpa using hz', hcell', hwz'⟩⟩
        obtain ⟨bs, hbl, hbc, _, hbd⟩ := row_dat hrow
        exact ⟨⟨aa, cc, bs⟩, a3.trans (by rw [h3, hbl]), by show bs.length ≤ cc; omega, hbd⟩)
    obtain ⟨rs, hrl, hrs⟩ := hlist
    refine ⟨rs, hrl, hl, hm, fun hpos => ?_⟩
    obtain ⟨b, o, spot⟩ := ad
    have hspot : spot = none := by simpa [Addr.add] using World.cell?_spot (hrs 0 hpos).1
    subst hspot
    have hb := World.block_lt_of_cell? w _ (hrs 0 hpos).1
    refine ⟨b, o, rfl, by simpa [Addr.add] using hb, fun i hil => ?_⟩
    obtain ⟨q0, q1, q2⟩ := hrs i hil
    rw [Go.WideShapes.add_plain, Nat.mul_one] at q0
    exact ⟨q0, q1, q2⟩
end

/-- A digest; nothing that was there has turned. -/
def St (w wx : World) (g : Nat) (A : List UInt8) : Prop := Hsh wx g A ∧ Below w.heap.size w wx
section
variable {w wx w' : World} {g : Nat} {A A' : List UInt8}
theorem St.write (h : St w wx g A) (hg : w.heap.size ≤ g) (hh : Hsh w' g A') (hw : wx.grownBy w' (some g)) : St w w' g A' :=
  ⟨hh, h.2.trans (wide_to_below hw h.2.size hg)⟩
theorem St.step (h : St w wx g A) (hB : Below wx.heap.size wx w') : St w w' g A :=
  ⟨h.1.keep (hB.block g h.1.lt), h.2.trans (hB.mono h.2.size)⟩
end
theorem dat_of_string (w : World) (u : TypeId) (s : ByteArray) (hs : s.size ≤ 1099511627776) : Dat false (Lib.bytesWorld w u s) w.heap.size (Lib.bytesWorld w u s).heap.size (some ⟨w.heap.size, 0, none⟩) s.data.toList := by
  obtain ⟨A, c, hv, _, hd⟩ := (mine_of_string w u s hs).form
  injection hv with h1 h2 h3
  subst h1
  exact hd
theorem bytes_below (w : World) (u : TypeId) (s : ByteArray) : Below w.heap.size w (Lib.bytesWorld w u s) :=
  ⟨rfl, rfl, rfl, by rw [Lib.bytesWorld_size]; omega, fun k hk => Lib.bytesWorld_at_old w u s k hk⟩
theorem str_app (xs ys : List UInt8) : (str xs) ++ (str ys) = str (xs ++ ys) := by
  apply ByteArray.ext
  rw [ByteArray.data_append]
  simp [str]

set_option maxRecDepth 100000 in
set_option maxHeartbeats 1000000 in
theorem walk (a0 : Option Addr) (rs : List Rw) (cap0 : Nat) (w : World) (hgl : Glob w) (hrows : Rows_ w a0 rs) :
    Calls Tryd.prog 3 #[.slice a0 rs.length cap0] w fun e w' => e = .returned (.bool true) ∧ Below w.heap.size w w' := by
  have HG := Lib.hid hgl
  have HRW := Lib.hid hrows
  have hw2 := hgl.2
  clear hgl hrows
  obtain ⟨N, hN⟩ : ∃ N, N = rs.length := ⟨_, rfl⟩
  rw [← hN]
  have HN := Lib.hid hN
  clear hN
  by_cases hsm : N ≤ 20
  · have hni : ¬ (20 : Int) < (N : Int) := by omega
    go_enter Tryd.func3, Tryd.ntmps3
    go_upto_region 6 with (go_at_call 7; refine (awake_any _ HG.out).mono ?_; rintro e' w1 ⟨rfl, hB1⟩; have HB1 := Lib.hid hB1; clear hB1)
    go_cut [4] (fun p wx => ∃ g, p = .pointer (some ⟨g, 0, none⟩) ∧ w.heap.size ≤ g ∧ St w wx g [])
    case first =>
      go_wp2_with (go_at_call 8; refine (new_any _).mono ?_; rintro e' w5 ⟨rfl, hh5, hB5⟩; have HH5 := Lib.hid hh5; have HB5 := Lib.hid hB5; clear hh5 hB5)
      go_meet
      exact ⟨_, rfl, HB1.out.size, HH5.out, HB1.out.trans (HB5.out.mono HB1.out.size)⟩
    case rest =>
      obtain ⟨g, rfl, hg, ht⟩ := hcut
      have HT := Lib.hid ht
      clear ht HB1
      go_wp2_with fail
      go_loopg [5, 6] N (fun gh p i wx => ∃ k : Nat, ∃ xs : List UInt8, k + gh = N ∧ xs.length ≤ 500 * k ∧ p = .string (str xs) ∧ i = .int .i64 k ∧ St w wx g xs)
      case atStart => exact ⟨0, [], by omega, by simp, rfl, rfl, HT.out⟩
      case round =>
        obtain ⟨k, xs, hk, hxl, rfl, rfl, ht⟩ := hrel
        have HK := Lib.hid hk
        have HTr := Lib.hid ht
        have hk1 : k ≤ N := by omega
        have hx10 : xs.length ≤ 10000 := by omega
        clear hk ht HT
        by_cases hlt : k < N
        · have hlti : (k : Int) < (N : Int) := by omega
          have hlr : k < rs.length := by have := HN.out; omega
          obtain ⟨b, off, rfl, hbw, hr⟩ := HRW.out (by omega)
          have hrk := hr k hlr
          obtain ⟨R, hR⟩ : ∃ R, R = rs[k] := ⟨_, rfl⟩
          rw [← hR] at hrk
          have hcell : wr.cell? ⟨b, off + k, none⟩ = some (.slice R.A R.bs.length R.c) := (World.cell?_of_block (HTr.out.2.block b hbw)).trans hrk.cell
          obtain ⟨A, c, ys⟩ := R
          have hcell : wr.cell? ⟨b, off + k, none⟩ = some (.slice A ys.length c) := hcell
          have HD : Hid (Dat false w 0 w.heap.size A ys) := hrk.dat
          have hyc : ys.length ≤ c := hrk.cap
          clear hr hrk hR
          by_cases hbig : ys.length ≤ 500
          · have hbi : ¬ (500 : Int) < (ys.length : Int) := by omega
            go_upto_region 13 with fail
            go_cut [] (fun wx => St w wx g (xs ++ ys))
            case first =>
              go_wp2_with (go_at_call 9; refine (write_any (HG.out.below HTr.out.2 hw2) HTr.out.1 (HD.out.below HTr.out.2 (Nat.le_refl _)) rfl (by omega)).mono ?_; rintro e' w6 ⟨rfl, hh6, hg6⟩; have HT6 := Lib.hid (HTr.out.write hg hh6 hg6); clear hh6 hg6)
              go_meet
              exact HT6.out
            case rest =>
              have HT1 := Lib.hid (show St w wc g (xs ++ ys) from hcut)
              have hcell : wc.cell? ⟨b, off + k, none⟩ = some (.slice A ys.length c) := (World.cell?_of_block ((HT1.out.2.block b hbw).trans (HTr.out.2.block b hbw).symm)).trans hcell
              clear hcut
              have hcv : (convert 26 9 (.slice A ys.length c)).run Tryd.prog wc = .ok (.string (str ys)) wc := run_str (P := Tryd.prog) wc 26 Tryd.underlying26 Tryd.underlying5 (c := c) (HD.out.below HT1.out.2 (Nat.le_refl _)) rfl 9 Tryd.underlying9
              have hsz : ¬ 9223372036854775807 < (str xs).size + (str ys).size := by
                show ¬ 9223372036854775807 < xs.toArray.size + ys.toArray.size
                rw [List.size_toArray, List.size_toArray]
                omega
              go_upto_region 14 with fail
              go_cut [5] (fun p wx => wc = wx ∧ p = .string (str (xs ++ ys)))
              case first =>
                go_wp2_with fail
                go_meet
                exact ⟨rfl, by rw [str_app]⟩
              case rest =>
                obtain ⟨rfl, rfl⟩ := hcut
                obtain ⟨us, hus⟩ : ∃ us, us = xs ++ ys := ⟨_, rfl⟩
                have hul : us.length ≤ 500 * (k + 1) := by rw [hus, List.length_append]; omega
                have hu10 : us.length ≤ 10500 := by omega
                rw [← hus] at HT1 ⊢
                clear hus hsz hcv HTr
                obtain ⟨Z, hZ⟩ : ∃ Z, Z = ((crcOf us).toNat : Int) := ⟨_, rfl⟩
                have HSUM : Hid (∀ W, St w W g us → Calls Tryd.prog 10 #[.pointer (some ⟨g, 0, none⟩)] W fun e w' => e = .returned (.int .u32 Z) ∧ Below W.heap.size W w') := fun W hW => by rw [hZ]; exact sum_any hW.1
                have HREF : Hid (∀ W, Calls Tryd.prog 11 #[.string (str us)] W fun e w' => e = .returned (.int .u32 Z) ∧ Below W.heap.size W w') := fun W => by rw [hZ]; exact of_any (str us) W (by show us.toArray.size ≤ _; rw [List.size_toArray]; omega)
                clear hZ
                go_wp2_with (first
                  | (go_at_call 10; refine (HSUM.out _ HT1.out).mono ?_; rintro e' w6 ⟨rfl, hB⟩; have HT2 := Lib.hid (HT1.out.step hB); clear hB HT1)
                  | (go_at_call 11; refine (HREF.out w6).mono ?_; rintro e' w7 ⟨rfl, hB⟩; have HT3 := Lib.hid (HT2.out.step hB); clear hB HT2))
                go_roundg (N - (k + 1))
                case measure => have := HK.out; omega
                case rel => exact ⟨k + 1, us, by omega, hul, rfl, by go_num, HT3.out⟩
          · have hbi : (500 : Int) < (ys.length : Int) := by omega
            go_wp2_with fail
            go_ret
            exact ⟨rfl, HTr.out.2⟩
        · have hk : k = N := by omega
          subst hk
          obtain ⟨Z, hZ⟩ : ∃ Z, Z = ((crcOf xs).toNat : Int) := ⟨_, rfl⟩
          have hss : (str xs).size ≤ 10000 := by show xs.toArray.size ≤ _; rw [List.size_toArray]; exact hx10
          have HSUM : Hid (∀ W, St w W g xs → Calls Tryd.prog 10 #[.pointer (some ⟨g, 0, none⟩)] W fun e w' => e = .returned (.int .u32 Z) ∧ Below W.heap.size W w') := fun W hW => by rw [hZ]; exact sum_any hW.1
          have HREF : Hid (∀ W, Calls Tryd.prog 11 #[.string (str xs)] W fun e w' => e = .returned (.int .u32 Z) ∧ Below W.heap.size W w') := fun W => by rw [hZ]; exact of_any (str xs) W (by omega)
          have HOF : Hid (∀ W, St w W g xs → Calls Tryd.prog 12 #[.slice (some ⟨W.heap.size, 0, none⟩) (str xs).size (grownCap W (str xs).size 0 5)] (Lib.bytesWorld W 5 (str xs)) fun e w' => e = .returned (.int .u32 Z) ∧ Below W.heap.size W w') := fun W hW => by
            rw [hZ]
            have hb := bytes_below W 5 (str xs)
            have hsz := hb.size
            refine (pof_any (ys := xs) (m := (str xs).size) ((HG.out.below hW.2 hw2).below hb (Nat.le_trans hw2 hW.2.size)) (dat_of_string W 5 (str xs) (by omega)) (by show _ = xs.toArray.size; rw [List.size_toArray]) (Nat.le_refl _) (by omega)).mono ?_
            rintro e w' ⟨he, hB⟩
            exact ⟨he, hb.trans (hB.mono hsz)⟩
          have kc := fun W => Lib.run_convert_string_bytes (P := Tryd.prog) W 9 26 5 (str xs) (u := .string) Tryd.underlying9 Tryd.underlying26 Tryd.underlying5
          clear hZ
          go_wp2_with (first
            | (go_at_call 10; refine (HSUM.out _ HTr.out).mono ?_; rintro e' w6 ⟨rfl, hB⟩; have HT2 := Lib.hid (HTr.out.step hB); clear hB HTr)
            | (go_at_call 11; refine (HREF.out w6).mono ?_; rintro e' w7 ⟨rfl, hB⟩; have HT3 := Lib.hid (HT2.out.step hB); clear hB HT2)
            | (go_at_call 12; refine (HOF.out w7 HT3.out).mono ?_; rintro e' w8 ⟨rfl, hB⟩; have HT4 := Lib.hid (HT3.out.step hB); clear hB HT3)
            | (go_at_call 11; refine (HREF.out w8).mono ?_; rintro e' w9 ⟨rfl, hB⟩; have HT5 := Lib.hid (HT4.out.step hB); clear hB HT4))
          go_ret
          exact ⟨rfl, HT5.out.2⟩
  · have hni : (20 : Int) < (N : Int) := by omega
    go_enter Tryd.func3, Tryd.ntmps3
    go_wp2_with (go_at_call 7; refine (awake_any _ HG.out).mono ?_; rintro e' w1 ⟨rfl, hB1⟩; have HB1 := Lib.hid hB1; clear hB1)
    go_ret
    exact ⟨rfl, HB1.out⟩

set_option maxRecDepth 100000 in
theorem lifted (os : Os) (started : os.Started) (H : Type) (enc : TypeId × Value → H) :
    ReturnsInHanded {} Tryd.checked os 3 .any (fun w args => (Rows.crcSumsSpec.pre enc Tryd.prog Tryd.f3 [] false w args ∧ laidMetH Tryd.prog laidL w) ∧ sizedMet enc Tryd.prog Tryd.f3 (OpenSpec.ofChange Rows.crcSumsSpec) false w args)
      (Rows.crcSumsSpec.post enc Tryd.prog Tryd.f3 false true false false) := by
  refine returnsInHanded_of_change_and (C := Tryd.checked) (X := fun w _ => laidMetH Tryd.prog laidL w) (fun _ _ _ hh h => h.of_heap hh) own started (by kernel_rfl) Tryd.func3
    (ChangeSpec.witness_shaped (enc := enc) (C := Tryd.checked) (os := os) (X := fun w _ => laidMetH Tryd.prog laidL w) false (World.doorLaid Tryd.prog 400 os) #[.slice none 0 0] 8 rfl (World.shaped_of_RefB (by kernel_rfl) (by kernel_rfl)) (by kernel_rfl) (by kernel_rfl) (by kernel_rfl) (door_met os _)) ?_
  intro W base args ds gs before hval0 hW _ _ hL _
  have hval : ∀ (j : Nat) t v, Tryd.f3.params[j]? = some t → args[j]? = some v → Value.okWide Tryd.prog W .any base t v := hval0
  have hW' := hW
  obtain ⟨p, q, hA0, hV, rfl, hfz, hnd⟩ := hW
  have hA : DataW.TrodAll enc Tryd.prog W 0 (fun _ => true) true Tryd.f3.params.toList args.toList ds p := hA0
  rw [Tryd.params3] at hA hval
  obtain ⟨v0, vs0, d0, ds0, p0, q0, hargs, rfl, rfl, h0, r0⟩ := trodAll_cons hA
  obtain ⟨rfl, rfl, rfl⟩ := trodAll_nil r0
  obtain rfl : args = #[v0] := by cases args; simp_all
  obtain ⟨rfl, rfl⟩ := trodVars_none hV
  obtain ⟨a0, len0, cap0, rfl⟩ := okWide_slice Tryd.underlying22 (hval 0 22 v0 rfl rfl)
  have k0 := h0
  have lt0 : ∀ x ∈ p0, x.block < W.heap.size := by obtain ⟨m, hm⟩ := k0; exact DataW.trod_lt m _ _ _ hm
  obtain ⟨rs, rfl, hl1, hm1, hrows⟩ : ∃ rs : List Rw, rs.length = len0 ∧ len0 ≤ cap0 ∧ cap0 ≤ maxLen ∧ Rows_ W a0 rs := by
    obtain ⟨fuel, hf⟩ := h0
    exact rows_of hf
  clear hA0 hval0
  refine (walk a0 rs cap0 W (glob_of_laid hL) hrows).mono fun e W' ⟨he, bel⟩ => ?_
  subst he
  exact ⟨_, rfl, _, _, _, [], _, [], hW', trodAll_mk1 (shut_bool Tryd.underlying4 _), (trodAll_cons_mk (Below.trod laidOut (by kernel_rfl) (of_decide_eq_true (by kernel_rfl)) k0 bel lt0) trodAll_mk0), rfl, bel.frame _, fun h => by cases h⟩

theorem over : Rows.crcSumsRow.holds Tryd.pinned (OpenSpec.ofChange Rows.crcSumsSpec) :=
  OpenClaim.holds_of_wide 3 Tryd.f3 rfl rfl rfl rfl rfl rfl rfl ⟨rfl, rfl, rfl, rfl, rfl⟩ rfl rfl rfl rfl rfl (by kernel_rfl) Tryd.func3 (by kernel_rfl)
    (of_decide_eq_true (by kernel_rfl)) (by unfold Func.isWrapper; first | (rw [if_pos (by decide +kernel)]; kernel_rfl) | (rw [if_neg (by decide +kernel)]; exact ⟨rfl, rfl⟩))
    (fun os started H enc _ => lifted os started H enc)

/-- ████ THE STATEMENT ████ -/
theorem proved : Rows.CrcSumsCardSaid :=
  Claim7.holds_tied_plain_at .later [] [.data] true Rows.crcSumsCard.stood.harness false
    over (fun _ h => by cases h) (by kernel_rfl) (fun _ h => by cases h) crcSums_row_tie rfl ⟨rfl, rfl⟩ (by kernel_rfl) rfl
    (fun f fn hf hfn => by
      obtain rfl : f = 3 := Option.some.inj ((show Tryd.prog.funcNamed Rows.crcSumsRow.func = some 3 by kernel_rfl).symm.trans hf) |>.symm
      obtain rfl : fn = Tryd.f3 := (Option.some.inj (Tryd.func3.symm.trans hfn)).symm
      exact ⟨by kernel_rfl, fun j t ht => by
        rw [Tryd.params3] at ht
        have hm : t ∈ [22] := by
          have := Array.mem_of_getElem? ht
          simp at this
          simpa using this
        have hall : ([22].all fun u => !Tryd.prog.wantsStandIn u) = true := by kernel_rfl
        exact (show Tryd.prog.wantsStandIn t = false by simpa using List.all_eq_true.1 hall t hm)⟩)
    (by kernel_rfl)
#print axioms proved
end Go.Proofs.YtliieipgmjnnfaaDoor.crcSums
