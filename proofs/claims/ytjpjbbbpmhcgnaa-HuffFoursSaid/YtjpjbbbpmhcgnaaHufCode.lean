
/- The contracts of the program's codesFor, codesOfAll, Decode and Encode. -/
import Derived.Test.YtjpjbbbpmhcgnaaHufRead
import Derived.Test.YtjpjbbbpmhcgnaaHufWrite
namespace Go.Proofs.Ytjpjbbbpmhcgnaa
open Go.RowKit

theorem nat_le255 {xs : List UInt8} : ∀ x ∈ nat xs, x ≤ 255 := by
  intro x hx
  obtain ⟨y, _, rfl⟩ := List.mem_map.1 hx
  have := y.toNat_lt
  omega
theorem Dat.weak {own : Bool} {w : World} {lo hi : Nat} {A : Option Addr} {xs : List UInt8} (h : Dat own w lo hi A xs) : Dat false w lo hi A xs := fun hx => by
  obtain ⟨d, o, h1, h2, h3, h4, _⟩ := h hx
  exact ⟨d, o, h1, h2, h3, h4, fun q => by cases q⟩
theorem may_uni {d d' : Nat} {l : List Nat} (h : MayW d l) (h' : MayW d' l) : d = d' := may_depth h h'.2.2.2.1
theorem nat_getD (ws : List UInt8) (i : Nat) : (nat ws).getD i 0 = (ws.getD i 0).toNat := by
  unfold nat
  rw [List.getD_eq_getElem?_getD, List.getElem?_map, List.getD_eq_getElem?_getD]
  cases ws[i]? <;> rfl

/-- So many symbols are no more than a block's. -/
def CountOk (n : Int) : Prop := 0 ≤ n ∧ n ≤ 131072
/-- What codesFor answers. -/
def ForPost (ws : List UInt8) (n : Int) (w : World) (e : Ending) (w' : World) : Prop :=
  Below w.heap.size w w' ∧ ((∃ d v, MayW d (nat ws) ∧ CountOk n ∧ e = .returned (.tuple #[v, .int .i64 0]) ∧ OwR 2 ccell w' 74 w.heap.size v (codesOf d (nat ws))) ∨ ((∀ d, MayW d (nat ws) → ¬ CountOk n) ∧ e = .returned (.tuple #[.slice none 0 0, .int .i64 1])))
/-- What codesOfAll answers. -/
def AllPost (ws ls : List UInt8) (w : World) (e : Ending) (w' : World) : Prop :=
  Below w.heap.size w w' ∧ ((∃ d v, MayW d (nat ws) ∧ CountOk ls.length ∧ Coded (nat ws) (nat ls) ∧ e = .returned (.tuple #[v, .int .i64 0]) ∧ OwR 2 ccell w' 74 w.heap.size v (codesOf d (nat ws))) ∨
    ((∀ d, MayW d (nat ws) → CountOk ls.length → ¬ Coded (nat ws) (nat ls)) ∧ e = .returned (.tuple #[.slice none 0 0, .int .i64 1])))

/-- What Decode tells. -/
def DRes (ws xs : List UInt8) (n : Int) (r : List UInt8 × Int) : Prop := (∃ d, MayW d (nat ws) ∧ CountOk n ∧ r = strm d (nat ws) xs n.toNat) ∨ ((∀ d, MayW d (nat ws) → ¬ CountOk n) ∧ r = ([], 1))
theorem DRes.uni {ws xs : List UInt8} {n : Int} {r r' : List UInt8 × Int} (h : DRes ws xs n r) (h' : DRes ws xs n r') : r = r' := by
  rcases h with ⟨d, h1, h2, rfl⟩ | ⟨h1, rfl⟩ <;> rcases h' with ⟨d', k1, k2, rfl⟩ | ⟨k1, rfl⟩
  · rw [may_uni h1 k1]
  · exact absurd h2 (k1 d h1)
  · exact absurd k2 (h1 d' k1)
  · rfl
/-- What Encode tells. -/
def ERes (ws ls : List UInt8) (r : List UInt8 × Int) : Prop := (∃ d, MayW d (nat ws) ∧ CountOk ls.length ∧ Coded (nat ws) (nat ls) ∧ r = (encS d (nat ws) (nat ls), 0)) ∨ ((∀ d, MayW d (nat ws) → CountOk ls.length → ¬ Coded (nat ws) (nat ls)) ∧ r = ([], 1))
/-- What a call answers that makes bytes of its own, or an error. -/
def OPost (w : World) (r : List UInt8 × Int) (e : Ending) (w' : World) : Prop :=
  Below w.heap.size w w' ∧ ∃ v, e = .returned (.tuple #[v, .int .i64 r.2]) ∧ OwB w' 5 w.heap.size v r.1
theorem BPost.up {w w1 w' : World} {r : List UInt8 × Int} {e : Ending} (h : BPost w1 r e w') (hB : Below w.heap.size w w1) : BPost w r e w' := by
  obtain ⟨h1, A, c, he, hc, hd⟩ := h
  exact ⟨hB.trans (h1.mono hB.size), A, c, he, hc, hd.mono hB.size (Nat.le_refl _)⟩

section
variable {w : World}
set_option maxRecDepth 100000 in
set_option maxHeartbeats 2000000 in
theorem codesFor_any {own : Bool} {lo hi m c : Nat} {A : Option Addr} {ws : List UInt8} (n : Int) (hd : Dat own w lo hi A ws) (hm : ws.length = m) (hmb : m ≤ 100000) (hhi : hi ≤ w.heap.size) :
    Calls Try.prog 18 #[.slice A m c, .int .i64 n] w (ForPost ws n w) := by
  have HC := Lib.hid (codes_any (c := c) hd.nats (by simpa using hm) hmb nat_le255 hhi)
  have hD := Lib.hid hd
  clear hd hm
  go_enter Try.func18, Try.ntmps18
  go_wp2_with fail
  refine HC.out.mono ?_
  rintro e w1 ⟨hB1, ⟨d, v, hM, rfl, hO⟩ | ⟨hno, rfl⟩⟩
  · have HM := Lib.hid hM
    have HO := Lib.hid (And.intro hB1 hO)
    clear hM hO hB1
    by_cases h1 : n < 0
    · go_wp2_with fail
      go_ret2
      exact ⟨HO.out.1, .inr ⟨fun _ _ h => by have := h.1; omega, rfl⟩⟩
    · by_cases h2 : 131072 < n
      · go_wp2_with fail
        go_ret2
        exact ⟨HO.out.1, .inr ⟨fun _ _ h => by have := h.2; omega, rfl⟩⟩
      · go_wp2_with fail
        go_ret2
        exact ⟨HO.out.1, .inl ⟨d, v, HM.out, ⟨by omega, by omega⟩, rfl, HO.out.2⟩⟩
  · go_wp2_with fail
    go_ret2
    exact ⟨hB1, .inr ⟨fun d h => absurd h (hno d), rfl⟩⟩

set_option maxRecDepth 100000 in
set_option maxHeartbeats 2000000 in
theorem codesOfAll_any {own own2 : Bool} {lo hi lo2 hi2 m c n c2 : Nat} {A A2 : Option Addr} {ws ls : List UInt8} (hd : Dat own w lo hi A ws) (hm : ws.length = m) (hmb : m ≤ 100000) (hhi : hi ≤ w.heap.size)
    (hl : Dat own2 w lo2 hi2 A2 ls) (hn : ls.length = n) (hnb : n ≤ 1099511627776) (hhi2 : hi2 ≤ w.heap.size) :
    Calls Try.prog 27 #[.slice A m c, .slice A2 n c2] w (AllPost ws ls w) := by
  have HC := Lib.hid (codesFor_any (c := c) (n : Int) hd hm hmb hhi)
  have HL := Lib.hid (And.intro hl hn)
  clear hd hm hl hn
  go_enter Try.func27, Try.ntmps27
  go_wp2_with fail
  refine HC.out.mono ?_
  rintro e w1 ⟨hB1, ⟨d, v, hM, hk, rfl, hO⟩ | ⟨hno, rfl⟩⟩
  · have HM := Lib.hid (And.intro hM hk)
    have hcl : (codesOf d (nat ws)).length = (nat ws).length := by simp [codesOf]
    obtain ⟨A', c', rfl, hc', hR⟩ := hO.form ccell_len
    rw [hcl] at hc' hO ⊢
    have hw2 := hM.1
    obtain ⟨k, hk'⟩ : ∃ k, k = (nat ws).length := ⟨_, rfl⟩
    rw [← hk'] at hc' hO hw2 ⊢
    obtain ⟨dd, oo, hA', _, hdh, hcc⟩ := hR (by rw [hcl]; omega)
    subst hA'
    have HO := Lib.hid (And.intro hB1 (And.intro hO hk'))
    have HCc := Lib.hid hcc
    have hs1 := hB1.size
    clear hM hO hB1 hk' hR hcc hk HC
    go_wp2_with fail
    go_loopg [22] n (fun gh vi wx => ∃ j : Nat, vi = .int .i64 (j : Int) ∧ j + gh = n ∧ wx = w1 ∧ Coded (nat ws) ((nat ls).take j))
    case atStart => exact ⟨0, rfl, by omega, rfl, fun s hs => by simp at hs⟩
    case round =>
      obtain ⟨j, rfl, hj, rfl, hCd⟩ := hrel
      have HJ := Lib.hid (And.intro hj hCd)
      have hjn : j ≤ n := by omega
      clear hj hCd
      by_cases hlt : j < n
      · obtain ⟨g', rfl⟩ : ∃ g', gk = g' + 1 := ⟨gk - 1, by have := HJ.out.1; omega⟩
        have hjz : (j : Int) < (n : Int) := by omega
        have hjl : j < ls.length := by have := HL.out.2; omega
        obtain ⟨d2, o2, rfl, _, hd2, hc2, _⟩ := (HL.out.1.below HO.out.1 hhi2) (by omega)
        have hx := hc2 j hjl
        have hjn2 : j < (nat ls).length := by rw [nat_len]; exact hjl
        have htk : (nat ls).take (j + 1) = (nat ls).take j ++ [(ls.getD j 0).toNat] := by
          rw [List.take_succ_eq_append_getElem hjn2]
          simp [nat, List.getD, hjl]
        have hmem : (ls.getD j 0).toNat ∈ nat ls := by
          rw [show (ls.getD j 0).toNat = (nat ls)[j] by simp [nat, List.getD, hjl]]
          exact List.getElem_mem _
        unfold cel at hx
        have HT := Lib.hid (And.intro htk hmem)
        clear hc2 htk hmem
        have hx8 := (ls.getD j 0).toNat_lt
        generalize (ls.getD j 0).toNat = x at *
        by_cases hxk : x < k
        · have hxz : (x : Int) < (k : Int) := by omega
          have hxz2 : ¬ (k : Int) ≤ (x : Int) := by omega
          have hce : (codesOf d (nat ws))[x]'(by rw [hcl, ← HO.out.2.2]; exact hxk) = (bitsW d (nat ws) x, codeW (nat ws) x) := by simp [codesOf]
          have e0 := HCc.out x (by rw [hcl, ← HO.out.2.2]; exact hxk) 0
          rw [hce] at e0
          have d0 := e0 _ rfl
          simp only [Nat.add_zero] at d0
          clear e0 hce
          by_cases hp : 0 < (nat ws).getD x 0
          · have hb := bitsW_pos HM.out.1 (by rw [← HO.out.2.2]; exact hxk) hp
            have hb0 : ((bitsW d (nat ws) x : Int) == 0) = false := by rw [beq_eq_false_iff_ne]; omega
            generalize bitsW d (nat ws) x = B at *
            go_wp2_with fail
            go_roundg g'
            case measure => omega
            case rel =>
              refine ⟨j + 1, by go_num, by have := HJ.out.1; omega, rfl, ?_⟩
              rw [HT.out.1]
              intro s hs
              rcases List.mem_append.1 hs with h | h
              · exact HJ.out.2 s h
              · obtain rfl : s = x := by simpa using h
                exact ⟨by rw [← HO.out.2.2]; exact hxk, hp⟩
          · have hb0 : bitsW d (nat ws) x = 0 := by unfold bitsW; rw [if_pos (by omega)]
            rw [hb0] at d0
            go_wp2_with fail
            go_ret2
            exact ⟨HO.out.1, .inr ⟨fun d' hM' _ hc => hp (hc x HT.out.2).2, rfl⟩⟩
        · have hxz : (k : Int) ≤ (x : Int) := by omega
          go_wp2_with fail
          go_ret2
          exact ⟨HO.out.1, .inr ⟨fun d' hM' _ hc => hxk (by rw [HO.out.2.2]; exact (hc x HT.out.2).1), rfl⟩⟩
      · obtain rfl : j = n := by omega
        have hjz : ¬ (j : Int) < (j : Int) := by omega
        go_wp2_with fail
        go_ret2
        refine ⟨HO.out.1, .inl ⟨d, _, HM.out.1, by rw [HL.out.2]; exact HM.out.2, ?_, rfl, HO.out.2.1⟩⟩
        have := HJ.out.2
        rw [List.take_of_length_le (by rw [nat_len, HL.out.2]; exact Nat.le_refl _)] at this
        exact this
  · go_wp2_with fail
    go_ret2
    exact ⟨hB1, .inr ⟨fun d h hk => by rw [HL.out.2] at hk; exact absurd hk (hno d h), rfl⟩⟩

set_option maxRecDepth 100000 in
set_option maxHeartbeats 2000000 in
theorem hufDecode_any {own own2 : Bool} {lo hi lo2 hi2 m c k c2 : Nat} {A A2 : Option Addr} {ws xs : List UInt8} (n : Int) (hd : Dat own w lo hi A ws) (hm : ws.length = m) (hmb : m ≤ 100000) (hhi : hi ≤ w.heap.size)
    (hx : Dat own2 w lo2 hi2 A2 xs) (hk : xs.length = k) (hkb : k ≤ 1099511627776) (hhi2 : hi2 ≤ w.heap.size) :
    Calls Try.prog 10 #[.slice A m c, .slice A2 k c2, .int .i64 n] w fun e w' => ∃ r, DRes ws xs n r ∧ BPost w r e w' := by
  have HC := Lib.hid (codesFor_any (c := c) n hd hm hmb hhi)
  have HX := Lib.hid (And.intro hx hk)
  clear hd hm hx hk
  go_enter Try.func10, Try.ntmps10
  go_wp2_with fail
  refine HC.out.mono ?_
  rintro e w1 ⟨hB1, ⟨d, v, hM, hk, rfl, hO⟩ | ⟨hno, rfl⟩⟩
  · obtain ⟨A', c', rfl, hc', hR⟩ := hO.form ccell_len
    have hcl : (codesOf d (nat ws)).length = (nat ws).length := by simp [codesOf]
    obtain ⟨q, hq⟩ : ∃ q, q = (codesOf d (nat ws)).length := ⟨_, rfl⟩
    rw [← hq]
    have HTr := Lib.hid (treeOf_any (c := c') hM hR (hcl.symm.trans hq.symm) (Nat.le_refl _))
    have HQ := Lib.hid (And.intro hM (And.intro hk (And.intro hB1 (hcl.symm.trans hq.symm))))
    have hs1 := hB1.size
    obtain ⟨nn, rfl⟩ := Int.eq_ofNat_of_zero_le hk.1
    have hn2 := hk.2
    clear hM hO hB1 hR hcl hc' hq hk HC
    go_wp2_with fail
    refine HTr.out.mono ?_
    rintro e w2 ⟨rfl, hT, hB2⟩
    rw [← HQ.out.2.2.2] at hT
    have hs2 := hB2.size
    have HRd := Lib.hid (hufRead_any (n := nn) (c := c2) HQ.out.1 hT ((HX.out.1.below HQ.out.2.2.1 hhi2).below hB2 (by omega)) HX.out.2 hkb (by omega) (by omega))
    have HB2 := Lib.hid (HQ.out.2.2.1.trans (hB2.mono hs1))
    clear hT hB2 HTr
    go_wp2_with fail
    refine HRd.out.mono ?_
    rintro e w3 ⟨hB3, A3, c3, rfl, hc3, hd3⟩
    have hfin : BPost w (strm d (nat ws) xs nn) _ w3 := BPost.up ⟨hB3, A3, c3, rfl, hc3, hd3⟩ HB2.out
    have HF := Lib.hid (And.intro hfin (show DRes ws xs (nn : Int) (strm d (nat ws) xs nn) from .inl ⟨d, HQ.out.1, HQ.out.2.1, rfl⟩))
    clear hB3 hc3 hd3 hfin HRd
    generalize strm d (nat ws) xs nn = r at *
    obtain ⟨ys, er⟩ := r
    dsimp only at HF ⊢
    generalize ys.length = yl at HF ⊢
    go_wp2_with fail
    go_ret2
    exact ⟨_, HF.out.2, HF.out.1⟩
  · go_wp2_with fail
    go_ret2
    exact ⟨_, .inr ⟨fun d h => hno d h, rfl⟩, BPost.none hB1 rfl⟩

set_option maxRecDepth 100000 in
set_option maxHeartbeats 2000000 in
theorem hufEncode_any {own own2 : Bool} {lo hi lo2 hi2 m c n c2 : Nat} {A A2 : Option Addr} {ws ls : List UInt8} (hd : Dat own w lo hi A ws) (hm : ws.length = m) (hmb : m ≤ 100000) (hhi : hi ≤ w.heap.size)
    (hl : Dat own2 w lo2 hi2 A2 ls) (hn : ls.length = n) (hnb : n ≤ 1099511627776) (hhi2 : hi2 ≤ w.heap.size) :
    Calls Try.prog 14 #[.slice A m c, .slice A2 n c2] w fun e w' => ∃ r, ERes ws ls r ∧ OPost w r e w' := by
  have HC := Lib.hid (codesOfAll_any (c := c) (c2 := c2) hd hm hmb hhi hl hn hnb hhi2)
  have HX := Lib.hid (And.intro hl hn)
  clear hd hm hl hn
  go_enter Try.func14, Try.ntmps14
  go_wp2_with fail
  refine HC.out.mono ?_
  rintro e w1 ⟨hB1, ⟨d, v, hM, hk, hCd, rfl, hO⟩ | ⟨hno, rfl⟩⟩
  · obtain ⟨A', c', rfl, hc', hR⟩ := hO.form ccell_len
    have hcl : (codesOf d (nat ws)).length = (nat ws).length := by simp [codesOf]
    obtain ⟨q, hq⟩ : ∃ q, q = (codesOf d (nat ws)).length := ⟨_, rfl⟩
    rw [← hq]
    have hn2 := hk.2
    have HW := Lib.hid (writeH_any (c := c') (c2 := c2) hM hR (hcl.symm.trans hq.symm) (Nat.le_refl _) ((HX.out.1.below hB1 hhi2).weak) HX.out.2 (by have := hB1.size; omega) (by rw [HX.out.2] at hn2; omega) hCd)
    have HQ := Lib.hid (And.intro hM (And.intro hk (And.intro hB1 hCd)))
    have hs1 := hB1.size
    clear hM hO hB1 hR hcl hc' hq hk HC hCd
    go_wp2_with fail
    refine HW.out.mono ?_
    rintro e w2 ⟨v2, rfl, hO2, hB2⟩
    obtain ⟨A2', n2', c2', rfl⟩ := hO2.slice
    have HF := Lib.hid (And.intro (hO2.mono hs1) (HQ.out.2.2.1.trans (hB2.mono hs1)))
    clear hO2 hB2 HW
    go_wp2_with fail
    go_ret2
    exact ⟨_, .inl ⟨d, HQ.out.1, HQ.out.2.1, HQ.out.2.2.2, rfl⟩, HF.out.2, _, rfl, HF.out.1⟩
  · go_wp2_with fail
    go_ret2
    exact ⟨_, .inr ⟨hno, rfl⟩, hB1, _, rfl, OwB.nil _ _ _⟩
end
end Go.Proofs.Ytjpjbbbpmhcgnaa
