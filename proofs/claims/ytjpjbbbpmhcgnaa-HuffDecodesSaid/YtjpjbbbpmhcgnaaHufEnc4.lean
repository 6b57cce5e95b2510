
/- The contract of the program's Encode4. -/
import Derived.Test.YtjpjbbbpmhcgnaaHufJoin
import Derived.Test.YtjpjbbbpmhcgnaaHufDec4
namespace Go.Proofs.Ytjpjbbbpmhcgnaa
open Go.RowKit

/-- What Encode4 tells. -/
def E4Res (ws ls : List UInt8) (r : List UInt8 × Int) : Prop := (∃ d, MayW d (nat ws) ∧ CountOk ls.length ∧ Coded (nat ws) (nat ls) ∧ 3 * kF ls.length ≤ ls.length ∧ r = (joinF (encF d (nat ws) ls), 0)) ∨
  ((∀ d, MayW d (nat ws) → CountOk ls.length → Coded (nat ws) (nat ls) → ls.length < 3 * kF ls.length) ∧ r = ([], 1))
/-- Where stream i begins. -/
def atF (n i : Nat) : Nat := if i ≤ 3 then i * kF n else n
theorem atF_succ {n i : Nat} (h : 3 * kF n ≤ n) (hi : i < 4) : atF n i + cntF n i = atF n (i + 1) := by
  unfold atF cntF
  rcases (show i = 0 ∨ i = 1 ∨ i = 2 ∨ i = 3 by omega) with rfl | rfl | rfl | rfl
  all_goals simp
  all_goals omega
theorem atF_le {n i : Nat} (h : 3 * kF n ≤ n) : atF n i ≤ n := by
  unfold atF
  split
  · have : i * kF n ≤ 3 * kF n := Nat.mul_le_mul_right _ (by omega)
    omega
  · omega
theorem symL_at (ls : List UInt8) {i : Nat} (hi : i < 4) : symL ls i = (ls.drop (atF ls.length i)).take (cntF ls.length i) := by
  unfold symL atF
  rw [if_pos (by omega)]
theorem encF_le {d : Nat} {L : List Nat} {ls : List UInt8} (hM : MayW d L) (i : Nat) : (encF d L ls i).length ≤ 2 * ls.length + 1 := by
  have h1 := encB_len hM ((symL ls i).map (·.toNat))
  have h2 : ((symL ls i).map (·.toNat)).length ≤ ls.length := by
    unfold symL
    rw [List.length_map, List.length_take, List.length_drop]
    omega
  unfold encF
  rw [encS_len]
  omega
/-- The four in an array, the first j of them streams. -/
def EncB (ps : Nat → List UInt8) (w : World) (b j : Nat) (PA : Nat → Option Addr) (L PC : Nat → Nat) : Prop :=
  Box w b 48 #[.slice (PA 0) (L 0) (PC 0), .slice (PA 1) (L 1) (PC 1), .slice (PA 2) (L 2) (PC 2), .slice (PA 3) (L 3) (PC 3)] ∧ ∀ i, i < j → (ps i).length = L i ∧ Dat true w (b + 1) w.heap.size (PA i) (ps i)
theorem EncB.put {ps : Nat → List UInt8} {w w' : World} {b j : Nat} {PA : Nat → Option Addr} {L PC : Nat → Nat} {A : Option Addr} {l c : Nat} (h : EncB ps w b j PA L PC) (hj : j < 4) (hB : Below w.heap.size w w') (hl : (ps j).length = l) (hd : Dat true w' w.heap.size w'.heap.size A (ps j)) :
    EncB ps (w'.setCell ⟨b, j, none⟩ (.slice A l c)) b (j + 1) (fun i => if i = j then A else PA i) (fun i => if i = j then l else L i) (fun i => if i = j then c else PC i) := by
  have hlt := h.1.lt
  refine ⟨?_, ?_⟩
  · have hb := (h.1.below hB hlt).put j (.slice A l c)
    rcases (show j = 0 ∨ j = 1 ∨ j = 2 ∨ j = 3 by omega) with rfl | rfl | rfl | rfl
    all_goals exact hb
  · intro i hi
    dsimp only
    by_cases e : i = j
    · subst e
      rw [if_pos rfl, if_pos rfl]
      exact ⟨hl, (hd.mono (by omega) (by simp)).far (.inl (by show b < b + 1; omega)) _⟩
    · rw [if_neg e, if_neg e]
      obtain ⟨h1, h2⟩ := h.2 i (by omega)
      exact ⟨h1, ((h2.below hB (Nat.le_refl _)).mono (Nat.le_refl _) (by simpa using hB.size)).far (.inl (by show b < b + 1; omega)) _⟩

section
variable {w : World}
set_option maxRecDepth 100000 in
set_option maxHeartbeats 4000000 in
theorem hufEncode4_any {own own2 : Bool} {lo hi lo2 hi2 m c n c2 : Nat} {A A2 : Option Addr} {ws ls : List UInt8} (hd : Dat own w lo hi A ws) (hm : ws.length = m) (hmb : m ≤ 100000) (hhi : hi ≤ w.heap.size)
    (hl : Dat own2 w lo2 hi2 A2 ls) (hn : ls.length = n) (hnb : n ≤ 1099511627776) (hc2 : n ≤ c2) (hhi2 : hi2 ≤ w.heap.size) :
    Calls Try.prog 17 #[.slice A m c, .slice A2 n c2] w fun e w' => ∃ r, E4Res ws ls r ∧ OPost w r e w' := by
  have HC := Lib.hid (codesOfAll_any (c := c) (c2 := c2) hd hm hmb hhi hl hn hnb hhi2)
  have HX := Lib.hid (And.intro hl hn)
  clear hd hm hl hn
  go_enter Try.func17, Try.ntmps17
  go_wp2_with fail
  refine HC.out.mono ?_
  rintro e w1 ⟨hB1, ⟨d, v, hM, hk, hCd, rfl, hO⟩ | ⟨hno, rfl⟩⟩
  · obtain ⟨A', c', rfl, hc', hR⟩ := hO.form ccell_len
    have hcl : (codesOf d (nat ws)).length = (nat ws).length := by simp [codesOf]
    obtain ⟨q, hq⟩ : ∃ q, q = (codesOf d (nat ws)).length := ⟨_, rfl⟩
    rw [← hq]
    have hn2 := hk.2
    have hn3 : n ≤ 131072 := by rw [HX.out.2] at hn2; omega
    have HQ := Lib.hid (And.intro hM (And.intro hk (And.intro hB1 (And.intro hCd (And.intro (hcl.symm.trans hq.symm) hR)))))
    have hs1 := hB1.size
    clear hM hO hB1 hR hcl hc' hq hk HC hCd hn2
    have HCn := fun W => Lib.hid (countsOf_any (w := W) n (by omega))
    go_wp2_with fail
    refine (HCn _).out.mono ?_
    rintro e w2 ⟨hB2, ⟨h3, rfl⟩ | ⟨h3, rfl⟩⟩
    · have hs2 := hB2.size
      have HB2 := Lib.hid (HQ.out.2.2.1.trans (hB2.mono hs1))
      have HR2 := Lib.hid (HQ.out.2.2.2.2.2.below hB2 (Nat.le_refl _))
      have hkl := kF_le n
      have HIx := Lib.hid (fun i hi W => idx4_any n i hi W)
      have H3 := Lib.hid h3
      clear hB2 HCn h3
      generalize hkk : kF n = kk at *
      generalize hll : n - 3 * kk = ll at *
      have HK := Lib.hid (And.intro hkk hll)
      clear hkk hll
      go_wp2_with fail
      have hpb := Box.new (w2.alloc (.cells #[.int .i64 (kk : Int), .int .i64 (kk : Int), .int .i64 (kk : Int), .int .i64 (ll : Int)] 45)) 48 #[.slice none 0 0, .slice none 0 0, .slice none 0 0, .slice none 0 0]
      have hB3 := ((Below.refl w2.heap.size w2).alloc (Nat.le_refl _) (.cells #[.int .i64 (kk : Int), .int .i64 (kk : Int), .int .i64 (kk : Int), .int .i64 (ll : Int)] 45)).alloc (by simp) (.cells #[.slice none 0 0, .slice none 0 0, .slice none 0 0, .slice none 0 0] 48)
      have hz3 : ((w2.alloc (.cells #[.int .i64 (kk : Int), .int .i64 (kk : Int), .int .i64 (kk : Int), .int .i64 (ll : Int)] 45)).alloc (.cells #[.slice none 0 0, .slice none 0 0, .slice none 0 0, .slice none 0 0] 48)).heap.size = w2.heap.size + 2 := by simp
      rw [World.size_alloc] at hpb
      generalize (w2.alloc (.cells #[.int .i64 (kk : Int), .int .i64 (kk : Int), .int .i64 (kk : Int), .int .i64 (ll : Int)] 45)).alloc (.cells #[.slice none 0 0, .slice none 0 0, .slice none 0 0, .slice none 0 0] 48) = w3 at *
      obtain ⟨b, hb⟩ : ∃ b, b = w2.heap.size + 1 := ⟨_, rfl⟩
      rw [← hb] at hpb ⊢
      have hb2 : w2.heap.size < b := by omega
      have hb3 : b < w3.heap.size := by omega
      have HB3 := Lib.hid hB3
      have HPb := Lib.hid hpb
      clear hB3 hpb hz3 hb
      go_loopg [11, 12, 13, 32, 34, 35] 4 (fun gh v11 v12 v13 v32 v34 v35 wx => ∃ j : Nat, v32 = .int .i64 (j : Int) ∧ v11 = .int .i64 (atF n j : Nat) ∧ j + gh = 4 ∧ Below b w3 wx ∧ ∃ PA L PC, EncB (encF d (nat ws) ls) wx b j PA L PC)
      case atStart => exact ⟨0, rfl, by unfold atF; simp, rfl, Below.refl _ _, fun _ => none, fun _ => 0, fun _ => 0, HPb.out, fun i hi => absurd hi (by omega)⟩
      case round =>
        obtain ⟨j, rfl, rfl, hj, hB, PA, L, PC, hE⟩ := hrel
        have h3 : 3 * kF n ≤ n := by rw [HK.out.1]; exact H3.out
        have HE := Lib.hid (And.intro hB hE)
        have hBs := hB.size
        have hHB := HB3.out.trans (hB.mono (by omega))
        have HBw := Lib.hid (HB2.out.trans (hHB.mono (by omega)))
        have HRj := Lib.hid (HR2.out.below hHB (by omega))
        have hXj := Lib.hid (HX.out.1.below HBw.out hhi2)
        have hls := HX.out.2
        have HLs := Lib.hid hls
        clear hB hHB
        by_cases hlt : j < 4
        · obtain ⟨g', rfl⟩ : ∃ g', gk = g' + 1 := ⟨gk - 1, by omega⟩
          have hjz : (j : Int) < 4 := by omega
          have hidx := HIx.out j hlt
          have hcu : Dat false wr lo2 hi2 (if c2 = atF n j then A2 else A2.map (·.add (atF n j))) (symL ls j) := by
            rw [symL_at ls hlt, hls]
            exact ((hXj.out.weak.cut (c := c2) (k := atF n j) (by omega)).take _)
          have has := atF_succ h3 hlt
          have hal : atF n (j + 1) ≤ n := atF_le h3
          have hsl : (symL ls j).length = cntF n j := by have := symL_len (ls := ls) (by rw [hls]; exact h3) hlt; rw [hls] at this; exact this
          have hsc := symL_coded HQ.out.2.2.2.1 j
          have HWr := Lib.hid (fun cc => writeH_any (c := c') (c2 := cc) HQ.out.1 HRj.out HQ.out.2.2.2.2.1 (by omega) hcu hsl (by omega) (by omega) hsc)
          have HSum := Lib.hid has
          have HSl := Lib.hid hsl
          clear hcu hsc hls hsl hE hXj
          have hEl : b < wr.heap.size := by omega
          generalize hat : atF n j = at0 at *
          generalize hct : cntF n j = ct at *
          obtain ⟨at1, hat1⟩ : ∃ at1, at1 = atF n (j + 1) := ⟨_, rfl⟩
          rw [← hat1] at has hal HSum
          have hwz : IntKind.i64.wrap ((at0 : Int) + (ct : Int)) = (at1 : Int) := by rw [IntWalk.i64_in _ (by omega)]; omega
          have hz0 : (at0 : Int) ≤ (at1 : Int) := by omega
          have hz1 : (at1 : Int) ≤ (c2 : Int) := by omega
          have hz2 : at1 - at0 = ct := by omega
          have HAt := Lib.hid hat1
          by_cases hce : c2 = at0
          all_goals
            first | (rw [if_pos hce] at HWr; replace hce := hce.symm) | rw [if_neg hce] at HWr
            clear hat hct has hat1
            go_wp2_with fail
            refine (HWr.out _).mono ?_
            rintro e w4 ⟨v, rfl, hO, hB4⟩
            obtain ⟨A4, c4, rfl, hc4, hD4⟩ := hO.form
            obtain ⟨l4, hl4⟩ : ∃ l4, l4 = (encS d (nat ws) (List.map (·.toNat) (symL ls j))).length := ⟨_, rfl⟩
            have HE4 := Lib.hid (HE.out.2.put (c := c4) hlt hB4 hl4.symm hD4)
            have hbx4 := HE.out.2.1.below hB4 (by omega)
            have hs4 := hB4.size
            have hf4 := hbx4.free j
            have hcj : w4.cell? ⟨b, j, none⟩ = some (.slice (PA j) (L j) (PC j)) := by
              rcases (show j = 0 ∨ j = 1 ∨ j = 2 ∨ j = 3 by omega) with rfl | rfl | rfl | rfl
              · exact hbx4.cell 0
              · exact hbx4.cell 1
              · exact hbx4.cell 2
              · exact hbx4.cell 3
            have hb4l : b < w4.heap.size := by omega
            rw [← hl4]
            have HB4 := Lib.hid (HE.out.1.trans (hB4.mono (by omega)))
            clear hO hB4 hD4 hl4 hc4 hbx4 HWr hidx
            go_wp2_with fail
            go_roundg g'
            case measure => omega
            case rel => exact ⟨j + 1, by go_num, by rw [← HAt.out]; try (congr 1; omega), by omega, HB4.out.setCell (Nat.le_refl _) _, _, _, _, HE4.out⟩
        · obtain rfl : j = 4 := by omega
          have hjz : ¬ ((4 : Nat) : Int) < 4 := by decide
          have c0 : wr.cell? ⟨b, 0, none⟩ = some (.slice (PA 0) (L 0) (PC 0)) := hE.1.cell 0
          have c1 : wr.cell? ⟨b, 1, none⟩ = some (.slice (PA 1) (L 1) (PC 1)) := hE.1.cell 1
          have c2' : wr.cell? ⟨b, 2, none⟩ = some (.slice (PA 2) (L 2) (PC 2)) := hE.1.cell 2
          have c3 : wr.cell? ⟨b, 3, none⟩ = some (.slice (PA 3) (L 3) (PC 3)) := hE.1.cell 3
          have hEl := hE.1.lt
          have HJn := Lib.hid (join_any (w := wr) (ps := encF d (nat ws) ls) PA L PC (fun i hi => (hE.2 i hi).2) (fun i hi => (hE.2 i hi).1) (fun i hi => by
            rw [← (hE.2 i (by omega)).1]
            exact encF_short HQ.out.1 (by rw [hls]; omega) i hi) (by rw [← (hE.2 3 (by omega)).1]; have := encF_le (ls := ls) HQ.out.1 3; rw [hls] at this; omega) (Nat.le_refl _))
          clear hE hls
          go_wp2_with fail
          refine HJn.out.mono ?_
          rintro e w4 ⟨hB4, v, rfl, hO⟩
          obtain ⟨A4, n4, c4, rfl⟩ := hO.slice
          have hwl : w.heap.size ≤ wr.heap.size := by omega
          have HO := Lib.hid (And.intro (hO.mono hwl) (HBw.out.trans (hB4.mono hwl)))
          clear hO hB4 HJn c0 c1 c2' c3
          go_wp2_with fail
          go_ret2
          exact ⟨_, .inl ⟨d, HQ.out.1, HQ.out.2.1, HQ.out.2.2.2.1, by rw [HLs.out]; exact h3, rfl⟩, HO.out.2, _, rfl, HO.out.1⟩
    · have HB2 := Lib.hid (HQ.out.2.2.1.trans (hB2.mono hs1))
      have hs2 := hB2.size
      have H3 := Lib.hid h3
      clear hB2 HCn h3
      go_wp2_with fail
      go_ret2
      exact ⟨_, .inr ⟨fun _ _ _ _ => by rw [HX.out.2]; exact H3.out, rfl⟩, HB2.out.alloc (by omega) _, _, rfl, OwB.nil _ _ _⟩
  · go_wp2_with fail
    go_ret2
    exact ⟨_, .inr ⟨fun d h1 h2 h3 => absurd h3 (hno d h1 h2), rfl⟩, hB1, _, rfl, OwB.nil _ _ _⟩
end
end Go.Proofs.Ytjpjbbbpmhcgnaa
