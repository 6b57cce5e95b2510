
/- The contracts of the document's one and stream. -/
import Derived.Test.YtjpjbbbpmhcgnaaHufCode
import Derived.Test.YtjpjbbbpmhcgnaaPileB
import Derived.Test.YtjpjbbbpmhcgnaaPileD
namespace Go.Proofs.Ytjpjbbbpmhcgnaa
open Go.RowKit

theorem bbox {w : World} {g : Nat} {t : TypeId} {v0 v1 : Value} (h : Box w g t #[v0, v1]) : w.cell? ⟨g, 0, none⟩ = some v0 ∧ w.cell? ⟨g, 1, none⟩ = some v1 ∧ w.frozen? ⟨g, 0, none⟩ = false ∧ w.frozen? ⟨g, 1, none⟩ = false := ⟨h.cell 0, h.cell 1, h.free 0, h.free 1⟩

/-- A number of bits as the document's B keeps it: those that are there, and how many lack. -/
def nB (left : Int) : Nat := left.toNat
def lkB (left : Int) : Int := (left.toNat : Int) - left
theorem lastB_any {xs : List UInt8} {w : World} {lo hi : Nat} {A : Option Addr} {c : Nat} {left : Int} (hd : DatE Value.bool w lo hi A ((bitsOf xs).take (nB left))) (hc : nB left ≤ c) (hb : xs.length ≤ 100000000)
    (hhi : hi ≤ w.heap.size) (hl : left ≤ 8 * xs.length) (hlow : -1000000000000 ≤ left) :
    Calls Try.prog 58 #[.agg #[.slice A (nB left) c, .int .i64 (lkB left)], .int .i64 1] w fun e w' =>
      e = .returned (.tuple #[.agg #[.slice A (nB (left - 1)) c, .int .i64 (lkB (left - 1))], .int .u64 (bt xs left : Nat)]) ∧ Below w.heap.size w w' := by
  have h := refLast_any (c := c) 1 hd hc hb hhi hl hlow
  rw [bread_bit hl] at h
  exact h

section
variable {w : World}
set_option maxRecDepth 100000 in
set_option maxHeartbeats 4000000 in
theorem refOneH_any {lo hi lo2 hi2 k cC c d : Nat} {A C : Option Addr} {L : List Nat} {xs : List UInt8} {left : Int} (hM : MayW d L) (hcs : DatR 2 ccell w lo hi C (codesOf d L)) (hk : L.length = k) (hhi : hi ≤ w.heap.size)
    (hd : DatE Value.bool w lo2 hi2 A ((bitsOf xs).take (nB left))) (hc : nB left ≤ c) (hb : xs.length ≤ 100000000) (hhi2 : hi2 ≤ w.heap.size) (hl : left ≤ 8 * xs.length) (hlow : -100000000000 ≤ left) :
    Calls Try.prog 37 #[.slice C k cC, .agg #[.slice A (nB left) c, .int .i64 (lkB left)]] w fun e w' =>
      e = .returned (.tuple #[.agg #[.slice A (nB (left - bitsW d L (symOf d L xs left))) c, .int .i64 (lkB (left - bitsW d L (symOf d L xs left)))], .int .u8 (symOf d L xs left : Nat)]) ∧ Below w.heap.size w w' := by
  have HM := Lib.hid (And.intro hM hk)
  have HC := Lib.hid hcs
  have HD := Lib.hid hd
  have hS := symOf_sym hM xs left
  have HS := Lib.hid hS
  have hb11 := bitsW_le (s := symOf d L xs left) hM
  have hbp := bitsW_pos hM hS.1 hS.2.1
  have h256 := hM.2.1
  rw [hk] at h256
  have hSk := hS.1
  rw [hk] at hSk
  have HF := Lib.hid (fun j s (hs : s < L.length) (hp : 0 < L.getD s 0) (h1 : bitsW d L s = j) (h2 : codeW L s = cdf xs left j) => sym_first hM hs hp h1 h2)
  clear hM hcs hd hk hS
  obtain ⟨S, hSe⟩ : ∃ S, S = symOf d L xs left := ⟨_, rfl⟩
  rw [← hSe] at HS hb11 hbp hSk HF ⊢
  clear hSe
  obtain ⟨BS, hBS⟩ : ∃ BS, BS = bitsW d L S := ⟨_, rfl⟩
  rw [← hBS] at hb11 hbp ⊢
  have HBS := Lib.hid hBS
  clear hBS
  go_enter Try.func37, Try.ntmps37
  go_wp2_with fail
  have hb0 := (Box.new w 78 #[.slice A (nB left) c, .int .i64 (lkB left)]).alloc (.cells #[.slice none 0 0, .int .i64 0] 78)
  have hb1 := Box.new (w.alloc (.cells #[.slice A (nB left) c, .int .i64 (lkB left)] 78)) 78 #[.slice none 0 0, .int .i64 0]
  rw [World.size_alloc] at hb1
  have H0 := Lib.hid (And.intro hb0 (And.intro hb1 (((Below.refl w.heap.size w).alloc (Nat.le_refl _) (.cells #[.slice A (nB left) c, .int .i64 (lkB left)] 78)).alloc (by simp) (.cells #[.slice none 0 0, .int .i64 0] 78))))
  clear hb0 hb1
  generalize (w.alloc (.cells #[.slice A (nB left) c, .int .i64 (lkB left)] 78)).alloc (.cells #[.slice none 0 0, .int .i64 0] 78) = w0 at *
  go_loopg [6, 7] BS (fun gh vc vb wx => ∃ j : Nat, vc = .int .i64 (cdf xs left j : Nat) ∧ vb = .int .i64 ((j + 1 : Nat) : Int) ∧ j + gh = BS ∧ j < BS ∧
    Box wx w.heap.size 78 #[.slice A (nB (left - j)) c, .int .i64 (lkB (left - j))] ∧ Box wx (w.heap.size + 1) 78 #[.slice none 0 0, .int .i64 0] ∧ Below w.heap.size w wx)
  case atStart => exact ⟨0, rfl, rfl, by omega, by omega, by rw [show left - ((0 : Nat) : Int) = left by omega]; exact H0.out.1, H0.out.2.1, H0.out.2.2⟩
  case round =>
    clear H0
    obtain ⟨j, rfl, rfl, hj, hjB, hx0, hx1, hB⟩ := hrel
    obtain ⟨g', rfl⟩ : ∃ g', gk = g' + 1 := ⟨gk - 1, by omega⟩
    have HJ := Lib.hid hj
    have hc0 := cdf_lt xs left j
    have hb2 := bt_lt xs (left - j)
    have hp11 : 2 ^ j ≤ 2048 := Nat.pow_le_pow_right (by omega) (show j ≤ 11 by omega)
    have HN := Lib.hid (show cdf xs left (j + 1) = 2 * cdf xs left j + bt xs (left - j) from rfl)
    have hnb : nB (left - j) ≤ nB left := by unfold nB; omega
    have HL := Lib.hid (lastB_any (w := wr) (c := c) (xs := xs) (left := left - j) (by
      have hdt := (HD.out.below hB hhi2).take (nB (left - j))
      rw [List.take_take, Nat.min_eq_left hnb] at hdt
      exact hdt) (by omega) hb (by have := hB.size; omega) (by omega) (by omega))
    have HX := Lib.hid (And.intro hx0 (And.intro hx1 hB))
    obtain ⟨c0, c1, f0, f1⟩ := bbox hx0
    have hx0l := hx0.lt
    have hx1l := hx1.lt
    have hwb : IntKind.i64.wrap (bt xs (left - j) : Int) = (bt xs (left - j) : Int) := IntWalk.i64_in _ (by omega)
    obtain ⟨Y, hY⟩ : ∃ Y, Y = cdf xs left (j + 1) := ⟨_, rfl⟩
    rw [← hY] at HN
    have HY := Lib.hid hY
    clear hY
    generalize cdf xs left j = X at *
    generalize bt xs (left - j) = b at *
    have hj11 : (j : Int) + 1 ≤ 11 := by omega
    clear hj hx0 hx1 hB
    go_wp2_with fail
    refine HL.out.mono ?_
    rintro e w1 ⟨rfl, hB1⟩
    have HB1 := Lib.hid hB1
    have e0 := HX.out.1.below hB1 hx0l
    have e1 := HX.out.2.1.below hB1 hx1l
    have hs1 := hB1.size
    obtain ⟨c0', c1', f0', f1'⟩ := bbox e0
    have HE := Lib.hid (And.intro e0 e1)
    have he0l := e0.lt
    clear e0 e1 hB1 c0 c1 f0 f1
    have hXY : (X : Int) * 2 + (b : Int) = (Y : Int) := by have := HN.out; omega
    have hXs : X ≤ 2048 := by omega
    go_wp2_with fail
    have HW5 : Hid (Box (((w1.setCell ⟨w.heap.size, 0, none⟩ (.slice A (nB (left - j - 1)) c)).setCell ⟨w.heap.size, 1, none⟩ (.int .i64 (lkB (left - j - 1)))).alloc (.cells #[.slice A (nB (left - j - 1)) c, .int .i64 (lkB (left - j - 1))] 78)) w.heap.size 78 #[.slice A (nB (left - j - 1)) c, .int .i64 (lkB (left - j - 1))] ∧
        Box (((w1.setCell ⟨w.heap.size, 0, none⟩ (.slice A (nB (left - j - 1)) c)).setCell ⟨w.heap.size, 1, none⟩ (.int .i64 (lkB (left - j - 1)))).alloc (.cells #[.slice A (nB (left - j - 1)) c, .int .i64 (lkB (left - j - 1))] 78)) (w.heap.size + 1) 78 #[.slice none 0 0, .int .i64 0] ∧
        Below w.heap.size w (((w1.setCell ⟨w.heap.size, 0, none⟩ (.slice A (nB (left - j - 1)) c)).setCell ⟨w.heap.size, 1, none⟩ (.int .i64 (lkB (left - j - 1)))).alloc (.cells #[.slice A (nB (left - j - 1)) c, .int .i64 (lkB (left - j - 1))] 78))) := by
      refine ⟨?_, ?_, ?_⟩
      · exact ((HE.out.1.put 0 _).put 1 _).alloc _
      · exact ((HE.out.2.far (by show w.heap.size + 1 ≠ w.heap.size; omega) _).far (by show w.heap.size + 1 ≠ w.heap.size; omega) _).alloc _
      · have hb := ((HX.out.2.2.trans (HB1.out.mono HX.out.2.2.size)).setCell (p := ⟨w.heap.size, 0, none⟩) (Nat.le_refl _) (.slice A (nB (left - j - 1)) c)).setCell (p := ⟨w.heap.size, 1, none⟩) (Nat.le_refl _) (.int .i64 (lkB (left - j - 1)))
        exact hb.alloc hb.size _
    clear c0' c1' f0' f1' HE HX HB1 HL
    generalize ((w1.setCell ⟨w.heap.size, 0, none⟩ (.slice A (nB (left - j - 1)) c)).setCell ⟨w.heap.size, 1, none⟩ (.int .i64 (lkB (left - j - 1)))).alloc (.cells #[.slice A (nB (left - j - 1)) c, .int .i64 (lkB (left - j - 1))] 78) = w5 at *
    go_loopg [10] k (fun g2 vi wx => ∃ i : Nat, vi = .int .i64 (i : Int) ∧ i + g2 = k ∧ wx = w5 ∧ ∀ s, s < i → ¬ (bitsW d L s = j + 1 ∧ codeW L s = Y))
    case atStart => exact ⟨0, rfl, by omega, rfl, fun s hs => by omega⟩
    case round =>
      obtain ⟨i, rfl, hi, rfl, hno⟩ := hrel
      have HI := Lib.hid (And.intro hi hno)
      have hik : i ≤ k := by omega
      clear hi hno
      by_cases hlt : i < k
      · obtain ⟨g3, rfl⟩ : ∃ g3, gk = g3 + 1 := ⟨gk - 1, by have := HI.out.1; omega⟩
        have hiz : (i : Int) < (k : Int) := by omega
        have hil : i < L.length := by have := HM.out.2; omega
        have hcl : (codesOf d L).length = L.length := by simp [codesOf]
        obtain ⟨dd, oo, rfl, _, hdh, hcc⟩ := HC.out (by rw [hcl]; omega)
        have hce : (codesOf d L)[i]'(by rw [hcl]; exact hil) = (bitsW d L i, codeW L i) := by simp [codesOf]
        have e0 := hcc i (by rw [hcl]; exact hil) 0
        have e1 := hcc i (by rw [hcl]; exact hil) 1
        rw [hce] at e0 e1
        have d0 := (HW5.out.2.2.cell (p := ⟨dd, oo + i * 2 + 0, none⟩) (by exact Nat.lt_of_lt_of_le hdh hhi)).trans (e0 _ rfl)
        have d1 := (HW5.out.2.2.cell (p := ⟨dd, oo + i * 2 + 1, none⟩) (by exact Nat.lt_of_lt_of_le hdh hhi)).trans (e1 _ rfl)
        simp only [Nat.add_zero] at d0
        clear e0 e1 hce hcl hcc
        have hpos := Lib.hid (fun (h : bitsW d L i = j + 1) => show 0 < L.getD i 0 by
          unfold bitsW at h
          split at h
          · omega
          · omega)
        obtain ⟨Bi, hBi⟩ : ∃ Bi, Bi = bitsW d L i := ⟨_, rfl⟩
        obtain ⟨Ci, hCi⟩ : ∃ Ci, Ci = codeW L i := ⟨_, rfl⟩
        rw [← hBi] at d0 hpos
        rw [← hCi] at d1
        have HBC := Lib.hid (And.intro hBi hCi)
        clear hBi hCi
        by_cases hB1 : Bi = j + 1
        · have hBt : ((Bi : Int) == (j : Int) + 1) = true := by rw [beq_iff_eq]; omega
          by_cases hC1 : Ci = Y
          · have hCt : ((Ci : Int) == (Y : Int)) = true := by rw [beq_iff_eq]; omega
            have hi8 : IntKind.u8.wrap (i : Int) = (i : Int) := by rw [IntKind.wrap_u8']; omega
            obtain ⟨x0, x1, _, _⟩ := bbox HW5.out.1
            obtain ⟨r0, r1, q0, q1⟩ := bbox HW5.out.2.1
            have hlW := HW5.out.2.1.lt
            have hiS : Hid (i = S) := HF.out (j + 1) i hil (hpos.out hB1) (by rw [← HBC.out.1]; exact hB1) (by rw [← HBC.out.2, hC1, HY.out])
            have hjBS : Hid (BS = j + 1) := by
              show BS = j + 1
              rw [HBS.out, ← hiS.out, ← HBC.out.1]
              exact hB1
            go_wp2_with fail
            refine bodyPost_ret (v := .tuple #[.agg #[.slice A (nB (left - j - 1)) c, .int .i64 (lkB (left - j - 1))], .int .u8 (i : Int)]) (by simp [results, Try.results37, go_sem, r0, r1]) rfl ⟨?_, ?_⟩
            · rw [hjBS.out, hiS.out, show left - ((j + 1 : Nat) : Int) = left - (j : Int) - 1 by omega]
            · exact (HW5.out.2.2.setCell (p := ⟨w.heap.size + 1, 0, none⟩) (by show w.heap.size ≤ w.heap.size + 1; omega) _).setCell (p := ⟨w.heap.size + 1, 1, none⟩) (by show w.heap.size ≤ w.heap.size + 1; omega) _
          · have hCf : ((Ci : Int) == (Y : Int)) = false := by rw [beq_eq_false_iff_ne]; omega
            go_wp2_with fail
            go_roundg g3
            case measure => omega
            case rel => exact ⟨i + 1, by go_num, by have := HI.out.1; omega, rfl, fun s hs q => by
              by_cases hsi : s = i
              · subst hsi
                exact hC1 (by rw [HBC.out.2]; exact q.2)
              · exact HI.out.2 s (by omega) q⟩
        · have hBf : ((Bi : Int) == (j : Int) + 1) = false := by rw [beq_eq_false_iff_ne]; omega
          go_wp2_with fail
          go_roundg g3
          case measure => omega
          case rel => exact ⟨i + 1, by go_num, by have := HI.out.1; omega, rfl, fun s hs q => by
              by_cases hsi : s = i
              · subst hsi
                exact hB1 (by rw [HBC.out.1]; exact q.1)
              · exact HI.out.2 s (by omega) q⟩
      · obtain rfl : i = k := by omega
        have hiz : ¬ (i : Int) < (i : Int) := by omega
        have hjs : j + 1 < BS := by
          rcases Nat.lt_or_ge (j + 1) BS with h | h
          · exact h
          · exfalso
            have e : bitsW d L S = j + 1 := by rw [← HBS.out]; omega
            have := HS.out.2.2
            rw [e] at this
            exact HI.out.2 S hSk ⟨e, by rw [← this, ← HY.out]⟩
        go_wp2_with fail
        go_roundg g'
        case measure => omega
        case rel =>
          refine ⟨j + 1, by rw [HY.out], by go_num, by have := HJ.out; omega, hjs, ?_, HW5.out.2.1, HW5.out.2.2⟩
          rw [show left - ((j + 1 : Nat) : Int) = left - (j : Int) - 1 by omega]
          exact HW5.out.1
end
end Go.Proofs.Ytjpjbbbpmhcgnaa
