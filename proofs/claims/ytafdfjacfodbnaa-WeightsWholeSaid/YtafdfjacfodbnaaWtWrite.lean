
/- The contract of the program's Write. -/
import Derived.Test.YtafdfjacfodbnaaWtDepth
import Derived.Test.YtafdfjacfodbnaaWtOf
import Derived.Deep.RegionWith
namespace Go.Proofs.Ytafdfjacfodbnaa
open Go.RowKit

/-- The half bytes of weights ahead of t, two by two. -/
def hb (l : List Nat) (t k : Nat) : Nat := (if 2 * k < t then 16 * l.getD (2 * k) 0 else 0) + (if 2 * k + 1 < t then l.getD (2 * k + 1) 0 else 0)
def hbs (l : List Nat) (t m : Nat) : List Nat := (List.range m).map (hb l t)
/-- A description of weights, as numbers. -/
def descr (l : List Nat) : List Nat := (126 + l.length) :: hbs l (l.length - 1) (l.length / 2)
theorem hbs_len (l : List Nat) (t m : Nat) : (hbs l t m).length = m := by simp [hbs]
theorem hbs_zero (l : List Nat) (m : Nat) : hbs l 0 m = List.replicate m 0 := by
  apply List.ext_getElem
  · simp [hbs]
  · intro i h1 h2
    simp [hbs, hb]
theorem hbs_set {l : List Nat} {i m : Nat} : (hbs l i m).set (i / 2) (hb l (i + 1) (i / 2)) = hbs l (i + 1) m := by
  apply List.ext_getElem
  · simp [hbs]
  · intro j h1 h2
    rw [List.getElem_set]
    by_cases h : i / 2 = j
    · subst h
      rw [if_pos rfl]
      simp [hbs]
    · rw [if_neg h]
      simp only [hbs, List.getElem_map, List.getElem_range, hb]
      congr 1
      · by_cases q : 2 * j < i
        · rw [if_pos q, if_pos (by omega)]
        · rw [if_neg q, if_neg (by omega)]
      · by_cases q : 2 * j + 1 < i
        · rw [if_pos q, if_pos (by omega)]
        · rw [if_neg q, if_neg (by omega)]
theorem hb_get {l : List Nat} {i m k : Nat} (h : k < (hbs l i m).length) : (hbs l i m)[k] = hb l i k := by simp [hbs]
theorem hb_le {l : List Nat} (h : ∀ x ∈ l, x ≤ 11) (t k : Nat) : hb l t k ≤ 187 := by
  have g : ∀ j, l.getD j 0 ≤ 11 := fun j => by
    rw [List.getD_eq_getElem?_getD]
    by_cases q : j < l.length
    · rw [List.getElem?_eq_getElem q]; exact h _ (List.getElem_mem q)
    · rw [List.getElem?_eq_none (by omega)]; simp
  have a := g (2 * k)
  have b := g (2 * k + 1)
  unfold hb
  split <;> split <;> omega
/-- One weight is laid. -/
theorem hb_step {l : List Nat} (h : ∀ x ∈ l, x ≤ 11) (i : Nat) : hb l i (i / 2) ||| (l.getD i 0 * 2 ^ (4 * (1 - i % 2))) = hb l (i + 1) (i / 2) := by
  have g : ∀ j, l.getD j 0 ≤ 11 := fun j => by
    rw [List.getD_eq_getElem?_getD]
    by_cases q : j < l.length
    · rw [List.getElem?_eq_getElem q]; exact h _ (List.getElem_mem q)
    · rw [List.getElem?_eq_none (by omega)]; simp
  rcases Nat.mod_two_eq_zero_or_one i with e | e
  · have e2 : 2 * (i / 2) = i := by omega
    unfold hb
    rw [e, e2, if_neg (by omega), if_neg (by omega), if_pos (by omega), if_neg (by omega)]
    simp
    omega
  · have e2 : 2 * (i / 2) + 1 = i := by omega
    have e3 : 2 * (i / 2) = i - 1 := by omega
    unfold hb
    rw [e, e2, e3, if_pos (by omega), if_neg (by omega), if_pos (by omega), if_pos (by omega)]
    have a := g i
    have := Nat.two_pow_add_eq_or_of_lt (i := 4) (b := l.getD i 0) (by omega) (l.getD (i - 1) 0)
    simp only [Nat.sub_self, Nat.mul_zero, Nat.pow_zero, Nat.mul_one, Nat.add_zero]
    rw [show (2 : Nat) ^ 4 = 16 by decide] at this
    rw [← this]

section
variable {w : World}
theorem bytesOf_any (h : Nat) (hh : h ≤ 100000) : Calls Try.prog 30 #[.int .i64 (h : Int)] w fun e w' => e = .returned (.int .i64 ((if 127 < h then (h - 126) / 2 else h : Nat) : Int)) ∧ w' = w := by
  by_cases h1 : 127 < h
  · have h1z : (127 : Int) < (h : Int) := by omega
    rw [if_pos h1]
    have e1 : ((h : Int) - 127 + 1) = ((h - 126 : Nat) : Int) := by omega
    go_enter Try.func30, Try.ntmps30
    go_wp2_with fail
    go_ret
    exact ⟨by simp, rfl⟩
  · have h1z : ¬ (127 : Int) < (h : Int) := by omega
    rw [if_neg h1]
    go_enter Try.func30, Try.ntmps30
    go_wp2_with fail
    go_ret
    exact ⟨rfl, rfl⟩
theorem placeOf_any (i : Nat) (hh : i ≤ 100000) : Calls Try.prog 34 #[.int .i64 (i : Int)] w fun e w' => e = .returned (.int .i64 ((4 * (1 - i % 2) : Nat) : Int)) ∧ w' = w := by
  go_enter Try.func34, Try.ntmps34
  go_wp2_with fail
  go_ret
  exact ⟨by show Ending.returned (Value.int .i64 (4 * (1 - (i : Int) % 2))) = _; rw [show 4 * (1 - (i : Int) % 2) = ((4 * (1 - i % 2) : Nat) : Int) by omega], rfl⟩

/-- What Write answers. -/
def WtWritePost (l : List Nat) (w : World) (e : Ending) (w' : World) : Prop :=
  Below w.heap.size w w' ∧ (((∀ d, ¬ MayW d l) ∧ e = .returned (.tuple #[.slice none 0 0, .int .i64 1])) ∨ (∃ d, MayW d l ∧ ((129 < l.length ∧ e = .returned (.tuple #[.slice none 0 0, .int .i64 12])) ∨ (l.length ≤ 129 ∧ ∃ v, e = .returned (.tuple #[v, .int .i64 0]) ∧ OwE u8cel w' 5 w.heap.size v (descr l)))))

set_option maxRecDepth 100000 in
set_option maxHeartbeats 1000000 in
theorem writeW_any {lo hi n c : Nat} {A : Option Addr} {l : List Nat} (hd : DatE u8cel w lo hi A l) (hn : l.length = n) (hm : n ≤ 100000) (h8 : ∀ x ∈ l, x ≤ 255) (hhi : hi ≤ w.heap.size) (hcn : n ≤ c) :
    Calls Try.prog 17 #[.slice A n c] w (WtWritePost l w) := by
  have HDp := Lib.hid (depth_any (c := c) hd hn hm h8)
  have HD := Lib.hid (And.intro hd (And.intro hn h8))
  clear hd hn h8
  go_enter Try.func17, Try.ntmps17
  go_wp2_with fail
  refine HDp.out.mono ?_
  rintro _ w1 ⟨hw1, h | ⟨h, rfl⟩⟩
  · obtain ⟨d, hM, rfl⟩ := h
    subst hw1
    have HM := Lib.hid hM
    have hn256 := hM.2.1
    have hn2 := hM.1
    rw [HD.out.2.1] at hn256 hn2
    obtain ⟨dd, oo, rfl, qd1, qd2, hc⟩ := HD.out.1 (by rw [HD.out.2.1]; omega)
    have HC := Lib.hid hc
    clear hc hM HDp
    have en : (n : Int) - 1 = ((n - 1 : Nat) : Int) := by omega
    by_cases h129 : 129 < n
    · have hz : (128 : Int) < ((n - 1 : Nat) : Int) := by omega
      go_wp2_with fail
      go_ret2
      exact ⟨Below.refl _ _, .inr ⟨d, HM.out, .inl ⟨by rw [HD.out.2.1]; exact h129, rfl⟩⟩⟩
    · have hz : ¬ (128 : Int) < ((n - 1 : Nat) : Int) := by omega
      have en2 : (127 : Int) + ((n - 1 : Nat) : Int) = ((126 + n : Nat) : Int) := by omega
      have HBy := Lib.hid (bytesOf_any (w := w1) (126 + n) (by omega))
      rw [if_pos (by omega), show 126 + n - 126 = n by omega] at HBy
      obtain ⟨i0, hi0, hi1⟩ := Option.map_eq_some_iff.1 info_byte
      simp only [Prod.mk.injEq] at hi1
      obtain ⟨hz0, hz1', hz2'⟩ := hi1
      have HI := Lib.hid (And.intro hi0 (And.intro hz0 (And.intro hz1' hz2')))
      clear hi0 hz0 hz1' hz2'
      go_wp2_with fail
      refine HBy.out.mono ?_
      rintro _ w2 ⟨rfl, hw2⟩
      subst hw2
      obtain ⟨m, hm2⟩ : ∃ m, m = n / 2 := ⟨_, rfl⟩
      rw [← hm2]
      have HMm := Lib.hid hm2
      have hm128 : m ≤ 64 := by omega
      have hnm : n ≤ 2 * m + 1 := by omega
      have HEm : Hid ((1 : Int) + (m : Int) = ((1 + m : Nat) : Int)) := by show _ = _; omega
      have e8 : IntKind.u8.wrap ((126 + n : Nat) : Int) = ((126 + n : Nat) : Int) := by rw [IntKind.wrap_u8']; omega
      clear hm2 HBy
      go_wp2_with (at_make; refine wpList_make_full _ rfl _ _ 22 rfl w2.heap.size 5 i0 (.int .u8 0) 1 Try.underlying22 HI.out.1 HI.out.2.1 HI.out.2.2.1 .i64 .i64 _ _ (1 + m) rfl rfl HEm.out HEm.out ?_ ?_ ?_ ?_)
      · rw [HI.out.2.2.2]; omega
      · unfold maxLen; omega
      · exact Nat.le_refl _
      intro w3 ho hg
      have ho1 : OwE u8cel w3 5 w2.heap.size (.slice (some ⟨w2.heap.size, 0, none⟩) (1 + m) (1 + m)) (0 :: hbs l 0 m) := by
        unfold OwE
        rw [made_nats] at ho
        rw [hbs_zero, ← List.replicate_succ, Nat.add_comm m 1]
        simpa using ho
      have hq0 := ho1.cellAt 0 (by simp)
      have hp0 := ho1.put 0 (126 + n)
      rw [List.set_cons_zero] at hp0
      have hb0 : Below w2.heap.size w2 (w3.setCell ⟨w2.heap.size, 0, none⟩ (u8cel (126 + n))) := ((Below.refl w2.heap.size w2).grown hg (Nat.le_refl _) (by simp)).setCell (Nat.le_refl _) _
      have HO := Lib.hid (And.intro hp0 hb0)
      obtain ⟨cq0, fq0⟩ := hq0
      unfold u8cel at cq0
      simp only [List.getElem_cons_zero] at cq0
      clear ho ho1 hg hp0 hb0
      have hn1c : n - 1 ≤ c := by omega
      go_wp2_with fail
      clear cq0 fq0
      go_loopg [39] (n - 1) (fun g1 vi wx => ∃ i : Nat, vi = .int .i64 (i : Int) ∧ i + g1 = n - 1 ∧ OwE u8cel wx 5 w2.heap.size (.slice (some ⟨w2.heap.size, 0, none⟩) (1 + m) (1 + m)) ((126 + n) :: hbs l i m) ∧ Below w2.heap.size w2 wx)
      case atStart => exact ⟨0, rfl, by omega, HO.out.1, HO.out.2⟩
      case round =>
        clear HO
        obtain ⟨i, rfl, hi, hO, hB⟩ := hrel
        by_cases hlt : i < n - 1
        · have hltz : (i : Int) < ((n - 1 : Nat) : Int) := by omega
          have hil : i < l.length := by rw [HD.out.2.1]; omega
          have hci := (World.cell?_of_block (hB.block dd (by omega))).trans (HC.out i hil)
          unfold u8cel at hci
          have hall : ∀ x ∈ l, x ≤ 11 := fun x hx => by have a := HM.out.2.2.2.2.2.2 x hx; have b := HM.out.2.2.2.2.2.1; omega
          have hgi : l.getD i 0 = l[i] := by simp [List.getD, hil]
          have hx11 := hall l[i] (List.getElem_mem hil)
          have hst := hb_step hall i
          have hle := hb_le hall i (i / 2)
          have hle2 := hb_le hall (i + 1) (i / 2)
          rw [hgi] at hst
          have him : i / 2 < m := by omega
          have hlen : ((126 + n) :: hbs l i m).length = 1 + m := by simp [hbs_len]; omega
          have hq := hO.cellAt (1 + i / 2) (by omega)
          have hcv : ((126 + n) :: hbs l i m)[1 + i / 2]'(by omega) = hb l i (i / 2) := by
            have : ((126 + n) :: hbs l i m)[i / 2 + 1]'(by omega) = hb l i (i / 2) := by rw [List.getElem_cons_succ, hb_get]
            simpa [Nat.add_comm] using this
          rw [hcv] at hq
          have hset : ((126 + n) :: hbs l i m).set (1 + i / 2) (hb l (i + 1) (i / 2)) = (126 + n) :: hbs l (i + 1) m := by
            rw [Nat.add_comm 1, List.set_cons_succ, hbs_set]
          have HQ := Lib.hid (And.intro hO (And.intro hB hset))
          obtain ⟨cq, fq⟩ := hq
          unfold u8cel at cq
          clear hO hB hset hcv hlen hgi hall
          generalize l[i] = x at *
          generalize hb l i (i / 2) = B0 at *
          generalize hb l (i + 1) (i / 2) = B1 at *
          have HPl := fun W => Lib.hid (placeOf_any (w := W) i (by omega))
          have hp4 : 4 * (1 - i % 2) ≤ 4 := by omega
          generalize 4 * (1 - i % 2) = p at *
          have hpw : 2 ^ p ≤ 2 ^ 4 := Nat.pow_le_pow_right (by omega) hp4
          have ePw : (x : Int) * 2 ^ p = ((x * 2 ^ p : Nat) : Int) := by simp
          have hxp : x * 2 ^ p ≤ 11 * 16 := Nat.mul_le_mul hx11 hpw
          generalize x * 2 ^ p = X at *
          have eX : IntKind.u8.wrap (X : Int) = (X : Int) := by rw [IntKind.wrap_u8']; omega
          have eOr := u8_or_nat B0 X (by omega) (by omega)
          rw [hst] at eOr
          have e0 : (i : Int) / 2 = ((i / 2 : Nat) : Int) := by omega
          generalize i / 2 = q at *
          have e1 : (1 + (q : Int)).toNat = 1 + q := by omega
          have e2 : (0 : Int) ≤ 1 + (q : Int) := by omega
          have e3 : 1 + (q : Int) < ((1 + m : Nat) : Int) := by omega
          have e4 : 1 + (q : Int) < 1 + (m : Int) := by omega
          have e5 : (q : Int) < (m : Int) := by omega
          have r1 : IntKind.i64.wrap (q : Int) = (q : Int) := by rw [IntKind.wrap_i64]; omega
          have r2 : IntKind.i64.wrap (1 + (q : Int)) = 1 + (q : Int) := by rw [IntKind.wrap_i64]; omega
          have r3 : IntKind.i64.wrap (p : Int) = (p : Int) := by rw [IntKind.wrap_i64]; omega
          clear hst hpw hxp
          go_wp2_with fail
          go_region_with (first | (go_at_call 34; refine (HPl _).out.mono ?_; rintro e w' ⟨rfl, rfl⟩))
          all_goals
            have HF : Hid (OwE u8cel (wr.setCell ⟨w2.heap.size, 1 + q, none⟩ (.int .u8 (B1 : Int))).drew 5 w2.heap.size (.slice (some ⟨w2.heap.size, 0, none⟩) (1 + m) (1 + m)) ((126 + n) :: hbs l (i + 1) m) ∧ Below w2.heap.size w2 (wr.setCell ⟨w2.heap.size, 1 + q, none⟩ (.int .u8 (B1 : Int))).drew) := by
              obtain ⟨hO, hB, hset⟩ := HQ.out
              rw [← hset]
              exact ⟨hO.put (1 + q) B1, (hB.setCell (Nat.le_refl _) _).drew⟩
            clear cq fq
            generalize World.drew _ = w9 at HF ⊢
            go_wp2_with fail
            go_roundg (n - 1 - (i + 1))
            case measure => omega
            case rel => exact ⟨i + 1, by go_num, by omega, HF.out.1, HF.out.2⟩
        · obtain rfl : i = n - 1 := by omega
          have hltz : ¬ ((n - 1 : Nat) : Int) < ((n - 1 : Nat) : Int) := by omega
          have HQ := Lib.hid (And.intro hO hB)
          clear hO hB
          go_wp2_with fail
          go_ret2
          refine ⟨HQ.out.2, .inr ⟨d, HM.out, .inr ⟨by rw [HD.out.2.1]; omega, _, rfl, ?_⟩⟩⟩
          unfold descr
          rw [HD.out.2.1, ← HMm.out]
          exact HQ.out.1
  · subst hw1
    have HN := Lib.hid h
    clear h HDp
    go_wp2_with fail
    go_ret2
    exact ⟨Below.refl _ _, .inl ⟨HN.out, rfl⟩⟩
end
end Go.Proofs.Ytafdfjacfodbnaa
