
/- Merging of two parts that are in order. -/
import Derived.Test.YtafdfjacfodbnaaWtSymR
namespace Go.Proofs.Ytafdfjacfodbnaa
open Go.RowKit Go.Sort

/-- What merging does. -/
def SymPost (w0 : World) (g n c : Nat) (p A B s : List Pk) (e : Ending) (w' : World) : Prop :=
  e = .returned (.tuple #[]) ∧ ∃ C, SR w0 g n c (p ++ C ++ s) w' ∧ Srt C ∧ Alike (A ++ B) C ∧ C.length = A.length + B.length

theorem int_ne_one {x : Int} (h : x ≠ 1) : (x == 1) = false := by rw [beq_eq_false_iff_ne]; exact h

/-- Where the parts are cut: what was found. -/
theorem sym_cut {p A B s : List Pk} {a m b mid st : Nat} (ha : a = p.length) (hm : m = a + A.length) (hb : b = m + B.length) (hA : Srt A) (hB : Srt B)
    (h1 : a ≤ st) (h2 : st ≤ m) (h3 : st ≤ mid) (h4 : mid + m ≤ st + b)
    (hlo : a < st → mid + m < st + b → (p ++ A ++ B ++ s)[st - 1]!.n ≤ (p ++ A ++ B ++ s)[mid + m - st]!.n)
    (hhi : st < m → st < mid → (p ++ A ++ B ++ s)[mid + m - 1 - st]!.n < (p ++ A ++ B ++ s)[st]!.n) :
    ∃ A1 u v B2, A = A1 ++ u ∧ B = v ++ B2 ∧ A1.length = st - a ∧ u.length = m - st ∧ v.length = mid - st ∧ B2.length = b + st - mid - m ∧ (∀ x ∈ u, ∀ y ∈ v, y.n < x.n) ∧ (∀ x ∈ A1, ∀ y ∈ B2, x.n ≤ y.n) := by
  have k1 : (A.take (st - a)).length = st - a := by simp; omega
  have k2 : (A.drop (st - a)).length = m - st := by simp; omega
  have k3 : (B.take (mid - st)).length = mid - st := by simp; omega
  have k4 : (B.drop (mid - st)).length = b + st - mid - m := by simp; omega
  have eA : A = A.take (st - a) ++ A.drop (st - a) := (List.take_append_drop _ A).symm
  have eB : B = B.take (mid - st) ++ B.drop (mid - st) := (List.take_append_drop _ B).symm
  refine ⟨A.take (st - a), A.drop (st - a), B.take (mid - st), B.drop (mid - st), eA, eB, k1, k2, k3, k4, fun x hx y hy => ?_, fun x hx y hy => ?_⟩
  · obtain ⟨i, hi, ei⟩ := mem_get hx
    obtain ⟨j, hj, ej⟩ := mem_get hy
    have q := hhi (by omega) (by omega)
    rw [(getI_ab ha hm hb).1 h1 (by omega), (getI_ab ha hm hb).2 (by omega) (by omega)] at q
    have r1 := hA.get (i := st - a) (j := st - a + i) (by omega) (by omega)
    have r2 := hB.get (i := j) (j := mid + m - 1 - st - m) (by omega) (by omega)
    have e1 : (A.drop (st - a))[i]! = A[st - a + i]! := by
      have := getI_right (A.take (st - a)) (A.drop (st - a)) (st - a + i) (by omega) (by omega)
      rw [← eA, k1, show st - a + i - (st - a) = i by omega] at this
      exact this.symm
    rw [← ei, ← ej, e1, getI_take _ _ _ (by omega) (by omega)]
    omega
  · obtain ⟨i, hi, ei⟩ := mem_get hx
    obtain ⟨j, hj, ej⟩ := mem_get hy
    have q := hlo (by omega) (by omega)
    rw [(getI_ab ha hm hb).1 (by omega) (by omega), (getI_ab ha hm hb).2 (by omega) (by omega)] at q
    have r1 := hA.get (i := i) (j := st - 1 - a) (by omega) (by omega)
    have r2 := hB.get (i := mid + m - st - m) (j := mid - st + j) (by omega) (by omega)
    have e1 : (B.drop (mid - st))[j]! = B[mid - st + j]! := by
      have := getI_right (B.take (mid - st)) (B.drop (mid - st)) (mid - st + j) (by omega) (by omega)
      rw [← eB, k3, show mid - st + j - (mid - st) = j by omega] at this
      exact this.symm
    rw [← ei, ← ej, e1, getI_take _ _ _ (by omega) (by omega)]
    omega

/-- The two halves, each in order, are in order. -/
theorem sym_join {A1 u v B2 C1 C2 : List Pk} (hA : Srt (A1 ++ u)) (hB : Srt (v ++ B2)) (h1 : ∀ x ∈ u, ∀ y ∈ v, y.n < x.n) (h2 : ∀ x ∈ A1, ∀ y ∈ B2, x.n ≤ y.n) (s1 : Srt C1) (s2 : Srt C2) (l1 : Alike (A1 ++ v) C1) (l2 : Alike (u ++ B2) C2) :
    Srt (C1 ++ C2) ∧ Alike (A1 ++ u ++ (v ++ B2)) (C1 ++ C2) := by
  refine ⟨Srt.append s1 s2 fun x hx y hy => ?_, ?_⟩
  · rcases List.mem_append.1 (l1.symm.mem hx) with q | q
    · rcases List.mem_append.1 (l2.symm.mem hy) with r | r
      · exact hA.cross x q y r
      · exact h2 x q y r
    · rcases List.mem_append.1 (l2.symm.mem hy) with r | r
      · exact Nat.le_of_lt (h1 y r x q)
      · exact hB.cross x q y r
  · have e : A1 ++ u ++ (v ++ B2) = A1 ++ (u ++ v) ++ B2 := by simp
    have t : Alike (A1 ++ (u ++ v) ++ B2) (A1 ++ (v ++ u) ++ B2) := ((Alike.refl A1).append (Alike.turn h1)).append (Alike.refl B2)
    rw [e]
    refine t.trans ?_
    have e2 : A1 ++ (v ++ u) ++ B2 = (A1 ++ v) ++ (u ++ B2) := by simp
    rw [e2]
    exact l1.append l2

section
variable {w0 : World} {g n c : Nat}
set_option maxRecDepth 100000 in
set_option maxHeartbeats 4000000 in
theorem sym_step (N : Nat) (hIH : ∀ (p A B s : List Pk) (a m b : Nat) (W : World), A.length + B.length < N → SR w0 g n c (p ++ A ++ B ++ s) W → a = p.length → m = a + A.length → b = m + B.length → 0 < A.length → 0 < B.length → Srt A → Srt B →
      Calls Try.prog 95 #[.slice (some ⟨g, 0, none⟩) n c, .int .i64 (a : Int), .int .i64 (m : Int), .int .i64 (b : Int), .func (.func 63) #[] #[]] W (SymPost w0 g n c p A B s))
    (p A B s : List Pk) (a m b : Nat) (W : World) (hN : A.length + B.length ≤ N) (hS : SR w0 g n c (p ++ A ++ B ++ s) W) (ha : a = p.length) (hm : m = a + A.length) (hb : b = m + B.length) (hA2 : 2 ≤ A.length) (hB2 : 2 ≤ B.length) (hA : Srt A) (hB : Srt B) (hn : n ≤ 100000) :
    Calls Try.prog 95 #[.slice (some ⟨g, 0, none⟩) n c, .int .i64 (a : Int), .int .i64 (m : Int), .int .i64 (b : Int), .func (.func 63) #[] #[]] W (SymPost w0 g n c p A B s) := by
  have hlen := hS.len
  simp at hlen
  have HS := Lib.hid hS
  have HH := Lib.hid (And.intro ha (And.intro hm (And.intro hb (And.intro hA (And.intro hB hN)))))
  have HI := Lib.hid hIH
  have hbn : b ≤ n := by omega
  have ham : a + 2 ≤ m := by omega
  have hmb : m + 2 ≤ b := by omega
  have h0 := int_ne_one (x := (m : Int) - (a : Int)) (by omega)
  have h1 := int_ne_one (x := (b : Int) - (m : Int)) (by omega)
  have mixed : Try.prog.follows .mixedOrders = true := by kernel_rfl
  obtain ⟨mid, hmid⟩ : ∃ mid, mid = (a + b) / 2 := ⟨_, rfl⟩
  have hmz : ((a : Int) + (b : Int)) / 2 = (mid : Int) := by omega
  have hamid : a + 2 ≤ mid := by omega
  have hmidb : mid + 2 ≤ b := by omega
  obtain ⟨s0, r0, hsr, f1, f2, f3, f4, f5⟩ : ∃ s0 r0, (mid < m ∧ s0 = mid + m - b ∧ r0 = mid ∨ ¬ mid < m ∧ s0 = a ∧ r0 = m) ∧ a ≤ s0 ∧ s0 ≤ r0 ∧ r0 ≤ m ∧ r0 ≤ mid ∧ mid + m ≤ s0 + b := by
    by_cases h : mid < m
    · exact ⟨mid + m - b, mid, .inl ⟨h, rfl, rfl⟩, by omega, by omega, by omega, by omega, by omega⟩
    · exact ⟨a, m, .inr ⟨h, rfl, rfl⟩, by omega, by omega, by omega, by omega, by omega⟩
  have HSR : Hid ((s0 = a ∨ mid + m = s0 + b) ∧ (r0 = m ∨ r0 = mid)) := by show _ ∧ _; omega
  have HM := Lib.hid hmid
  clear hS ha hb hlen hm hA hB hA2 hB2 hN hIH hmid
  have hx : (∃ z : Unit, (mid : Int) < (m : Int) ∧ Hid (s0 = mid + m - b ∧ r0 = mid)) ∨ (∃ z : Unit, ¬ (mid : Int) < (m : Int) ∧ Hid (s0 = a ∧ r0 = m)) := by
    rcases hsr with ⟨q1, q2, q3⟩ | ⟨q1, q2, q3⟩
    · exact .inl ⟨(), by omega, ⟨q2, q3⟩⟩
    · exact .inr ⟨(), by omega, ⟨q2, q3⟩⟩
  clear hsr
  rcases hx with ⟨_, hgt, HE⟩ | ⟨_, hgt, HE⟩
  all_goals
    go_enter Try.func95, Try.ntmps95
    go_wp2_with fail
    go_loopg [20, 21] (r0 - s0) (fun g1 vi vj wr => ∃ (st r : Nat), vi = .int .i64 (st : Int) ∧ vj = .int .i64 (r : Int) ∧ s0 ≤ st ∧ st ≤ r ∧ r ≤ r0 ∧ r - st ≤ g1 ∧ (∀ t, s0 ≤ t → t < st → (p ++ A ++ B ++ s)[t]!.n ≤ (p ++ A ++ B ++ s)[mid + m - 1 - t]!.n) ∧ (∀ t, r ≤ t → t < r0 → (p ++ A ++ B ++ s)[mid + m - 1 - t]!.n < (p ++ A ++ B ++ s)[t]!.n) ∧ SR w0 g n c (p ++ A ++ B ++ s) wr)
    case atStart =>
      exact ⟨s0, r0, by have := HE.out; congr 1; omega, by have := HE.out; congr 1; omega, Nat.le_refl _, f2, Nat.le_refl _, Nat.le_refl _, fun t q1 q2 => by omega, fun t q1 q2 => by omega, HS.out⟩
    case round =>
      clear HS
      obtain ⟨st, r, rfl, rfl, g1, g2, g3, g4, hlo, hhi, hS⟩ := hrel
      by_cases hlt : st < r
      · have hltz : (st : Int) < (r : Int) := by omega
        obtain ⟨h, hh⟩ : ∃ h, h = (st + r) / 2 := ⟨_, rfl⟩
        have hih : st ≤ h := by omega
        have hhj : h < r := by omega
        have hhz : ((st : Int) + (r : Int)) / 2 = (h : Int) := by omega
        obtain ⟨q, hq⟩ : ∃ q, q = mid + m - 1 - h := ⟨_, rfl⟩
        have hqn : q < n := by omega
        have ra : IntKind.i64.wrap ((mid : Int) + (m : Int) - 1 - (h : Int)) = (mid : Int) + (m : Int) - 1 - (h : Int) := by rw [IntKind.wrap_i64]; omega
        have ea : ((mid : Int) + (m : Int) - 1 - (h : Int)).toNat = q := by omega
        have pa : (0 : Int) ≤ (mid : Int) + (m : Int) - 1 - (h : Int) := by omega
        have pa' : (h : Int) ≤ (mid : Int) + (m : Int) - 1 := by omega
        have ba : (mid : Int) + (m : Int) - 1 - (h : Int) < (n : Int) := by omega
        obtain ⟨y, hy⟩ : ∃ y, (p ++ A ++ B ++ s)[h]! = y := ⟨_, rfl⟩
        obtain ⟨x, hx⟩ : ∃ x, (p ++ A ++ B ++ s)[q]! = x := ⟨_, rfl⟩
        have hc1 := hS.cellsG q hqn
        have hc2 := hS.cellsG h (by omega)
        rw [hx] at hc1
        rw [hy] at hc2
        obtain ⟨c1, c1'⟩ := hc1
        obtain ⟨c2, c2'⟩ := hc2
        have hcg := fun qq os => cmp_grown x y wr qq os
        have z4 : (h : Int) < (n : Int) := by omega
        have z5 : (q : Int) < (n : Int) := by omega
        have HR1 : Hid (∀ t, s0 ≤ t → t < h + 1 → ¬ x.n < y.n → (p ++ A ++ B ++ s)[t]!.n ≤ (p ++ A ++ B ++ s)[mid + m - 1 - t]!.n) := by
          intro t q1 q2 q3
          obtain ⟨ha, hm, hb, hA, hB, _⟩ := HH.out
          have k1 := hA.get (i := t - a) (j := h - a) (by omega) (by omega)
          have k2 := hB.get (i := q - m) (j := mid + m - 1 - t - m) (by omega) (by omega)
          have e1 := (getI_ab (t := t) (s := s) (B := B) ha hm hb).1 (by omega) (by omega)
          have e2 := (getI_ab (t := h) (s := s) (B := B) ha hm hb).1 (by omega) (by omega)
          have e3 := (getI_ab (t := q) (s := s) (B := B) ha hm hb).2 (by omega) (by omega)
          have e4 := (getI_ab (t := mid + m - 1 - t) (s := s) (B := B) ha hm hb).2 (by omega) (by omega)
          rw [e1, e4]
          rw [← e2, hy] at k1
          rw [← e3, hx] at k2
          omega
        have HR2 : Hid (∀ t, h ≤ t → t < r0 → x.n < y.n → (p ++ A ++ B ++ s)[mid + m - 1 - t]!.n < (p ++ A ++ B ++ s)[t]!.n) := by
          intro t q1 q2 q3
          obtain ⟨ha, hm, hb, hA, hB, _⟩ := HH.out
          have k1 := hA.get (i := h - a) (j := t - a) (by omega) (by omega)
          have k2 := hB.get (i := mid + m - 1 - t - m) (j := q - m) (by omega) (by omega)
          have e1 := (getI_ab (t := t) (s := s) (B := B) ha hm hb).1 (by omega) (by omega)
          have e2 := (getI_ab (t := h) (s := s) (B := B) ha hm hb).1 (by omega) (by omega)
          have e3 := (getI_ab (t := q) (s := s) (B := B) ha hm hb).2 (by omega) (by omega)
          have e4 := (getI_ab (t := mid + m - 1 - t) (s := s) (B := B) ha hm hb).2 (by omega) (by omega)
          rw [e1, e4]
          rw [← e2, hy] at k1
          rw [← e3, hx] at k2
          omega
        have HT := Lib.hid (And.intro hlo (And.intro hhi (And.intro g4 hh)))
        have HS := Lib.hid hS
        have hcl := cmpN_lt x.n y.n
        generalize cmpN x.n y.n = z at hcg hcl
        clear hS hlo hhi hy hx g4 hh hq
        by_cases hv : x.n < y.n
        · have hr : decide (z < 0) = true := by rw [hcl]; exact decide_eq_true hv
          have hr' : z < 0 := of_decide_eq_true hr
          clear hcl
          go_wp2_with fail
          go_quiet_grown (first | (go_at_call 63; exact hcg _ _))
          have HS2 := Lib.hid (HS.out.grown nq osq)
          clear c1 c1' c2 c2' hcg HS
          generalize grow (wr.drewN nq) osq = w2 at HS2 ⊢
          clear nq osq
          go_wp2_with fail
          go_roundg (h - st)
          case measure => have := HT.out.2.2.1; omega
          case rel =>
            obtain ⟨hlo, hhi, hg, hh⟩ := HT.out
            exact ⟨st, h, rfl, rfl, g1, hih, by omega, Nat.le_refl _, hlo, fun t q1 q2 => HR2.out t q1 q2 hv, HS2.out⟩
        · have hr : decide (z < 0) = false := by rw [hcl]; exact decide_eq_false hv
          have hr' : ¬ z < 0 := of_decide_eq_false hr
          clear hcl
          go_wp2_with fail
          go_quiet_grown (first | (go_at_call 63; exact hcg _ _))
          have HS2 := Lib.hid (HS.out.grown nq osq)
          clear c1 c1' c2 c2' hcg HS
          generalize grow (wr.drewN nq) osq = w2 at HS2 ⊢
          clear nq osq
          go_wp2_with fail
          go_roundg (r - (h + 1))
          case measure => have := HT.out.2.2.1; omega
          case rel =>
            obtain ⟨hlo, hhi, hg, hh⟩ := HT.out
            exact ⟨h + 1, r, by go_num, rfl, by omega, by omega, g3, Nat.le_refl _, fun t q1 q2 => HR1.out t q1 q2 hv, hhi, HS2.out⟩
      · obtain rfl : st = r := by omega
        have hltz : ¬ (st : Int) < (st : Int) := by omega
        obtain ⟨ha, hm, hb, hA, hB, hN⟩ := HH.out
        obtain ⟨e, he⟩ : ∃ e, e = mid + m - st := ⟨_, rfl⟩
        have hez : (mid : Int) + (m : Int) - (st : Int) = (e : Int) := by omega
        have hsr := HSR.out
        obtain ⟨A1, u, v, B2, rfl, rfl, k1, k2, k3, k4, huv, hAB⟩ := sym_cut (s := s) (mid := mid) (st := st) ha hm hb hA hB (by omega) (by omega) (by omega) (by omega)
          (fun q1 q2 => by have := hlo (st - 1) (by omega) (by omega); rw [show mid + m - 1 - (st - 1) = mid + m - st by omega] at this; exact this)
          (fun q1 q2 => hhi st (Nat.le_refl _) (by omega))
        have hS' : SR w0 g n c (p ++ A1 ++ u ++ v ++ B2 ++ s) wr := hS.cast (by simp)
        have HX := Lib.hid (And.intro ha (And.intro hm (And.intro hb (And.intro hA (And.intro hB (And.intro hN (And.intro huv hAB)))))))
        have HK := Lib.hid (And.intro k1 (And.intro k2 (And.intro k3 (And.intro k4 he))))
        have hme : m ≤ e := by omega
        have heb : e ≤ b := by omega
        have hast : a ≤ st := by omega
        have hstm : st ≤ m := by omega
        have hsmid : st ≤ mid := by omega
        have hmide : mid ≤ e := by omega
        have HEm : Hid ((m < e ↔ st < mid) ∧ (mid < e ↔ st < m)) := by show _ ∧ _; omega
        clear HSR HH HE HM hlo hhi hS ha hm hb hA hB hN huv hAB k1 k2 k3 k4 he hsr hltz hgt f1 f2 f3 f4 f5 g1 g2 g3 g4 hlt
        have HROT : Hid (st < m → m < e → Calls Try.prog 100 #[.slice (some ⟨g, 0, none⟩) n c, .int .i64 (st : Int), .int .i64 (m : Int), .int .i64 (e : Int), .func (.func 63) #[] #[]] wr fun x w' => x = .returned (.tuple #[]) ∧ SR w0 g n c (p ++ A1 ++ v ++ u ++ (B2 ++ s)) w') := by
          intro q1 q2
          obtain ⟨ha, hm, hb, _⟩ := HX.out
          obtain ⟨k1, k2, k3, k4, he⟩ := HK.out
          exact rotate_any (p ++ A1) u v (B2 ++ s) st m e (hS'.cast (by simp)) (by simp; omega) (by omega) (by omega) (by omega) (by omega) hn
        have HNR : Hid (¬ (st < m ∧ m < e) → SR w0 g n c (p ++ A1 ++ v ++ u ++ (B2 ++ s)) wr) := by
          intro q
          obtain ⟨k1, k2, k3, k4, he⟩ := HK.out
          have : u = [] ∨ v = [] := by
            have : u.length = 0 ∨ v.length = 0 := by omega
            rcases this with h | h
            · exact .inl (List.eq_nil_of_length_eq_zero h)
            · exact .inr (List.eq_nil_of_length_eq_zero h)
          rcases this with h | h
          · subst h; exact hS'.cast (by simp)
          · subst h; exact hS'.cast (by simp)
        have HR1 : Hid (∀ w2, SR w0 g n c (p ++ A1 ++ v ++ u ++ (B2 ++ s)) w2 → a < st → st < mid → Calls Try.prog 95 #[.slice (some ⟨g, 0, none⟩) n c, .int .i64 (a : Int), .int .i64 (st : Int), .int .i64 (mid : Int), .func (.func 63) #[] #[]] w2 (SymPost w0 g n c p A1 v (u ++ (B2 ++ s)))) := by
          intro w2 h2 q1 q2
          obtain ⟨ha, hm, hb, hA, hB, hN, huv, hAB⟩ := HX.out
          obtain ⟨k1, k2, k3, k4, he⟩ := HK.out
          simp at hN
          exact HI.out p A1 v (u ++ (B2 ++ s)) a st mid w2 (by omega) (h2.cast (by simp)) ha (by omega) (by omega) (by omega) (by omega) hA.left hB.left
        have HNR1 : Hid (∀ w2, SR w0 g n c (p ++ A1 ++ v ++ u ++ (B2 ++ s)) w2 → ¬ (a < st ∧ st < mid) → ∃ C, SR w0 g n c (p ++ C ++ (u ++ (B2 ++ s))) w2 ∧ Srt C ∧ Alike (A1 ++ v) C ∧ C.length = A1.length + v.length) := by
          intro w2 h2 q
          obtain ⟨ha, hm, hb, hA, hB, hN, huv, hAB⟩ := HX.out
          obtain ⟨k1, k2, k3, k4, he⟩ := HK.out
          refine ⟨A1 ++ v, h2.cast (by simp), ?_, Alike.refl _, by simp⟩
          have : A1 = [] ∨ v = [] := by
            have : A1.length = 0 ∨ v.length = 0 := by omega
            rcases this with h | h
            · exact .inl (List.eq_nil_of_length_eq_zero h)
            · exact .inr (List.eq_nil_of_length_eq_zero h)
          rcases this with h | h
          · subst h; exact hB.left
          · subst h; rw [List.append_nil]; exact hA.left
        have HR2 : Hid (∀ w2 C, SR w0 g n c (p ++ C ++ (u ++ (B2 ++ s))) w2 → C.length = A1.length + v.length → mid < e → e < b → Calls Try.prog 95 #[.slice (some ⟨g, 0, none⟩) n c, .int .i64 (mid : Int), .int .i64 (e : Int), .int .i64 (b : Int), .func (.func 63) #[] #[]] w2 (SymPost w0 g n c (p ++ C) u B2 s)) := by
          intro w2 C h2 hC q1 q2
          obtain ⟨ha, hm, hb, hA, hB, hN, huv, hAB⟩ := HX.out
          obtain ⟨k1, k2, k3, k4, he⟩ := HK.out
          simp at hN
          exact HI.out (p ++ C) u B2 s mid e b w2 (by omega) (h2.cast (by simp)) (by simp; omega) (by omega) (by omega) (by omega) (by omega) hA.right hB.right
        have HNR2 : Hid (∀ w2 C, SR w0 g n c (p ++ C ++ (u ++ (B2 ++ s))) w2 → ¬ (mid < e ∧ e < b) → ∃ C2, SR w0 g n c (p ++ C ++ C2 ++ s) w2 ∧ Srt C2 ∧ Alike (u ++ B2) C2 ∧ C2.length = u.length + B2.length) := by
          intro w2 C h2 q
          obtain ⟨ha, hm, hb, hA, hB, hN, huv, hAB⟩ := HX.out
          obtain ⟨k1, k2, k3, k4, he⟩ := HK.out
          refine ⟨u ++ B2, h2.cast (by simp), ?_, Alike.refl _, by simp⟩
          have : u = [] ∨ B2 = [] := by
            have : u.length = 0 ∨ B2.length = 0 := by omega
            rcases this with h | h
            · exact .inl (List.eq_nil_of_length_eq_zero h)
            · exact .inr (List.eq_nil_of_length_eq_zero h)
          rcases this with h | h
          · subst h; exact hB.right
          · subst h; rw [List.append_nil]; exact hA.right
        have HEND : Hid (∀ w2 C C2, SR w0 g n c (p ++ C ++ C2 ++ s) w2 → Srt C → Alike (A1 ++ v) C → C.length = A1.length + v.length → Srt C2 → Alike (u ++ B2) C2 → C2.length = u.length + B2.length → SymPost w0 g n c p (A1 ++ u) (v ++ B2) s (.returned (.tuple #[])) w2) := by
          intro w2 C C2 h2 s1 l1 n1 s2 l2 n2
          obtain ⟨ha, hm, hb, hA, hB, hN, huv, hAB⟩ := HX.out
          obtain ⟨j1, j2⟩ := sym_join hA hB huv hAB s1 s2 l1 l2
          exact ⟨rfl, C ++ C2, h2.cast (by simp), j1, j2, by simp; omega⟩
        clear HI HX HK HEm hS'
        have hx : ((st : Int) < (m : Int) ∧ (m : Int) < (e : Int)) ∨ ((st : Int) < (m : Int) ∧ ¬ (m : Int) < (e : Int)) ∨ (¬ (st : Int) < (m : Int)) := by omega
        have hx1 : ((a : Int) < (st : Int) ∧ (st : Int) < (mid : Int)) ∨ ((a : Int) < (st : Int) ∧ ¬ (st : Int) < (mid : Int)) ∨ (¬ (a : Int) < (st : Int)) := by omega
        have hx2 : ((mid : Int) < (e : Int) ∧ (e : Int) < (b : Int)) ∨ ((mid : Int) < (e : Int) ∧ ¬ (e : Int) < (b : Int)) ∨ (¬ (mid : Int) < (e : Int)) := by omega
        have HX1 := Lib.hid hx1
        have HX2 := Lib.hid hx2
        clear hx1 hx2
        rcases hx with ⟨y1, y2⟩ | ⟨y1, y2⟩ | y1
        · go_wp2_with fail
          all_goals
            refine (HROT.out (by omega) (by omega)).mono ?_
            rintro _ w2 ⟨rfl, hS2⟩
            have HS2 := Lib.hid hS2
            clear hS2 HROT HNR
            rcases HX1.out with ⟨y3, y4⟩ | ⟨y3, y4⟩ | y3
            · go_wp2_with fail
              all_goals
                refine (HR1.out _ HS2.out (by omega) (by omega)).mono ?_
                rintro _ w3 ⟨rfl, C, hS3, s1, l1, n1⟩
                have HS3 := Lib.hid (And.intro hS3 (And.intro s1 (And.intro l1 n1)))
                clear hS3 s1 l1 n1 HNR1
                rcases HX2.out with ⟨y5, y6⟩ | ⟨y5, y6⟩ | y5
                · go_wp2_with fail
                  all_goals
                    refine (HR2.out _ C HS3.out.1 HS3.out.2.2.2 (by omega) (by omega)).mono ?_
                    rintro _ w4 ⟨rfl, C2, hS4, s2, l2, n2⟩
                    have HS4 := Lib.hid (And.intro hS4 (And.intro s2 (And.intro l2 n2)))
                    clear hS4 s2 l2 n2 HNR2
                    go_wp2_with fail
                    all_goals
                      go_end0
                      exact HEND.out _ C C2 HS4.out.1 HS3.out.2.1 HS3.out.2.2.1 HS3.out.2.2.2 HS4.out.2.1 HS4.out.2.2.1 HS4.out.2.2.2
                · obtain ⟨C2, hS4, s2, l2, n2⟩ := HNR2.out _ C HS3.out.1 (by omega)
                  have HS4 := Lib.hid (And.intro hS4 (And.intro s2 (And.intro l2 n2)))
                  clear hS4 s2 l2 n2
                  go_wp2_with fail
                  all_goals
                    go_end0
                    exact HEND.out _ C C2 HS4.out.1 HS3.out.2.1 HS3.out.2.2.1 HS3.out.2.2.2 HS4.out.2.1 HS4.out.2.2.1 HS4.out.2.2.2
                · obtain ⟨C2, hS4, s2, l2, n2⟩ := HNR2.out _ C HS3.out.1 (by omega)
                  have HS4 := Lib.hid (And.intro hS4 (And.intro s2 (And.intro l2 n2)))
                  clear hS4 s2 l2 n2
                  go_wp2_with fail
                  all_goals
                    go_end0
                    exact HEND.out _ C C2 HS4.out.1 HS3.out.2.1 HS3.out.2.2.1 HS3.out.2.2.2 HS4.out.2.1 HS4.out.2.2.1 HS4.out.2.2.2
            · obtain ⟨C, hS3, s1, l1, n1⟩ := HNR1.out _ HS2.out (by omega)
              have HS3 := Lib.hid (And.intro hS3 (And.intro s1 (And.intro l1 n1)))
              clear hS3 s1 l1 n1
              rcases HX2.out with ⟨y5, y6⟩ | ⟨y5, y6⟩ | y5
              · go_wp2_with fail
                all_goals
                  refine (HR2.out _ C HS3.out.1 HS3.out.2.2.2 (by omega) (by omega)).mono ?_
                  rintro _ w4 ⟨rfl, C2, hS4, s2, l2, n2⟩
                  have HS4 := Lib.hid (And.intro hS4 (And.intro s2 (And.intro l2 n2)))
                  clear hS4 s2 l2 n2 HNR2
                  go_wp2_with fail
                  all_goals
                    go_end0
                    exact HEND.out _ C C2 HS4.out.1 HS3.out.2.1 HS3.out.2.2.1 HS3.out.2.2.2 HS4.out.2.1 HS4.out.2.2.1 HS4.out.2.2.2
              · obtain ⟨C2, hS4, s2, l2, n2⟩ := HNR2.out _ C HS3.out.1 (by omega)
                have HS4 := Lib.hid (And.intro hS4 (And.intro s2 (And.intro l2 n2)))
                clear hS4 s2 l2 n2
                go_wp2_with fail
                all_goals
                  go_end0
                  exact HEND.out _ C C2 HS4.out.1 HS3.out.2.1 HS3.out.2.2.1 HS3.out.2.2.2 HS4.out.2.1 HS4.out.2.2.1 HS4.out.2.2.2
              · obtain ⟨C2, hS4, s2, l2, n2⟩ := HNR2.out _ C HS3.out.1 (by omega)
                have HS4 := Lib.hid (And.intro hS4 (And.intro s2 (And.intro l2 n2)))
                clear hS4 s2 l2 n2
                go_wp2_with fail
                all_goals
                  go_end0
                  exact HEND.out _ C C2 HS4.out.1 HS3.out.2.1 HS3.out.2.2.1 HS3.out.2.2.2 HS4.out.2.1 HS4.out.2.2.1 HS4.out.2.2.2
            · obtain ⟨C, hS3, s1, l1, n1⟩ := HNR1.out _ HS2.out (by omega)
              have HS3 := Lib.hid (And.intro hS3 (And.intro s1 (And.intro l1 n1)))
              clear hS3 s1 l1 n1
              rcases HX2.out with ⟨y5, y6⟩ | ⟨y5, y6⟩ | y5
              · go_wp2_with fail
                all_goals
                  refine (HR2.out _ C HS3.out.1 HS3.out.2.2.2 (by omega) (by omega)).mono ?_
                  rintro _ w4 ⟨rfl, C2, hS4, s2, l2, n2⟩
                  have HS4 := Lib.hid (And.intro hS4 (And.intro s2 (And.intro l2 n2)))
                  clear hS4 s2 l2 n2 HNR2
                  go_wp2_with fail
                  all_goals
                    go_end0
                    exact HEND.out _ C C2 HS4.out.1 HS3.out.2.1 HS3.out.2.2.1 HS3.out.2.2.2 HS4.out.2.1 HS4.out.2.2.1 HS4.out.2.2.2
              · obtain ⟨C2, hS4, s2, l2, n2⟩ := HNR2.out _ C HS3.out.1 (by omega)
                have HS4 := Lib.hid (And.intro hS4 (And.intro s2 (And.intro l2 n2)))
                clear hS4 s2 l2 n2
                go_wp2_with fail
                all_goals
                  go_end0
                  exact HEND.out _ C C2 HS4.out.1 HS3.out.2.1 HS3.out.2.2.1 HS3.out.2.2.2 HS4.out.2.1 HS4.out.2.2.1 HS4.out.2.2.2
              · obtain ⟨C2, hS4, s2, l2, n2⟩ := HNR2.out _ C HS3.out.1 (by omega)
                have HS4 := Lib.hid (And.intro hS4 (And.intro s2 (And.intro l2 n2)))
                clear hS4 s2 l2 n2
                go_wp2_with fail
                all_goals
                  go_end0
                  exact HEND.out _ C C2 HS4.out.1 HS3.out.2.1 HS3.out.2.2.1 HS3.out.2.2.2 HS4.out.2.1 HS4.out.2.2.1 HS4.out.2.2.2
        · have HS2 := Lib.hid (HNR.out (by omega))
          clear HROT HNR
          rcases HX1.out with ⟨y3, y4⟩ | ⟨y3, y4⟩ | y3
          · go_wp2_with fail
            all_goals
              refine (HR1.out _ HS2.out (by omega) (by omega)).mono ?_
              rintro _ w3 ⟨rfl, C, hS3, s1, l1, n1⟩
              have HS3 := Lib.hid (And.intro hS3 (And.intro s1 (And.intro l1 n1)))
              clear hS3 s1 l1 n1 HNR1
              rcases HX2.out with ⟨y5, y6⟩ | ⟨y5, y6⟩ | y5
              · go_wp2_with fail
                all_goals
                  refine (HR2.out _ C HS3.out.1 HS3.out.2.2.2 (by omega) (by omega)).mono ?_
                  rintro _ w4 ⟨rfl, C2, hS4, s2, l2, n2⟩
                  have HS4 := Lib.hid (And.intro hS4 (And.intro s2 (And.intro l2 n2)))
                  clear hS4 s2 l2 n2 HNR2
                  go_wp2_with fail
                  all_goals
                    go_end0
                    exact HEND.out _ C C2 HS4.out.1 HS3.out.2.1 HS3.out.2.2.1 HS3.out.2.2.2 HS4.out.2.1 HS4.out.2.2.1 HS4.out.2.2.2
              · obtain ⟨C2, hS4, s2, l2, n2⟩ := HNR2.out _ C HS3.out.1 (by omega)
                have HS4 := Lib.hid (And.intro hS4 (And.intro s2 (And.intro l2 n2)))
                clear hS4 s2 l2 n2
                go_wp2_with fail
                all_goals
                  go_end0
                  exact HEND.out _ C C2 HS4.out.1 HS3.out.2.1 HS3.out.2.2.1 HS3.out.2.2.2 HS4.out.2.1 HS4.out.2.2.1 HS4.out.2.2.2
              · obtain ⟨C2, hS4, s2, l2, n2⟩ := HNR2.out _ C HS3.out.1 (by omega)
                have HS4 := Lib.hid (And.intro hS4 (And.intro s2 (And.intro l2 n2)))
                clear hS4 s2 l2 n2
                go_wp2_with fail
                all_goals
                  go_end0
                  exact HEND.out _ C C2 HS4.out.1 HS3.out.2.1 HS3.out.2.2.1 HS3.out.2.2.2 HS4.out.2.1 HS4.out.2.2.1 HS4.out.2.2.2
          · obtain ⟨C, hS3, s1, l1, n1⟩ := HNR1.out _ HS2.out (by omega)
            have HS3 := Lib.hid (And.intro hS3 (And.intro s1 (And.intro l1 n1)))
            clear hS3 s1 l1 n1
            rcases HX2.out with ⟨y5, y6⟩ | ⟨y5, y6⟩ | y5
            · go_wp2_with fail
              all_goals
                refine (HR2.out _ C HS3.out.1 HS3.out.2.2.2 (by omega) (by omega)).mono ?_
                rintro _ w4 ⟨rfl, C2, hS4, s2, l2, n2⟩
                have HS4 := Lib.hid (And.intro hS4 (And.intro s2 (And.intro l2 n2)))
                clear hS4 s2 l2 n2 HNR2
                go_wp2_with fail
                all_goals
                  go_end0
                  exact HEND.out _ C C2 HS4.out.1 HS3.out.2.1 HS3.out.2.2.1 HS3.out.2.2.2 HS4.out.2.1 HS4.out.2.2.1 HS4.out.2.2.2
            · obtain ⟨C2, hS4, s2, l2, n2⟩ := HNR2.out _ C HS3.out.1 (by omega)
              have HS4 := Lib.hid (And.intro hS4 (And.intro s2 (And.intro l2 n2)))
              clear hS4 s2 l2 n2
              go_wp2_with fail
              all_goals
                go_end0
                exact HEND.out _ C C2 HS4.out.1 HS3.out.2.1 HS3.out.2.2.1 HS3.out.2.2.2 HS4.out.2.1 HS4.out.2.2.1 HS4.out.2.2.2
            · obtain ⟨C2, hS4, s2, l2, n2⟩ := HNR2.out _ C HS3.out.1 (by omega)
              have HS4 := Lib.hid (And.intro hS4 (And.intro s2 (And.intro l2 n2)))
              clear hS4 s2 l2 n2
              go_wp2_with fail
              all_goals
                go_end0
                exact HEND.out _ C C2 HS4.out.1 HS3.out.2.1 HS3.out.2.2.1 HS3.out.2.2.2 HS4.out.2.1 HS4.out.2.2.1 HS4.out.2.2.2
          · obtain ⟨C, hS3, s1, l1, n1⟩ := HNR1.out _ HS2.out (by omega)
            have HS3 := Lib.hid (And.intro hS3 (And.intro s1 (And.intro l1 n1)))
            clear hS3 s1 l1 n1
            rcases HX2.out with ⟨y5, y6⟩ | ⟨y5, y6⟩ | y5
            · go_wp2_with fail
              all_goals
                refine (HR2.out _ C HS3.out.1 HS3.out.2.2.2 (by omega) (by omega)).mono ?_
                rintro _ w4 ⟨rfl, C2, hS4, s2, l2, n2⟩
                have HS4 := Lib.hid (And.intro hS4 (And.intro s2 (And.intro l2 n2)))
                clear hS4 s2 l2 n2 HNR2
                go_wp2_with fail
                all_goals
                  go_end0
                  exact HEND.out _ C C2 HS4.out.1 HS3.out.2.1 HS3.out.2.2.1 HS3.out.2.2.2 HS4.out.2.1 HS4.out.2.2.1 HS4.out.2.2.2
            · obtain ⟨C2, hS4, s2, l2, n2⟩ := HNR2.out _ C HS3.out.1 (by omega)
              have HS4 := Lib.hid (And.intro hS4 (And.intro s2 (And.intro l2 n2)))
              clear hS4 s2 l2 n2
              go_wp2_with fail
              all_goals
                go_end0
                exact HEND.out _ C C2 HS4.out.1 HS3.out.2.1 HS3.out.2.2.1 HS3.out.2.2.2 HS4.out.2.1 HS4.out.2.2.1 HS4.out.2.2.2
            · obtain ⟨C2, hS4, s2, l2, n2⟩ := HNR2.out _ C HS3.out.1 (by omega)
              have HS4 := Lib.hid (And.intro hS4 (And.intro s2 (And.intro l2 n2)))
              clear hS4 s2 l2 n2
              go_wp2_with fail
              all_goals
                go_end0
                exact HEND.out _ C C2 HS4.out.1 HS3.out.2.1 HS3.out.2.2.1 HS3.out.2.2.2 HS4.out.2.1 HS4.out.2.2.1 HS4.out.2.2.2
        · have HS2 := Lib.hid (HNR.out (by omega))
          clear HROT HNR
          rcases HX1.out with ⟨y3, y4⟩ | ⟨y3, y4⟩ | y3
          · go_wp2_with fail
            all_goals
              refine (HR1.out _ HS2.out (by omega) (by omega)).mono ?_
              rintro _ w3 ⟨rfl, C, hS3, s1, l1, n1⟩
              have HS3 := Lib.hid (And.intro hS3 (And.intro s1 (And.intro l1 n1)))
              clear hS3 s1 l1 n1 HNR1
              rcases HX2.out with ⟨y5, y6⟩ | ⟨y5, y6⟩ | y5
              · go_wp2_with fail
                all_goals
                  refine (HR2.out _ C HS3.out.1 HS3.out.2.2.2 (by omega) (by omega)).mono ?_
                  rintro _ w4 ⟨rfl, C2, hS4, s2, l2, n2⟩
                  have HS4 := Lib.hid (And.intro hS4 (And.intro s2 (And.intro l2 n2)))
                  clear hS4 s2 l2 n2 HNR2
                  go_wp2_with fail
                  all_goals
                    go_end0
                    exact HEND.out _ C C2 HS4.out.1 HS3.out.2.1 HS3.out.2.2.1 HS3.out.2.2.2 HS4.out.2.1 HS4.out.2.2.1 HS4.out.2.2.2
              · obtain ⟨C2, hS4, s2, l2, n2⟩ := HNR2.out _ C HS3.out.1 (by omega)
                have HS4 := Lib.hid (And.intro hS4 (And.intro s2 (And.intro l2 n2)))
                clear hS4 s2 l2 n2
                go_wp2_with fail
                all_goals
                  go_end0
                  exact HEND.out _ C C2 HS4.out.1 HS3.out.2.1 HS3.out.2.2.1 HS3.out.2.2.2 HS4.out.2.1 HS4.out.2.2.1 HS4.out.2.2.2
              · obtain ⟨C2, hS4, s2, l2, n2⟩ := HNR2.out _ C HS3.out.1 (by omega)
                have HS4 := Lib.hid (And.intro hS4 (And.intro s2 (And.intro l2 n2)))
                clear hS4 s2 l2 n2
                go_wp2_with fail
                all_goals
                  go_end0
                  exact HEND.out _ C C2 HS4.out.1 HS3.out.2.1 HS3.out.2.2.1 HS3.out.2.2.2 HS4.out.2.1 HS4.out.2.2.1 HS4.out.2.2.2
          · obtain ⟨C, hS3, s1, l1, n1⟩ := HNR1.out _ HS2.out (by omega)
            have HS3 := Lib.hid (And.intro hS3 (And.intro s1 (And.intro l1 n1)))
            clear hS3 s1 l1 n1
            rcases HX2.out with ⟨y5, y6⟩ | ⟨y5, y6⟩ | y5
            · go_wp2_with fail
              all_goals
                refine (HR2.out _ C HS3.out.1 HS3.out.2.2.2 (by omega) (by omega)).mono ?_
                rintro _ w4 ⟨rfl, C2, hS4, s2, l2, n2⟩
                have HS4 := Lib.hid (And.intro hS4 (And.intro s2 (And.intro l2 n2)))
                clear hS4 s2 l2 n2 HNR2
                go_wp2_with fail
                all_goals
                  go_end0
                  exact HEND.out _ C C2 HS4.out.1 HS3.out.2.1 HS3.out.2.2.1 HS3.out.2.2.2 HS4.out.2.1 HS4.out.2.2.1 HS4.out.2.2.2
            · obtain ⟨C2, hS4, s2, l2, n2⟩ := HNR2.out _ C HS3.out.1 (by omega)
              have HS4 := Lib.hid (And.intro hS4 (And.intro s2 (And.intro l2 n2)))
              clear hS4 s2 l2 n2
              go_wp2_with fail
              all_goals
                go_end0
                exact HEND.out _ C C2 HS4.out.1 HS3.out.2.1 HS3.out.2.2.1 HS3.out.2.2.2 HS4.out.2.1 HS4.out.2.2.1 HS4.out.2.2.2
            · obtain ⟨C2, hS4, s2, l2, n2⟩ := HNR2.out _ C HS3.out.1 (by omega)
              have HS4 := Lib.hid (And.intro hS4 (And.intro s2 (And.intro l2 n2)))
              clear hS4 s2 l2 n2
              go_wp2_with fail
              all_goals
                go_end0
                exact HEND.out _ C C2 HS4.out.1 HS3.out.2.1 HS3.out.2.2.1 HS3.out.2.2.2 HS4.out.2.1 HS4.out.2.2.1 HS4.out.2.2.2
          · obtain ⟨C, hS3, s1, l1, n1⟩ := HNR1.out _ HS2.out (by omega)
            have HS3 := Lib.hid (And.intro hS3 (And.intro s1 (And.intro l1 n1)))
            clear hS3 s1 l1 n1
            rcases HX2.out with ⟨y5, y6⟩ | ⟨y5, y6⟩ | y5
            · go_wp2_with fail
              all_goals
                refine (HR2.out _ C HS3.out.1 HS3.out.2.2.2 (by omega) (by omega)).mono ?_
                rintro _ w4 ⟨rfl, C2, hS4, s2, l2, n2⟩
                have HS4 := Lib.hid (And.intro hS4 (And.intro s2 (And.intro l2 n2)))
                clear hS4 s2 l2 n2 HNR2
                go_wp2_with fail
                all_goals
                  go_end0
                  exact HEND.out _ C C2 HS4.out.1 HS3.out.2.1 HS3.out.2.2.1 HS3.out.2.2.2 HS4.out.2.1 HS4.out.2.2.1 HS4.out.2.2.2
            · obtain ⟨C2, hS4, s2, l2, n2⟩ := HNR2.out _ C HS3.out.1 (by omega)
              have HS4 := Lib.hid (And.intro hS4 (And.intro s2 (And.intro l2 n2)))
              clear hS4 s2 l2 n2
              go_wp2_with fail
              all_goals
                go_end0
                exact HEND.out _ C C2 HS4.out.1 HS3.out.2.1 HS3.out.2.2.1 HS3.out.2.2.2 HS4.out.2.1 HS4.out.2.2.1 HS4.out.2.2.2
            · obtain ⟨C2, hS4, s2, l2, n2⟩ := HNR2.out _ C HS3.out.1 (by omega)
              have HS4 := Lib.hid (And.intro hS4 (And.intro s2 (And.intro l2 n2)))
              clear hS4 s2 l2 n2
              go_wp2_with fail
              all_goals
                go_end0
                exact HEND.out _ C C2 HS4.out.1 HS3.out.2.1 HS3.out.2.2.1 HS3.out.2.2.2 HS4.out.2.1 HS4.out.2.2.1 HS4.out.2.2.2

set_option maxHeartbeats 4000000 in
theorem sym_any (hn : n ≤ 100000) : ∀ (N : Nat) (p A B s : List Pk) (a m b : Nat) (W : World), A.length + B.length < N → SR w0 g n c (p ++ A ++ B ++ s) W → a = p.length → m = a + A.length → b = m + B.length → 0 < A.length → 0 < B.length → Srt A → Srt B →
      Calls Try.prog 95 #[.slice (some ⟨g, 0, none⟩) n c, .int .i64 (a : Int), .int .i64 (m : Int), .int .i64 (b : Int), .func (.func 63) #[] #[]] W (SymPost w0 g n c p A B s)
  | 0, p, A, B, s, a, m, b, W, h, _, _, _, _, _, _, _, _ => absurd h (by omega)
  | N + 1, p, A, B, s, a, m, b, W, hN, hS, ha, hm, hb, hA0, hB0, hA, hB => by
    rcases A with _ | ⟨x, A⟩
    · simp at hA0
    rcases A with _ | ⟨x2, A⟩
    · refine (symL_any p B s x a m b hS ha (by simpa using hm) hb hB hn).mono ?_
      rintro e w' ⟨he, C, h1, h2, h3, h4⟩
      exact ⟨he, C, h1, h2, h3, by simpa using h4⟩
    rcases B with _ | ⟨y, B⟩
    · simp at hB0
    rcases B with _ | ⟨y2, B⟩
    · refine (symR_any p (x :: x2 :: A) s y a m b hS ha hm (by simpa using hb) hA (by simp) hn).mono ?_
      rintro e w' ⟨he, C, h1, h2, h3, h4⟩
      exact ⟨he, C, h1, h2, h3, by simpa using h4⟩
    · exact sym_step N (fun p A B s a m b W h => sym_any hn N p A B s a m b W (by omega)) p _ _ s a m b W (by omega) hS ha hm hb (by simp) (by simp) hA hB hn
end
end Go.Proofs.Ytafdfjacfodbnaa
