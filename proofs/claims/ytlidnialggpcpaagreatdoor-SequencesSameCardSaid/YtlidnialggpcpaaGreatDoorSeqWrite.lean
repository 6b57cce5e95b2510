
/- The contract of the program's Write of sequences. -/
import Derived.Test.YtlidnialggpcpaaGreatDoorSeqWr
import Derived.Test.YtlidnialggpcpaaGreatDoorSeqEncW
namespace Go.Proofs.YtlidnialggpcpaaGreatDoor
open Go.RowKit

/-- A section of these sequences. -/
def SecOk (qs : List Sq) (bs : List UInt8) : Prop :=
  (qs = [] ∧ bs = [0]) ∨ (qs ≠ [] ∧ aheadFree bs ∧ ∃ T, readS bs = .ok (qs, some T) ∧ T3Ok T ∧ ((∀ q ∈ qs, ∀ p ∈ qs, q = p) → ∀ k, k < 3 → (T.tb k).es.length = 1))
/-- What Write answers. -/
def WritePost13 (qs : List Sq) (w : World) (e : Ending) (w' : World) : Prop :=
  Below w.heap.size w w' ∧ ((∀ q ∈ qs, okQ q = true) ∧ (∃ v bs, e = .returned (.tuple #[v, .int .i64 0]) ∧ OwB w' 5 w.heap.size v bs ∧ bs.length ≤ 10000000 ∧ SecOk qs bs) ∨
    (¬ ∀ q ∈ qs, okQ q = true) ∧ e = .returned (.tuple #[.slice none 0 0, .int .i64 1]))
theorem endBits_len {T : T3} (hT : T3Ok T) (s : St) : (endBits T s).length ≤ 27 := by
  have h0 := hT.o0.lg
  have h1 := hT.o1.lg
  have h2 := hT.o2.lg
  unfold endBits
  rw [List.length_append, List.length_append, low_length, low_length, low_length]
  omega
/-- The tables, as three. -/
def tbT (tb : Nat → Tb) : T3 := ⟨tb 0, tb 1, tb 2⟩
theorem tbT_at (tb : Nat → Tb) {k : Nat} (h : k < 3) : (tbT tb).tb k = tb k := by
  rcases (show k = 0 ∨ k = 1 ∨ k = 2 by omega) with rfl | rfl | rfl <;> rfl
theorem WtP.all {w : World} {rs : List Cq} {x : Ts} {tb : Nat → Tb} {mo : Nat → Nat} {tw : Nat → List UInt8} (h : WtP w rs x tb mo tw 3) :
    TsIn w w.heap.size x (tbT tb) ∧ T3Ok (tbT tb) ∧ (∀ q ∈ rs, ∀ k, k < 3 → Rea ((tbT tb).tb k).es (q.at k).c) ∧ (∀ q ∈ rs, ∀ k, k < 3 → ∃ i, ∃ h : i < ((tbT tb).tb k).es.length, ((tbT tb).tb k).es[i].s = ((q.at k).c : Int)) := by
  refine ⟨⟨fun k hk => ?_, fun k hk => ?_, fun k hk => ?_⟩, ⟨(h 0 (by omega)).2.2.1, (h 1 (by omega)).2.2.1, (h 2 (by omega)).2.2.1⟩, fun q hq k hk => ?_, fun q hq k hk => ?_⟩
  · rw [tbT_at tb hk]; exact (h k hk).1
  · rw [tbT_at tb hk]; exact (h k hk).2.1
  · rw [tbT_at tb hk]; exact (h k hk).2.2.2.2.1
  · rw [tbT_at tb hk]; exact ((h k hk).2.2.2.2.2.1 q hq).2
  · rw [tbT_at tb hk]; exact ((h k hk).2.2.2.2.2.1 q hq).1
theorem sec_of {qs : List Sq} {w : World} {x : Ts} {tb : Nat → Tb} {mo : Nat → Nat} {tw : Nat → List UInt8} {s : St} {L : List Bool} (hne : qs ≠ []) (hn : qs.length < 32512) (hok : ∀ q ∈ qs, okQ q = true) (h : WtP w (qs.map cqOf) x tb mo tw 3) (hT : Tells (tbT tb) (qs.map cqOf) s L) :
    SecOk qs (cntB qs.length ++ put (mdsW mo 3) 1 ++ toldW tw 3 ++ bytesOf (L ++ endBits (tbT tb) s ++ [true])) := by
  have h0 := h 0 (by omega)
  have h1 := h 1 (by omega)
  have h2 := h 2 (by omega)
  have hcq : ∀ q ∈ qs.map cqOf, CqOk q := fun q hq => by
    obtain ⟨p, hp, rfl⟩ := List.mem_map.1 hq
    exact (cqOf_ok (hok p hp)).1
  have hmm : (qs.map cqOf).map sqOf = qs := by
    rw [List.map_map]
    conv => rhs; rw [← List.map_id qs]
    exact List.map_congr_left fun p hp => (cqOf_ok (hok p hp)).2
  have hb := readS_back (T := tbT tb) (cs := qs.map cqOf) (s := s) (L := L) (by rw [List.length_map]; exact hn) h.all.2.1 h0.2.2.2.1 h1.2.2.2.1 h2.2.2.2.1 hT hcq
  have hf := count_free (m0 := mo 0) (m1 := mo 1) (m2 := mo 2) (n := qs.length) (r := toldW tw 3 ++ bytesOf (L ++ endBits (tbT tb) s ++ [true])) hn h0.2.2.2.1.1 h1.2.2.2.1.1 h2.2.2.2.1.1
  rw [List.length_map, hmm, ← mdsW_three, ← toldW_three] at hb
  rw [← mdsW_three] at hf
  refine .inr ⟨hne, ?_, tbT tb, ?_, h.all.2.1, fun hall k hk => ?_⟩
  · simpa [List.append_assoc] using hf
  · simpa [List.append_assoc] using hb
  · rw [tbT_at tb hk]
    refine (h k hk).2.2.2.2.2.2.1 fun q hq p hp => ?_
    obtain ⟨q', hq', rfl⟩ := List.mem_map.1 hq
    obtain ⟨p', hp', rfl⟩ := List.mem_map.1 hp
    rw [hall q' hq' p' hp']
section
variable {B : Nat} {w : World} {lo hi n c : Nat} {A : Option Addr} {qs : List Sq}
set_option maxRecDepth 100000 in
set_option maxHeartbeats 4000000 in
theorem write13_any (hgl : GS B w) (hd : DatR 3 scell w lo hi A qs) (hhi : hi ≤ w.heap.size) (hn : qs.length = n) (hn2 : n ≤ 1000) (hsm : ∀ q ∈ qs, q.Small) :
    Calls Tryz.prog 13 #[.slice A n c] w (WritePost13 qs w) := by
  have hBw := hgl.size
  have HEn := Lib.hid (encode_any (c := c) hgl hd hhi hn (by omega) hsm)
  have HG := Lib.hid hgl
  have HN := Lib.hid hn
  have hn98 : decide ((98047 : Int) < (n : Int)) = false := by simp; omega
  clear hgl hd hn hsm
  go_enter Tryz.func13, Tryz.ntmps13
  go_wp2_with fail
  refine HEn.out.mono ?_
  rintro e w1 ⟨hB1, ⟨hok, v1, rfl, ho1⟩ | ⟨hno, rfl⟩⟩
  · obtain ⟨A1, c1, rfl, hc1, hd1⟩ := ho1.form Cq.list_len
    have hln1 : (qs.map cqOf).length = n := by rw [List.length_map]; exact HN.out
    rw [hln1] at hc1 ⊢
    have HO := Lib.hid (And.intro hok (And.intro hd1 (And.intro hln1 hB1)))
    have hs1 := hB1.size
    clear hok ho1 hd1 hln1 hB1 HEn
    go_wp2_with fail
    refine (cu.newWriter_any w1).mono ?_
    rintro e w2 ⟨rfl, hw2, hB2⟩
    have hs2 := hB2.size
    have hg2 := hw2.lt
    have HC := Lib.hid (writeCount_any (n := n) hw2 (by omega) (by simp))
    rw [List.nil_append] at HC
    have HB2 := Lib.hid hB2
    clear hw2 hB2
    go_wp2_with fail
    refine HC.out.mono ?_
    rintro e w3 ⟨rfl, hw3, hB3⟩
    have hs3 := hB3.size
    have HB3 := Lib.hid (HB2.out.trans hB3)
    have HW3 := Lib.hid hw3
    clear hw3 hB3 HC HB2
    by_cases h0 : n = 0
    · subst h0
      have hq0 : qs = [] := List.eq_nil_of_length_eq_zero HN.out
      have HOu := Lib.hid (cu.out_any HW3.out (by have := cntB_len 0; omega))
      go_wp2_with fail
      refine HOu.out.mono ?_
      rintro e w4 ⟨v4, rfl, ho4, hB4⟩
      have HF : Hid (WritePost13 qs w (.returned (.tuple #[v4, .int .i64 0])) w4) := by
        refine ⟨(HO.out.2.2.2.trans (HB3.out.mono hs1)).trans (hB4.mono (by omega)), .inl ⟨HO.out.1, v4, cntB 0, rfl, ho4.mono (by omega), by have := cntB_len 0; omega, .inl ⟨hq0, ?_⟩⟩⟩
        unfold cntB
        rw [if_pos (by omega), put_one]
        rfl
      clear ho4 hB4
      go_wp2_with fail
      go_ret2
      exact HF.out
    · have h0i : (0 : Int) < (n : Int) := by omega
      have hd3 : DatR 9 Cq.list w3 w.heap.size w1.heap.size A1 (qs.map cqOf) := HO.out.2.1.below HB3.out (Nat.le_refl _)
      have hg3 : GS B w3 := (HG.out.below HO.out.2.2.2 hBw).below HB3.out (by omega)
      have hcc : ∀ k, k < 3 → ∀ q ∈ qs.map cqOf, (q.at k).c ≤ lastN k := fun k hk q hq => by
        obtain ⟨p, hp, rfl⟩ := List.mem_map.1 hq
        have hcq := (cqOf_ok (HO.out.1 p hp)).1
        rcases (show k = 0 ∨ k = 1 ∨ k = 2 by omega) with rfl | rfl | rfl
        · exact hcq.l.c
        · exact hcq.o.c
        · exact hcq.m.c
      have HWt := Lib.hid (writeTables_any (c := c1) hg3 HW3.out hd3 (by omega) HO.out.2.2.1 (by omega) hn2 hcc (by have := cntB_len n; omega))
      clear hd3 hg3 hcc
      go_wp2_with fail
      refine HWt.out.mono ?_
      rintro e w4 ⟨x, tb, mo, tw, rfl, hwp, hw4, hB4⟩
      obtain ⟨hti, hT3, hre, hha⟩ := hwp.all
      have hs4 := hB4.size
      have hd4 : DatR 9 Cq.list w4 w.heap.size w1.heap.size A1 (qs.map cqOf) := HO.out.2.1.below (HB3.out.trans hB4) (Nat.le_refl _)
      have hg4 : GS B w4 := (HG.out.below HO.out.2.2.2 hBw).below (HB3.out.trans hB4) (by omega)
      obtain ⟨W5, hW5⟩ : ∃ W5, W5 = w4.alloc (.cells x.cells 29) := ⟨_, rfl⟩
      have hb5 : Below w4.heap.size w4 W5 := by rw [hW5]; exact (Below.refl _ _).alloc (Nat.le_refl _) _
      have hx5 : Box W5 w4.heap.size 29 x.cells := by rw [hW5]; exact Box.new w4 _ _
      obtain ⟨⟨t0, t1, t2, t3, t4, t5⟩, _⟩ := box6 hx5
      have hcq : ∀ q ∈ qs.map cqOf, CqOk q := fun q hq => by
        obtain ⟨p, hp, rfl⟩ := List.mem_map.1 hq
        exact (cqOf_ok (HO.out.1 p hp)).1
      have HWb := Lib.hid (writeB_any (c2 := c1) (hg4.below hb5 hg4.size) (hti.below hb5 (Nat.le_refl _)) hb5.size hT3 (hd4.below hb5 (by omega)) (by have := hb5.size; omega) HO.out.2.2.1 (by omega) hn2 hcq hre hha)
      have hlt := toldW_len tw (fun j hj => (hwp.tell j hj).2) 3 (by omega)
      have HP := Lib.hid (And.intro hwp (And.intro hT3 (And.intro (hw4.below hb5 (Nat.le_refl _)) (And.intro (hB4.trans (hb5.mono (by omega))) hlt))))
      have hs5 := hb5.size
      unfold Ts.val at HWb
      clear hti hT3 hre hha hd4 hg4 hb5 hx5 hcq hwp hw4 hB4 HWt hlt
      unfold Ts.val
      go_upto_region 10 with (fail)
      change Code.wp _ _ _ _ (w4.alloc (.cells x.cells 29))
      rw [← hW5]
      clear hW5
      go_wp2_with fail
      refine HWb.out.mono ?_
      rintro e w6 ⟨v6, s, L, rfl, hTl, hL, ho6, hB6⟩
      obtain ⟨A6, c6, rfl, hc6, hd6⟩ := ho6.form
      obtain ⟨hwp, hT3, hw5, hB5, hlt⟩ := HP.out
      have hle := endBits_len hT3 s
      have hbl : (bytesOf (L ++ endBits (tbT tb) s ++ [true])).length ≤ 100000 := by
        rw [bytesOf_length, List.length_append, List.length_append, List.length_singleton]
        omega
      have hcl := cntB_len n
      have hpl := put_length (mdsW mo 3) 1
      have HBy := Lib.hid (cu.wbytes_any (c := c6) (hw5.below hB6 (Nat.le_refl _)) hd6 rfl (by rw [List.length_append, List.length_append]; omega))
      have HSec := Lib.hid (sec_of (fun e => h0 (by rw [← HN.out, e]; rfl)) (by have := HN.out; omega) HO.out.1 hwp hTl)
      rw [HN.out] at HSec
      have HB6 := Lib.hid (HB3.out.trans (hB5.trans (hB6.mono (by omega))))
      have hs6 := hB6.size
      obtain ⟨N6, hN6⟩ : ∃ N6, N6 = (bytesOf (L ++ endBits (tbT tb) s ++ [true])).length := ⟨_, rfl⟩
      rw [← hN6] at HBy ⊢
      have HLn : Hid ((cntB n ++ put (mdsW mo 3) 1 ++ toldW tw 3 ++ bytesOf (L ++ endBits (tbT tb) s ++ [true])).length ≤ 1000000) := by
        rw [Hid, List.length_append, List.length_append, List.length_append]
        omega
      clear hN6 ho6 hd6 hc6 hwp hT3 hw5 hB5 hlt hle hbl hTl hL hB6 HWb HP hpl
      go_wp2_with fail
      refine HBy.out.mono ?_
      rintro e w7 ⟨rfl, hw7, hB7⟩
      have HOu := Lib.hid (cu.out_any hw7 (by have := HLn.out; omega))
      have HB7 := Lib.hid (HB6.out.trans hB7)
      have hs7 := hB7.size
      clear hw7 hB7 HBy HB6
      go_wp2_with fail
      refine HOu.out.mono ?_
      rintro e w8 ⟨v8, rfl, ho8, hB8⟩
      have HF : Hid (WritePost13 qs w (.returned (.tuple #[v8, .int .i64 0])) w8) :=
        ⟨(HO.out.2.2.2.trans (HB7.out.mono hs1)).trans (hB8.mono (by omega)), .inl ⟨HO.out.1, v8, _, rfl, ho8.mono (by omega), by have := HLn.out; omega, HSec.out⟩⟩
      clear ho8 hB8 HSec HLn
      go_wp2_with fail
      go_ret2
      exact HF.out
  · have HF : Hid (WritePost13 qs w (.returned (.tuple #[.slice none 0 0, .int .i64 1])) w1) := ⟨hB1, .inr ⟨hno, rfl⟩⟩
    clear hno hB1 HEn
    go_wp2_with fail
    go_ret2
    exact HF.out
end
end Go.Proofs.YtlidnialggpcpaaGreatDoor
