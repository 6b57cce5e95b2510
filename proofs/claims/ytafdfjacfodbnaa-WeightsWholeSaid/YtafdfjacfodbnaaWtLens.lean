
/- The contract of the program's lengthsOf. -/
import Derived.Test.YtafdfjacfodbnaaWtSingles
import Derived.Test.YtafdfjacfodbnaaPileC
namespace Go.Proofs.Ytafdfjacfodbnaa
open Go.RowKit

section
variable {S : List Pk}
theorem lev_bound {M : Nat} (hM : ∀ x ∈ S, x.n ≤ M ∧ x.y.length ≤ 1) : ∀ (k : Nat) (B : List Pk), Lev S k B → ∀ x ∈ B, x.n ≤ 2 ^ k * M ∧ x.y.length ≤ 2 ^ k
  | 0, B, h => by
    have h : B = S := h
    subst h
    simpa using hM
  | k + 1, B, ⟨B', P, h, hP, hB, hA⟩ => by
    intro x hx
    have hp : 1 ≤ 2 ^ k := Nat.one_le_two_pow
    rw [Nat.pow_succ]
    rcases List.mem_append.1 (hA.symm.mem hx) with q | q
    · have := hM x q
      have h1 : M ≤ 2 ^ k * 2 * M := by
        have := Nat.mul_le_mul_right M (show 1 ≤ 2 ^ k * 2 by omega)
        omega
      omega
    · obtain ⟨i, hi, rfl⟩ := mem_get q
      obtain ⟨a, b, _⟩ := hP.2 i hi
      have hl := hP.1
      have c := lev_bound hM k B' h _ (get_mem B' (2 * i) (by omega))
      have d := lev_bound hM k B' h _ (get_mem B' (2 * i + 1) (by omega))
      rw [a, b, List.length_append]
      have e : 2 ^ k * 2 * M = 2 ^ k * M + 2 ^ k * M := by rw [Nat.mul_assoc, Nat.mul_comm 2 M, ← Nat.mul_assoc]; omega
      omega
theorem lev_syms : ∀ (k : Nat) (B : List Pk), (∀ x ∈ S, x.y = [sy x]) → Lev S k B → ∀ x ∈ B, ∀ v ∈ x.y, v ∈ S.map sy
  | 0, B, h1, h => by
    have h : B = S := h
    subst h
    intro x hx v hv
    rw [h1 x hx] at hv
    rw [List.mem_singleton.1 hv]
    exact List.mem_map.2 ⟨x, hx, rfl⟩
  | k + 1, B, h1, ⟨B', P, h, hP, hB, hA⟩ => by
    intro x hx v hv
    rcases List.mem_append.1 (hA.symm.mem hx) with q | q
    · rw [h1 x q] at hv
      rw [List.mem_singleton.1 hv]
      exact List.mem_map.2 ⟨x, q, rfl⟩
    · obtain ⟨i, hi, rfl⟩ := mem_get q
      have b := (hP.2 i hi).2.1
      have hl := hP.1
      rw [b] at hv
      rcases List.mem_append.1 hv with r | r
      · exact lev_syms k B' h1 h _ (get_mem B' (2 * i) (by omega)) v r
      · exact lev_syms k B' h1 h _ (get_mem B' (2 * i + 1) (by omega)) v r
theorem cn_le (v : UInt8) (c : Nat) (T : List Pk) (h : ∀ x ∈ T, x.y.length ≤ c) : cn v T ≤ T.length * c := by
  induction T with
  | nil => simp [cn]
  | cons x r ih =>
    have a := ih fun z hz => h z (by simp [hz])
    have b := h x (by simp)
    have d : x.y.count v ≤ x.y.length := List.count_le_length
    rw [cn, List.length_cons, Nat.add_mul]
    omega
end

section
variable {w : World}
/-- The rows behind a round. -/
theorem round_next {w wx w1 w2 w3 w4 : World} {v3 : Value} {S B P L : List Pk} {g c n : Nat} {k : Nat} (hB : Below w.heap.size w wx) (ho3 : OwR 2 pcell wx 97 w.heap.size v3 S) (hh3 : Has wx w.heap.size S) (hL : Lev S k B)
    (h1 : Below wx.heap.size wx w1) (hhP : Has w1 w.heap.size P) (hP : PairsOf B P) (h2 : Below w1.heap.size w1 w2) (h3 : Below w2.heap.size w2 w3) (ho : OwR 2 pcell w3 97 w2.heap.size (.slice (some ⟨g, 0, none⟩) n c) (S ++ P)) (hS : SR w3 g n c L w4) (hsrt : Srt L) (hal : Alike (S ++ P) L) :
    Below w.heap.size w w4 ∧ OwR 2 pcell w4 97 w.heap.size v3 S ∧ Has w4 w.heap.size S ∧ Lev S (k + 1) L ∧ OwR 2 pcell w4 97 w.heap.size (.slice (some ⟨g, 0, none⟩) n c) L ∧ Has w4 w.heap.size L := by
  have s0 := hB.size
  have s1 := h1.size
  have s2 := h2.size
  have s3 := h3.size
  have hg := ho.block g rfl
  have b13 : Below w1.heap.size w1 w3 := h2.trans (h3.mono s2)
  have bx3 : Below wx.heap.size wx w3 := h1.trans (b13.mono s1)
  have o3 := ho3.below bx3 (Nat.le_refl _)
  have a3 := hh3.below bx3 (Nat.le_refl _)
  have p3 := hhP.below b13 (Nat.le_refl _)
  have all : Has w4 w.heap.size (S ++ P) := (a3.append p3).grown ho hS.2.1
  refine ⟨below_grown (hB.trans (bx3.mono s0)) hS.2.1 (fun k hk => by injection hk with hk; omega) (by omega), o3.grown hS.2.1 ?_, fun x hx => all x (List.mem_append.2 (.inl hx)), ⟨B, P, hL, hP, hsrt, hal⟩, hS.1.mono (by omega), fun x hx => all x (hal.symm.mem hx)⟩
  rcases hv : v3.ownBlock with _ | q
  · exact .inl rfl
  · right
    intro e
    injection e with e
    have := (ho3.block q hv).2
    omega

/-- How often each symbol is in bundles, and in these symbols. -/
def lensP (n : Nat) (T : List Pk) (ys : List UInt8) : List Int := (List.range n).map fun j => ((cn (UInt8.ofNat j) T + ys.count (UInt8.ofNat j) : Nat) : Int)
/-- How often each symbol is in bundles. -/
def lens (n : Nat) (T : List Pk) : List Int := lensP n T []
theorem lensP_len (n : Nat) (T : List Pk) (ys : List UInt8) : (lensP n T ys).length = n := by simp [lensP]
theorem lensP_get {n : Nat} {T : List Pk} {ys : List UInt8} {j : Nat} (h : j < (lensP n T ys).length) : (lensP n T ys)[j] = ((cn (UInt8.ofNat j) T + ys.count (UInt8.ofNat j) : Nat) : Int) := by simp [lensP]
theorem lens_zero (n : Nat) : lens n [] = List.replicate n 0 := by
  apply List.ext_getElem
  · simp [lens, lensP]
  · intro i h1 h2
    simp [lens, lensP, cn]
theorem lens_next (n : Nat) (T : List Pk) (x : Pk) : lensP n T x.y = lens n (T ++ [x]) := by
  unfold lens lensP
  refine List.map_congr_left fun j _ => ?_
  rw [cn_append]
  simp [cn]
theorem lensP_set {n : Nat} {T : List Pk} {ys : List UInt8} {v : UInt8} (hn : n ≤ 256) : (lensP n T ys).set v.toNat (((cn v T + ys.count v : Nat) : Int) + 1) = lensP n T (ys ++ [v]) := by
  apply List.ext_getElem
  · simp [lensP]
  · intro j h1 h2
    rw [List.getElem_set]
    by_cases h : v.toNat = j
    · rw [if_pos h]
      have e : UInt8.ofNat j = v := by rw [← h]; simp
      rw [lensP_get, e, List.count_append, List.count_singleton]
      simp
      omega
    · rw [if_neg h, lensP_get, lensP_get, List.count_append, List.count_singleton]
      have hj : j < n := by simpa [lensP] using h1
      have : (v == UInt8.ofNat j) = false := by
        rw [beq_eq_false_iff_ne]
        intro e
        apply h
        rw [e]
        simp
        omega
      simp [this]
/-- The bundles tell lengths of codes. -/
def Told (os : List Nat) (T : List Pk) : Prop := (∀ j, j < 256 → 0 < os.getD j 0 → 1 ≤ cn (UInt8.ofNat j) T ∧ cn (UInt8.ofNat j) T ≤ 11) ∧ (∀ j, j < 256 → ¬ 0 < os.getD j 0 → cn (UInt8.ofNat j) T = 0) ∧ ((sgs 0 os).map fun p => 2 ^ (11 - cn p.2 T)).sum = 2 ^ 11
theorem told_of {os : List Nat} {S0 S B T : List Pk} (h : SingOf os S0) (ha : Alike S0 S) (hs : Srt S) (hl : os.length ≤ 256) (h2 : 2 ≤ cnt os) (hL : Lev S 10 B) (hT : T = B.take (2 * S.length - 2)) : Told os T := by
  have hS := sing_of h hl hs ha
  have hsl := sing_len h ha
  have hcl := cnt_le os
  obtain ⟨a, b, c⟩ := pack_all hS (by omega) (by omega) hL hT
  refine ⟨fun j hj h0 => ?_, fun j hj h0 => b _ fun hm => h0 ((sing_mem h ha hl hj).1 hm), ?_⟩
  · obtain ⟨x, hx, e⟩ := List.mem_map.1 ((sing_mem h ha hl hj).2 h0)
    rw [← e]
    exact a x hx
  · rw [← sing_sum h ha fun v => 2 ^ (11 - cn v T)]
    exact c

theorem OwR.cells2 {u b d m c : Nat} {xs : List Pk} (h : OwR 2 pcell w u b (.slice (some ⟨d, 0, none⟩) m c) xs) (i : Nat) (hi : i < xs.length) : w.cell? ⟨d, i * 2, none⟩ = some (.int .u64 (xs[i]!.n : Int)) ∧ w.cell? ⟨d, i * 2 + 1, none⟩ = some (.slice xs[i]!.a xs[i]!.l xs[i]!.c) := by
  rw [getElem!_pos xs i hi]
  exact ⟨(h.cellAt pcell_len i 0 hi (by decide) _ rfl).1, (h.cellAt pcell_len i 1 hi (by decide) _ rfl).1⟩
theorem OwR.byteAt {u b c l : Nat} {A : Option Addr} {ys : List UInt8} (h : OwR 1 bcel w u b (.slice A l c) ys) (j : Nat) (hj : j < l) : ∃ d, A = some ⟨d, 0, none⟩ ∧ ∃ h2 : j < ys.length, w.cell? ⟨d, j, none⟩ = some (.int .u8 (ys[j].toNat : Int)) := by
  have hl := h.len
  obtain ⟨d, c', hv, _, _, _⟩ := h.place (by omega)
  injection hv with e1 e2 e3
  subst e1
  refine ⟨d, rfl, by omega, ?_⟩
  have := (h.cellAt bcel_len j 0 (by omega) (by decide) _ rfl).1
  rw [show j * 1 + 0 = j by omega] at this
  exact this

set_option maxRecDepth 100000 in
set_option maxHeartbeats 1000000 in
theorem lengths_any {lo hi n c : Nat} {A : Option Addr} {os : List Nat} (hd : DatE ucel w lo hi A os) (hn : os.length = n) (hm : n ≤ 256) (hb : ∀ o ∈ os, o ≤ 4294967295) (hhi : hi ≤ w.heap.size) (h2 : 2 ≤ cnt os) :
    Calls Try.prog 36 #[.slice A n c] w fun e w' => ∃ v T, e = .returned v ∧ OwE icel w' 3 w.heap.size v (lens n T) ∧ Below w.heap.size w w' ∧ Told os T := by
  have HC := Lib.hid (singles_any (c := c) hd hn hm hb hhi (Nat.le_trans (by decide) h2))
  have hcl := cnt_le os
  have HD := Lib.hid (And.intro hn (And.intro hb (And.intro h2 hcl)))
  clear hd hn hb h2 hcl
  go_enter Try.func36, Try.ntmps36
  go_wp2_with fail
  refine HC.out.mono ?_
  rintro _ w1 ⟨g, c1, S0, S, rfl, hO, hHs, hSi, hSr, hAl, hB⟩
  have HO := Lib.hid (And.intro hO (And.intro hHs hB))
  have HSi := Lib.hid (And.intro hSi (And.intro hSr hAl))
  have hsl : S.length = cnt os := sing_len hSi hAl
  have HSl := Lib.hid hsl
  clear HC hO hHs hSi hSr hAl hB hsl
  go_wp2_with fail
  go_loopg [4, 13] 10 (fun g1 vb vi wx => ∃ (k gb cb : Nat) (B : List Pk), vi = .int .i64 (k : Int) ∧ k + g1 = 10 ∧ vb = .slice (some ⟨gb, 0, none⟩) B.length cb ∧ Below w.heap.size w wx ∧ OwR 2 pcell wx 97 w.heap.size (.slice (some ⟨g, 0, none⟩) S.length c1) S ∧ Has wx w.heap.size S ∧ Lev S k B ∧ OwR 2 pcell wx 97 w.heap.size (.slice (some ⟨gb, 0, none⟩) B.length cb) B ∧ Has wx w.heap.size B)
  case atStart => exact ⟨0, g, c1, S, rfl, rfl, rfl, HO.out.2.2, HO.out.1, HO.out.2.1, rfl, HO.out.1, HO.out.2.1⟩
  case round =>
    clear HO
    obtain ⟨k, gb, cb, B, rfl, hk, rfl, hB, ho, hh, hL, hob, hhb⟩ := hrel
    have hsz := hB.size
    by_cases hlt : k < 10
    · have hltz : (k : Int) < 10 := by omega
      have HP := Lib.hid (And.intro hB (And.intro ho (And.intro hh hL)))
      have hS1 := HSi.out
      have hbl := lev_le k B hL
      have hbd : ∀ x ∈ B, x.n ≤ 1125899906842624 ∧ x.l ≤ 1000 := fun x hx => by
        obtain ⟨q1, q2⟩ := lev_bound (S := S) (M := 4294967295) (fun z hz => by
          have hz0 := hS1.2.2.symm.mem hz
          refine ⟨?_, by rw [(hS1.1.2 z hz0).1]; simp⟩
          have : (z.n, sy z) ∈ sgs 0 os := by rw [← hS1.1.1]; exact List.mem_map.2 ⟨z, hz0, rfl⟩
          obtain ⟨_, j, hj, e, _⟩ := sgs_mem this
          simp only at e
          rw [← e, List.getD_eq_getElem?_getD, List.getElem?_eq_getElem hj]
          exact HD.out.2.1 _ (List.getElem_mem hj)) k B hL x hx
        have hp : 2 ^ k ≤ 2 ^ 9 := Nat.pow_le_pow_right (by omega) (by omega)
        have hl := (hhb x hx).len
        refine ⟨Nat.le_trans q1 (Nat.le_trans (Nat.mul_le_mul_right _ hp) (by decide)), by omega⟩
      have HCp := Lib.hid (pairs_any (c := cb) (hob.dat pcell_len) rfl (by have := HSl.out; have := HD.out.2.2.2; have := HD.out.1; omega) (Nat.le_refl _) hhb hsz hbd)
      clear hB ho hh hL hob hhb hbl hbd hS1
      go_wp2_with fail
      refine HCp.out.mono ?_
      rintro _ w2 ⟨vP, P, rfl, hoP, hhP, hP, hB2⟩
      obtain ⟨AP, cP, rfl, -, hdP⟩ := hoP.form pcell_len
      have HQ := Lib.hid (And.intro hhP (And.intro hP hB2))
      have hbx := Box.new w2 92 #[.slice (some ⟨g, 0, none⟩) S.length c1, .slice AP P.length cP]
      have hs2 := hB2.size
      have hcat := catP_any (w := w2.alloc (.cells #[.slice (some ⟨g, 0, none⟩) S.length c1, .slice AP P.length cP] 92)) (h := w2.heap.size) (k1 := c1) (k2 := cP) (hbx.cell 0) (hbx.cell 1) (((HP.out.2.1.below hB2 (Nat.le_refl _)).alloc _).dat pcell_len) (hdP.alloc (Nat.le_refl _) _) rfl rfl (by have := HSl.out; have := HD.out.2.2.2; have := HD.out.1; omega) (by have := hP.1; have := lev_le k B HP.out.2.2.2; have := HSl.out; have := HD.out.2.2.2; have := HD.out.1; omega) (Nat.le_refl _) (by rw [World.size_alloc]; omega)
      have HCat := Lib.hid hcat
      clear hoP hhP hP hB2 hdP HCp hbx hcat
      go_wp2_with fail
      refine HCat.out.mono ?_
      rintro _ w3 ⟨v5, rfl, ho5, hB5⟩
      have hcl := HD.out.2.2.1
      have hsl := HSl.out
      have hpl := HQ.out.2.1.1
      have hbl := lev_le k B HP.out.2.2.2
      have hcl2 := HD.out.2.2.2
      have hnn := HD.out.1
      obtain ⟨g5, c5, hv5, q1, q2, q3⟩ := ho5.place (by simp; omega)
      subst hv5
      have hR := rising_any (S ++ P) (SR.start (own_at ho5)) (by simp; omega)
      rw [List.length_append] at hR ho5
      have HR := Lib.hid hR
      have HO5 := Lib.hid (And.intro ho5 hB5)
      clear ho5 hB5 hR HCat hcl hsl hpl hbl hcl2 hnn q1 q2 q3
      go_wp2_with fail
      refine HR.out.mono ?_
      rintro _ w4 ⟨rfl, L, hS4, hL1, hL2⟩
      obtain ⟨r1, r2, r3, r4, r5, r6⟩ := round_next HP.out.1 HP.out.2.1 HP.out.2.2.1 HP.out.2.2.2 HQ.out.2.2 HQ.out.1 HQ.out.2.1 ((Below.refl _ _).alloc (Nat.le_refl _) _) HO5.out.2 HO5.out.1 hS4 hL1 hL2
      have hll : L.length = S.length + P.length := hS4.len
      have HN := Lib.hid (And.intro r1 (And.intro r2 (And.intro r3 (And.intro r4 (And.intro r5 (And.intro r6 hll))))))
      clear hS4 hL1 hL2 r1 r2 r3 r4 r5 r6 hll HR HO5 HP HQ
      go_wp2_with fail
      go_roundg (10 - (k + 1))
      case measure => omega
      case rel =>
        obtain ⟨r1, r2, r3, r4, r5, r6, hll⟩ := HN.out
        exact ⟨k + 1, g5, c5, L, by go_num, by omega, by rw [hll], r1, r2, r3, r4, by rw [hll]; exact r5, r6⟩
    · obtain rfl : k = 10 := by omega
      have hcl := HD.out.2.2.1
      have hsl := HSl.out
      have hcl2 := HD.out.2.2.2
      have hnn := HD.out.1
      have hen := lev_enough (by omega) hL
      have hbc := hob.cap pcell_len
      have HS2 := Lib.hid (told_of HSi.out.1 HSi.out.2.2 HSi.out.2.1 (by omega) hcl hL rfl)
      have HP := Lib.hid (And.intro hB (And.intro hL (And.intro hob hhb)))
      have e2 : 2 * (S.length : Int) - 2 = ((2 * S.length - 2 : Nat) : Int) := by omega
      have hcb : 2 * S.length - 2 ≤ cb := by omega
      have hs256 : S.length ≤ 256 := by omega
      have hs22 : 2 ≤ S.length := by omega
      clear hB ho hh hL hob hhb hen hcl hcl2 hnn hsl hbc
      obtain ⟨i0, hi0, hz0, hz1, hz2⟩ := info_parts int_info
      have HI := Lib.hid (And.intro hi0 (And.intro hz0 (And.intro hz1 hz2)))
      clear hi0 hz0 hz1 hz2
      go_wp2_with (at_make; refine wpList_make_full _ rfl _ _ 66 rfl w.heap.size 3 i0 (.int .i64 0) 1 Try.underlying66 HI.out.1 HI.out.2.1 HI.out.2.2.1 .i64 .i64 _ _ n rfl rfl rfl rfl ?_ ?_ ?_ ?_)
      · rw [HI.out.2.2.2]; omega
      · unfold maxLen; omega
      · exact hsz
      intro w2 ho hg
      have ho1 : OwE icel w2 3 w.heap.size (.slice (some ⟨wr.heap.size, 0, none⟩) n n) (lens n []) := by
        unfold OwE
        rw [made_ints] at ho
        rw [lens_zero]
        simpa using ho
      have HO := Lib.hid (And.intro ho1 ((Below.refl wr.heap.size wr).grown hg (Nat.le_refl _) (by simp)))
      obtain ⟨m, hm2⟩ : ∃ m, m = 2 * S.length - 2 := ⟨_, rfl⟩
      rw [← hm2] at hcb e2 HS2
      have HM := Lib.hid hm2
      clear ho ho1 hg hm2
      go_wp2_with fail
      have HBnd : Hid (∀ x ∈ B, x.y.length ≤ 1024 ∧ ∀ v ∈ x.y, v.toNat < n) := by
        intro x hx
        have hS := sing_of HSi.out.1 (by have := HD.out.1; omega) HSi.out.2.1 HSi.out.2.2
        have hS1 := HSi.out
        obtain ⟨-, q2⟩ := lev_bound (S := S) (M := 4294967295) (fun z hz => by
          have hz0 := hS1.2.2.symm.mem hz
          refine ⟨?_, by rw [(hS1.1.2 z hz0).1]; simp⟩
          have : (z.n, sy z) ∈ sgs 0 os := by rw [← hS1.1.1]; exact List.mem_map.2 ⟨z, hz0, rfl⟩
          obtain ⟨_, j, hj, e, _⟩ := sgs_mem this
          simp only at e
          rw [← e, List.getD_eq_getElem?_getD, List.getElem?_eq_getElem hj]
          exact HD.out.2.1 _ (List.getElem_mem hj)) 10 B HP.out.2.1 x hx
        refine ⟨q2, fun v hv => ?_⟩
        have hm := lev_syms 10 B (fun z hz => hS.one z hz) HP.out.2.1 x hx v hv
        have hm2 : UInt8.ofNat v.toNat ∈ S.map sy := by simpa using hm
        have hlt8 := v.toNat_lt
        have h0 := (sing_mem hS1.1 hS1.2.2 (by have := HD.out.1; omega) (by omega)).1 hm2
        rcases Nat.lt_or_ge v.toNat os.length with q | q
        · have := HD.out.1; omega
        · rw [List.getD_eq_getElem?_getD, List.getElem?_eq_none q] at h0
          simp at h0
      go_loopg [32] m (fun g1 vi wx => ∃ i : Nat, vi = .int .i64 (i : Int) ∧ i + g1 = m ∧ OwE icel wx 3 w.heap.size (.slice (some ⟨wr.heap.size, 0, none⟩) n n) (lens n (B.take i)) ∧ Below wr.heap.size wr wx)
      case atStart => exact ⟨0, rfl, by omega, by simpa using HO.out.1, HO.out.2⟩
      case round =>
        clear HO
        obtain ⟨i, rfl, hi, hO, hB⟩ := hrel
        rename World => wx
        have hszx := hB.size
        by_cases hlt2 : i < m
        · have hltz : (i : Int) < (m : Int) := by omega
          have hiB : i < B.length := by
            have := lev_enough (by have := HSl.out; have := HD.out.2.2.2; have := HD.out.1; omega) HP.out.2.1
            have := HM.out
            omega
          obtain ⟨c0, c0'⟩ := (HP.out.2.2.1.below hB (Nat.le_refl _)).cells2 i hiB
          obtain ⟨x, hx⟩ : ∃ x, x = B[i]! := ⟨_, rfl⟩
          rw [← hx] at c0 c0'
          have hxm : x ∈ B := by rw [hx]; exact get_mem B i hiB
          have HXm := Lib.hid (And.intro hxm (And.intro hx hiB))
          have HO2 := Lib.hid (And.intro hO hB)
          have hgb : gb < wx.heap.size := by have := (HP.out.2.2.1.block gb rfl).2; omega
          have HLen : Hid (x.l = x.y.length) := by show _ = _; rw [(HP.out.2.2.2 x hxm).len]
          have hx1024 : x.l ≤ 1024 := by rw [HLen.out]; exact (HBnd.out x hxm).1
          clear hO hB hxm hx hiB
          go_wp2_with fail
          obtain ⟨xa, hxa0⟩ : ∃ xa, x.a = xa := ⟨_, rfl⟩
          have HXa := Lib.hid hxa0
          rw [hxa0]
          clear hxa0
          go_loopg [39] x.l (fun g2 vj wy => ∃ j : Nat, vj = .int .i64 (j : Int) ∧ j + g2 = x.l ∧ OwE icel wy 3 w.heap.size (.slice (some ⟨wr.heap.size, 0, none⟩) n n) (lensP n (B.take i) (x.y.take j)) ∧ Below wr.heap.size wr wy)
          case atStart => exact ⟨0, rfl, by omega, by rw [List.take_zero]; exact HO2.out.1.alloc _, HO2.out.2.alloc hszx _⟩
          case round =>
            clear HO2
            obtain ⟨j, rfl, hj, hO, hB⟩ := hrel
            by_cases hlt3 : j < x.l
            · have hltz3 : (j : Int) < (x.l : Int) := by omega
              obtain ⟨dx, hxa, hjl, cj⟩ := ((HP.out.2.2.2 x HXm.out.1).below hB (Nat.le_refl _)).byteAt j hlt3
              have hv := (HBnd.out x HXm.out.1).2 x.y[j] (List.getElem_mem hjl)
              have hset := lensP_set (n := n) (T := B.take i) (ys := x.y.take j) (v := x.y[j]) hm
              rw [← List.take_succ_eq_append_getElem hjl] at hset
              have hlt8 := x.y[j].toNat_lt
              have hlg := lensP_get (n := n) (T := B.take i) (ys := x.y.take j) (j := x.y[j].toNat) (by rw [lensP_len]; exact hv)
              have hq := hO.cellAt x.y[j].toNat (by rw [lensP_len]; exact hv)
              rw [hlg] at hq
              have hcb1 : cn (UInt8.ofNat x.y[j].toNat) (B.take i) + (x.y.take j).count (UInt8.ofNat x.y[j].toNat) ≤ 1000000 := by
                have a1 := cn_le (UInt8.ofNat x.y[j].toNat) 1024 (B.take i) (fun z hz => (HBnd.out z (List.mem_of_mem_take hz)).1)
                have a2 : (x.y.take j).count (UInt8.ofNat x.y[j].toNat) ≤ (x.y.take j).length := List.count_le_length
                have a3 : (B.take i).length ≤ 512 := by have := HM.out; simp; omega
                have a4 : (x.y.take j).length ≤ 1024 := by simp; omega
                have a5 := Nat.mul_le_mul_right 1024 a3
                omega
              have e8 : UInt8.ofNat x.y[j].toNat = x.y[j] := by simp
              rw [e8] at hq hcb1
              have HQ := Lib.hid (And.intro hO (And.intro hB hset))
              obtain ⟨cq, fq⟩ := hq
              unfold icel at cq
              generalize cn x.y[j] (B.take i) + (x.y.take j).count x.y[j] = L0 at cq hcb1 HQ
              clear hset hlg hO hB e8
              have hvz : (x.y[j].toNat : Int) < (n : Int) := by omega
              generalize x.y[j].toNat = s8 at *
              rw [HXa.out] at hxa
              subst hxa
              go_wp2_with fail
              go_roundg (x.l - (j + 1))
              case measure => omega
              case rel =>
                obtain ⟨hO, hB, hset⟩ := HQ.out
                refine ⟨j + 1, by go_num, by omega, ?_, hB.setCell (Nat.le_refl _) _⟩
                rw [← hset]
                exact hO.put s8 _
            · obtain rfl : j = x.l := by omega
              have hltz3 : ¬ (x.l : Int) < (x.l : Int) := by omega
              have HO3 := Lib.hid (And.intro hO hB)
              clear hO hB
              go_wp2_with fail
              go_roundg (m - (i + 1))
              case measure => omega
              case rel =>
                refine ⟨i + 1, by go_num, by omega, ?_, HO3.out.2⟩
                have := HO3.out.1
                rw [List.take_of_length_le (l := x.y) (by rw [HLen.out]; exact Nat.le_refl _), lens_next, HXm.out.2.1, ← take_succI B i HXm.out.2.2] at this
                exact this
        · obtain rfl : i = m := by omega
          have hltz : ¬ (i : Int) < (i : Int) := by omega
          have HO3 := Lib.hid (And.intro hO hB)
          clear hO hB
          go_wp2_with fail
          go_ret
          exact ⟨_, rfl, B.take i, HO3.out.1, HP.out.1.trans (HO3.out.2.mono hsz), HS2.out⟩
end
end Go.Proofs.Ytafdfjacfodbnaa
