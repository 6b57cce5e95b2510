
/- Package-merge on lists: how often a symbol is in the rarest bundles is the length of its code, and the lengths make a whole tree. No program here. -/
import Derived.Test.YtafdfjacfodbnaaWtSortP
namespace Go.Proofs.Ytafdfjacfodbnaa

theorem Alike.perm {xs ys : List Pk} (h : Alike xs ys) : xs.Perm ys := by
  haveI : DecidableEq Pk := fun a b => Classical.propDecidable (a = b)
  rw [List.perm_iff_count]
  intro z
  have := congrArg (List.count z) (h z.n)
  rwa [List.count_filter (by simp), List.count_filter (by simp)] at this
theorem Alike.filter {xs ys : List Pk} (h : Alike xs ys) (p : Pk → Bool) : Alike (xs.filter p) (ys.filter p) := fun k => by
  have := congrArg (List.filter p) (h k)
  rw [List.filter_filter, List.filter_filter] at this
  rw [List.filter_filter, List.filter_filter]
  have e : (fun a => (a.n == k) && p a) = fun a : Pk => p a && (a.n == k) := by
    funext a
    rw [Bool.and_comm]
  rw [e]
  exact this
theorem Srt.filter {xs : List Pk} (h : Srt xs) (p : Pk → Bool) : Srt (xs.filter p) := List.Pairwise.filter p h

/-- How often a symbol is in bundles. -/
def cn (v : UInt8) : List Pk → Nat
  | [] => 0
  | x :: r => x.y.count v + cn v r
theorem cn_append (v : UInt8) (a b : List Pk) : cn v (a ++ b) = cn v a + cn v b := by
  induction a with
  | nil => simp [cn]
  | cons x r ih => rw [List.cons_append, cn, cn, ih]; omega
theorem cn_split (v : UInt8) (p : Pk → Bool) (a : List Pk) : cn v a = cn v (a.filter p) + cn v (a.filter fun x => !p x) := by
  induction a with
  | nil => rfl
  | cons x r ih =>
    rw [cn, List.filter_cons, List.filter_cons]
    cases h : p x
    · simp [cn, ih]; omega
    · simp [cn, ih]; omega

/-- P are the bundles of B put together two by two. -/
def PairsOf (B P : List Pk) : Prop := P.length = B.length / 2 ∧ ∀ i, i < P.length → P[i]!.n = B[2 * i]!.n + B[2 * i + 1]!.n ∧ P[i]!.y = B[2 * i]!.y ++ B[2 * i + 1]!.y ∧ P[i]!.s = false
theorem take_succI (a : List Pk) (k : Nat) (h : k < a.length) : a.take (k + 1) = a.take k ++ [a[k]!] := by
  rw [List.take_succ_eq_append_getElem h, getElem!_pos a k h]
theorem pairs_cn {B P : List Pk} (h : PairsOf B P) (v : UInt8) : ∀ j, j ≤ P.length → cn v (P.take j) = cn v (B.take (2 * j))
  | 0, _ => by simp [cn]
  | j + 1, hj => by
    have hl := h.1
    rw [take_succI P j (by omega), cn_append, pairs_cn h v j (by omega), show 2 * (j + 1) = 2 * j + 1 + 1 by omega, take_succI B (2 * j + 1) (by omega), take_succI B (2 * j) (by omega), cn_append, cn_append]
    have := (h.2 j (by omega)).2.1
    simp only [cn, this, List.count_append]
    omega
theorem pairs_srt {B P : List Pk} (h : PairsOf B P) (hB : Srt B) : Srt P := by
  have hl := h.1
  refine List.pairwise_iff_getElem.2 fun i j hi hj hij => ?_
  have a := (h.2 i hi).1
  have b := (h.2 j hj).1
  rw [getElem!_pos P i hi] at a
  rw [getElem!_pos P j hj] at b
  have c1 := hB.get (i := 2 * i) (j := 2 * j) (by omega) (by omega)
  have c2 := hB.get (i := 2 * i + 1) (j := 2 * j + 1) (by omega) (by omega)
  omega

/-- The first symbol. -/
def sy (x : Pk) : UInt8 := x.y.headD 0
/-- Bundles of one symbol each, in order. -/
structure Sing (S : List Pk) : Prop where
  srt : Srt S
  pos : ∀ x ∈ S, 0 < x.n
  tag : ∀ x ∈ S, x.s = true
  one : ∀ x ∈ S, x.y = [sy x]
  dist : (S.map sy).Nodup
/-- The bundles of a level. -/
def Lev (S : List Pk) : Nat → List Pk → Prop
  | 0, B => B = S
  | k + 1, B => ∃ B' P, Lev S k B' ∧ PairsOf B' P ∧ Srt B ∧ Alike (S ++ P) B

theorem sing_cn {S : List Pk} (hS : ∀ x ∈ S, x.y = [sy x]) (v : UInt8) : cn v S = (S.map sy).count v := by
  induction S with
  | nil => rfl
  | cons x r ih =>
    rw [cn, ih fun z hz => hS z (by simp [hz]), List.map_cons, List.count_cons, hS x (by simp), List.count_singleton]
    omega

section
variable {S : List Pk}
theorem lev_pos (hS : Sing S) : ∀ (k : Nat) (B : List Pk), Lev S k B → Srt B ∧ ∀ x ∈ B, 0 < x.n
  | 0, B, h => by
    have h : B = S := h
    subst h
    exact ⟨hS.srt, hS.pos⟩
  | k + 1, B, ⟨B', P, h, hP, hB, hA⟩ => by
    refine ⟨hB, fun x hx => ?_⟩
    rcases List.mem_append.1 (hA.symm.mem hx) with q | q
    · exact hS.pos x q
    · obtain ⟨i, hi, rfl⟩ := mem_get q
      have a := (hP.2 i hi).1
      have hl := hP.1
      have := (lev_pos hS k B' h).2 _ (get_mem B' (2 * i) (by omega))
      omega
theorem lev_len : ∀ (k : Nat) (B : List Pk), Lev S (k + 1) B → ∃ B', Lev S k B' ∧ B.length = S.length + B'.length / 2
  | k, B, ⟨B', P, h, hP, hB, hA⟩ => ⟨B', h, by
    have := hA.perm.length_eq
    rw [List.length_append, hP.1] at this
    exact this.symm⟩
theorem lev_step {k c c' : Nat} (hc : c ≤ 2 * c') (h : ∀ B, Lev S k B → 2 * S.length ≤ B.length + c) : ∀ B, Lev S (k + 1) B → 2 * S.length ≤ B.length + c' := fun B hB => by
  obtain ⟨B', h', l⟩ := lev_len k B hB
  have := h B' h'
  omega
/-- There are enough bundles in the last level. -/
theorem lev_enough (h256 : S.length ≤ 256) {B : List Pk} (h : Lev S 10 B) : 2 * S.length ≤ B.length + 1 := by
  have b0 : ∀ B, Lev S 0 B → 2 * S.length ≤ B.length + 256 := fun B h => by
    have h : B = S := h
    subst h
    omega
  have b1 := lev_step (c := 256) (c' := 128) (by decide) b0
  have b2 := lev_step (c := 128) (c' := 64) (by decide) b1
  have b3 := lev_step (c := 64) (c' := 32) (by decide) b2
  have b4 := lev_step (c := 32) (c' := 16) (by decide) b3
  have b5 := lev_step (c := 16) (c' := 8) (by decide) b4
  have b6 := lev_step (c := 8) (c' := 4) (by decide) b5
  have b7 := lev_step (c := 4) (c' := 2) (by decide) b6
  have b8 := lev_step (c := 2) (c' := 1) (by decide) b7
  have b9 := lev_step (c := 1) (c' := 1) (by decide) b8
  exact lev_step (c := 1) (c' := 1) (by decide) b9 B h
theorem lev_le : ∀ (k : Nat) (B : List Pk), Lev S k B → B.length ≤ 2 * S.length
  | 0, B, h => by
    have h : B = S := h
    subst h
    omega
  | k + 1, B, h => by
    obtain ⟨B', h', l⟩ := lev_len k B h
    have := lev_le k B' h'
    omega

/-- What is true of the m rarest bundles of a level: i of them are of one symbol. -/
structure Cut (S : List Pk) (k m : Nat) (T : List Pk) (i : Nat) : Prop where
  le : i ≤ S.length
  pos : ∀ p, p < S.length → (0 < cn (sy S[p]!) T ↔ p < i)
  top : ∀ v, cn v T ≤ k + 1
  sum : (S.map fun x => 2 ^ (k + 1) - 2 ^ (k + 1 - cn (sy x) T)).sum = m * 2 ^ k
  all : 2 * S.length ≤ m + 2 → 2 ≤ S.length → i = S.length
  mem : ∀ p, p < i → S[p]! ∈ T
  non : ∀ v, v ∉ S.map sy → cn v T = 0

theorem cn_take (hS : Sing S) (i p : Nat) (hi : i ≤ S.length) (hp : p < S.length) : cn (sy S[p]!) (S.take i) = if p < i then 1 else 0 := by
  rw [sing_cn (fun x hx => hS.one x (List.mem_of_mem_take hx))]
  have hd : ((S.take i).map sy).Nodup := by
    rw [List.map_take]
    exact hS.dist.sublist (List.take_sublist _ _)
  by_cases h : p < i
  · rw [if_pos h, List.Nodup.count hd, if_pos]
    rw [List.mem_map]
    exact ⟨S[p]!, by rw [← getI_take S i p h hp]; exact get_mem _ _ (by simp; omega), rfl⟩
  · rw [if_neg h, List.count_eq_zero]
    intro hm
    obtain ⟨x, hx, e⟩ := List.mem_map.1 hm
    obtain ⟨q, hq, rfl⟩ := mem_get hx
    simp at hq
    rw [getI_take S i q (by omega) (by omega)] at e
    have h1 := List.pairwise_iff_getElem.1 hS.dist q p (by simp; omega) (by simpa using hp) (by omega)
    apply h1
    rw [List.getElem_map, List.getElem_map, ← getElem!_pos S q (by omega), ← getElem!_pos S p hp]
    exact e
theorem cn_take_le (hS : Sing S) (i : Nat) (v : UInt8) : cn v (S.take i) ≤ 1 := by
  rw [sing_cn (fun x hx => hS.one x (List.mem_of_mem_take hx))]
  have hd : ((S.take i).map sy).Nodup := by
    rw [List.map_take]
    exact hS.dist.sublist (List.take_sublist _ _)
  rw [List.Nodup.count hd]
  split <;> omega
theorem cn_take_non (hS : Sing S) (i : Nat) (v : UInt8) (hv : v ∉ S.map sy) : cn v (S.take i) = 0 := by
  rw [sing_cn (fun x hx => hS.one x (List.mem_of_mem_take hx)), List.count_eq_zero]
  intro h
  rw [List.map_take] at h
  exact hv (List.mem_of_mem_take h)
theorem sum_zero (xs : List Pk) : (xs.map fun _ => 0).sum = 0 := by
  induction xs with
  | nil => rfl
  | cons x r ih => rw [List.map_cons, List.sum_cons, ih]
theorem flt_len (p : Pk → Bool) (xs : List Pk) : xs.length = (xs.filter p).length + (xs.filter fun x => !p x).length := by
  induction xs with
  | nil => rfl
  | cons x r ih =>
    rw [List.length_cons, List.filter_cons, List.filter_cons]
    cases h : p x
    · simp; omega
    · simp; omega
theorem sum_const_add (xs : List Pk) (f g : Pk → Nat) (c : Nat) (h : ∀ x ∈ xs, f x = c + g x) : (xs.map f).sum = xs.length * c + (xs.map g).sum := by
  induction xs with
  | nil => simp
  | cons x r ih =>
    rw [List.map_cons, List.map_cons, List.sum_cons, List.sum_cons, ih fun z hz => h z (by simp [hz]), h x (by simp), List.length_cons, Nat.add_mul]
    omega
theorem sum_split (xs : List Pk) (i : Nat) (hi : i ≤ xs.length) (f g : Pk → Nat) (c : Nat) (h1 : ∀ p, p < i → f xs[p]! = c + g xs[p]!) (h2 : ∀ p, i ≤ p → p < xs.length → f xs[p]! = g xs[p]!) : (xs.map f).sum = i * c + (xs.map g).sum := by
  have e := List.take_append_drop i xs
  have a1 : ((xs.take i).map f).sum = i * c + ((xs.take i).map g).sum := by
    rw [sum_const_add (xs.take i) f g c fun x hx => ?_, List.length_take, Nat.min_eq_left hi]
    obtain ⟨q, hq, rfl⟩ := mem_get hx
    simp at hq
    rw [getI_take xs i q (by omega) (by omega)]
    exact h1 q (by omega)
  have a2 : ((xs.drop i).map f).sum = ((xs.drop i).map g).sum := by
    congr 1
    refine List.map_congr_left fun x hx => ?_
    obtain ⟨q, hq, rfl⟩ := mem_get hx
    simp at hq
    have : (xs.drop i)[q]! = xs[i + q]! := by
      rw [getElem!_pos _ q (by simp; omega), getElem!_pos xs (i + q) (by omega), List.getElem_drop]
    rw [this]
    exact h2 _ (by omega) (by omega)
  have b1 : (xs.map f).sum = ((xs.take i).map f).sum + ((xs.drop i).map f).sum := by
    rw [← List.sum_append, ← List.map_append, e]
  have b2 : (xs.map g).sum = ((xs.take i).map g).sum + ((xs.drop i).map g).sum := by
    rw [← List.sum_append, ← List.map_append, e]
  omega

theorem lev_cut (hS : Sing S) : ∀ (k : Nat) (B : List Pk) (m : Nat), Lev S k B → m ≤ B.length → ∃ i, Cut S k m (B.take m) i
  | 0, B, m, h, hm => by
    have h : B = S := h
    subst h
    have hc := fun p hp => cn_take hS m p hm hp
    refine ⟨m, hm, fun p hp => ?_, fun v => cn_take_le hS m v, ?_, fun q1 q2 => by omega, fun p hp => ?_, fun v hv => cn_take_non hS m v hv⟩
    · rw [hc p hp]
      split <;> omega
    · rw [sum_split B m hm _ (fun _ => 0) 1 (fun p hp => by rw [hc p (by omega), if_pos hp]) (fun p h1 h2 => by rw [hc p h2, if_neg (by omega)]), sum_zero]
      simp
    · rw [← getI_take B m p hp (by omega)]
      exact get_mem _ _ (by simp; omega)
  | k + 1, B, m, ⟨B', P, h, hP, hB, hA⟩, hm => by
    have hpl := hP.1
    have hB' := lev_pos hS k B' h
    have f1 : B.filter (fun x => x.s) = S := by
      refine (Srt.same hS.srt (hB.filter _) ?_).symm
      have := hA.filter fun x => x.s
      rw [List.filter_append] at this
      rw [List.filter_eq_self.2 fun x hx => hS.tag x hx, List.filter_eq_nil_iff.2 (fun x hx => by
        obtain ⟨i, hi, rfl⟩ := mem_get hx
        rw [(hP.2 i hi).2.2]
        simp), List.append_nil] at this
      exact this
    have f2 : B.filter (fun x => !x.s) = P := by
      refine (Srt.same (pairs_srt hP hB'.1) (hB.filter _) ?_).symm
      have := hA.filter fun x => !x.s
      rw [List.filter_append] at this
      rw [List.filter_eq_nil_iff.2 (fun x hx => by rw [hS.tag x hx]; simp), List.filter_eq_self.2 (fun x hx => by
        obtain ⟨i, hi, rfl⟩ := mem_get hx
        rw [(hP.2 i hi).2.2]
        rfl), List.nil_append] at this
      exact this
    have eB := List.take_append_drop m B
    have g1 : (B.take m).filter (fun x => x.s) ++ (B.drop m).filter (fun x => x.s) = S := by rw [← List.filter_append, eB, f1]
    have g2 : (B.take m).filter (fun x => !x.s) ++ (B.drop m).filter (fun x => !x.s) = P := by rw [← List.filter_append, eB, f2]
    obtain ⟨i, hi⟩ : ∃ i, i = ((B.take m).filter fun x => x.s).length := ⟨_, rfl⟩
    obtain ⟨j, hj⟩ : ∃ j, j = ((B.take m).filter fun x => !x.s).length := ⟨_, rfl⟩
    have t1 : (B.take m).filter (fun x => x.s) = S.take i := by rw [← g1, hi, List.take_left]
    have t2 : (B.take m).filter (fun x => !x.s) = P.take j := by rw [← g2, hj, List.take_left]
    have t3 : (B.drop m).filter (fun x => x.s) = S.drop i := by rw [← g1, hi, List.drop_left]
    have hiS : i ≤ S.length := by rw [← g1, List.length_append]; omega
    have hjP : j ≤ P.length := by rw [← g2, List.length_append]; omega
    have hij : i + j = m := by
      have := flt_len (fun x => x.s) (B.take m)
      rw [List.length_take, Nat.min_eq_left hm] at this
      omega
    obtain ⟨i', hc⟩ := lev_cut hS k B' (2 * j) h (by omega)
    have hcn : ∀ v, cn v (B.take m) = cn v (S.take i) + cn v (B'.take (2 * j)) := fun v => by
      rw [cn_split v (fun x => x.s), t1, t2, pairs_cn hP v j hjP]
    have hii : i' ≤ i := by
      rcases Nat.lt_or_ge i i' with q | q
      · exfalso
        have hm1 := hc.mem (i' - 1) (by omega)
        obtain ⟨a, ha, ea⟩ := mem_get hm1
        simp at ha
        have hle := hc.le
        rw [getI_take _ _ _ (by omega) (by omega)] at ea
        have o1 := hB'.1.get (i := a) (j := 2 * j - 1) (by omega) (by omega)
        have o2 := hB'.2 _ (get_mem B' (2 * j - 2) (by omega))
        have o3 := (hP.2 (j - 1) (by omega)).1
        rw [show 2 * (j - 1) = 2 * j - 2 by omega, show 2 * j - 2 + 1 = 2 * j - 1 by omega] at o3
        rw [ea] at o1
        have m1 : S[i' - 1]! ∈ B.drop m := by
          have : S[i' - 1]! ∈ S.drop i := by
            have e : (S.drop i)[i' - 1 - i]! = S[i' - 1]! := by
              rw [getElem!_pos _ _ (by simp; omega), getElem!_pos S (i' - 1) (by omega), List.getElem_drop]
              congr 1
              omega
            rw [← e]
            exact get_mem _ _ (by simp; omega)
          rw [← t3] at this
          exact (List.mem_filter.1 this).1
        have m2 : P[j - 1]! ∈ B.take m := by
          have : P[j - 1]! ∈ P.take j := by
            rw [← getI_take P j (j - 1) (by omega) (by omega)]
            exact get_mem _ _ (by simp; omega)
          rw [← t2] at this
          exact (List.mem_filter.1 this).1
        have hsp : Srt (B.take m ++ B.drop m) := by rw [eB]; exact hB
        have := hsp.cross _ m2 _ m1
        omega
      · exact q
    refine ⟨i, hiS, fun p hp => ?_, fun v => ?_, ?_, fun q1 q2 => ?_, fun p hp => ?_, fun v hv => ?_⟩
    · rw [hcn, cn_take hS i p hiS hp]
      have := hc.pos p hp
      by_cases q : p < i
      · rw [if_pos q]; omega
      · rw [if_neg q]; omega
    · rw [hcn]
      have a := cn_take_le hS i v
      have b := hc.top v
      omega
    · rw [sum_split S i hiS _ (fun x => 2 ^ (k + 1) - 2 ^ (k + 1 - cn (sy x) (B'.take (2 * j)))) (2 ^ (k + 1)) (fun p hp => ?_) (fun p h1 h2 => ?_), hc.sum, ← hij, Nat.add_mul]
      · congr 1
        rw [Nat.pow_succ, Nat.mul_comm 2 j, Nat.mul_assoc, Nat.mul_comm 2]
      · rw [hcn, cn_take hS i p hiS (by omega), if_pos hp, show k + 1 + 1 - (1 + cn (sy S[p]!) (B'.take (2 * j))) = k + 1 - cn (sy S[p]!) (B'.take (2 * j)) by omega, Nat.pow_succ 2 (k + 1)]
        have : 2 ^ (k + 1 - cn (sy S[p]!) (B'.take (2 * j))) ≤ 2 ^ (k + 1) := Nat.pow_le_pow_right (by omega) (by omega)
        omega
      · have z : cn (sy S[p]!) (B'.take (2 * j)) = 0 := by
          have := hc.pos p h2
          omega
        rw [hcn, cn_take hS i p hiS h2, if_neg (by omega), z]
        simp
    · rcases Nat.lt_or_ge i S.length with q | q
      · exfalso
        have := hc.all (by omega) q2
        omega
      · omega
    · have : S[p]! ∈ S.take i := by
        rw [← getI_take S i p hp (by omega)]
        exact get_mem _ _ (by simp; omega)
      rw [← t1] at this
      exact (List.mem_filter.1 this).1
    · rw [hcn, cn_take_non hS i v hv, hc.non v hv]

theorem sum_both (f : Pk → Nat) (c : Nat) (xs : List Pk) (h : ∀ x ∈ xs, f x ≤ c) : (xs.map fun x => c - f x).sum + (xs.map f).sum = xs.length * c := by
  induction xs with
  | nil => simp
  | cons x r ih =>
    have a := ih fun z hz => h z (by simp [hz])
    have b := h x (by simp)
    simp only [List.map_cons, List.sum_cons, List.length_cons, Nat.add_mul]
    omega
/-- What the rarest bundles of the last level tell: each symbol has a code of 1 to 11 bits, and the codes make a whole tree. -/
theorem pack_all (hS : Sing S) (h2 : 2 ≤ S.length) (h256 : S.length ≤ 256) {B T : List Pk} (h : Lev S 10 B) (hT : T = B.take (2 * S.length - 2)) :
    (∀ x ∈ S, 1 ≤ cn (sy x) T ∧ cn (sy x) T ≤ 11) ∧ (∀ v, v ∉ S.map sy → cn v T = 0) ∧ (S.map fun x => 2 ^ (11 - cn (sy x) T)).sum = 2 ^ 11 := by
  obtain ⟨i, hc⟩ := lev_cut hS 10 B (2 * S.length - 2) h (by have := lev_enough h256 h; omega)
  rw [← hT] at hc
  have hi := hc.all (by omega) h2
  have hp : ∀ x ∈ S, 1 ≤ cn (sy x) T := fun x hx => by
    obtain ⟨p, hp, rfl⟩ := mem_get hx
    exact (hc.pos p hp).2 (by omega)
  refine ⟨fun x hx => ⟨hp x hx, hc.top _⟩, hc.non, ?_⟩
  have hs := hc.sum
  have e := sum_both (fun x => 2 ^ (10 + 1 - cn (sy x) T)) (2 ^ (10 + 1)) S fun x _ => Nat.pow_le_pow_right (by omega) (by omega)
  rw [hs] at e
  have e10 : (2 : Nat) ^ 10 = 1024 := by decide
  have e11 : (2 : Nat) ^ (10 + 1) = 2048 := by decide
  have e11' : (2 : Nat) ^ 11 = 2048 := by decide
  rw [e10, e11] at e
  rw [e11']
  have e2 : (S.map fun x => 2 ^ (10 + 1 - cn (sy x) T)).sum = 2048 := by omega
  exact e2
end
end Go.Proofs.Ytafdfjacfodbnaa
