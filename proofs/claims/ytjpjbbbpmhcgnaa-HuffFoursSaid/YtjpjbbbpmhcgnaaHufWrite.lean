
/- The contract of the program's write: the stream of symbols. -/
import Derived.Test.YtjpjbbbpmhcgnaaHufBack
import Derived.Test.YtjpjbbbpmhcgnaaPileD
namespace Go.Proofs.Ytjpjbbbpmhcgnaa
open Go.RowKit Go.Shelf
attribute [local go_sem] Oper.semAt_some

section
variable {W W' : World} {base g : Nat} {v : Value} {l : List Bool}
/-- What has cells is none of a loop's own blocks. -/
theorem Box.own {t : TypeId} {cs : Array Value} {row : Option Nat} (h : Box W g t cs) (hg : W.grownBy W' row) (hr : ∀ r, row = some r → ∃ o : Obj, W.heap[r]? = some o ∧ o.isCells = false) : Box W' g t cs := by
  unfold Box at h ⊢
  rw [← h]
  refine hg.block g (Array.getElem?_eq_some_iff.1 h).1 fun e => ?_
  obtain ⟨o, ho, hc⟩ := hr g e.symm
  rw [h] at ho
  injection ho with ho
  subst ho
  simp [Obj.isCells] at hc
theorem OwB.ownRow {u : TypeId} {xs : List UInt8} {row : Option Nat} (h : OwB W u base v xs) (hg : W.grownBy W' row) (hr : ∀ r, row = some r → ∃ o : Obj, W.heap[r]? = some o ∧ o.isCells = false) : OwB W' u base v xs := by
  refine OwB.grown h hg ?_
  rcases h.2 with ⟨rfl, _⟩ | ⟨g', cap, cur, rfl, _, hh, _⟩
  · exact .inl rfl
  · refine .inr fun e => ?_
    obtain ⟨o, ho, hc⟩ := hr g' (e.symm.trans (by simp [Value.ownBlock]))
    rw [hh] at ho
    injection ho with ho
    subst ho
    simp [Obj.isCells] at hc
theorem WR.ownRow {row : Option Nat} (h : WR W base g v l) (hg : W.grownBy W' row) (hr : ∀ r, row = some r → ∃ o : Obj, W.heap[r]? = some o ∧ o.isCells = false) : WR W' base g v l :=
  ⟨h.1, h.2.1.own hg hr, h.2.2.ownRow hg hr⟩
/-- What a Writer turns is cells. -/
theorem Foot.from {r : Option Nat} (h : Foot W W' g r) (hg : ∃ o : Obj, W.heap[g]? = some o ∧ o.isCells = true) (hr : ∀ k, r = some k → ∃ o : Obj, W.heap[k]? = some o ∧ o.isCells = true) (B : Nat) : KeepsFrom B W W' :=
  ⟨h.size, fun k o _ hk ho => by
    refine (h.block k (Array.getElem?_eq_some_iff.1 hk).1 (fun e => ?_) (fun e => ?_)).trans hk
    · subst e
      obtain ⟨o', ho', hc⟩ := hg
      rw [hk] at ho'
      injection ho' with ho'
      subst ho'
      rw [ho] at hc
      cases hc
    · obtain ⟨o', ho', hc⟩ := hr k e.symm
      rw [hk] at ho'
      injection ho' with ho'
      subst ho'
      rw [ho] at hc
      cases hc⟩
theorem WR.cells (h : WR W base g v l) : ∃ o : Obj, W.heap[g]? = some o ∧ o.isCells = true := ⟨_, h.2.1, rfl⟩
theorem WR.rowCells (h : WR W base g v l) : ∀ k, v.ownBlock = some k → ∃ o : Obj, W.heap[k]? = some o ∧ o.isCells = true := by
  intro k hk
  rcases h.2.2.2 with ⟨hv, _⟩ | ⟨g', cap, cur, hv, _, hh, _⟩
  · rw [hv] at hk
    simp [Value.ownBlock] at hk
  · rw [hv] at hk
    have : g' = k := by simpa [Value.ownBlock] using hk
    subst this
    exact ⟨_, hh, rfl⟩
end

theorem backs_map {xs : List UInt8} {m : Nat} (hm : xs.length = m) {ys : List (Pl m)} (h : ys.map (·.1) = backs m m) : (ys.map fun x => (xs.getD x.1 0).toNat).reverse = xs.map (·.toNat) := by
  have e : (ys.map fun x => (xs.getD x.1 0).toNat) = (ys.map (·.1)).map fun i => (xs.getD i 0).toNat := by rw [List.map_map]; rfl
  rw [e, h]
  apply List.ext_getElem
  · simp [backs, hm]
  · intro i h1 h2
    have hi : i < xs.length := by simpa using h2
    simp only [List.getElem_reverse, List.getElem_map, backs, List.getElem_range, List.length_map, List.length_range]
    rw [show m - 1 - (m - 1 - i) = i by omega, List.getD_eq_getElem?_getD, List.getElem?_eq_getElem hi, Option.getD_some]

section
variable {w : World}
/-- What lies between two rounds. -/
def WInv (w : World) (m d : Nat) (L : List Nat) (xs : List UInt8) (bc bw Bs g : Nat) (vc vs : Value) (pre : List (Pl m)) (W : World) : Prop :=
  (∃ v, WR W (w.heap.size + 1) g v (encB d L ((pre.map fun x => (xs.getD x.1 0).toNat).reverse))) ∧ Box W bc 35 #[vc] ∧ Box W bw 90 #[.pointer (some ⟨g, 0, none⟩)] ∧ Box W Bs 22 #[vs]

set_option maxRecDepth 100000 in
set_option maxHeartbeats 4000000 in
theorem writeH_any {lo hi lo2 hi2 n c m c2 : Nat} {A A2 : Option Addr} {d : Nat} {L : List Nat} {xs : List UInt8} (hM : MayW d L) (hcs : DatR 2 ccell w lo hi A (codesOf d L)) (hn : L.length = n) (hhi : hi ≤ w.heap.size)
    (hd : Dat false w lo2 hi2 A2 xs) (hm : xs.length = m) (hhi2 : hi2 ≤ w.heap.size) (hmb : m ≤ 10000000) (hC : Coded L (xs.map (·.toNat))) :
    Calls Try.prog 28 #[.slice A n c, .slice A2 m c2] w fun e w' => ∃ v, e = .returned v ∧ OwB w' 5 w.heap.size v (encS d L (xs.map (·.toNat))) ∧ Below w.heap.size w w' := by
  have HM := Lib.hid (And.intro hM (And.intro hC hm))
  have HC := Lib.hid (And.intro hcs hn)
  have HD := Lib.hid hd
  clear hM hcs hn hd hm hC
  refine (callsIn_wide (n := 5)).1 ?_
  refine callsIn_of_wp_marks Try.func28 rfl trivial ?_ rfl
  simp only [Try.ntmps28, List.size_toArray, List.length_cons, List.length_nil, Nat.reduceAdd, Nat.reduceSub, Array.replicate_succ, Array.replicate_zero, List.push_toArray, List.append_toArray, List.nil_append, List.cons_append]
  gi_wp2_with (first | (refine ⟨trivial, ?_⟩; gi_at_call 44; refine (callsIn_wide.2 (newWriter_any _)).mono ?_; rintro e w1 ⟨rfl, hw1, hB1⟩) | (refine ⟨trivial, ?_⟩; gi_at_call 45; refine (callsIn_wide.2 (backward_any _ _ _ _)).mono ?_; rintro e w2 ⟨rfl, rfl⟩))
  rw [World.size_alloc] at hw1 hB1
  have hs1 := hB1.size
  rw [World.size_alloc] at hs1
  have hg1 := hw1.lt
  have bc0 : Box w1 w.heap.size 35 #[.slice A n c] := Box.below (w := w.alloc _) (Box.new w _ _) hB1 (by omega)
  have hBw : Below w.heap.size w w1 := ((Below.refl _ w).alloc (Nat.le_refl _) _).trans (hB1.mono (by omega))
  have bw0 : Box (w1.alloc (.cells #[.pointer (some ⟨w.heap.size + 1, 0, none⟩)] 90)) w1.heap.size 90 #[.pointer (some ⟨w.heap.size + 1, 0, none⟩)] := Box.new w1 _ _
  obtain ⟨W1, hW1⟩ : ∃ W1, W1 = w1.alloc (.cells #[.pointer (some ⟨w.heap.size + 1, 0, none⟩)] 90) := ⟨_, rfl⟩
  have hz1 : W1.heap.size = w1.heap.size + 1 := by rw [hW1]; simp
  have hw1' : WR W1 (w.heap.size + 1) (w.heap.size + 1) (.slice none 0 0) [] := by rw [hW1]; exact hw1.keep fun k _ hk => Below.heap_alloc _ _ k hk
  have bc1 : Box W1 w.heap.size 35 #[.slice A n c] := by rw [hW1]; exact bc0.keep (Below.heap_alloc _ _ _ (by omega))
  have hBW1 : Below w.heap.size w W1 := by rw [hW1]; exact hBw.alloc (by omega) _
  rw [← hW1] at bw0 ⊢
  clear hW1 hw1 bc0 hBw hB1
  obtain ⟨W2, hW2⟩ : ∃ W2, W2 = W1.alloc (.cells #[.slice A2 m c2] 22) := ⟨_, rfl⟩
  have bs2 : Box W2 (w1.heap.size + 1) 22 #[.slice A2 m c2] := by rw [hW2, ← hz1]; exact Box.new _ _ _
  have hz2 : W2.heap.size = w1.heap.size + 2 := by rw [hW2]; simp; omega
  have hw2 : WR W2 (w.heap.size + 1) (w.heap.size + 1) (.slice none 0 0) [] := by rw [hW2]; exact hw1'.keep fun k _ hk => Below.heap_alloc _ _ k hk
  have bc2 : Box W2 w.heap.size 35 #[.slice A n c] := by rw [hW2]; exact bc1.alloc _
  have bw2 : Box W2 w1.heap.size 90 #[.pointer (some ⟨w.heap.size + 1, 0, none⟩)] := by rw [hW2]; exact bw0.alloc _
  have hB2 : Below w.heap.size w W2 := by rw [hW2]; exact hBW1.alloc (by omega) _
  rw [← hW2]
  clear hW2 hw1' bc1 bw0 hBW1 hz1
  refine wpIn_rangeFunc_ownG (F := Fence.wide) rfl (by omega) (gf := 61) (lb := #[.pointer (some ⟨w1.heap.size + 1, 0, none⟩)]) rfl trivial (enters_of Try.func61 (by kernel_rfl) rfl)
    (back_stops (n₀ := w.heap.size) (c := c2) Fence.wide 4 trivial rfl (by omega) (w1.heap.size + 1) HM.out.2.2 (by omega) W2 (by omega) hB2.size (bs2.cell 0) ((HD.out.mono (Nat.zero_le _) hhi2).below hB2 (Nat.le_refl _)))
    (fun h k => h.trans k) (KpB.row hB2.size (by omega)) (Below.refl _ _) (fun _ => rfl)
    (fun pre W => WInv w m d L xs w.heap.size w1.heap.size (w1.heap.size + 1) (w.heap.size + 1) (.slice A n c) (.slice A2 m c2) pre W ∧ Below w.heap.size w W)
    (fun _ _ _ => False)
    (OwnFrom.and (Own.from (fun s A B row hs hg hr => ?own) _) (ownFrom_below (Nat.le_refl _) hB2.size))
    (fun _ _ _ _ _ hs _ _ => hs)
    ⟨⟨⟨_, hw2⟩, bc2, bw2, bs2⟩, hB2⟩
    (fun x => { tmps := #[.slice A n c, .slice A2 m c2, .pointer (some ⟨w.heap.size, 0, none⟩), undef, .slice none 0 0, .pointer (some ⟨w1.heap.size, 0, none⟩), undef, cel (xs.getD x.1 0), undef, .pointer (some ⟨w.heap.size + 1, 0, none⟩), .slice A2 m c2, .func (.func 61) #[] #[.pointer (some ⟨w1.heap.size + 1, 0, none⟩)], .int .i64 (x.1 : Int), cel (xs.getD x.1 0), undef, undef, undef, undef, undef, undef, undef, undef, undef, undef, undef, undef, undef], defers := [] }) ?assign ?body ?done ?stop
  case own =>
    obtain ⟨⟨v, hv⟩, h1, h2, h3⟩ := hs
    exact ⟨⟨v, hv.ownRow hg hr⟩, h1.own hg hr, h2.own hg hr, h3.own hg hr⟩
  case assign =>
    intro l x W K hK
    gi_wp2
    exact hK
  case body =>
    rintro l pre ⟨j, hj⟩ W ⟨⟨⟨v, hw⟩, hbc, hbw, hbs⟩, hB⟩ hlen
    dsimp only
    have hjx : j < xs.length := by have := HM.out.2.2; omega
    have hzc := HM.out.2.1 (xs.getD j 0).toNat (List.mem_map.2 ⟨xs.getD j 0, by rw [List.getD_eq_getElem?_getD, List.getElem?_eq_getElem hjx, Option.getD_some]; exact List.getElem_mem _, rfl⟩)
    generalize hz : xs.getD j 0 = z at *
    have hcl : (codesOf d L).length = L.length := by simp [codesOf]
    obtain ⟨dd, oo, rfl, _, hdh, hcc⟩ := HC.out.1 (by rw [hcl]; omega)
    have e0 := hcc z.toNat (by rw [hcl]; exact hzc.1) 0
    have e1 := hcc z.toNat (by rw [hcl]; exact hzc.1) 1
    have hce : (codesOf d L)[z.toNat]'(by rw [hcl]; exact hzc.1) = (bitsW d L z.toNat, codeW L z.toNat) := by simp [codesOf]
    rw [hce] at e0 e1
    have d0 := (hB.cell (p := ⟨dd, oo + z.toNat * 2 + 0, none⟩) (by exact Nat.lt_of_lt_of_le hdh hhi)).trans (e0 _ rfl)
    have d1 := (hB.cell (p := ⟨dd, oo + z.toNat * 2 + 1, none⟩) (by exact Nat.lt_of_lt_of_le hdh hhi)).trans (e1 _ rfl)
    clear e0 e1 hce hcl hcc
    have hzn : (z.toNat : Int) < (n : Int) := by have := HC.out.2; omega
    have b0 : W.cell? ⟨w.heap.size, 0, none⟩ = some (.slice (some ⟨dd, oo, none⟩) n c) := hbc.cell 0
    have b1 : W.cell? ⟨w1.heap.size, 0, none⟩ = some (.pointer (some ⟨w.heap.size + 1, 0, none⟩)) := hbw.cell 0
    have hbl := hbw.lt
    have hbits := bitsW_pos HM.out.1 hzc.1 hzc.2
    have hb11 := bitsW_le (s := z.toNat) HM.out.1
    have hcl2 := codeW_lt HM.out.1 hzc.1
    have hc2048 : codeW L z.toNat < 2048 := Nat.lt_of_lt_of_le hcl2 (Nat.pow_le_pow_right (by omega) hb11)
    obtain ⟨Z, hZ⟩ : ∃ Z, Z = encB d L (pre.map fun x => (xs.getD x.1 0).toNat).reverse := ⟨_, rfl⟩
    have hZl : Z.length ≤ 1000000000000 := by
      have := encB_len HM.out.1 (pre.map fun x => (xs.getD x.1 0).toNat).reverse
      rw [← hZ] at this
      simp at this
      omega
    rw [← hZ] at hw
    have HW := Lib.hid hw
    have HZ := Lib.hid hZ
    have hu : IntKind.u64.wrap ((codeW L z.toNat : Nat) : Int) = ((codeW L z.toNat : Nat) : Int) := by rw [IntKind.wrap_u64]; omega
    have HWr := Lib.hid (write_yes (w := W.alloc (.cells #[.int .i64 (bitsW d L z.toNat : Nat), .int .i64 (codeW L z.toNat : Nat)] 74)) (codeW L z.toNat) (bitsW d L z.toNat) (hw.keep fun k _ hk => Below.heap_alloc _ _ k hk) (by omega) (by omega) (by omega) hZl)
    have HQ := Lib.hid (And.intro hbc (And.intro hbw (And.intro hbs (And.intro hB (And.intro hz hcl2)))))
    clear hw hZ hbc hbw hbs hB hz hcl2 hZl
    unfold cel
    simp only [Nat.add_zero] at d0
    gi_wp2_with (refine ⟨trivial, ?_⟩; gi_at_call 46; refine (CallsIn.inRound l (callsIn_wide.2 HWr.out)).mono ?_; rintro e W3 ⟨rfl, v3, hw3, hF3, hN3⟩)
    have hWa : WR (W.alloc (.cells #[.int .i64 (bitsW d L z.toNat : Nat), .int .i64 (codeW L z.toNat : Nat)] 74)) (w.heap.size + 1) (w.heap.size + 1) v Z := HW.out.keep fun k _ hk => Below.heap_alloc _ _ k hk
    have hk3 : ∀ k, k < W.heap.size → k ≠ w.heap.size + 1 → some k ≠ v.ownBlock → W3.heap[k]? = W.heap[k]? := fun k h1 h2 h3 => (hF3.block k (by simp; omega) h2 h3).trans (Below.heap_alloc _ _ k h1)
    obtain ⟨hbc, hbw, hbs, hB, hz, -⟩ := HQ.out
    have q1 : some w.heap.size ≠ v.ownBlock := fun e => by have := (hWa.row _ e.symm).1; omega
    have q2 : some w1.heap.size ≠ v.ownBlock := fun e => HW.out.2.2.ne_box hbw (by decide) e.symm
    have q3 : some (w1.heap.size + 1) ≠ v.ownBlock := fun e => HW.out.2.2.ne_box hbs (by decide) e.symm
    have hbsl := hbs.lt
    have hbcl := hbc.lt
    refine ⟨((KeepsOthers.alloc W _).from _).trans (hF3.from hWa.cells hWa.rowCells _), fun k hk => ?_, ⟨⟨v3, ?_⟩, hbc.keep (hk3 _ hbcl (by omega) q1), hbw.keep (hk3 _ hbl (by omega) q2), hbs.keep (hk3 _ hbsl (by omega) q3)⟩, hB.trans (((Below.refl _ W).alloc hB.size _).trans (hF3.below (by have := hB.size; simp; omega) (by omega) (fun k hk => by have := (hWa.row _ hk).1; omega)))⟩
    · rcases hk with hk | rfl
      · exact hk3 k (by have := hB.size; omega) (by omega) (fun e => by have := (hWa.row _ e.symm).1; omega)
      · exact hk3 _ hbsl (by omega) q3
    · have hzz : encB d L ((pre ++ [(⟨j, hj⟩ : Pl m)]).map fun x : Pl m => (xs.getD x.1 0).toNat).reverse = Z ++ low (codeW L z.toNat) (bitsW d L z.toNat) := by
        rw [List.map_append, List.reverse_append, HZ.out, ← hz]
        rfl
      rw [hzz]
      exact hw3
  case done =>
    rintro D ys W hD hys ⟨⟨⟨v, hw⟩, hbc, hbw, hbs⟩, hB⟩ hK
    have b1 : W.cell? ⟨w1.heap.size, 0, none⟩ = some (.pointer (some ⟨w.heap.size + 1, 0, none⟩)) := hbw.cell 0
    rw [backs_map HM.out.2.2 hys] at hw
    have hl := encB_len HM.out.1 (xs.map (·.toNat))
    rw [List.length_map, HM.out.2.2] at hl
    have HCl := Lib.hid (closed_any hw (by omega))
    have HK := Lib.hid hK
    clear hw hbc hbw hbs hl hK
    gi_wp2_with (refine ⟨trivial, ?_⟩; gi_at_call 47; refine (callsIn_wide.2 HCl.out).mono ?_; rintro e W3 ⟨v3, rfl, ho3, hB3⟩)
    have hK' : W3.heap[D]? = some (.deferred (some [])) := (hB3.block D (Array.getElem?_eq_some_iff.1 HK.out).1).trans HK.out
    refine ⟨by simp, .inl ⟨_, _, rfl, run_takeDeferred hK', ?_⟩⟩
    have hs := hB.size
    have hs2 := hB2.size
    exact ⟨_, results_tmp rfl _ _ _, _, rfl, (ho3.ownRow (grownBy_putObj' W3 D _) (fun r e => by cases e; exact ⟨_, hK', rfl⟩)).mono hs, (hB.trans (hB3.mono hs)).trans (belowK_b (w := w) (Nat.le_refl _) W3 D _ _ (by omega) hK' rfl rfl)⟩
  case stop =>
    rintro D c pre W _ _ h _
    exact h.elim
end
end Go.Proofs.Ytjpjbbbpmhcgnaa
