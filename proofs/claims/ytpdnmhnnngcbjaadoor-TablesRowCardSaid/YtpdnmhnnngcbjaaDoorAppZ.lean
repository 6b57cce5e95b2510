
/- Appending noughts that are made on the spot ('append(x, make([]T, n)...)') to a slice of the call's own, whose elements are of one cell each. Nothing of the program is named here. -/
import Derived.Test.YtpdnmhnnngcbjaaDoorEls
namespace Go.Proofs.YtpdnmhnnngcbjaaDoor
open Go.RowKit

section
variable {α : Type} {f : α → Value} {P : Program} {w w' : World} {u base : Nat} {v : Value} {xs : List α}

theorem zeroCells_one (z : Value) (n : Nat) : Builtin.zeroCells #[z] n = (List.replicate n z).toArray := by
  apply Array.ext
  · simp [Builtin.zeroCells]
  · intro i h1 h2
    simp [Builtin.zeroCells, Nat.mod_one]

theorem run_appZ_zero (w : World) (t tn ty : TypeId) (i : TypeInfo) (kn k : IntKind) (ht : P.underlying t = some (.slice u)) (htn : P.underlying tn = some (.int kn)) (hn : P.info? u = some i) (A : Option Addr) (sLen sCap : Nat) (hle : sLen ≤ sCap) :
    (Builtin.append_ #[t, tn] ty #[.slice A sLen sCap, .int k 0]).run P w = .ok (.slice A sLen sCap) w := by
  have hw : IntKind.i64.wrap 0 = 0 := by rw [IntKind.wrap_i64]; omega
  rcases A with _ | a <;> simp [Builtin.append_, run_underlying ht, run_underlying htn, sizeOf, typeInfo, hn, asInt, asIntOf, hw, hle, storeCells]

theorem run_appZ_room (w : World) (t tn ty : TypeId) (i : TypeInfo) (z : Value) (k kn : IntKind) (bytes : Nat) (ht : P.underlying t = some (.slice u)) (htn : P.underlying tn = some (.int kn)) (hn : P.info? u = some i) (hz : i.zero = some z) (hsize : i.size = 1) (hby : i.bytes = bytes)
    (hzs : z.cells = #[z]) (h1 : z.oneCell' = true) (g sLen sCap m : Nat) (cur : Array Value) (hg : w.heap[g]? = some (.cells cur u (0, 0))) (h0 : m ≠ 0) (hroom : sLen + m ≤ sCap) (hfit : sLen + m ≤ cur.size) (hm : (m : Int) ≤ 9223372036854775807) (hb : (m : Int) * bytes ≤ 281474976710656) :
    (Builtin.append_ #[t, tn] ty #[.slice (some ⟨g, 0, none⟩) sLen sCap, .int k m]).run P w =
      .ok (.slice (some ⟨g, 0, none⟩) (sLen + m) sCap) (w.setRow g (cur.toList.take sLen ++ List.replicate m z ++ cur.toList.drop (sLen + m)).toArray) := by
  have hst := run_storeCells_at P g sLen u (List.replicate m z) 0 cur w hg (by simpa using hfit) (by intro x hx; rw [List.mem_replicate] at hx; rw [hx.2]; exact h1)
  simp only [Nat.add_zero, List.length_replicate] at hst
  have hw : IntKind.i64.wrap (m : Int) = m := by rw [IntKind.wrap_i64]; omega
  have hneg : ¬ ((m : Int) < 0) := by omega
  have hbb : ¬ (281474976710656 < (m : Int) * (bytes : Int)) := by omega
  subst hby
  simp [Builtin.append_, run_underlying ht, run_underlying htn, sizeOf, typeInfo, hn, hsize, asInt, asIntOf, zeroValue, hz, hw, hneg, hbb, hroom, h0, hzs, zeroCells_one, Addr.add_lit, hst]

theorem run_appZ_grow (w : World) (t tn ty : TypeId) (i : TypeInfo) (z : Value) (k kn : IntKind) (bytes : Nat) (ht : P.underlying t = some (.slice u)) (htn : P.underlying tn = some (.int kn)) (hn : P.info? u = some i) (hz : i.zero = some z) (hsize : i.size = 1) (hby : i.bytes = bytes)
    (hzs : z.cells = #[z]) (A : Option Addr) (sLen sCap m : Nat) (olds : List Value) (hold : (Builtin.firstCells 1 sLen (.slice A sLen sCap)).run P w.drew = .ok olds.toArray w.drew) (h0 : m ≠ 0) (hgr : sCap < sLen + m) (h63 : ((sLen + m : Nat) : Int) ≤ 9223372036854775807)
    (hb : (m : Int) * bytes ≤ 281474976710656) (hfit : Builtin.nextslicecap (sLen + m) sCap * bytes ≤ 281474976710656) :
    (Builtin.append_ #[t, tn] ty #[.slice A sLen sCap, .int k m]).run P w =
      .ok (.slice (some ⟨w.heap.size, 0, none⟩) (sLen + m) (grownCap w (sLen + m) sCap u))
        (w.drew.alloc (.cells (olds ++ List.replicate m z ++ List.replicate (grownCap w (sLen + m) sCap u - (sLen + m)) z).toArray u)) := by
  have hw : IntKind.i64.wrap (m : Int) = m := by rw [IntKind.wrap_i64]; omega
  have hneg : ¬ ((m : Int) < 0) := by omega
  have hbb : ¬ (281474976710656 < (m : Int) * (bytes : Int)) := by omega
  have hn2 : ¬ (sLen + m ≤ sCap) := by omega
  have h63' : ¬ (9223372036854775807 < ((sLen : Int) + (m : Int))) := by omega
  have h48' : ¬ (281474976710656 < Builtin.nextslicecap (sLen + m) sCap * bytes) := by omega
  subst hby
  simp [Builtin.append_, run_underlying ht, run_underlying htn, sizeOf, typeInfo, hn, hsize, asInt, asIntOf, zeroValue, hz, hw, hneg, hbb, hn2, h63', h48', h0, hzs, zeroCells_one, Question.forced, hold, newRow, grownCap]
  congr 2
  apply Array.ext'
  simp

theorem run_appZ (hf : ∀ x, (f x).oneCell' = true) (w : World) (t tn ty : TypeId) (i : TypeInfo) (x0 : α) (k kn : IntKind) (bytes : Nat) (ht : P.underlying t = some (.slice u)) (htn : P.underlying tn = some (.int kn)) (hn : P.info? u = some i) (hz : i.zero = some (f x0)) (hsize : i.size = 1) (hby : i.bytes = bytes)
    (hzs : (f x0).cells = #[f x0]) (hb64 : bytes ≤ 64) (h : OwE f w u base v xs) (m : Nat) (hb : xs.length + m ≤ 1099511627776) (hbase : base ≤ w.heap.size) :
    ∃ v' w', (Builtin.append_ #[t, tn] ty #[v, .int k m]).run P w = .ok v' w' ∧ OwE f w' u base v' (xs ++ List.replicate m x0) ∧ w.grownBy w' v.ownBlock ∧ (v'.ownBlock = v.ownBlock ∨ v'.ownBlock = some w.heap.size) := by
  have hbytes : (xs.length + m) * bytes ≤ 140737488355328 := Nat.le_trans (Nat.mul_le_mul hb hb64) (by decide)
  have hmb : (m : Int) * bytes ≤ 281474976710656 := by
    have : m * bytes ≤ (xs.length + m) * bytes := Nat.mul_le_mul_right _ (by omega)
    rw [← Int.natCast_mul]
    omega
  by_cases h0 : m = 0
  · subst h0
    obtain ⟨A, c, hv, hc, _⟩ := h.form
    exact ⟨v, w, by rw [hv]; exact run_appZ_zero w t tn ty i kn k ht htn hn A _ _ hc, by simpa using h, World.grownBy.refl w _, .inl rfl⟩
  · have grown : ∀ (old : Nat), old < xs.length + m → ∀ (row : Option Nat),
        OwE f (w.drew.alloc (.cells (xs.map f ++ List.replicate m (f x0) ++ List.replicate (grownCap w (xs.length + m) old u - (xs.length + m)) (f x0)).toArray u)) u base
          (.slice (some ⟨w.heap.size, 0, none⟩) (xs.length + m) (grownCap w (xs.length + m) old u)) (xs ++ List.replicate m x0) ∧
        w.grownBy (w.drew.alloc (.cells (xs.map f ++ List.replicate m (f x0) ++ List.replicate (grownCap w (xs.length + m) old u - (xs.length + m)) (f x0)).toArray u)) row := by
      intro old ho row
      have hge := grownCap_ge w (xs.length + m) old u
      have hcm : grownCap w (xs.length + m) old u ≤ maxLen := grownCap_le_maxLen w (xs.length + m) old u (by unfold maxLen; omega)
      have hlen : (xs ++ List.replicate m x0).length = xs.length + m := by simp
      refine ⟨?_, ⟨rfl, rfl, rfl, by simp, fun k hk _ => heap_alloc_old w.drew _ hk⟩⟩
      unfold OwE
      rw [hlen]
      refine ⟨by simp, .inr ⟨w.heap.size, _, _, rfl, hbase, heap_alloc_new w.drew _, hge, hcm, ?_, ?_⟩⟩
      · simp
        omega
      · simp only [Nat.mul_one]
        rw [List.take_append_of_le_length (by simp), List.take_of_length_le (by simp)]
        simp
    rcases h.2 with ⟨rfl, hx0⟩ | ⟨g, cap, cur, rfl, hbg, hg, hnc, hcm, hcs, htake⟩
    · have hx : xs = [] := List.eq_nil_of_length_eq_zero hx0
      subst hx
      have hr := run_appZ_grow (P := P) w t tn ty i (f x0) k kn bytes ht htn hn hz hsize hby hzs none 0 0 m [] (run_firstCells_none w.drew 1 0 0 0) h0 (by omega) (by omega) hmb (growslice_fits (by omega) (by simpa using hbytes))
      have hgr := grown 0 (by simp; omega) (Value.ownBlock (.slice none 0 0))
      simp only [List.length_nil, List.map_nil] at hgr
      exact ⟨_, _, hr, hgr.1, hgr.2, .inr rfl⟩
    · have hcs' : cur.size = cap := by simpa using hcs
      by_cases hroom : xs.length + m ≤ cap
      · have hr := run_appZ_room (P := P) w t tn ty i (f x0) k kn bytes ht htn hn hz hsize hby hzs (hf x0) g xs.length cap m cur hg h0 hroom (by omega) (by omega) hmb
        refine ⟨_, _, hr, ?_, ⟨rfl, rfl, rfl, by simp, fun k _ hk => setRow_other w g k _ (fun e => hk (by simp [Value.ownBlock, e]))⟩, .inl rfl⟩
        have hlen : (xs ++ List.replicate m x0).length = xs.length + m := by simp
        unfold OwE
        rw [hlen]
        refine ⟨by simp, .inr ⟨g, cap, _, rfl, hbg, setRow_heap w g cur _ u _ hg, hroom, hcm, ?_, ?_⟩⟩
        · simp only [List.size_toArray, List.length_append, List.length_take, List.length_drop, Array.length_toList, List.length_replicate]
          omega
        · simp only [Nat.mul_one] at htake ⊢
          rw [htake, List.take_append_of_le_length (by simp), List.take_of_length_le (by simp)]
          simp
      · have holds : ∀ j y, (xs.map f)[j]? = some y → w.drew.cell? ((⟨g, 0, none⟩ : Addr).add j) = some y := by
          intro j y hj
          have := World.ownsRow.cells h (g := g) rfl j y hj
          simpa using this
        have hr := run_appZ_grow (P := P) w t tn ty i (f x0) k kn bytes ht htn hn hz hsize hby hzs (some ⟨g, 0, none⟩) xs.length cap m (xs.map f) (run_firstCells_some w.drew 1 xs.length _ _ _ (xs.map f) (by simp) holds) h0 (by omega) (by omega) hmb (growslice_fits (by omega) hbytes)
        have hgr := grown cap (by omega) (Value.ownBlock (.slice (some ⟨g, 0, none⟩) xs.length cap))
        exact ⟨_, _, hr, hgr.1, hgr.2, .inr rfl⟩

theorem list_appZ {ops : Array Oper} {rest : List Oper} {o : Oper} {a : Act} {Q : Exit → Act → World → Prop} (hf : ∀ x, (f x).oneCell' = true) (w : World) (hgd : o.guard = none) (s x : Operand) (t tn : TypeId)
    (ho : o.op = .call { callee := .builtin .append, args := #[s, x], argTypes := #[t, tn] })
    (i : TypeInfo) (x0 : α) (k kn : IntKind) (bytes : Nat) (ht : P.underlying t = some (.slice u)) (htn : P.underlying tn = some (.int kn)) (hn : P.info? u = some i) (hz : i.zero = some (f x0)) (hsize : i.size = 1) (hby : i.bytes = bytes) (hzs : (f x0).cells = #[f x0]) (hb64 : bytes ≤ 64)
    (hs : a.eval s = v) (h : OwE f w u base v xs) (m : Nat) (hx : a.eval x = .int k m) (hb : xs.length + m ≤ 1099511627776) (hbase : base ≤ w.heap.size)
    (hK : ∀ v' w', OwE f w' u base v' (xs ++ List.replicate m x0) → w.grownBy w' v.ownBlock → (v'.ownBlock = v.ownBlock ∨ v'.ownBlock = some w.heap.size) → wpList P ops Q rest (a.put o.dst v') w') : wpList P ops Q (o :: rest) a w :=
  wpList_plain hgd fun _ hKK => by
    obtain ⟨v', w', hrun, h2, h3, h4⟩ := run_appZ (P := P) hf w t tn o.type i x0 k kn bytes ht htn hn hz hsize hby hzs hb64 h m hb hbase
    unfold Oper.wp execOp
    simp only [ho, resolve, invoke, builtin, Sem.run_bind, Sem.run_pure, Result.andThen_ok, List.map_toArray, List.map_cons, List.map_nil, hs, hx, hrun]
    exact hKK _ _ (hK v' w' h2 h3 h4)
end
end Go.Proofs.YtpdnmhnnngcbjaaDoor
