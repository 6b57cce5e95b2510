
/- Appending records to a slice of the call's own, as a step of a region that draws its order. Nothing of the program is named here. -/
import Derived.Test.YtieepdhajjibpaaDoorRecs
import Derived.Deep.RegionLaw
namespace Go.Proofs.YtieepdhajjibpaaDoor
open Go.RowKit

theorem step_appR {α : Type} {z : Nat} {f : α → List Value} {P : Program} {u base lo hi : Nat} {v : Value} {xs ys : List α} {A : Option Addr} {m c : Nat} {ops : Array Oper} {o : Oper} {a : Act} {K : Act → World → Prop} {Q : Exit → Act → World → Prop} {E : Prop} (hz : ∀ x, (f x).length = z) (hz0 : 0 < z) (hf : ∀ x, ∀ v ∈ f x, v.oneCell' = true) (w : World) (hgd : o.guard = none) (s x : Operand) (t : TypeId)
    (ho : o.op = .call { callee := .builtin .append, args := #[s, x], argTypes := #[t, t] })
    (i : TypeInfo) (zv : Value) (bytes : Nat) (ht : P.underlying t = some (.slice u)) (hn : P.info? u = some i) (hzv : i.zero = some zv) (hsize : i.size = z) (hby : i.bytes = bytes) (hzs : zv.cells.size = z) (hb64 : bytes ≤ 64)
    (hs : a.eval s = v) (h : OwR z f w u base v xs) (hx : a.eval x = .slice A m c) (hd : DatR z f w lo hi A ys) (hm : ys.length = m) (hb : xs.length + m ≤ 1099511627776) (hbase : base ≤ w.heap.size)
    (hK : ∀ v' w', OwR z f w' u base v' (xs ++ ys) → w.grownBy w' v.ownBlock → (v'.ownBlock = v.ownBlock ∨ v'.ownBlock = some w.heap.size) → K (a.put o.dst v') w') :
    if Region.wanted o (yielded ops a.tmps) = true then Oper.wp P o a w K Q else E := by
  have hw : Region.wanted o (yielded ops a.tmps) = true := by simp [Region.wanted, hgd]
  rw [if_pos hw]
  obtain ⟨v', w', hrun, h2, h3, h4⟩ := run_appR (P := P) (c := c) hz hz0 hf w t o.type i zv bytes ht hn hzv hsize hby hzs hb64 h hd hm hb hbase
  unfold Oper.wp execOp
  simp only [ho, resolve, invoke, builtin, Sem.run_bind, Sem.run_pure, Result.andThen_ok, List.map_toArray, List.map_cons, List.map_nil, hs, hx, hrun]
  exact hK v' w' h2 h3 h4
end Go.Proofs.YtieepdhajjibpaaDoor
