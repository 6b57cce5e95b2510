
/- Appending to a slice of the call's own, as a step of a region that draws its order. Nothing of the program is named here. -/
import Derived.Test.YtchpaeelpaicbaaEls
import Derived.Deep.RegionLaw
namespace Go.Proofs.Ytchpaeelpaicbaa
open Go.RowKit

theorem step_appE {α : Type} {f : α → Value} {P : Program} {u base lo hi : Nat} {v : Value} {xs ys : List α} {A : Option Addr} {m c : Nat} {ops : Array Oper} {o : Oper} {a : Act} {K : Act → World → Prop} {Q : Exit → Act → World → Prop} {E : Prop} (hf : ∀ x, (f x).oneCell' = true) (w : World) (hgd : o.guard = none) (s x : Operand) (t : TypeId)
    (ho : o.op = .call { callee := .builtin .append, args := #[s, x], argTypes := #[t, t] })
    (i : TypeInfo) (z : Value) (bytes : Nat) (ht : P.underlying t = some (.slice u)) (hn : P.info? u = some i) (hz : i.zero = some z) (hsize : i.size = 1) (hby : i.bytes = bytes) (hzs : z.cells.size = 1) (hb64 : bytes ≤ 64)
    (hs : a.eval s = v) (h : OwE f w u base v xs) (hx : a.eval x = .slice A m c) (hd : DatE f w lo hi A ys) (hm : ys.length = m) (hb : xs.length + m ≤ 1099511627776) (hbase : base ≤ w.heap.size)
    (hK : ∀ v' w', OwE f w' u base v' (xs ++ ys) → w.grownBy w' v.ownBlock → (v'.ownBlock = v.ownBlock ∨ v'.ownBlock = some w.heap.size) → K (a.put o.dst v') w') :
    if Region.wanted o (yielded ops a.tmps) = true then Oper.wp P o a w K Q else E := by
  have hw : Region.wanted o (yielded ops a.tmps) = true := by simp [Region.wanted, hgd]
  rw [if_pos hw]
  exact wp_appE hf w s x t ho i z bytes ht hn hz hsize hby hzs hb64 hs h hx hd hm hb hbase hK
end Go.Proofs.Ytchpaeelpaicbaa
