
/- The contract of startAt. -/
import Derived.Test.YtfaonmggiffemaaDoorMatPlain
import Derived.Laws.Cover3
namespace Go.Proofs.YtfaonmggiffemaaDoor
open Go.RowKit

set_option maxRecDepth 100000 in
set_option maxHeartbeats 800000 in
theorem startAt_any {w : World} {lo hi : Nat} {A : Option Addr} {n c : Nat} {xs : List UInt8} (hd : Dat false w lo hi A xs) (hn : xs.length = n) (hc : n ≤ c) (hm : n ≤ 1000000) (hhi : hi ≤ w.heap.size) (p : Nat) (hp : p + 4 ≤ n) :
    Calls Tryd.prog 12 #[.slice A n c, .int .i64 (p : Int)] w fun e w' => e = .returned (stv (st xs p)) ∧ Below w.heap.size w w' := by
  obtain ⟨d, o, rfl, hd1, hd2, hcell, _⟩ := hd (by omega)
  have c0 := hcell p (by omega)
  have c1 := hcell (p + 1) (by omega)
  have c2 := hcell (p + 2) (by omega)
  have c3 := hcell (p + 3) (by omega)
  unfold cel at c0 c1 c2 c3
  rw [← Nat.add_assoc] at c1 c2 c3
  have hat : ∀ C W, (Instr.arrayAt 48 (.slice (some ⟨d, o + p, none⟩) 4 C)).run Tryd.prog W = .ok (.pointer (some ⟨d, o + p, none⟩)) W := fun C W => run_arrayAt W _ _ 4 _ 4 C Tryd.underlying48 (Nat.le_refl _)
  have hq : ¬ c = p := by omega
  have hq' : (p : Int) + 4 ≤ (c : Int) := by omega
  unfold stv st cel
  dsimp only
  generalize xs.getD p 0 = x0 at *
  generalize xs.getD (p + 1) 0 = x1 at *
  generalize xs.getD (p + 2) 0 = x2 at *
  generalize xs.getD (p + 3) 0 = x3 at *
  have hb : d < w.heap.size := by omega
  clear hcell
  go_enter Tryd.func12, Tryd.ntmps12
  go_wp2_with (simp only [hat])
  refine bodyPost_ret (v := .agg #[.int .u8 (x0.toNat : Int), .int .u8 (x1.toNat : Int), .int .u8 (x2.toNat : Int), .int .u8 (x3.toNat : Int)]) ?_ rfl ⟨rfl, ?_⟩
  · have hres : Tryd.f12.results = #[.cell 4 48] := by kernel_rfl
    simp only [results, hres]
    go_simp
  · exact (Below.refl _ _).alloc (Nat.le_refl _) _
end Go.Proofs.YtfaonmggiffemaaDoor
