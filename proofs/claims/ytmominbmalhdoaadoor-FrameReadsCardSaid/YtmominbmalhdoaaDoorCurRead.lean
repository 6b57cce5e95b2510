
/- The contracts of cursor's Reader, each method at each kind of reader, and of bytes.Clone. No condition but those that each theorem states. -/
import Derived.Test.YtmominbmalhdoaaDoorCurPlain
import Derived.Test.YtmominbmalhdoaaDoorRows
import Derived.WalkKit
import Derived.WalkSpells
import Derived.WalkLawsBesides
import Derived.Lib.Hide
namespace Go.Proofs.YtmominbmalhdoaaDoor
open Go.RowKit

/-- Block g is a reader: a slice at A of n bytes, capacity c; its error e. -/
def Rdr (w : World) (g : Nat) (A : Option Addr) (n c : Nat) (e : Int) : Prop := Box w g 78 #[.slice A n c, .int .i64 e]

section
variable {w : World} {g : Nat} {A : Option Addr} {n c : Nat} {e : Int}
theorem Rdr.c0 (h : Rdr w g A n c e) : w.cell? ⟨g, 0, none⟩ = some (.slice A n c) := h.cell 0
theorem Rdr.c1 (h : Rdr w g A n c e) : w.cell? ⟨g, 1, none⟩ = some (.int .i64 e) := h.cell 1
theorem Rdr.f0 (h : Rdr w g A n c e) : w.frozen? ⟨g, 0, none⟩ = false := h.free 0
theorem Rdr.f1 (h : Rdr w g A n c e) : w.frozen? ⟨g, 1, none⟩ = false := h.free 1
end

theorem isWidth_yes (n : Int) (w : World) (h1 : 1 ≤ n) (h2 : n ≤ 8) :
    Calls Tryd.prog 34 #[.int .i64 n] w fun e w' => e = .returned (.bool true) ∧ w = w' := by
  go_enter Tryd.func34, Tryd.ntmps34
  go_wp2
  go_ret
  exact ⟨rfl, rfl⟩
theorem isWidth_no (n : Int) (w : World) (h : n < 1 ∨ 8 < n) :
    Calls Tryd.prog 34 #[.int .i64 n] w fun e w' => e = .returned (.bool false) ∧ w = w' := by
  rcases h with h | h
  · go_enter Tryd.func34, Tryd.ntmps34
    go_wp2
    go_ret
    exact ⟨rfl, rfl⟩
  · have h1 : 1 ≤ n := by omega
    have hd : decide (n ≤ 8) = false := by simp; omega
    go_enter Tryd.func34, Tryd.ntmps34
    go_wp2
    go_ret
    exact ⟨rfl, rfl⟩

theorem err_nil (w : World) : Calls Tryd.prog 22 #[.pointer none] w fun e w' => e = .returned (.int .i64 1) ∧ w = w' := by
  go_enter Tryd.func22, Tryd.ntmps22
  go_wp2
  go_ret
  exact ⟨rfl, rfl⟩
theorem err_any {w : World} {g : Nat} {A : Option Addr} {n c : Nat} {x : Int} (h : Rdr w g A n c x) :
    Calls Tryd.prog 22 #[.pointer (some ⟨g, 0, none⟩)] w fun e w' => e = .returned (.int .i64 x) ∧ w = w' := by
  have h1 := h.c1
  clear h
  go_enter Tryd.func22, Tryd.ntmps22
  go_wp2
  go_ret
  exact ⟨rfl, rfl⟩
theorem left_nil (w : World) : Calls Tryd.prog 23 #[.pointer none] w fun e w' => e = .returned (.int .i64 0) ∧ w = w' := by
  go_enter Tryd.func23, Tryd.ntmps23
  go_wp2
  go_ret
  exact ⟨rfl, rfl⟩
theorem left_any {w : World} {g : Nat} {A : Option Addr} {n c : Nat} {x : Int} (h : Rdr w g A n c x) :
    Calls Tryd.prog 23 #[.pointer (some ⟨g, 0, none⟩)] w fun e w' => e = .returned (.int .i64 n) ∧ w = w' := by
  have h0 := h.c0
  clear h
  go_enter Tryd.func23, Tryd.ntmps23
  go_wp2
  go_ret
  exact ⟨rfl, rfl⟩
/-- What End tells: the error, or 15 where bytes are left. -/
def endOf (x : Int) (n : Nat) : Int := if x = 0 then (if n = 0 then 0 else 15) else x
end Go.Proofs.YtmominbmalhdoaaDoor
