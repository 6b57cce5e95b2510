/- The contracts of cursor's Reader, each method at each kind of reader, and of bytes.Clone. No condition but those that each theorem states. -/
import Derived.Test.YtppjilfhpiknbaaCurPlain
import Derived.Test.YtppjilfhpiknbaaRows
import Derived.WalkKit
import Derived.WalkSpells
import Derived.WalkLawsBesides
import Derived.Lib.Hide
namespace Go.Proofs.Ytppjilfhpiknbaa
open Go.RowKit

/-- Block g is a reader: a slice at A of n bytes, capacity c; its error e. -/
def Rdr (w : World) (g : Nat) (A : Option Addr) (n c : Nat) (e : Int) : Prop := Box w g 55 #[.slice A n c, .int .i64 e]

section
variable {w : World} {g : Nat} {A : Option Addr} {n c : Nat} {e : Int}
theorem Rdr.c0 (h : Rdr w g A n c e) : w.cell? ⟨g, 0, none⟩ = some (.slice A n c) := h.cell 0
theorem Rdr.c1 (h : Rdr w g A n c e) : w.cell? ⟨g, 1, none⟩ = some (.int .i64 e) := h.cell 1
theorem Rdr.f0 (h : Rdr w g A n c e) : w.frozen? ⟨g, 0, none⟩ = false := h.free 0
theorem Rdr.f1 (h : Rdr w g A n c e) : w.frozen? ⟨g, 1, none⟩ = false := h.free 1
end

theorem isWidth_yes (n : Int) (w : World) (h1 : 1 ≤ n) (h2 : n ≤ 8) :
    Calls Try.prog 25 #[.int .i64 n] w fun e w' => e = .returned (.bool true) ∧ w = w' := by
  go_enter Try.func25, Try.ntmps25
  go_wp2
  go_ret
  exact ⟨rfl, rfl⟩
theorem isWidth_no (n : Int) (w : World) (h : n < 1 ∨ 8 < n) :
    Calls Try.prog 25 #[.int .i64 n] w fun e w' => e = .returned (.bool false) ∧ w = w' := by
  rcases h with h | h
  · go_enter Try.func25, Try.ntmps25
    go_wp2
    go_ret
    exact ⟨rfl, rfl⟩
  · have h1 : 1 ≤ n := by omega
    have hd : decide (n ≤ 8) = false := by simp; omega
    go_enter Try.func25, Try.ntmps25
    go_wp2
    go_ret
    exact ⟨rfl, rfl⟩

theorem err_nil (w : World) : Calls Try.prog 14 #[.pointer none] w fun e w' => e = .returned (.int .i64 1) ∧ w = w' := by
  go_enter Try.func14, Try.ntmps14
  go_wp2
  go_ret
  exact ⟨rfl, rfl⟩
theorem err_any {w : World} {g : Nat} {A : Option Addr} {n c : Nat} {x : Int} (h : Rdr w g A n c x) :
    Calls Try.prog 14 #[.pointer (some ⟨g, 0, none⟩)] w fun e w' => e = .returned (.int .i64 x) ∧ w = w' := by
  have h1 := h.c1
  clear h
  go_enter Try.func14, Try.ntmps14
  go_wp2
  go_ret
  exact ⟨rfl, rfl⟩
theorem left_nil (w : World) : Calls Try.prog 15 #[.pointer none] w fun e w' => e = .returned (.int .i64 0) ∧ w = w' := by
  go_enter Try.func15, Try.ntmps15
  go_wp2
  go_ret
  exact ⟨rfl, rfl⟩
theorem left_any {w : World} {g : Nat} {A : Option Addr} {n c : Nat} {x : Int} (h : Rdr w g A n c x) :
    Calls Try.prog 15 #[.pointer (some ⟨g, 0, none⟩)] w fun e w' => e = .returned (.int .i64 n) ∧ w = w' := by
  have h0 := h.c0
  clear h
  go_enter Try.func15, Try.ntmps15
  go_wp2
  go_ret
  exact ⟨rfl, rfl⟩
theorem end_nil (w : World) : Calls Try.prog 16 #[.pointer none] w fun e w' => e = .returned (.int .i64 1) ∧ w = w' := by
  go_enter Try.func16, Try.ntmps16
  go_wp2
  go_ret
  exact ⟨rfl, rfl⟩
/-- What End tells: the error, or 15 where bytes are left. -/
def endOf (x : Int) (n : Nat) : Int := if x = 0 then (if n = 0 then 0 else 15) else x
theorem end_any {w : World} {g : Nat} {A : Option Addr} {n c : Nat} {x : Int} (h : Rdr w g A n c x) :
    Calls Try.prog 16 #[.pointer (some ⟨g, 0, none⟩)] w fun e w' => e = .returned (.int .i64 (endOf x n)) ∧ w = w' := by
  have h0 := h.c0
  have h1 := h.c1
  clear h
  by_cases hx : x = 0
  · subst hx
    by_cases hn : n = 0
    · subst hn
      go_enter Try.func16, Try.ntmps16
      go_wp2
      go_ret
      exact ⟨rfl, rfl⟩
    · have hn' : 0 < n := by omega
      have hend : Hid (endOf 0 n = 15) := by unfold Hid endOf; simp [hn]
      clear hn
      go_enter Try.func16, Try.ntmps16
      go_wp2
      go_ret
      exact ⟨by rw [hend.out]; rfl, rfl⟩
  · have hend : Hid (endOf x n = x) := by unfold Hid endOf; simp [hx]
    have hb : (x == 0) = false := by simpa using hx
    have hb' : (x != 0) = true := by simpa using hx
    go_enter Try.func16, Try.ntmps16
    go_wp2
    go_ret
    exact ⟨by rw [hend.out]; rfl, rfl⟩
end Go.Proofs.Ytppjilfhpiknbaa
