
/- The contract of the Reader's take: what is cut off, what is left, the first error, each as the plain function 'tk' of the bytes says; of nil: nothing. -/
import Derived.Test.YtmominbmalhdoaaDoorCurRead
namespace Go.Proofs.YtmominbmalhdoaaDoor
open Go.RowKit

/-- What is left, the error, what is cut off: of the bytes xs with the error e, where m bytes are asked for, which may be asked for or not. -/
def tk (xs : List UInt8) (e m : Int) (may : Bool) : List UInt8 × Int × List UInt8 :=
  if e ≠ 0 then (xs, e, []) else if may = false then (xs, 1, []) else if (xs.length : Int) < m then (xs, 10, []) else (xs.drop m.toNat, 0, xs.take m.toNat)

/-- Block g is a reader with the bytes xs, which lie from block lo on and below g, and the error e. -/
def RD (own : Bool) (w : World) (lo g : Nat) (xs : List UInt8) (e : Int) : Prop :=
  ∃ A c, Rdr w g A xs.length c e ∧ xs.length ≤ c ∧ Dat own w lo g A xs

/-- A slice value that holds the bytes xs. -/
def Sl (own : Bool) (w : World) (lo hi : Nat) (v : Value) (xs : List UInt8) : Prop := ∃ A c, v = .slice A xs.length c ∧ xs.length ≤ c ∧ Dat own w lo hi A xs

/-- Only block g has turned, and none has come. -/
def Stp (w w' : World) (g : Nat) : Prop := w.grownBy w' (some g) ∧ w'.heap.size = w.heap.size

section
variable {own : Bool} {w w' w'' : World} {lo g : Nat} {xs : List UInt8} {e : Int}
theorem Stp.refl (w : World) (g : Nat) : Stp w w g := ⟨World.grownBy.refl w _, rfl⟩
theorem Stp.set (w : World) (g i : Nat) (u : Value) : Stp w (w.setCell ⟨g, i, none⟩ u) g :=
  ⟨⟨rfl, rfl, rfl, by simp [World.setCell], fun k _ hk => Below.heap_setCell w _ u k (fun h => hk (by rw [h]))⟩, by simp [World.setCell]⟩
theorem RD.lt (h : RD own w lo g xs e) : g < w.heap.size := by
  obtain ⟨A, c, h1, _⟩ := h
  exact Box.lt h1
theorem RD.below {B : Nat} (h : RD own w lo g xs e) (hb : Below B w w') (hg : g < B) : RD own w' lo g xs e := by
  obtain ⟨A, c, h1, h2, h3⟩ := h
  exact ⟨A, c, Box.below h1 hb hg, h2, h3.below hb (by omega)⟩
theorem RD.grown {row : Option Nat} (h : RD own w lo g xs e) (hb : w.grownBy w' row) (hr : ∀ k, row = some k → k < lo ∨ g < k) (hl : lo ≤ g) : RD own w' lo g xs e := by
  have hg := h.lt
  obtain ⟨A, c, h1, h2, h3⟩ := h
  exact ⟨A, c, Box.grown h1 hb (fun e => by have := hr g e.symm; omega), h2, h3.grown hb (by omega) (fun k hk => by have := hr k hk; omega)⟩
theorem RD.alloc (h : RD own w lo g xs e) (o : Obj) : RD own (w.alloc o) lo g xs e := by
  have hg := h.lt
  obtain ⟨A, c, h1, h2, h3⟩ := h
  exact ⟨A, c, Box.alloc h1 o, h2, h3.alloc (by omega) o⟩
theorem RD.far (h : RD own w lo g xs e) {p : Addr} (hp : p.block < lo ∨ g < p.block) (hl : lo ≤ g) (u : Value) : RD own (w.setCell p u) lo g xs e := by
  obtain ⟨A, c, h1, h2, h3⟩ := h
  exact ⟨A, c, Box.far h1 (by omega) u, h2, h3.far (by omega) u⟩
end

theorem rd_err {own : Bool} {w : World} {lo g : Nat} {xs : List UInt8} {x : Int} (h : RD own w lo g xs x) :
    Calls Tryd.prog 22 #[.pointer (some ⟨g, 0, none⟩)] w fun e w' => e = .returned (.int .i64 x) ∧ w = w' := by
  obtain ⟨A, c, h1, _⟩ := h
  exact err_any h1
theorem rd_left {own : Bool} {w : World} {lo g : Nat} {xs : List UInt8} {x : Int} (h : RD own w lo g xs x) :
    Calls Tryd.prog 23 #[.pointer (some ⟨g, 0, none⟩)] w fun e w' => e = .returned (.int .i64 xs.length) ∧ w = w' := by
  obtain ⟨A, c, h1, _⟩ := h
  exact left_any h1
theorem add_zero_map (A : Option Addr) : A.map (·.add 0) = A := by cases A <;> rfl

theorem take_nil (m : Int) (may : Bool) (w : World) :
    Calls Tryd.prog 33 #[.pointer none, .int .i64 m, .bool may] w fun e w' => e = .returned (.slice none 0 0) ∧ w = w' := by
  go_enter Tryd.func33, Tryd.ntmps33
  go_wp2_with (go_at_call 22; refine (err_nil _).mono ?_; rintro e w' ⟨rfl, rfl⟩)
  go_ret
  exact ⟨rfl, rfl⟩

theorem take_err {w : World} {g : Nat} {A : Option Addr} {n c : Nat} {x m : Int} {may : Bool} (h : Rdr w g A n c x) (hx : x ≠ 0) :
    Calls Tryd.prog 33 #[.pointer (some ⟨g, 0, none⟩), .int .i64 m, .bool may] w fun e w' => e = .returned (.slice none 0 0) ∧ w = w' := by
  have hb' : (x != 0) = true := by simpa using hx
  have hE := Lib.hid (err_any h)
  clear h hx
  go_enter Tryd.func33, Tryd.ntmps33
  go_wp2_with (go_at_call 22; refine hE.out.mono ?_; rintro e w' ⟨rfl, rfl⟩)
  go_ret
  exact ⟨rfl, rfl⟩

theorem take_arg {w : World} {g : Nat} {A : Option Addr} {n c : Nat} {m : Int} (h : Rdr w g A n c 0) :
    Calls Tryd.prog 33 #[.pointer (some ⟨g, 0, none⟩), .int .i64 m, .bool false] w fun e w' => e = .returned (.slice none 0 0) ∧ w.setCell ⟨g, 1, none⟩ (.int .i64 1) = w' := by
  have h1 := h.c1
  have f1 := h.f1
  have hE := Lib.hid (err_any h)
  clear h
  go_enter Tryd.func33, Tryd.ntmps33
  go_wp2_with (go_at_call 22; refine hE.out.mono ?_; rintro e w' ⟨rfl, rfl⟩)
  go_ret
  exact ⟨rfl, rfl⟩

theorem take_short {w : World} {g : Nat} {A : Option Addr} {n c : Nat} {m : Int} (h : Rdr w g A n c 0) (hm : (n : Int) < m) :
    Calls Tryd.prog 33 #[.pointer (some ⟨g, 0, none⟩), .int .i64 m, .bool true] w fun e w' => e = .returned (.slice none 0 0) ∧ w.setCell ⟨g, 1, none⟩ (.int .i64 10) = w' := by
  have h0 := h.c0
  have h1 := h.c1
  have f1 := h.f1
  have hE := Lib.hid (err_any h)
  clear h
  go_enter Tryd.func33, Tryd.ntmps33
  go_wp2_with (go_at_call 22; refine hE.out.mono ?_; rintro e w' ⟨rfl, rfl⟩)
  go_ret
  exact ⟨rfl, rfl⟩

theorem take_ok {w : World} {g : Nat} {A : Option Addr} {n c m : Nat} (h : Rdr w g A n c 0) (hm : m ≤ n) (hc : n ≤ c) :
    Calls Tryd.prog 33 #[.pointer (some ⟨g, 0, none⟩), .int .i64 (m : Int), .bool true] w fun e w' =>
      e = .returned (.slice (if m = 0 then A else A.map (·.add 0)) m m) ∧ w.setCell ⟨g, 0, none⟩ (.slice (if c = m then A else A.map (·.add m)) (n - m) (c - m)) = w' := by
  have h0 := h.c0
  have h1 := h.c1
  have f0 := h.f0
  have hE := Lib.hid (err_any h)
  clear h
  go_enter Tryd.func33, Tryd.ntmps33
  go_wp2_with (go_at_call 22; refine hE.out.mono ?_; rintro e w' ⟨rfl, rfl⟩)
  all_goals go_ret
  all_goals exact ⟨rfl, rfl⟩

/-- take, of any reader. -/
theorem take_any {own : Bool} {w : World} {lo g : Nat} {xs : List UInt8} {x m : Int} {may : Bool} (h : RD own w lo g xs x) (hm : may = true → 0 ≤ m) :
    Calls Tryd.prog 33 #[.pointer (some ⟨g, 0, none⟩), .int .i64 m, .bool may] w fun e w' =>
      ∃ v, e = .returned v ∧ Sl own w' lo g v (tk xs x m may).2.2 ∧ RD own w' lo g (tk xs x m may).1 (tk xs x m may).2.1 ∧ Stp w w' g := by
  obtain ⟨A, c, h1, h2, h3⟩ := h
  by_cases he : x = 0
  · subst he
    cases may with
    | false =>
      refine (take_arg h1).mono fun e w' ⟨he, hw⟩ => ?_
      subst hw
      have ht : tk xs 0 m false = (xs, 1, []) := by simp [tk]
      rw [ht]
      exact ⟨_, he, ⟨none, 0, rfl, by simp, Dat.nil _ _ _ _ _⟩, ⟨A, c, Box.put h1 1 _, h2, h3.far (by simp) _⟩, Stp.set ..⟩
    | true =>
      by_cases hs : (xs.length : Int) < m
      · refine (take_short h1 hs).mono fun e w' ⟨he, hw⟩ => ?_
        subst hw
        have ht : tk xs 0 m true = (xs, 10, []) := by simp [tk, hs]
        rw [ht]
        exact ⟨_, he, ⟨none, 0, rfl, by simp, Dat.nil _ _ _ _ _⟩, ⟨A, c, Box.put h1 1 _, h2, h3.far (by simp) _⟩, Stp.set ..⟩
      · obtain ⟨k, rfl⟩ := Int.eq_ofNat_of_zero_le (hm rfl)
        have hk : k ≤ xs.length := by omega
        refine (take_ok h1 hk h2).mono fun e w' ⟨he, hw⟩ => ?_
        subst hw
        have ht : tk xs 0 (k : Int) true = (xs.drop k, 0, xs.take k) := by simp [tk, hs]
        rw [ht]
        dsimp only
        have hl1 : (xs.take k).length = k := by simp; omega
        have hl2 : (xs.drop k).length = xs.length - k := by simp
        refine ⟨_, he, ⟨A, k, by rw [hl1]; by_cases h0 : k = 0 <;> simp [h0, add_zero_map], by omega, (h3.take k).far (by simp) _⟩, ⟨_, c - k, ?_, by omega, (h3.cut h2 (k := k)).far (by simp) _⟩, Stp.set ..⟩
        have := Box.put h1 0 (.slice (if c = k then A else A.map (·.add k)) (xs.length - k) (c - k))
        rw [hl2]
        exact this
  · refine (take_err h1 he).mono fun e w' ⟨he', hw⟩ => ?_
    subst hw
    have ht : tk xs x m may = (xs, x, []) := by simp [tk, he]
    rw [ht]
    exact ⟨_, he', ⟨none, 0, rfl, by simp, Dat.nil _ _ _ _ _⟩, ⟨A, c, h1, h2, h3⟩, Stp.refl ..⟩
end Go.Proofs.YtmominbmalhdoaaDoor
