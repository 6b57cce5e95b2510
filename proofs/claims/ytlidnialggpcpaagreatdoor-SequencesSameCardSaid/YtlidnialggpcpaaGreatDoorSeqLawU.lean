
/- Both Reads' answers in one form, for the laws of layer 13. -/
import Derived.Test.YtlidnialggpcpaaGreatDoorSeqArgs
import Derived.Test.YtlidnialggpcpaaGreatDoorSeqAwake
import Derived.Test.YtlidnialggpcpaaGreatDoorSeqSame
import Derived.Test.YtlidnialggpcpaaGreatDoorSeqRefR
namespace Go.Proofs.YtlidnialggpcpaaGreatDoor
open Go.RowKit

def resQ (R : Except Int (List Sq × Option T3)) : List Sq := match R with
  | .error _ => []
  | .ok (q, _) => q
def resE (R : Except Int (List Sq × Option T3)) : Int := match R with
  | .error e => e
  | .ok _ => 0
/-- A Read's answer: sequences, three tables, an error. -/
def ReadU (q : List Sq) (E : Int) (w : World) (e : Ending) (w' : World) : Prop :=
  ∃ (A : Option Addr) (n c : Nat) (x : Ts), e = .returned (.tuple #[.slice A n c, .agg #[.int .i64 (x.l 0 : Int), .slice (x.A 0) (x.n 0) (x.c 0), .int .i64 (x.l 1 : Int), .slice (x.A 1) (x.n 1) (x.c 1), .int .i64 (x.l 2 : Int), .slice (x.A 2) (x.n 2) (x.c 2)], .int .i64 E]) ∧ DatR 3 scell w' w.heap.size w'.heap.size A q ∧ q.length = n ∧ Below w.heap.size w w'
theorem read_u {R : Except Int (List Sq × Option T3)} {w : World} {e : Ending} {w' : World} (h : ReadPost13 R w e w') : ReadU (resQ R) (resE R) w e w' := by
  obtain ⟨hB, h⟩ := h
  cases R with
  | error er => exact ⟨none, 0, 0, noTs, h, DatR.nil _ _ _ _ _ _, rfl, hB⟩
  | ok p =>
    obtain ⟨q, T⟩ := p
    obtain ⟨v, x, rfl, ho, _⟩ := h
    obtain ⟨A, c, rfl, _, hd⟩ := ho.form scell_len
    exact ⟨A, _, c, x, rfl, hd, rfl, hB⟩
theorem rread_u {R : Except Int (List Sq × Option T3)} {w : World} {e : Ending} {w' : World} (h : RRPost13 R w e w') : ReadU (resQ R) (resE R) w e w' := by
  obtain ⟨hB, h⟩ := h
  cases R with
  | error er => exact ⟨none, 0, 0, noTs, h, DatR.nil _ _ _ _ _ _, rfl, hB⟩
  | ok p =>
    obtain ⟨q, T⟩ := p
    obtain ⟨v, x, rfl, ho⟩ := h
    obtain ⟨A, c, rfl, _, hd⟩ := ho.form scell_len
    exact ⟨A, _, c, x, rfl, hd, rfl, hB⟩
theorem readS_len {xs : List UInt8} {q : List Sq} {T : Option T3} (h : readS xs = .ok (q, T)) : q.length ≤ 98047 := by
  unfold readS at h
  split at h
  · cases h
  · next n r hc =>
    have hn := (count_le hc).1
    split at h
    · split at h
      · cases h
      · injection h with h
        injection h with h1 _
        subst h1
        simp
    · split at h
      · cases h
      · split at h
        · cases h
        · split at h
          · cases h
          · split at h
            · cases h
            · next q' hb =>
              injection h with h
              injection h with h1 _
              subst h1
              unfold bodyS at hb
              split at hb
              · cases hb
              · split at hb
                · cases hb
                · split at hb
                  · cases hb
                  · injection hb with hb
                    subst hb
                    rw [run_len]
                    exact hn
theorem resQ_len (xs : List UInt8) : (resQ (readS xs)).length ≤ 98047 := by
  cases h : readS xs with
  | error e => simp [resQ]
  | ok p =>
    obtain ⟨q, T⟩ := p
    exact readS_len h
theorem readU_none {own : Bool} {B : Nat} {w : World} {lo hi m c : Nat} {A : Option Addr} {xs : List UInt8} (hgl : GS B w) (hd : Dat own w lo hi A xs) (hhi : hi ≤ w.heap.size) (hm : xs.length = m) (hl : xs.length ≤ 100000000) :
    Calls Tryz.prog 8 #[.slice A m c, .agg #[.int .i64 0, .slice none 0 0, .int .i64 0, .slice none 0 0, .int .i64 0, .slice none 0 0]] w (ReadU (resQ (readS xs)) (resE (readS xs)) w) :=
  (read_none hgl hd hhi hm (by omega)).mono fun _ _ h => read_u h
theorem rreadU_none {w : World} {xs : List UInt8} (hl : xs.length ≤ 100000000) :
    Calls Tryz.prog 9 #[.string (str xs), .agg #[.int .i64 0, .slice none 0 0, .int .i64 0, .slice none 0 0, .int .i64 0, .slice none 0 0]] w (ReadU (resQ (readS xs)) (resE (readS xs)) w) := by
  rw [← noTs_val]
  exact (rread13_any (x0 := noTs) hl (fun _ _ _ _ _ _ _ _ => rfl)).mono fun _ _ h => rread_u h
/-- Where no table is that ahead. -/
theorem free_mo {xs : List UInt8} {x0 : Ts} (hf : aheadFree xs) : ∀ n f r, countS xs = .ok (n, f :: r) → n ≠ 0 → ∀ k, k < 3 → md f.toNat k = 3 → x0.n k = 0 := fun n f r h _ k hk hm => by
  obtain ⟨h0, h1, h2⟩ := hf n (f :: r) f r h rfl
  obtain ⟨e0, e1, e2⟩ := md_eq f.toNat_lt
  rcases (show k = 0 ∨ k = 1 ∨ k = 2 by omega) with rfl | rfl | rfl <;> omega
theorem ownB_empty (w : World) (u base : Nat) (h : base ≤ w.heap.size) : OwB (w.alloc (.cells #[] u)) u base (.slice (some ⟨w.heap.size, 0, none⟩) 0 0) [] :=
  World.ownsRow_made (base := base) (e := u) (size := 1) w #[] 0 h (by simp [maxLen]) (by simp)
end Go.Proofs.YtlidnialggpcpaaGreatDoor
