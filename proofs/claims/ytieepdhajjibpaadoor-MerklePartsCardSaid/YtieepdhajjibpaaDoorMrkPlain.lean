
/- Digests, and the tree above them, on lists; the stack of trees that are joined. Nothing of the program is named here. -/
import Derived.Test.YtieepdhajjibpaaDoorShaSum
import Derived.Test.YtieepdhajjibpaaDoorRecs
namespace Go.Proofs.YtieepdhajjibpaaDoor
open Go.RowKit

/-- A digest. -/
abbrev Dg := { l : List UInt8 // l.length = 32 }
theorem shaOf_length (xs : List UInt8) : (shaOf kw xs).length = 32 := by rw [← stOf_padded, bytesOf_length]
def shaD (xs : List UInt8) : Dg := ⟨shaOf kw xs, shaOf_length xs⟩
def dcs (d : Dg) : List Value := d.1.map cel
def dv (d : Dg) : Value := .agg (bcells d.1)
theorem dcs_len (d : Dg) : (dcs d).length = 32 := by rw [dcs, List.length_map, d.2]
theorem dcs_one (d : Dg) : ∀ v ∈ dcs d, v.oneCell' = true := by
  intro v hv
  obtain ⟨x, _, rfl⟩ := List.mem_map.1 hv
  rfl
theorem bcells_toList (d : Dg) : (bcells d.1).toList = dcs d := rfl
theorem bcells_size (d : Dg) : (bcells d.1).size = 32 := by simp [bcells, d.2]

def leafD (b : List UInt8) : Dg := shaD (0 :: b)
def nodeD (a b : Dg) : Dg := shaD (1 :: (a.1 ++ b.1))

/-- The greatest power of 2 below n. -/
def half (n : Nat) : Nat := 2 ^ (n - 1).log2
theorem half_pos (n : Nat) : 0 < half n := Nat.two_pow_pos _
theorem half_lt {n : Nat} (h : 2 ≤ n) : half n < n := by
  have := Nat.log2_self_le (n := n - 1) (by omega)
  unfold half
  omega
theorem half_twice (n : Nat) : n ≤ 2 * half n := by
  have := Nat.lt_log2_self (n := n - 1)
  rw [Nat.pow_succ] at this
  unfold half
  omega
theorem half_pow {e m : Nat} (h1 : 1 ≤ m) (h2 : m ≤ 2 ^ e) : half (2 ^ e + m) = 2 ^ e := by
  have hp := Nat.two_pow_pos e
  have : (2 ^ e + m - 1).log2 = e := (Nat.log2_eq_iff (by omega)).2 ⟨by omega, by rw [Nat.pow_succ]; omega⟩
  unfold half
  rw [this]

/-- The digest above all. -/
def rootL : List Dg → Dg
  | [] => shaD []
  | [x] => x
  | a :: b :: r => nodeD (rootL ((a :: b :: r).take (half (r.length + 2)))) (rootL ((a :: b :: r).drop (half (r.length + 2))))
termination_by l => l.length
decreasing_by
  · have := half_lt (n := r.length + 2) (by omega)
    simp only [List.length_take, List.length_cons]
    omega
  · have := half_pos (r.length + 2)
    simp only [List.length_drop, List.length_cons]
    omega
theorem root_nil : rootL [] = shaD [] := by rw [rootL]
theorem root_one (x : Dg) : rootL [x] = x := by rw [rootL]
theorem root_split {l : List Dg} (h : 2 ≤ l.length) : rootL l = nodeD (rootL (l.take (half l.length))) (rootL (l.drop (half l.length))) := by
  match l, h with
  | a :: b :: r, _ => rw [rootL]; rfl
theorem root_join {a b : List Dg} {e : Nat} (ha : a.length = 2 ^ e) (h1 : 1 ≤ b.length) (h2 : b.length ≤ a.length) : rootL (a ++ b) = nodeD (rootL a) (rootL b) := by
  have hp := Nat.two_pow_pos e
  rw [root_split (by rw [List.length_append]; omega), List.length_append, ha, half_pow h1 (by omega), ← ha]
  simp

/-- Trees that aren't joined yet: a digest, and how many it stands above. -/
abbrev Tr := Dg × Nat
def tcs (t : Tr) : List Value := dcs t.1 ++ [.int .i64 (t.2 : Int)]
theorem tcs_len (t : Tr) : (tcs t).length = 33 := by rw [tcs, List.length_append, dcs_len]; rfl
theorem tcs_one (t : Tr) : ∀ v ∈ tcs t, v.oneCell' = true := by
  intro v hv
  rcases List.mem_append.1 hv with h | h
  · exact dcs_one _ v h
  · obtain rfl := List.mem_singleton.1 h
    rfl
def tr (s : List Dg) : Tr := (rootL s, s.length)

def Pow2 (n : Nat) : Prop := ∃ e, n = 2 ^ e
theorem Pow2.pos {n : Nat} (h : Pow2 n) : 1 ≤ n := by obtain ⟨e, rfl⟩ := h; exact Nat.two_pow_pos e
theorem Pow2.dbl {n : Nat} (h : Pow2 n) : Pow2 (n + n) := by obtain ⟨e, rfl⟩ := h; exact ⟨e + 1, by rw [Nat.pow_succ]; omega⟩
theorem Pow2.twice {n m : Nat} (h : Pow2 n) (g : Pow2 m) (hl : n < m) : 2 * n ≤ m := by
  obtain ⟨e, rfl⟩ := h
  obtain ⟨f, rfl⟩ := g
  have hef : e < f := (Nat.pow_lt_pow_iff_right (by omega)).1 hl
  have := Nat.pow_le_pow_right (show 0 < 2 by omega) (show e + 1 ≤ f by omega)
  rw [Nat.pow_succ] at this
  omega

/-- The stack, its top first: powers of 2, each less than the one below. -/
def DecS : List (List Dg) → Prop
  | [] => True
  | [a] => Pow2 a.length
  | b :: a :: r => Pow2 b.length ∧ b.length < a.length ∧ DecS (a :: r)
/-- The same, but that the top may be as long as the one below. -/
def DecR : List (List Dg) → Prop
  | [] => True
  | [a] => Pow2 a.length
  | b :: a :: r => Pow2 b.length ∧ b.length ≤ a.length ∧ DecS (a :: r)
/-- Each is a power of 2, and as long at least as all above, t beside, are together. -/
def LinA (t : Nat) : List (List Dg) → Prop
  | [] => True
  | a :: r => (t ≤ a.length ∧ Pow2 a.length) ∧ LinA (t + a.length) r
def Lin : List (List Dg) → Prop
  | [] => True
  | b :: r => 1 ≤ b.length ∧ LinA b.length r

theorem DecS.head {a : List Dg} {r : List (List Dg)} (h : DecS (a :: r)) : Pow2 a.length := by
  cases r with
  | nil => exact h
  | cons c r => exact h.1
theorem DecS.push {r : List (List Dg)} (h : DecS r) (x : Dg) : DecR ([x] :: r) := by
  cases r with
  | nil => exact ⟨0, rfl⟩
  | cons a r => exact ⟨⟨0, rfl⟩, h.head.pos, h⟩
theorem DecR.strict {b a : List Dg} {r : List (List Dg)} (h : DecR (b :: a :: r)) (hne : a.length ≠ b.length) : DecS (b :: a :: r) := ⟨h.1, by have := h.2.1; omega, h.2.2⟩
theorem DecR.join {b a : List Dg} {r : List (List Dg)} (h : DecR (b :: a :: r)) (he : a.length = b.length) : DecR ((a ++ b) :: r) := by
  obtain ⟨h1, h2, h3⟩ := h
  have ha : Pow2 (a ++ b).length := by rw [List.length_append, ← he]; exact h3.head.dbl
  cases r with
  | nil => exact ha
  | cons c r =>
    have := Pow2.twice h3.1 h3.2.2.head h3.2.1
    exact ⟨ha, by rw [List.length_append]; omega, h3.2.2⟩
theorem LinA.mono {r : List (List Dg)} : ∀ {t t' : Nat}, LinA t r → t' ≤ t → LinA t' r := by
  induction r with
  | nil => intros; trivial
  | cons a r ih => intro t t' h hl; exact ⟨⟨by have := h.1.1; omega, h.1.2⟩, ih h.2 (by omega)⟩
theorem DecS.lin : ∀ {r : List (List Dg)} {a : List Dg}, DecS (a :: r) → LinA (2 * a.length) r
  | [], _, _ => trivial
  | c :: r, a, h => by
    have h2 := Pow2.twice h.1 h.2.2.head h.2.1
    exact ⟨⟨h2, h.2.2.head⟩, (DecS.lin h.2.2).mono (by omega)⟩
theorem DecR.lin {r : List (List Dg)} (h : DecR r) : Lin r := by
  match r, h with
  | [], _ => trivial
  | [a], h => exact ⟨Pow2.pos h, trivial⟩
  | b :: a :: r, h => exact ⟨h.1.pos, ⟨h.2.1, h.2.2.head⟩, (DecS.lin h.2.2).mono (by have := h.2.1; omega)⟩
theorem Lin.join {b a : List Dg} {r : List (List Dg)} (h : Lin (b :: a :: r)) : Lin ((a ++ b) :: r) := by
  refine ⟨by rw [List.length_append]; have := h.1; omega, ?_⟩
  rw [List.length_append, Nat.add_comm]
  exact h.2.2
theorem Lin.tr {b a : List Dg} {r : List (List Dg)} (h : Lin (b :: a :: r)) : tr (a ++ b) = (nodeD (tr a).1 (tr b).1, (tr a).2 + (tr b).2) := by
  obtain ⟨e, he⟩ := h.2.1.2
  show (rootL (a ++ b), (a ++ b).length) = _
  rw [root_join he h.1 h.2.1.1, List.length_append]
  rfl

/-- The stack (its top first) and what is left, of all: l. -/
structure Stk (L : List Dg) (rs : List (List Dg)) (l : List Dg) : Prop where
  all : rs.reverse.flatten ++ l = L
  dec : l ≠ [] → DecR rs
  lin : Lin rs
theorem Stk.start {L : List Dg} : Stk L [] L := ⟨rfl, fun _ => trivial, trivial⟩
theorem Stk.join {L l : List Dg} {b a : List Dg} {r : List (List Dg)} (h : Stk L (b :: a :: r) l) (he : l = [] ∨ a.length = b.length) : Stk L ((a ++ b) :: r) l :=
  ⟨by rw [← h.all]; simp, fun hl => (h.dec hl).join (he.resolve_left hl), h.lin.join⟩
theorem Stk.push {L l : List Dg} {x : Dg} {rs : List (List Dg)} (h : Stk L rs (x :: l)) (hne : ∀ b a r, rs = b :: a :: r → a.length ≠ b.length) : Stk L ([x] :: rs) l := by
  have hd := h.dec (by simp)
  have hs : DecS rs := by
    match rs, hd, hne with
    | [], _, _ => trivial
    | [a], hd, _ => exact hd
    | b :: a :: r, hd, hne => exact hd.strict (hne b a r rfl)
  exact ⟨by rw [← h.all]; simp, fun _ => hs.push x, (hs.push x).lin⟩
theorem Stk.total {L l : List Dg} {rs : List (List Dg)} (h : Stk L rs l) : rs.flatten.length + l.length = L.length := by
  rw [← h.all, List.length_append]
  congr 1
  simp [List.length_flatten, List.map_reverse, List.sum_reverse]
theorem Stk.one {L : List Dg} {s : List Dg} (h : Stk L [s] []) : tr s = tr L := by
  have := h.all
  simp at this
  rw [this]
/-- Of those on the stack none stands above more than there are. -/
theorem LinA.pos {r : List (List Dg)} : ∀ {t : Nat}, LinA t r → ∀ a ∈ r, 1 ≤ a.length := by
  induction r with
  | nil => intro t _ a ha; cases ha
  | cons c r ih =>
    intro t h a ha
    rcases List.mem_cons.1 ha with rfl | ha
    · exact h.1.2.pos
    · exact ih h.2 a ha
theorem len_le_flat {r : List (List Dg)} (h : ∀ a ∈ r, 1 ≤ a.length) : r.length ≤ r.flatten.length := by
  induction r with
  | nil => simp
  | cons a r ih =>
    have := h a (by simp)
    have := ih fun x hx => h x (by simp [hx])
    simp only [List.length_cons, List.flatten_cons, List.length_append]
    omega
theorem Stk.len {L l : List Dg} {rs : List (List Dg)} (h : Stk L rs l) : rs.length + l.length ≤ L.length := by
  have h1 := h.total
  have h2 : ∀ a ∈ rs, 1 ≤ a.length := by
    have hl := h.lin
    match rs, hl with
    | [], _ => intro a ha; cases ha
    | b :: r, hl =>
      intro a ha
      rcases List.mem_cons.1 ha with rfl | ha
      · exact hl.1
      · exact hl.2.pos a ha
  have := len_le_flat h2
  omega
/-- The stack as it lies in memory. -/
def layT (rs : List (List Dg)) : List Tr := (rs.map tr).reverse
theorem layT_len (rs : List (List Dg)) : (layT rs).length = rs.length := by simp [layT]
theorem layT_two (b a : List Dg) (r : List (List Dg)) : layT (b :: a :: r) = layT r ++ [tr a, tr b] := by simp [layT]
theorem layT_cons (a : List Dg) (r : List (List Dg)) : layT (a :: r) = layT r ++ [tr a] := by simp [layT]
theorem Stk.two {L l : List Dg} {b a : List Dg} {r : List (List Dg)} (h : Stk L (b :: a :: r) l) : a.length + b.length ≤ L.length := by
  have := h.total
  simp only [List.flatten_cons, List.length_append] at this
  omega
end Go.Proofs.YtieepdhajjibpaaDoor
