
/- The contract of the program's Read, by what readTold tells. -/
import Derived.Test.YtafdfjacfodbnaaWtHalves
import Derived.BigRegion
namespace Go.Proofs.Ytafdfjacfodbnaa
open Go.RowKit

/-- What readTold answers: weights, or an error. -/
def ToldPost (ok : List Nat → Prop) (bad : Int → Prop) (W : World) (e : Ending) (w' : World) : Prop :=
  Below W.heap.size W w' ∧ ((∃ l v, ok l ∧ e = .returned (.tuple #[v, .int .i64 0]) ∧ OwE u8cel w' 5 W.heap.size v l ∧ (∀ x ∈ l, x < 256) ∧ l.length ≤ 1000) ∨ (∃ er : Int, er ≠ 0 ∧ bad er ∧ e = .returned (.tuple #[.slice none 0 0, .int .i64 er])))
/-- How many bytes stand behind the first one. -/
def sizeW (h : Nat) : Nat := if 127 < h then (h - 126) / 2 else h
/-- What Read answers. -/
def ReadPostW (ok : List Nat → Prop) (bad : Int → Prop) (h n : Nat) (w : World) (e : Ending) (w' : World) : Prop :=
  Below w.heap.size w w' ∧ ((n < 1 + sizeW h ∧ e = .returned (.tuple #[.slice none 0 0, .int .i64 0, .int .i64 10])) ∨ (1 + sizeW h ≤ n ∧ ((∃ er : Int, bad er ∧ e = .returned (.tuple #[.slice none 0 0, .int .i64 0, .int .i64 er])) ∨
    (∃ l, ok l ∧ ((∃ k v, WholeOk l k ∧ e = .returned (.tuple #[v, .int .i64 ((1 + sizeW h : Nat) : Int), .int .i64 0]) ∧ OwB w' 5 w.heap.size v (byt l ++ [UInt8.ofNat (k + 1)])) ∨ ((∀ k, ¬ WholeOk l k) ∧ e = .returned (.tuple #[.slice none 0 0, .int .i64 0, .int .i64 11])))))))

section
variable {w : World}
theorem readW_nil (c : Nat) (A : Option Addr) : Calls Try.prog 15 #[.slice A 0 c] w fun e w' => e = .returned (.tuple #[.slice none 0 0, .int .i64 0, .int .i64 10]) ∧ w' = w := by
  go_enter Try.func15, Try.ntmps15
  go_wp2_with fail
  go_ret3
  exact ⟨rfl, rfl⟩
set_option maxRecDepth 100000 in
set_option maxHeartbeats 1000000 in
theorem readW_any {own : Bool} {lo hi n c h : Nat} {d o : Nat} {b0 : UInt8} {bs : List UInt8} {ok : List Nat → Prop} {bad : Int → Prop} (hd : Dat own w lo hi (some ⟨d, o, none⟩) (b0 :: bs)) (hn : (b0 :: bs).length = n) (hm : n ≤ 100000) (hcn : n ≤ c) (hh : h = b0.toNat)
    (hT : ∀ A' c' W, Below w.heap.size w W → sizeW h ≤ bs.length → sizeW h ≤ c' → Dat own W lo hi A' (bs.take (sizeW h)) → Calls Try.prog 31 #[.slice A' (sizeW h) c', .int .i64 (h : Int)] W (ToldPost ok bad W)) :
    Calls Try.prog 15 #[.slice (some ⟨d, o, none⟩) n c] w (ReadPostW ok bad h n w) := by
  have hn0 : 0 < n := by rw [← hn]; simp
  have hdr := hd.cut (k := 1) (c := c) (by rw [hn]; exact hcn)
  obtain ⟨d', o', hA, -, -, hc, -⟩ := hd (by simp)
  injection hA with hA
  injection hA with hA1 hA2
  subst hA1 hA2
  have hc0 := hc 0 (by simp)
  rw [Nat.add_zero] at hc0
  unfold cel at hc0
  simp only [List.getD_cons_zero] at hc0
  rw [← hh] at hc0
  have h8 : h ≤ 255 := by rw [hh]; have := b0.toNat_lt; omega
  have HT := Lib.hid hT
  have HDr := Lib.hid hdr
  have hn1 : bs.length = n - 1 := by rw [← hn]; simp
  have HN := Lib.hid hn1
  have hBy : ∀ W, Calls Try.prog 30 #[.int .i64 (h : Int)] W fun e w' => e = .returned (.int .i64 ((sizeW h : Nat) : Int)) ∧ w' = W := fun W => bytesOf_any (w := W) h (by omega)
  have HBy := Lib.hid hBy
  have D1 : Hid (c = 1 → Dat own w lo hi (some ⟨d, o, none⟩) bs) := fun h => by
    have := HDr.out
    rw [if_pos h] at this
    exact this
  have D2 : Hid (c ≠ 1 → Dat own w lo hi (some ⟨d, o + 1, none⟩) bs) := fun h => by
    have := HDr.out
    rw [if_neg h, Option.map_some, add_plain'] at this
    exact this
  obtain ⟨sz, hsz⟩ : ∃ sz, sz = sizeW h := ⟨_, rfl⟩
  have HSz := Lib.hid hsz
  have hsz2 : sz ≤ 1000 := by rw [hsz]; unfold sizeW; split <;> omega
  unfold ReadPostW
  rw [← hsz] at HBy HT ⊢
  clear hsz hBy HDr
  clear hd hn hc hT hdr hn1 hh
  have hn0z : ((n : Int) == 0) = false := by rw [beq_eq_false_iff_ne]; omega
  have hn1z : (0 : Int) < (n : Int) := by omega
  have hn1c : (1 : Int) ≤ (n : Int) := by omega
  go_enter Try.func15, Try.ntmps15
  go_wp2_with fail
  go_region
  all_goals go_wp2_with fail
  all_goals
    refine (HBy.out _).mono ?_
    rintro _ w2 ⟨rfl, hw2⟩
    subst hw2
    by_cases hlt : n - 1 < sz
    · have hltz : ((n - 1 : Nat) : Int) < (sz : Int) := by omega
      go_wp2_with fail
      go_ret3
      exact ⟨(Below.refl _ _).drew, .inl ⟨by omega, rfl⟩⟩
    · have hltz : ¬ ((n - 1 : Nat) : Int) < (sz : Int) := by omega
      have hszc : sz ≤ c - 1 := by omega
      have hszn : sz ≤ n - 1 := by omega
      go_wp2_with fail
      have hbsl : bs.length = n - 1 := HN.out
      refine (HT.out _ _ _ ((Below.refl _ _).drew) (by omega) (by omega) (Dat.drew (Dat.take (by first | exact D1.out (by assumption) | exact D2.out (by assumption)) sz))).mono ?_
      rintro _ w3 ⟨hB3, ⟨l, v, hok, rfl, hO, h256, hl1000⟩ | ⟨er, her, hbad, rfl⟩⟩
      · obtain ⟨A2, c2, rfl, hc2, hD2⟩ := hO.form
        have hsz3 := hB3.size
        have hD2b := hD2.bytes h256
        have hln : (byt l).length = l.length := by simp [byt]
        have HW := Lib.hid (whole_any (c := c2) hD2b hln (by omega) (Nat.le_refl _))
        have hB3' : Below w.heap.size w w3 := ((Below.refl w.heap.size w).drew).trans (hB3.mono (Nat.le_refl _))
        have HF := Lib.hid (And.intro hok (And.intro h256 hB3'))
        clear hO hD2 hD2b hln hok h256 hB3 hB3'
        go_wp2_with fail
        refine HW.out.mono ?_
        rintro _ w4 ⟨hB4, ⟨k, v4, hWk, rfl, hO4⟩ | ⟨hno, rfl⟩⟩
        · rw [nat_byt HF.out.2.1] at hWk
          have HG := Lib.hid (And.intro hB4 (And.intro hWk hO4))
          clear hB4 hWk hO4 HW
          go_wp2_with fail
          go_ret3
          have e1 : ((1 + sz : Nat) : Int) = 1 + (sz : Int) := by omega
          have hs0 : w.heap.size ≤ w3.heap.size := HF.out.2.2.size
          exact ⟨HF.out.2.2.trans (HG.out.1.mono hs0), .inr ⟨by omega, .inr ⟨l, HF.out.1, .inl ⟨k, _, HG.out.2.1, by rw [e1]; rfl, HG.out.2.2.mono hs0⟩⟩⟩⟩
        · have hno' : ∀ k, ¬ WholeOk l k := fun k hk => hno k (by rw [nat_byt HF.out.2.1]; exact hk)
          have HG := Lib.hid (And.intro hB4 hno')
          clear hB4 hno hno' HW
          go_wp2_with fail
          go_ret3
          have hs0 : w.heap.size ≤ w3.heap.size := HF.out.2.2.size
          exact ⟨HF.out.2.2.trans (HG.out.1.mono hs0), .inr ⟨by omega, .inr ⟨l, HF.out.1, .inr ⟨HG.out.2, rfl⟩⟩⟩⟩
      · have herz : (er == 0) = false := by rw [beq_eq_false_iff_ne]; exact her
        have hB3' : Below w.heap.size w w3 := ((Below.refl w.heap.size w).drew).trans (hB3.mono (Nat.le_refl _))
        have HF := Lib.hid (And.intro hbad hB3')
        clear hB3 hB3' hbad
        go_wp2_with fail
        go_ret3
        exact ⟨HF.out.2, .inr ⟨by omega, .inl ⟨er, HF.out.1, rfl⟩⟩⟩

/-- Where weights stand in half bytes. -/
def okPlain (h : Nat) (rest : List Nat) (l : List Nat) : Prop := l = halvesL rest (h - 127)
set_option maxRecDepth 100000 in
theorem toldPlain_any {lo hi k c h : Nat} {A : Option Addr} {xs : List Nat} (hd : DatE u8cel w lo hi A xs) (hn : xs.length = k) (h8 : ∀ x ∈ xs, x ≤ 255) (h1 : 127 < h) (h2 : h ≤ 255) (hk : h - 127 ≤ 2 * k) (hhi : hi ≤ w.heap.size) :
    Calls Try.prog 31 #[.slice A k c, .int .i64 (h : Int)] w (ToldPost (okPlain h xs) (fun _ => False) w) := by
  have HR := Lib.hid (readHalves_any (n := h - 127) (c := c) hd hn h8 hk (by omega) hhi)
  have e1 : ((h - 127 : Nat) : Int) = (h : Int) - 127 := by omega
  rw [e1] at HR
  have h1z : (127 : Int) < (h : Int) := by omega
  clear hd hn h8 e1
  go_enter Try.func31, Try.ntmps31
  go_wp2_with fail
  refine HR.out.mono ?_
  rintro _ w1 ⟨v, rfl, hO, hB⟩
  have HO := Lib.hid (And.intro hO hB)
  clear hO hB HR
  go_wp2_with fail
  go_ret2
  exact ⟨HO.out.2, .inl ⟨_, _, rfl, rfl, HO.out.1, fun x hx => by have := halves_lt x hx; omega, by rw [halves_len]; omega⟩⟩
end
end Go.Proofs.Ytafdfjacfodbnaa
