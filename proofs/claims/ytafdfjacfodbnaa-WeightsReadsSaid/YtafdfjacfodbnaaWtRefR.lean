
/- The contracts of both Reads, by one relation. -/
import Derived.Test.YtafdfjacfodbnaaWtStates
import Derived.Test.YtafdfjacfodbnaaWtRefT
import Derived.Test.YtafdfjacfodbnaaWtRefL
import Derived.Test.YtafdfjacfodbnaaWtRefH
namespace Go.Proofs.Ytafdfjacfodbnaa
open Go.RowKit

/-- The weights that the bytes behind the first one tell, or an error. -/
def okT (h : Nat) (rest : List UInt8) (l : List Nat) : Prop := if 127 < h then l = halvesL (nat rest) (h - 127) else okSts (rest.take h) l
def badT (h : Nat) (rest : List UInt8) (e : Int) : Prop := if 127 < h then False else badSts (rest.take h) e
/-- What a description tells: the weights with the last one, how many bytes it has, the error. -/
def RR (bs ys : List UInt8) (n : Nat) (er : Int) : Prop :=
  match bs with
  | [] => ys = [] ∧ n = 0 ∧ er = 10
  | b0 :: rest => (rest.length < sizeW b0.toNat ∧ ys = [] ∧ n = 0 ∧ er = 10) ∨ (sizeW b0.toNat ≤ rest.length ∧ ((badT b0.toNat rest er ∧ ys = [] ∧ n = 0) ∨
      ∃ l, okT b0.toNat rest l ∧ ((∃ k, WholeOk l k ∧ ys = byt l ++ [UInt8.ofNat (k + 1)] ∧ n = 1 + sizeW b0.toNat ∧ er = 0) ∨ ((∀ k, ¬ WholeOk l k) ∧ ys = [] ∧ n = 0 ∧ er = 11))))
theorem ok_uni {h : Nat} {rest : List UInt8} {l l' : List Nat} (a : okT h rest l) (b : okT h rest l') : l = l' := by
  unfold okT at a b
  by_cases h1 : 127 < h
  · rw [if_pos h1] at a b
    rw [a, b]
  · rw [if_neg h1] at a b
    obtain ⟨x, hx⟩ := a
    obtain ⟨y, hy⟩ := b
    rw [hx] at hy
    injection hy with hy
    injection hy
theorem bad_uni {h : Nat} {rest : List UInt8} {e e' : Int} (a : badT h rest e) (b : badT h rest e') : e = e' := by
  unfold badT at a b
  by_cases h1 : 127 < h
  · rw [if_pos h1] at a; cases a
  · rw [if_neg h1] at a b
    unfold badSts at a b
    rw [a] at b
    injection b
theorem ok_bad {h : Nat} {rest : List UInt8} {l : List Nat} {e : Int} (a : okT h rest l) (b : badT h rest e) : False := by
  unfold okT at a
  unfold badT at b
  by_cases h1 : 127 < h
  · rw [if_pos h1] at b; exact b
  · rw [if_neg h1] at a b
    obtain ⟨x, hx⟩ := a
    unfold badSts at b
    rw [hx] at b
    cases b
theorem rr_uni {bs ys ys' : List UInt8} {n n' : Nat} {er er' : Int} (a : RR bs ys n er) (b : RR bs ys' n' er') : ys = ys' ∧ n = n' ∧ er = er' := by
  cases bs with
  | nil =>
    obtain ⟨rfl, rfl, rfl⟩ := a
    obtain ⟨rfl, rfl, rfl⟩ := b
    exact ⟨rfl, rfl, rfl⟩
  | cons b0 rest =>
    rcases a with ⟨a0, rfl, rfl, rfl⟩ | ⟨a0, ⟨a1, rfl, rfl⟩ | ⟨l, a1, ⟨k, a2, rfl, rfl, rfl⟩ | ⟨a2, rfl, rfl, rfl⟩⟩⟩ <;>
      rcases b with ⟨b0', rfl, rfl, rfl⟩ | ⟨b0', ⟨b1, rfl, rfl⟩ | ⟨l', b1, ⟨k', b2, rfl, rfl, rfl⟩ | ⟨b2, rfl, rfl, rfl⟩⟩⟩ <;>
      first
      | exact ⟨rfl, rfl, rfl⟩
      | (exfalso; omega)
      | exact ⟨rfl, rfl, bad_uni a1 b1⟩
      | exact (ok_bad a1 b1).elim
      | exact (ok_bad b1 a1).elim
      | (obtain rfl := ok_uni a1 b1
         first
         | (rw [whole_uni a2 b2]; exact ⟨rfl, rfl, rfl⟩)
         | exact absurd a2 (b2 _)
         | exact absurd b2 (a2 _)
         | exact ⟨rfl, rfl, rfl⟩)
theorem halves_take {xs : List UInt8} {n k : Nat} (h : n ≤ 2 * k) : halvesL (nat (xs.take k)) n = halvesL (nat xs) n := by
  unfold halvesL
  refine List.map_congr_left fun i hi => ?_
  have hi := List.mem_range.1 hi
  unfold hfW nat
  congr 2
  rw [List.map_take, List.getD_eq_getElem?_getD, List.getD_eq_getElem?_getD, List.getElem?_take, if_pos (by omega)]
theorem rr_len {bs ys : List UInt8} {n : Nat} {er : Int} (a : RR bs ys n er) : ys.length ≤ 256 := by
  cases bs with
  | nil => obtain ⟨rfl, _⟩ := a; simp
  | cons b0 rest =>
    rcases a with ⟨a0, rfl, rfl, rfl⟩ | ⟨a0, ⟨a1, rfl, rfl⟩ | ⟨l, a1, ⟨k, a2, rfl, rfl, rfl⟩ | ⟨a2, rfl, rfl, rfl⟩⟩⟩
    · simp
    · simp
    · have := a2.2.1
      simp [byt]
      omega
    · simp

section
variable {w : World}
theorem read2 {own : Bool} {lo hi n c : Nat} {A : Option Addr} {bs : List UInt8} (hd : Dat own w lo hi A bs) (hn : bs.length = n) (hm : n ≤ 1000) (hcn : n ≤ c) (hhi : hi ≤ w.heap.size) :
    Calls Try.prog 15 #[.slice A n c] w fun e w' => Below w.heap.size w w' ∧ ∃ A' m c' ys k er, e = .returned (.tuple #[.slice A' m c', .int .i64 ((k : Nat) : Int), .int .i64 er]) ∧ ys.length = m ∧ Dat true w' w.heap.size w'.heap.size A' ys ∧ RR bs ys k er := by
  cases bs with
  | nil =>
    obtain rfl : n = 0 := by simpa using hn.symm
    refine (readW_nil c A).mono ?_
    rintro e w' ⟨rfl, rfl⟩
    exact ⟨Below.refl _ _, none, 0, 0, [], 0, 10, rfl, rfl, fun h => absurd h (by simp), rfl, rfl, rfl⟩
  | cons b0 rest =>
    obtain ⟨d, o, rfl, -⟩ := id hd (by simp)
    have hrl : rest.length + 1 = n := by simpa using hn
    have h8 : b0.toNat ≤ 255 := by have := b0.toNat_lt; omega
    have fin : ∀ (ok : List Nat → Prop) (bad : Int → Prop), (∀ l, ok l → okT b0.toNat rest l) → (∀ er, bad er → badT b0.toNat rest er) → ∀ e w', ReadPostW ok bad b0.toNat n w e w' → Below w.heap.size w w' ∧ ∃ A' m c' ys k er, e = .returned (.tuple #[.slice A' m c', .int .i64 ((k : Nat) : Int), .int .i64 er]) ∧ ys.length = m ∧ Dat true w' w.heap.size w'.heap.size A' ys ∧ RR (b0 :: rest) ys k er := by
      rintro ok bad ho hb e w' ⟨hB, ⟨hlt, rfl⟩ | ⟨hge, ⟨er, he, rfl⟩ | ⟨l, hl, ⟨k, v, hk, rfl, hO⟩ | ⟨hno, rfl⟩⟩⟩⟩
      · exact ⟨hB, none, 0, 0, [], 0, 10, rfl, rfl, fun h => absurd h (by simp), .inl ⟨by omega, rfl, rfl, rfl⟩⟩
      · exact ⟨hB, none, 0, 0, [], 0, er, rfl, rfl, fun h => absurd h (by simp), .inr ⟨by omega, .inl ⟨hb _ he, rfl, rfl⟩⟩⟩
      · obtain ⟨A2, c2, rfl, -, hD⟩ := hO.form
        exact ⟨hB, A2, _, c2, _, _, 0, rfl, rfl, hD, .inr ⟨by omega, .inr ⟨l, ho _ hl, .inl ⟨k, hk, rfl, rfl, rfl⟩⟩⟩⟩
      · exact ⟨hB, none, 0, 0, [], 0, 11, rfl, rfl, fun h => absurd h (by simp), .inr ⟨by omega, .inr ⟨l, ho _ hl, .inr ⟨hno, rfl, rfl, rfl⟩⟩⟩⟩
    by_cases h1 : 127 < b0.toNat
    · have hsz : sizeW b0.toNat = (b0.toNat - 126) / 2 := by unfold sizeW; rw [if_pos h1]
      refine (readW_any (h := b0.toNat) (b0 := b0) (bs := rest) (ok := okPlain b0.toNat (nat (rest.take (sizeW b0.toNat)))) (bad := fun _ => False) hd hn (by omega) hcn rfl ?_).mono (fin _ _ ?_ ?_)
      · intro A' c'' W' hB hle hcc hD'
        have hn' := hD'.nats
        exact toldPlain_any (k := sizeW b0.toNat) hn' (by first | (rw [nat_len, List.length_take]; omega) | (rw [List.length_map, List.length_take]; omega)) (fun y hy => by obtain ⟨z, _, rfl⟩ := List.mem_map.1 hy; have := z.toNat_lt; omega) h1 h8 (by omega) (by have := hB.size; omega)
      · intro l hl
        unfold okT
        rw [if_pos h1]
        have hl : l = halvesL (nat (rest.take (sizeW b0.toNat))) (b0.toNat - 127) := hl
        rw [hl, halves_take (by omega)]
      · intro er hf; cases hf
    · have hsz : sizeW b0.toNat = b0.toNat := by unfold sizeW; rw [if_neg h1]
      refine (readW_any (h := b0.toNat) (b0 := b0) (bs := rest) (ok := okSts (rest.take b0.toNat)) (bad := badSts (rest.take b0.toNat)) hd hn (by omega) hcn rfl ?_).mono (fin _ _ ?_ ?_)
      · intro A' c'' W' hB hle hcc hD'
        rw [hsz] at hle hcc hD' ⊢
        exact toldStates_any (n := b0.toNat) hD' (by rw [List.length_take]; omega) (by omega) hcc (by have := hB.size; omega) (by omega)
      · intro l hl
        unfold okT
        rw [if_neg h1]
        exact hl
      · intro er he
        unfold badT
        rw [if_neg h1]
        exact he

theorem wholeZ (l : List Nat) (h256 : ∀ x ∈ l, x < 256) (hl : l.length ≤ 1000) (W : World) :
    Calls Try.prog 12 #[.string (str (byt l))] W fun e w' => Below W.heap.size W w' ∧ ((∃ k, WholeOk l k ∧ e = .returned (.tuple #[.string (str (byt l ++ [UInt8.ofNat (k + 1)])), .int .i64 0])) ∨ ((∀ k, ¬ WholeOk l k) ∧ e = .returned (.tuple #[.string (str []), .int .i64 11]))) := by
  have h := refWhole_any (w := W) (str (byt l)) (by simp [str, ByteArray.size, byt]; omega)
  refine h.mono ?_
  rintro e w' ⟨hB, hor⟩
  rw [show (str (byt l)).data.toList = byt l by simp [str], nat_byt h256] at hor
  exact ⟨hB, hor⟩
set_option maxRecDepth 100000 in
set_option maxHeartbeats 4000000 in
theorem refRead2 (S : ByteArray) {bs : List UInt8} {n : Nat} (hS : S = str bs) (hn : bs.length = n) (hm : n ≤ 1000) :
    Calls Try.prog 16 #[.string S] w fun e w' => Below w.heap.size w w' ∧ ∃ ys k er, e = .returned (.tuple #[.string (str ys), .int .i64 ((k : Nat) : Int), .int .i64 er]) ∧ RR bs ys k er := by
  have hsz : S.size = n := by rw [hS, ← hn]; simp [str, ByteArray.size]
  cases bs with
  | nil =>
    obtain rfl : n = 0 := by simpa using hn.symm
    have e0 : S = { data := #[] } := hS
    rw [e0]
    clear hS hsz e0
    go_enter Try.func16, Try.ntmps16
    go_wp2_with fail
    go_ret3
    exact ⟨Below.refl _ _, [], 0, 10, rfl, rfl, rfl, rfl⟩
  | cons b0 rest =>
    have hrl : rest.length + 1 = n := by simpa using hn
    have h8 : b0.toNat ≤ 255 := by have := b0.toNat_lt; omega
    obtain ⟨hne, hne2⟩ := str_nilW (S := S) (by omega)
    have h0S : 0 < S.size := by omega
    have hd0 : S[0] = b0 := by
      have h1 : S[0] = S.data.toList[0]'(by simp; omega) := by
        rw [Array.getElem_toList]
        rfl
      rw [h1]
      simp [hS, str]
    obtain ⟨h, hh⟩ : ∃ h, h = b0.toNat := ⟨_, rfl⟩
    have hdz : ((S[0].toNat : Nat) : Int) = (h : Int) := by rw [hd0, hh]
    rw [← hh] at h8
    obtain ⟨sz, hszw⟩ : ∃ sz, sz = sizeW h := ⟨_, rfl⟩
    have HS := Lib.hid hS
    have HH := Lib.hid hh
    have HSz := Lib.hid hszw
    have hn1 : (1 : Int) ≤ (n : Int) := by omega
    have fin : ∀ (ys : List UInt8) (k : Nat) (er : Int), ((rest.length < sz ∧ ys = [] ∧ k = 0 ∧ er = 10) ∨ (sz ≤ rest.length ∧ ((badT h rest er ∧ ys = [] ∧ k = 0) ∨
      ∃ l, okT h rest l ∧ ((∃ j, WholeOk l j ∧ ys = byt l ++ [UInt8.ofNat (j + 1)] ∧ k = 1 + sz ∧ er = 0) ∨ ((∀ j, ¬ WholeOk l j) ∧ ys = [] ∧ k = 0 ∧ er = 11))))) → RR (b0 :: rest) ys k er := by
      intro ys k er hor
      rw [hszw, hh] at hor
      exact hor
    have HFin := Lib.hid fin
    clear hS hd0 hh fin
    by_cases h1 : 127 < h
    · have hszv : sz = (h - 126) / 2 := by rw [hszw]; unfold sizeW; rw [if_pos h1]
      have h1z : (128 : Int) ≤ (h : Int) := by omega
      obtain ⟨h2, hh2⟩ : ∃ h2, h2 = h - 127 := ⟨_, rfl⟩
      have e1 : (h : Int) - 127 = (h2 : Int) := by omega
      have e2 : ((h2 : Int) + 1) / 2 = (sz : Int) := by omega
      have hszs : sz ≤ 64 := by omega
      have hh2s : h2 ≤ 128 := by omega
      have hex : S.extract 1 n = str rest := by rw [HS.out, str_fromT (b0 :: rest) 1 n hn.symm]; rfl
      obtain ⟨Sr, hSr⟩ : ∃ Sr, Sr = str rest := ⟨_, rfl⟩
      have hsr : Sr.size = rest.length := by rw [hSr]; simp [str, ByteArray.size]
      have HHv := fun W => Lib.hid (refHalves_any (w := W) Sr (by omega) h2 (by omega))
      rw [hsr, show Sr.data.toList = rest by rw [hSr]; simp [str]] at HHv
      rw [← hSr] at hex
      have hlo : sz ≤ rest.length ↔ h2 ≤ 2 * rest.length := by omega
      have HLo := Lib.hid hlo
      have HH2 := Lib.hid hh2
      have HSv := Lib.hid hszv
      clear hszv hh2 hSr hlo hszw
      go_enter Try.func16, Try.ntmps16
      go_wp2_with fail
      refine (HHv _).out.mono ?_
      rintro e w1 ⟨hB, ⟨hlt, rfl⟩ | ⟨hge, rfl⟩⟩
      · have HB := Lib.hid hB
        clear hB HHv
        go_wp2_with fail
        go_ret3
        exact ⟨HB.out, [], 0, 10, rfl, HFin.out _ _ _ (.inl ⟨by have := HLo.out; omega, rfl, rfl, rfl⟩)⟩
      · have HB := Lib.hid hB
        have HWz := Lib.hid (wholeZ (halvesL (nat rest) h2) (fun x hx => by have := halves_lt x hx; omega) (by rw [halves_len]; omega) w1)
        have hok : okT h rest (halvesL (nat rest) h2) := by unfold okT; rw [if_pos h1, HH2.out]
        have HOk := Lib.hid hok
        have hs1 := hB.size
        clear hB HHv hok
        go_wp2_with fail
        refine HWz.out.mono ?_
        rintro e w2 ⟨hB2, ⟨k, hk, rfl⟩ | ⟨hno, rfl⟩⟩
        · have HB2 := Lib.hid (HB.out.trans (hB2.mono hs1))
          have HK := Lib.hid hk
          obtain ⟨Zs, hZ⟩ : ∃ Z, Z = byt (halvesL (nat rest) h2) ++ [UInt8.ofNat (k + 1)] := ⟨_, rfl⟩
          rw [← hZ]
          have HZ := Lib.hid hZ
          clear hB2 hk HWz hZ
          go_wp2_with fail
          go_ret3
          exact ⟨HB2.out, Zs, 1 + sz, 0, by rw [show ((1 + sz : Nat) : Int) = 1 + (sz : Int) by omega]; rfl, HFin.out _ _ _ (.inr ⟨HLo.out.2 hge, .inr ⟨_, HOk.out, .inl ⟨k, HK.out, HZ.out, rfl, rfl⟩⟩⟩)⟩
        · have HB2 := Lib.hid (HB.out.trans (hB2.mono hs1))
          have HNo := Lib.hid hno
          clear hB2 hno HWz
          go_wp2_with fail
          go_ret3
          exact ⟨HB2.out, [], 0, 11, rfl, HFin.out _ _ _ (.inr ⟨HLo.out.2 hge, .inr ⟨_, HOk.out, .inr ⟨HNo.out, rfl, rfl, rfl⟩⟩⟩)⟩
    · have hszv : sz = h := by rw [hszw]; unfold sizeW; rw [if_neg h1]
      have h1z : ¬ (128 : Int) ≤ (h : Int) := by omega
      by_cases hlt : n - 1 < h
      · have hltz : (n : Int) - 1 < (h : Int) := by omega
        clear hszw
        go_enter Try.func16, Try.ntmps16
        go_wp2_with fail
        go_ret3
        exact ⟨Below.refl _ _, [], 0, 10, rfl, HFin.out _ _ _ (.inl ⟨by omega, rfl, rfl, rfl⟩)⟩
      · have hltz : ¬ (n : Int) - 1 < (h : Int) := by omega
        have hex : S.extract 1 (1 + h) = str (rest.take h) := by
          rw [HS.out]
          apply ByteArray.ext
          simp [str, ByteArray.data_extract]
        obtain ⟨Sr, hSr⟩ : ∃ Sr, Sr = str (rest.take h) := ⟨_, rfl⟩
        have HSt := fun W => Lib.hid (refStates_any (w := W) (n := h) Sr hSr (by rw [List.length_take]; omega) (by omega))
        rw [← hSr] at hex
        have hl1 : (1 : Int) + (h : Int) ≤ (n : Int) := by omega
        have HSv := Lib.hid hszv
        have hge : sz ≤ rest.length := by omega
        clear hszv hSr hszw
        go_enter Try.func16, Try.ntmps16
        go_wp2_with fail
        refine (HSt _).out.mono ?_
        rintro e w1 ⟨hB, ⟨t, ht, ht2, htl, rfl⟩ | ⟨t, ht, hor, rfl⟩ | ⟨er, he, rfl⟩⟩
        · have HB := Lib.hid hB
          have hs1 := hB.size
          obtain ⟨tl, htL⟩ : ∃ tl, tl = t.1 := ⟨_, rfl⟩
          have hst := stsR_ok ht
          rw [← htL] at hst htl ⊢
          have hok : okT h rest tl := by unfold okT; rw [if_neg h1]; exact ⟨t.2, by rw [htL]; exact ht⟩
          have HOk := Lib.hid hok
          have HWz := Lib.hid (wholeZ tl hst.1 (by omega) w1)
          clear hB HSt hok ht ht2 htL hst
          go_wp2_with fail
          refine HWz.out.mono ?_
          rintro e w2 ⟨hB2, ⟨k, hk, rfl⟩ | ⟨hno, rfl⟩⟩
          · have HB2 := Lib.hid (HB.out.trans (hB2.mono hs1))
            have HK := Lib.hid hk
            obtain ⟨Zs, hZ⟩ : ∃ Z, Z = byt tl ++ [UInt8.ofNat (k + 1)] := ⟨_, rfl⟩
            rw [← hZ]
            have HZ := Lib.hid hZ
            clear hB2 hk HWz hZ
            go_wp2_with fail
            go_ret3
            exact ⟨HB2.out, Zs, 1 + sz, 0, by rw [show ((1 + sz : Nat) : Int) = 1 + (h : Int) by rw [HSv.out]; omega]; rfl, HFin.out _ _ _ (.inr ⟨hge, .inr ⟨_, HOk.out, .inl ⟨k, HK.out, HZ.out, rfl, rfl⟩⟩⟩)⟩
          · have HB2 := Lib.hid (HB.out.trans (hB2.mono hs1))
            have HNo := Lib.hid hno
            clear hB2 hno HWz
            go_wp2_with fail
            go_ret3
            exact ⟨HB2.out, [], 0, 11, rfl, HFin.out _ _ _ (.inr ⟨hge, .inr ⟨_, HOk.out, .inr ⟨HNo.out, rfl, rfl, rfl⟩⟩⟩)⟩
        · have HB := Lib.hid hB
          have hok : okT h rest t.1 := by unfold okT; rw [if_neg h1]; exact ⟨t.2, ht⟩
          have hno : ∀ k, ¬ WholeOk t.1 k := fun k hk => by
            have h2 := hk.2.1
            have h3 := (stsR_ok ht).2.2
            rcases hor with q | q
            · have := h3 q; omega
            · omega
          have HOk := Lib.hid (And.intro hok hno)
          clear hB HSt hok hno ht hor
          go_wp2_with fail
          go_ret3
          exact ⟨HB.out, [], 0, 11, rfl, HFin.out _ _ _ (.inr ⟨hge, .inr ⟨_, HOk.out.1, .inr ⟨HOk.out.2, rfl, rfl, rfl⟩⟩⟩)⟩
        · have HB := Lib.hid hB
          have hez : (er != 0) = true := by rw [bne_iff_ne]; have := stsR_err he; omega
          have hbad : badT h rest er := by unfold badT; rw [if_neg h1]; exact he
          have HBad := Lib.hid hbad
          clear hB HSt hbad he
          go_wp2_with fail
          go_ret3
          exact ⟨HB.out, [], 0, er, rfl, HFin.out _ _ _ (.inr ⟨hge, .inl ⟨HBad.out, rfl, rfl⟩⟩)⟩
end
end Go.Proofs.Ytafdfjacfodbnaa
