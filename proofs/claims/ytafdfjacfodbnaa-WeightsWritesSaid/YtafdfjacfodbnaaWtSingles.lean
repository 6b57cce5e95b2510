
/- The contract of the program's singlesOf. -/
import Derived.Test.YtafdfjacfodbnaaWtSing
namespace Go.Proofs.Ytafdfjacfodbnaa
open Go.RowKit

/-- A bundle is laid behind others. -/
theorem push_has {w5 w7 : World} {o : Obj} {u : Value} {P : List Pk} {z : Pk} {base b : Nat} (ho : OwR 2 pcell w5 97 b u P) (hh : Has w5 base P) (hz : OwR 1 bcel w5 5 base (.slice z.a z.l z.c) z.y) (hg : (w5.alloc o).grownBy w7 u.ownBlock) : Has w7 base (P ++ [z]) := fun x hx => by
  have hu := ho.alloc o
  rcases List.mem_append.1 hx with q | q
  · have hx3 := (hh x q).alloc o
    exact hx3.grown hg (own_ne hx3 hu)
  · obtain rfl := List.mem_singleton.1 q
    have hx3 := hz.alloc o
    exact hx3.grown hg (own_ne hx3 hu)
theorem one_own (w : World) (b : UInt8) (base : Nat) (h : base ≤ w.heap.size) (v : Int) (hv : v = (b.toNat : Int)) : OwR 1 bcel (w.alloc (.cells #[.int .u8 v] 5)) 5 base (.slice (some ⟨w.heap.size, 0, none⟩) 1 1) [b] := by
  subst hv
  exact ⟨rfl, .inr ⟨w.heap.size, 1, #[.int .u8 (b.toNat : Int)], rfl, h, heap_alloc_new w _, Nat.le_refl _, by decide, rfl, rfl⟩⟩

/-- A row of the call's own, told of its own block. -/
theorem own_at {w : World} {u base g n c : Nat} {L : List Pk} (h : OwR 2 pcell w u base (.slice (some ⟨g, 0, none⟩) n c) L) : OwR 2 pcell w u g (.slice (some ⟨g, 0, none⟩) n c) L := by
  refine ⟨h.1, ?_⟩
  rcases h.2 with ⟨e, _⟩ | ⟨g', cap, cur, hv, _, q⟩
  · cases e
  · refine .inr ⟨g', cap, cur, hv, ?_, q⟩
    injection hv with e
    injection e with e
    injection e with e
    omega

section
variable {w : World}
set_option maxRecDepth 100000 in
set_option maxHeartbeats 1000000 in
theorem singles_any {lo hi n c : Nat} {A : Option Addr} {os : List Nat} (hd : DatE ucel w lo hi A os) (hn : os.length = n) (hm : n ≤ 256) (hb : ∀ o ∈ os, o ≤ 4294967295) (hhi : hi ≤ w.heap.size) (h1 : 1 ≤ cnt os) :
    Calls Try.prog 48 #[.slice A n c] w fun e w' => ∃ g c' S0 S, e = .returned (.slice (some ⟨g, 0, none⟩) S.length c') ∧ OwR 2 pcell w' 97 w.heap.size (.slice (some ⟨g, 0, none⟩) S.length c') S ∧ Has w' w.heap.size S ∧ SingOf os S0 ∧ Srt S ∧ Alike S0 S ∧ Below w.heap.size w w' := by
  obtain ⟨i0, hi0, hi1⟩ := Option.map_eq_some_iff.1 info_bundle
  simp only [Prod.mk.injEq] at hi1
  obtain ⟨hz0, hz1, hz2⟩ := hi1
  have HI := Lib.hid (And.intro hi0 (And.intro hz0 (And.intro hz1 hz2)))
  have HD := Lib.hid (And.intro hd (And.intro hn (And.intro hb h1)))
  clear hi0 hz0 hz1 hz2 hd hn hb h1
  go_enter Try.func48, Try.ntmps48
  go_wp2_with fail
  go_loopg [3, 8] n (fun g1 vr vi wx => ∃ (k : Nat) (P : List Pk), vi = .int .i64 (k : Int) ∧ k + g1 = n ∧ P.length ≤ k ∧ OwR 2 pcell wx 97 w.heap.size vr P ∧ Has wx w.heap.size P ∧ SingOf (os.take k) P ∧ Below w.heap.size w wx)
  case atStart => exact ⟨0, [], rfl, by omega, Nat.le_refl _, OwR.nil _ _ _ _ _, fun x hx => (by cases hx), ⟨rfl, fun x hx => (by cases hx)⟩, Below.refl _ _⟩
  case round =>
    obtain ⟨k, P, rfl, hk, hpk, ho, hh, hP, hB⟩ := hrel
    have hsz := hB.size
    by_cases hlt : k < n
    · have hltz : (k : Int) < (n : Int) := by omega
      have hkl : k < os.length := by rw [HD.out.2.1]; exact hlt
      obtain ⟨d, o, rfl, q1, q2, hc⟩ := (HD.out.1.below hB hhi) (by rw [HD.out.2.1]; omega)
      have hc0 := hc k hkl
      unfold ucel at hc0
      have hx := HD.out.2.2.1 os[k] (List.getElem_mem hkl)
      have hsn := sgs_snoc (os.take k) os[k] 0
      rw [← List.take_succ_eq_append_getElem hkl, List.length_take, Nat.min_eq_left (by omega), Nat.zero_add] at hsn
      have HP := Lib.hid (And.intro ho (And.intro hh (And.intro hP (And.intro hB (And.intro hsn hpk)))))
      clear hc ho hh hP hB hsn hpk
      generalize os[k] = x at *
      by_cases h0 : 0 < x
      · have h0z : (0 : Int) < (x : Int) := by omega
        have hk8 : IntKind.u8.wrap (k : Int) = (k : Int) := by rw [IntKind.wrap_u8']; omega
        have hx8 : IntKind.u64.wrap (x : Int) = (x : Int) := by rw [IntKind.wrap_u64]; omega
        have HA := Lib.hid ((HP.out.1.alloc (.cells #[.int .u8 (k : Int)] 5)).alloc (.cells #[.int .u64 (x : Int), .slice (some ⟨wr.heap.size, 0, none⟩) 1 1] 97))
        have HZ := Lib.hid (one_own wr (UInt8.ofNat k) w.heap.size hsz (k : Int) (by simp; omega))
        have hD1 := (datR_one (f := pcell) (z := 2) (wr.alloc (.cells #[.int .u8 (k : Int)] 5)) (⟨x, some ⟨wr.heap.size, 0, none⟩, 1, 1, [UInt8.ofNat k], true⟩ : Pk) 97 #[.int .u64 (x : Int), .slice (some ⟨wr.heap.size, 0, none⟩) 1 1] (by simp [pcell]))
        rw [World.size_alloc] at hD1
        have HD1 := Lib.hid hD1
        clear hD1
        go_wp2_with (at_builtin; refine list_appR pcell_len (by decide) pcell_one _ rfl _ _ 92 rfl i0 (.agg #[.int .u64 0, .slice none 0 0]) 32 Try.underlying92 HI.out.1 HI.out.2.1 HI.out.2.2.1 HI.out.2.2.2 rfl (by decide) rfl HA.out rfl HD1.out rfl ?_ ?_ ?_)
        · have := HP.out.2.2.2.2.2; omega
        · simp; omega
        intro v1 w7 ho1 hg1 _
        have HO1 := Lib.hid (And.intro ho1 hg1)
        clear ho1 hg1
        go_wp2_with fail
        go_roundg (n - (k + 1))
        case measure => omega
        case rel =>
          obtain ⟨ho, hh, hP, hB, hsn, hpk⟩ := HP.out
          refine ⟨k + 1, _, by go_num, by omega, by simp; omega, HO1.out.1, push_has (ho.alloc _) (fun x hx => (hh x hx).alloc _) HZ.out HO1.out.2, ⟨?_, fun y hy => ?_⟩, ?_⟩
          · rw [List.map_append, hP.1, hsn, if_pos h0]
            rfl
          · rcases List.mem_append.1 hy with q | q
            · exact hP.2 y q
            · rw [List.mem_singleton.1 q]
              exact ⟨rfl, rfl⟩
          · exact below_grown ((hB.alloc hsz _).alloc (by simp; omega) _) HO1.out.2 (fun k hk => (ho.block k hk).1) (by simp; omega)
      · obtain rfl : x = 0 := by omega
        go_wp2_with fail
        go_roundg (n - (k + 1))
        case measure => omega
        case rel =>
          obtain ⟨ho, hh, hP, hB, hsn, hpk⟩ := HP.out
          refine ⟨k + 1, P, by go_num, by omega, by omega, ho, hh, ⟨?_, hP.2⟩, hB⟩
          rw [hP.1, hsn, if_neg (by omega), List.append_nil]
    · obtain rfl : k = n := by omega
      have hltz : ¬ (k : Int) < (k : Int) := by omega
      have ht : os.take k = os := List.take_of_length_le (by rw [HD.out.2.1]; omega)
      rw [ht] at hP
      have hPl : P.length = cnt os := by rw [← sgs_len os 0, ← hP.1, List.length_map]
      have h1 := HD.out.2.2.2
      obtain ⟨g, c', hv, hg1, hg2, hg3⟩ := ho.place (by omega)
      subst hv
      have HC := Lib.hid (rising_any P (SR.start (n := P.length) (c := c') (g := g) (own_at ho)) (by omega))
      have HP := Lib.hid (And.intro ho (And.intro hh (And.intro hP hB)))
      clear ho hh hP hB ht hPl h1
      go_wp2_with fail
      refine HC.out.mono ?_
      rintro _ w2 ⟨rfl, S, hS, h2, h3⟩
      have HS := Lib.hid (And.intro hS (And.intro h2 h3))
      clear hS h2 h3 HC
      go_wp2_with fail
      go_ret
      obtain ⟨ho, hh, hP, hB⟩ := HP.out
      obtain ⟨hS, h2, h3⟩ := HS.out
      have hSl : S.length = P.length := hS.len
      exact ⟨g, c', P, S, by rw [hSl]; rfl, by rw [hSl]; exact hS.1.mono hg1, fun x hx => (hh x (h3.symm.mem hx)).grown hS.2.1 (own_ne (hh x (h3.symm.mem hx)) ho), hP, h2, h3, below_grown hB hS.2.1 (fun k hk => by injection hk with hk; omega) hsz⟩
end
end Go.Proofs.Ytafdfjacfodbnaa
