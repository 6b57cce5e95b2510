
/- HuffEqual holds: for every number and every slice of bytes the law returns true, and the slice reads behind the call as it read before. No condition. -/
import Derived.Test.YtjpjbbbpmhcgnaaHufAwake
import Derived.Test.YtjpjbbbpmhcgnaaPileC
namespace Go.Proofs.Ytjpjbbbpmhcgnaa.huffEqual
open Go.ChangeShapes Go.WideShapes Go.ChangeAt Go.RowKit

theorem str_same (x : ByteArray) : (x == x) = true := by
  show x.beq x = true
  cases x
  first
  | (simp [ByteArray.beq]; done)
  | (unfold ByteArray.beq; simp; done)
theorem tot_ones : ∀ P, totW (List.replicate P 1) = P
  | 0 => rfl
  | P + 1 => by
    have h := tot_ones P
    rw [List.replicate_succ]
    show wor 1 + totW (List.replicate P 1) = P + 1
    rw [h, show wor 1 = 1 from rfl]
    omega
/-- As many weights of 1 as a power of 2. -/
theorem may_ones {X : Nat} (h1 : 1 ≤ X) (h7 : X ≤ 7) : MayW X (List.replicate (2 ^ X) 1) := by
  have hp1 : 2 ^ 1 ≤ 2 ^ X := Nat.pow_le_pow_right (by decide) h1
  have hp7 : 2 ^ X ≤ 2 ^ 7 := Nat.pow_le_pow_right (by decide) h7
  refine ⟨by simpa using hp1, by rw [List.length_replicate]; omega, ⟨List.replicate (2 ^ X - 1) 1, 1, ?_, by decide⟩, tot_ones _, h1, by omega, fun w hw => by rw [List.eq_of_mem_replicate hw]; exact h1⟩
  rw [← List.replicate_succ', show 2 ^ X - 1 + 1 = 2 ^ X by omega]
theorem ones_get {P s : Nat} (h : s < P) : (List.replicate P 1).getD s 0 = 1 := by
  rw [List.getD_eq_getElem?_getD, List.getElem?_replicate, if_pos h]
  rfl
/-- Each code has as many bits. -/
theorem ones_len {X P : Nat} : ∀ ss : List Nat, (∀ s ∈ ss, s < P) → (encB X (List.replicate P 1) ss).length = X * ss.length
  | [], _ => by simp [encB]
  | s :: r, h => by
    have hb : bitsW X (List.replicate P 1) s = X := by
      unfold bitsW
      rw [ones_get (h s (by simp)), if_neg (by decide)]
      omega
    rw [encB, List.length_append, ones_len r (fun x hx => h x (by simp [hx])), hb]
    simp [low, Nat.mul_succ]
/-- The symbols. -/
def cutT (P : Nat) (bs : List UInt8) (j : Nat) : List UInt8 := (bs.take j).map fun x => UInt8.ofNat (x.toNat % P)
theorem cutT_len {P j : Nat} {bs : List UInt8} (h : j ≤ bs.length) : (cutT P bs j).length = j := by unfold cutT; rw [List.length_map, List.length_take]; omega
theorem cutT_succ {P j : Nat} {bs : List UInt8} (h : j < bs.length) : cutT P bs (j + 1) = cutT P bs j ++ [UInt8.ofNat ((bs.getD j 0).toNat % P)] := by
  unfold cutT
  rw [List.take_succ_eq_append_getElem h, List.map_append]
  simp [List.getD, h]
theorem cutT_lt {P j : Nat} {bs : List UInt8} (hP : 0 < P) (h7 : P ≤ 128) : ∀ s ∈ nat (cutT P bs j), s < P := by
  intro s hs
  obtain ⟨x, hx, rfl⟩ := List.mem_map.1 hs
  obtain ⟨y, _, rfl⟩ := List.mem_map.1 hx
  have := Nat.mod_lt y.toNat hP
  show (UInt8.ofNat (y.toNat % P)).toNat < P
  rw [UInt8.toNat_ofNat']
  omega
theorem byt_ones (P : Nat) : byt (List.replicate P 1) = List.replicate P 1 := by unfold byt; rw [List.map_replicate]; rfl
theorem nat_ones (P : Nat) : nat (List.replicate P 1) = List.replicate P 1 := by unfold nat; rw [List.map_replicate]; rfl

set_option maxRecDepth 100000 in
set_option maxHeartbeats 1000000 in
theorem walk (lx : Int) (a1 : Option Addr) (bs : List UInt8) (cap1 : Nat) (w : World) (hlx : 0 ≤ lx ∧ lx ≤ 255) (hd1 : Dat false w 0 w.heap.size a1 bs) (hm1 : bs.length ≤ maxLen) :
    Calls Try.prog 7 #[.int .u8 lx, .slice a1 bs.length cap1] w fun e w' => e = .returned (.bool true) ∧ Below w.heap.size w w' := by
  unfold maxLen at hm1
  obtain ⟨m, hm0⟩ : ∃ m, m = bs.length := ⟨_, rfl⟩
  rw [← hm0] at hm1 ⊢
  obtain ⟨K0, rfl⟩ := Int.eq_ofNat_of_zero_le hlx.1
  obtain ⟨X, hX⟩ : ∃ X, X = K0 % 7 + 1 := ⟨_, rfl⟩
  have hX1 : 1 ≤ X := by omega
  have hX7 : X ≤ 7 := by omega
  have wK : IntKind.i64.wrap ((K0 : Int) % 7) = (K0 : Int) % 7 := IntWalk.i64_in _ (by omega)
  have eX : (K0 : Int) % 7 + 1 = (X : Int) := by omega
  have wX0 : IntKind.i64.wrap (X : Int) = (X : Int) := IntWalk.i64_in _ (by omega)
  have wX : IntKind.u64.wrap (X : Int) = (X : Int) := by rw [IntKind.wrap_u64]; omega
  have HD := Lib.hid (And.intro hd1 hm0.symm)
  clear hd1 hm0 hX
  by_cases h2 : 500 < m
  · have h2' : (500 : Int) < (m : Int) := by omega
    go_enter Try.func7, Try.ntmps7
    go_wp2_with fail
    refine (huf_awake _).mono ?_
    rintro e w1 ⟨rfl, hB⟩
    have HB1 := Lib.hid hB
    clear hB
    go_wp2_with fail
    go_ret
    exact ⟨rfl, HB1.out⟩
  have h2' : ¬ (500 : Int) < (m : Int) := by omega
  have hmb : m ≤ 500 := by omega
  obtain ⟨P, hP⟩ : ∃ P, P = 2 ^ X := ⟨_, rfl⟩
  have hP7 : P ≤ 2 ^ 7 := by rw [hP]; exact Nat.pow_le_pow_right (by decide) hX7
  have hP1 : 2 ^ 1 ≤ P := by rw [hP]; exact Nat.pow_le_pow_right (by decide) hX1
  have sP : IntKind.i64.wrap ((2 : Int) ^ X) = (P : Int) := by
    have e : (2 : Int) ^ X = (P : Int) := by rw [hP]; simp
    rw [e]
    exact IntWalk.i64_in _ (by omega)
  have sM : min X 64 = X := by omega
  have sM2 : ¬ 64 ≤ X := by omega
  simp only [Nat.reducePow] at hP7 hP1
  have HM := Lib.hid (may_ones hX1 hX7)
  rw [← hP] at HM
  have HP := Lib.hid hP
  obtain ⟨i0, hi0, hi1⟩ := Option.map_eq_some_iff.1 info_byte
  simp only [Prod.mk.injEq] at hi1
  obtain ⟨hz0, hz1', hz2'⟩ := hi1
  have HI := Lib.hid (And.intro hi0 (And.intro hz0 (And.intro hz1' hz2')))
  clear hi0 hz0 hz1' hz2' hP h2
  go_enter Try.func7, Try.ntmps7
  go_wp2_with fail
  refine (huf_awake _).mono ?_
  rintro e w1 ⟨rfl, hB1⟩
  have HB1 := Lib.hid hB1
  have hs1 := hB1.size
  clear hB1
  go_wp2_with (at_make; refine wpList_make_full _ rfl _ _ 22 rfl w1.heap.size 5 i0 (.int .u8 0) 1 Try.underlying22 HI.out.1 HI.out.2.1 HI.out.2.2.1 .i64 .i64 _ _ P rfl rfl rfl rfl ?_ ?_ ?_ ?_)
  · rw [HI.out.2.2.2]; omega
  · unfold maxLen; omega
  · exact Nat.le_refl _
  intro w3 ho hg
  have ho1 : OwE u8cel w3 5 w1.heap.size (.slice (some ⟨w1.heap.size, 0, none⟩) P P) (List.replicate P 0) := by
    unfold OwE
    rw [made_nats] at ho
    simpa using ho
  have hB3 : Below w1.heap.size w1 w3 := (Below.refl w1.heap.size w1).grown hg (Nat.le_refl _) (by simp)
  have HO := Lib.hid (And.intro ho1 hB3)
  clear ho ho1 hg hB3
  go_wp2_with fail
  go_loopg [8] P (fun gh vi wx => ∃ i : Nat, vi = .int .i64 (i : Int) ∧ i + gh = P ∧ OwE u8cel wx 5 w1.heap.size (.slice (some ⟨w1.heap.size, 0, none⟩) P P) (List.replicate i 1 ++ List.replicate (P - i) 0) ∧ Below w1.heap.size w1 wx)
  case atStart => exact ⟨0, rfl, by omega, by simpa using HO.out.1, HO.out.2⟩
  case round =>
    clear HO
    obtain ⟨i, rfl, hi, hO, hB⟩ := hrel
    by_cases hlt : i < P
    · obtain ⟨g', rfl⟩ : ∃ g', gk = g' + 1 := ⟨gk - 1, by omega⟩
      have hltz : (i : Int) < (P : Int) := by omega
      have hlen : (List.replicate i 1 ++ List.replicate (P - i) 0).length = P := by simp; omega
      have hq := hO.cellAt i (by omega)
      obtain ⟨z0, hz0⟩ : ∃ z, z = (List.replicate i 1 ++ List.replicate (P - i) 0)[i]'(by omega) := ⟨_, rfl⟩
      rw [← hz0] at hq
      obtain ⟨cq, fq⟩ := hq
      unfold u8cel at cq
      have hset : (List.replicate i 1 ++ List.replicate (P - i) 0).set i 1 = List.replicate (i + 1) 1 ++ List.replicate (P - (i + 1)) 0 := by
        rw [List.set_append_right _ _ (by simp), List.length_replicate, Nat.sub_self, show P - i = P - (i + 1) + 1 by omega, List.replicate_succ, List.set_cons_zero, List.replicate_succ', List.append_assoc]
        rfl
      have HQ := Lib.hid (And.intro hO (And.intro hB hset))
      clear hO hB hset hlen hz0
      go_wp2_with fail
      go_roundg g'
      case measure => omega
      case rel =>
        have hp := HQ.out.1.put i 1
        rw [HQ.out.2.2] at hp
        exact ⟨i + 1, by go_num, by omega, hp, HQ.out.2.1.setCell (Nat.le_refl _) _⟩
    · obtain rfl : i = P := by omega
      have hltz : ¬ (i : Int) < (i : Int) := by omega
      rw [Nat.sub_self, List.replicate_zero, List.append_nil] at hO
      have hBs := hB.size
      have HO := Lib.hid (And.intro hO hB)
      have hob : w1.heap.size < wr.heap.size := by
        have := (hO.block w1.heap.size (by simp [Value.ownBlock])).2
        exact this
      clear hO hB
      go_wp2_with fail
      go_loopg [9, 10] m (fun gh vl vi wx => ∃ j : Nat, vi = .int .i64 (j : Int) ∧ j + gh = m ∧ OwB wx 5 wr.heap.size vl (cutT i bs j) ∧ Below wr.heap.size wr wx)
      case atStart => exact ⟨0, rfl, by omega, OwB.nil _ _ _, Below.refl _ _⟩
      case round =>
        obtain ⟨j, rfl, hj, hS, hBs2⟩ := hrel
        by_cases hjl : j < m
        · obtain ⟨g', rfl⟩ : ∃ g', gk = g' + 1 := ⟨gk - 1, by omega⟩
          have hjz : (j : Int) < (m : Int) := by omega
          have hjlb : j < bs.length := by rw [HD.out.2]; exact hjl
          have hBw := Lib.hid (HB1.out.trans ((HO.out.2.trans (hBs2.mono hBs)).mono hs1))
          obtain ⟨d2, o2, rfl, _, hd2, hc2, _⟩ := (HD.out.1.below hBw.out (Nat.le_refl _)) (by omega)
          have hx := hc2 j hjlb
          unfold cel at hx
          have hx8 := (bs.getD j 0).toNat_lt
          have hsc := cutT_succ (P := i) hjlb
          have hcl := cutT_len (P := i) (Nat.le_of_lt hjlb)
          have HS := Lib.hid (And.intro hS (And.intro hBs2 (And.intro hsc hcl)))
          have hwr2 := hBs2.size
          obtain ⟨As, ns, cs, rfl⟩ := hS.slice
          clear hc2 hjlb hS hBs2 hsc hcl
          generalize (bs.getD j 0).toNat = x at *
          have wP : IntKind.u8.wrap ((i : Int) - 1) = (i : Int) - 1 := by rw [IntKind.wrap_u8]; omega
          have eAnd : bits BinOp.and IntKind.u8 (x : Int) ((i : Int) - 1) = ((x % i : Nat) : Int) := by
            have h := u8_and_nat x (i - 1) (by omega) (by omega)
            have e : x &&& (i - 1) = x % i := by rw [HP.out]; exact Nat.and_two_pow_sub_one_eq_mod x X
            rw [e, show ((i - 1 : Nat) : Int) = (i : Int) - 1 by omega] at h
            exact h
          have hyl : x % i ≤ 127 := by have := Nat.mod_lt x (show 0 < i by omega); omega
          generalize x % i = y at *
          obtain ⟨z, hz⟩ : ∃ z, z = UInt8.ofNat y := ⟨_, rfl⟩
          have hzn : z.toNat = y := by rw [hz, UInt8.toNat_ofNat']; omega
          have hce : cel z = .int .u8 (y : Int) := by unfold cel; rw [hzn]
          have hd1 := row8 wr [z] #[cel z] rfl
          rw [hce] at hd1
          have HD1 := Lib.hid hd1
          have HZ := Lib.hid hz
          have HA := Lib.hid (HS.out.1.alloc (.cells #[.int .u8 (y : Int)] 5))
          clear hd1 hce hz hzn
          go_wp2_with (at_builtin; refine list_app _ rfl _ _ 22 rfl i0 Try.underlying22 HI.out.1 HI.out.2.1 HI.out.2.2.1 HI.out.2.2.2 rfl HA.out rfl HD1.out rfl ?_ ?_ ?_)
          · rw [HS.out.2.2.2]; omega
          · rw [World.size_alloc]; omega
          intro v5 w5 ho5 hg5 _
          have HO5 := Lib.hid (And.intro ho5 hg5)
          clear ho5 hg5
          go_wp2_with fail
          go_roundg g'
          case measure => omega
          case rel =>
            refine ⟨j + 1, by go_num, by omega, ?_, below_grown (HS.out.2.1.alloc hwr2 _) HO5.out.2 (fun k hk => (HS.out.1.block k hk).1) (by rw [World.size_alloc]; omega)⟩
            rw [HS.out.2.2.1, ← HZ.out]
            exact HO5.out.1
        · obtain rfl : j = m := by omega
          have hjz : ¬ (j : Int) < (j : Int) := by omega
          obtain ⟨ss, hss⟩ : ∃ ss, ss = cutT i bs j := ⟨_, rfl⟩
          have hsl : ss.length = j := by rw [hss]; exact cutT_len (by rw [HD.out.2]; exact Nat.le_refl _)
          have hslt : ∀ s ∈ nat ss, s < i := by rw [hss]; exact cutT_lt (by omega) hP7
          rw [← hss] at hS
          obtain ⟨As, cs, rfl, _, hDs⟩ := hS.form
          rw [hsl] at hS ⊢
          obtain ⟨Aw, cw, hvw, _, hDw⟩ := HO.out.1.form
          injection hvw with e1 e2 e3
          subst e1
          have hwr2 := hBs2.size
          have hDw2 := (hDw.bytes (fun x hx => by rw [List.eq_of_mem_replicate hx]; decide)).below hBs2 (Nat.le_refl _)
          rw [byt_ones] at hDw2
          have HS := Lib.hid (And.intro hDs (And.intro hDw2 (And.intro hsl (HB1.out.trans ((HO.out.2.trans (hBs2.mono hBs)).mono hs1)))))
          have hC : Coded (nat (List.replicate i 1)) (nat ss) := by
            rw [nat_ones]
            intro s hs
            have := hslt s hs
            exact ⟨by simpa using this, by rw [ones_get this]; decide⟩
          have hEl : (encS X (nat (List.replicate i 1)) (nat ss)).length = (X * j + 8) / 8 := by
            rw [encS_len, nat_ones, ones_len _ hslt, nat_len, hsl]
          have HM2 : Hid (MayW X (nat (List.replicate i 1))) := by rw [nat_ones]; exact HM.out
          have HC := Lib.hid (And.intro hC hEl)
          have hXj : X * j ≤ 7 * 500 := Nat.mul_le_mul hX7 hmb
          have hCk : Hid (CountOk ss.length) := by unfold CountOk; rw [hsl]; show _ ∧ _; omega
          clear hS hDs hDw hDw2 hBs2 hC hEl hslt hss hsl e2 e3
          go_wp2_with fail
          refine (hufEncode_any (c := i) (c2 := cs) HS.out.2.1 (by simp) (by omega) (by omega) HS.out.1 HS.out.2.2.1 (by omega) (Nat.le_refl _)).mono ?_
          rintro e w6 ⟨r, hr, hB6, v, rfl, hO6⟩
          have hrr : r = (encS X (nat (List.replicate i 1)) (nat ss), 0) := by
            rcases hr with ⟨d', hM', _, _, h⟩ | ⟨h, _⟩
            · rw [may_uni HM2.out hM']; exact h
            · exact absurd HC.out.1 (h X HM2.out hCk.out)
          subst hrr
          obtain ⟨A6, c6, rfl, hc6, hD6⟩ := hO6.form
          dsimp only at hc6 hD6 ⊢
          rw [HC.out.2] at hc6 ⊢
          have HB6 := Lib.hid (HS.out.2.2.2.trans (hB6.mono (by omega)))
          have hs6 := hB6.size
          have HD6 := Lib.hid (And.intro hD6 (And.intro (HS.out.1.below hB6 (Nat.le_refl _)) (HS.out.2.1.below hB6 (by omega))))
          clear hr hB6 hO6 hD6
          obtain ⟨l6, hl6⟩ : ∃ l, l = (X * j + 8) / 8 := ⟨_, rfl⟩
          have HL6 : Hid ((encS X (nat (List.replicate i 1)) (nat ss)).length = l6) := by rw [hl6]; exact HC.out.2
          rw [← hl6] at hc6 ⊢
          have hl6b : l6 ≤ 1000 := by omega
          have hl6z : ((X : Int) * (j : Int) + 8) / 8 = (l6 : Int) := by
            rw [hl6, ← Int.natCast_mul]
            omega
          have hXjz : (X : Int) * (j : Int) ≤ 3500 := by rw [← Int.natCast_mul]; omega
          have hXj0 : 0 ≤ (X : Int) * (j : Int) := by rw [← Int.natCast_mul]; omega
          have HL7 := Lib.hid (And.intro hl6z (And.intro hXjz hXj0))
          clear hl6 hl6z hXjz hXj0 hXj
          go_wp2_with fail
          refine (hufDecode_any (c := i) (c2 := c6) (j : Int) HD6.out.2.2 (by simp) (by omega) (by omega) HD6.out.1 HL6.out (by omega) (Nat.le_refl _)).mono ?_
          rintro e w7 ⟨r, hr, hB7, A7, c7, rfl, hc7, hD7⟩
          have hrr : r = (ss, 0) := DRes.uni hr (.inl ⟨X, HM2.out, by unfold CountOk; omega, by
            have h := strm_enc HM2.out ss HC.out.1
            rw [HS.out.2.2.1] at h
            exact h.symm⟩)
          subst hrr
          dsimp only at hc7 hD7 ⊢
          rw [HS.out.2.2.1] at hc7 ⊢
          have HB7 := Lib.hid (HB6.out.trans (hB7.mono (by omega)))
          have k1 := run_str (P := Try.prog) w7 22 Try.underlying22 Try.underlying5 (c := c7) (m := j) hD7 HS.out.2.2.1 9 Try.underlying9
          have k2 := run_str (P := Try.prog) w7 22 Try.underlying22 Try.underlying5 (c := cs) (m := j) (HD6.out.2.1.below hB7 (by omega)) HS.out.2.2.1 9 Try.underlying9
          have ss1 := str_same (str ss)
          obtain ⟨m1, m2, m3⟩ := HL7.out
          have w9 : IntKind.i64.wrap ((X : Int) * (j : Int)) = (X : Int) * (j : Int) := IntWalk.i64_in _ (by omega)
          have ll : ((l6 : Int) == (l6 : Int)) = true := by rw [beq_iff_eq]
          clear hr hB7 hD7
          go_wp2_with fail
          go_ret
          exact ⟨rfl, HB7.out⟩

set_option maxRecDepth 100000 in
theorem lifted (os : Os) (started : os.Started) (H : Type) (enc : TypeId × Value → H) :
    ReturnsInHanded {} Try.checked os 7 .any (Rows.huffEqualSpec.pre6 enc Try.prog Try.f7 Rows.huffEqualRow.domain false) (Rows.huffEqualSpec.post enc Try.prog Try.f7 false true false false) := by
  refine returnsInHanded_of_change (C := Try.checked) own started (by kernel_rfl) Try.func7
    (ChangeSpec.witness6 (enc := enc) (C := Try.checked) false ⟨#[], #[.int .u8 0, .slice none 0 0], []⟩ 8 (by kernel_rfl) (by kernel_rfl) (by kernel_rfl) (by kernel_rfl)) ?_
  intro W base args ds gs before hval0 hW hcnd _
  have hval : ∀ (j : Nat) t v, Try.f7.params[j]? = some t → args[j]? = some v → Value.okWide Try.prog W .any base t v := hval0
  have hW' := hW
  obtain ⟨p, q, hA0, hV, rfl, hfz, hnd⟩ := hW
  have hA : DataW.TrodAll enc Try.prog W 0 (fun _ => true) true Try.f7.params.toList args.toList ds p := hA0
  rw [Try.params7] at hA hval
  obtain ⟨v0, vs0, d0, ds0, p0, q0, hargs, rfl, rfl, h0, r0⟩ := trodAll_cons hA
  obtain ⟨v1, vs1, d1, ds1, p1, q1, rfl, rfl, rfl, h1, r1⟩ := trodAll_cons r0
  obtain ⟨rfl, rfl, rfl⟩ := trodAll_nil r1
  obtain rfl : args = #[v0, v1] := by cases args; simp_all
  obtain ⟨rfl, rfl⟩ := trodVars_none hV
  obtain ⟨n0, rfl, rfl, rfl, w0⟩ := open_int Try.underlying5 (hval 0 5 v0 rfl rfl) h0
  obtain ⟨a1, len1, cap1, rfl⟩ := okWide_slice Try.underlying22 (hval 1 22 v1 rfl rfl)
  have k1 := h1
  have lt1 : ∀ x ∈ p1, x.block < W.heap.size := by obtain ⟨m, hm⟩ := k1; exact DataW.trod_lt m _ _ _ hm
  obtain ⟨z1, w1⟩ := row_of_trod h1
  obtain ⟨xs1, rfl, hl1, hm1, hd1⟩ := row_dat w1
  clear hA0 hval0
  refine (walk n0 a1 xs1 cap1 W (u8_bounds w0) hd1 (by omega)).mono fun e W' ⟨he, bel⟩ => ?_
  subst he
  exact ⟨_, rfl, _, _, _, [], _, [], hW', trodAll_mk1 (shut_bool Try.underlying4 _), (trodAll_cons_mk (shut_int Try.underlying5 w0) (trodAll_cons_mk (Below.trod laidOut (by kernel_rfl) (of_decide_eq_true (by kernel_rfl)) k1 bel lt1) trodAll_mk0)), rfl, bel.frame _, fun h => by cases h⟩

theorem over : Rows.huffEqualRow.holds Try.pinned (OpenSpec.ofChange Rows.huffEqualSpec) :=
  OpenClaim.holds_of_wide 7 Try.f7 rfl rfl rfl rfl rfl rfl rfl ⟨rfl, rfl, rfl, rfl, rfl⟩ rfl rfl rfl rfl rfl (by kernel_rfl) Try.func7 (by kernel_rfl)
    (of_decide_eq_true (by kernel_rfl)) (by unfold Func.isWrapper; first | (rw [if_pos (by decide +kernel)]; kernel_rfl) | (rw [if_neg (by decide +kernel)]; exact ⟨rfl, rfl⟩))
    (fun os started H enc _ => lifted os started H enc)

theorem proved : Rows.HuffEqualSaid := over
end Go.Proofs.Ytjpjbbbpmhcgnaa.huffEqual
