
/- The contract of the law's tableOf (layer 13). -/
import Derived.Test.YtlidnialggpcpaaGreatDoorPileF
import Derived.Test.YtlidnialggpcpaaGreatDoorPileD
namespace Go.Proofs.YtlidnialggpcpaaGreatDoor
open Go.RowKit

/-- What tableOf holds while it runs. -/
structure TO13 (w wx : World) (L : Int) (A : Option Addr) (n c : Nat) (v : Value) (es : List En) : Prop where
  pb : Box wx w.heap.size 27 #[.int .i64 L, .slice A n c]
  rb : Box wx (w.heap.size + 1) 35 #[.int .i64 0, .slice none 0 0]
  tb : Box wx (w.heap.size + 2) 35 #[.int .i64 L, v]
  es : OwR 3 rcell wx 141 (w.heap.size + 2 + 1) v es
  bel : Below w.heap.size w wx
theorem TO13.alloc {w wx : World} {L : Int} {A : Option Addr} {n c : Nat} {v : Value} {es : List En} (h : TO13 w wx L A n c v es) (o : Obj) : TO13 w (wx.alloc o) L A n c v es :=
  ⟨h.pb.alloc o, h.rb.alloc o, h.tb.alloc o, h.es.alloc o, h.bel.alloc h.bel.size o⟩

set_option maxRecDepth 100000 in
set_option maxHeartbeats 1000000 in
theorem tabOf13_any {w : World} {lo hi n c : Nat} {A : Option Addr} {es : List En} (L : Int) (hd : DatR 3 ecell w lo hi A es) (hf : Fine es) (hn : es.length = n) (hn2 : n ≤ 65536) (hhi : hi ≤ w.heap.size) :
    Calls Tryz.prog 41 #[.agg #[.int .i64 L, .slice A n c]] w fun e w' => ∃ v, e = .returned (.agg #[.int .i64 L, v]) ∧ OwR 3 rcell w' 141 w.heap.size v es ∧ Below w.heap.size w w' := by
  obtain ⟨i0, hi0, hz0, hz1, hz2⟩ := info_parts ref_info
  have hto : TO13 w (((w.alloc (.cells #[.int .i64 L, .slice A n c] 27)).alloc (.cells #[.int .i64 0, .slice none 0 0] 35)).alloc (.cells #[.int .i64 L, .slice none 0 0] 35)) L A n c (.slice none 0 0) [] := by
    have h1 := Box.new (w.alloc (.cells #[.int .i64 L, .slice A n c] 27)) 35 #[.int .i64 0, .slice none 0 0]
    have h2 := Box.new ((w.alloc (.cells #[.int .i64 L, .slice A n c] 27)).alloc (.cells #[.int .i64 0, .slice none 0 0] 35)) 35 #[.int .i64 L, .slice none 0 0]
    simp only [World.size_alloc] at h1 h2
    exact ⟨((Box.new w _ _).alloc _).alloc _, h1.alloc _, h2, OwR.nil _ _ _ _ _, (((Below.refl _ _).alloc (Nat.le_refl _) _).alloc (by simp) _).alloc (by simp; omega) _⟩
  have HT := Lib.hid hto
  have HD := Lib.hid hd
  have HF := Lib.hid hf
  have HN := Lib.hid hn
  obtain ⟨p0, p1, _, _⟩ := box2 hto.pb
  clear hto hd hf hn
  go_enter Tryz.func41, Tryz.ntmps41
  go_wp2_with fail
  clear p0 p1
  generalize ((w.alloc (.cells #[.int .i64 L, .slice A n c] 27)).alloc (.cells #[.int .i64 0, .slice none 0 0] 35)).alloc (.cells #[.int .i64 L, .slice none 0 0] 35) = W at *
  go_loopg [4] n (fun gh i wx => ∃ (j : Nat) (v : Value), j + gh = n ∧ i = .int .i64 (j : Int) ∧ TO13 w wx L A n c v (es.take j))
  case atStart => exact ⟨0, _, by omega, rfl, HT.out⟩
  case round =>
    clear HT
    obtain ⟨j, v, hj, rfl, hto⟩ := hrel
    have HJ := Lib.hid hj
    have hjn : j ≤ n := by omega
    obtain ⟨Av, nv, cv, rfl⟩ := hto.es.slice
    have HT := Lib.hid hto
    obtain ⟨p0, p1, _, _⟩ := box2 hto.pb
    clear hj hto
    by_cases hlt : j < n
    · obtain ⟨g', rfl⟩ : ∃ g', gk = g' + 1 := ⟨gk - 1, by have := HJ.out; omega⟩
      have hki : (j : Int) < (n : Int) := by omega
      have hjl : j < es.length := by have := HN.out; omega
      obtain ⟨d, o, rfl, _, hdh, hc⟩ := (HD.out.below HT.out.bel hhi).ent (by omega)
      obtain ⟨e0, e1, e2⟩ := hc j hjl
      obtain ⟨s, b, e, hx, hs256, hb15, he⟩ := HF.out j hjl
      have HTk := Lib.hid (List.take_succ_eq_append_getElem hjl)
      rw [hx] at e0 e1 e2 HTk
      simp only at e0 e1 e2
      have hsw : IntKind.i64.wrap (s : Int) = (s : Int) := IntWalk.i64_in _ (by omega)
      have HT1 := Lib.hid (HT.out.alloc (.cells #[.int .u8 (s : Int), .int .i64 (b : Int), .int .i64 (e : Int)] 111))
      have HBe := Lib.hid (Box.new wr 111 #[.int .u8 (s : Int), .int .i64 (b : Int), .int .i64 (e : Int)])
      have hlen : (es.take j).length ≤ 65536 := by rw [List.length_take]; omega
      have HLn := Lib.hid hlen
      have hbase : w.heap.size + 3 ≤ wr.heap.size := by have := HT.out.tb.lt; omega
      clear hc hx hlen
      go_upto_region 6 with (fail)
      generalize wr.alloc (.cells #[.int .u8 (s : Int), .int .i64 (b : Int), .int .i64 (e : Int)] 111) = W1 at *
      obtain ⟨t0, t1, _, _⟩ := box2 HT1.out.tb
      have b0 : W1.cell? ⟨wr.heap.size, 0, none⟩ = some (.int .u8 (s : Int)) := HBe.out.cell 0
      have b1 : W1.cell? ⟨wr.heap.size, 1, none⟩ = some (.int .i64 (b : Int)) := HBe.out.cell 1
      have b2 : W1.cell? ⟨wr.heap.size, 2, none⟩ = some (.int .i64 (e : Int)) := HBe.out.cell 2
      have HA := Lib.hid (HT1.out.es.alloc (.cells #[.int .i64 (s : Int), .int .i64 (b : Int), .int .i64 (e : Int)] 141))
      have HDn := Lib.hid (datR_one (f := rcell) (z := 3) W1 (⟨(s : Int), (b : Int), (e : Int)⟩ : En) 141 #[.int .i64 (s : Int), .int .i64 (b : Int), .int .i64 (e : Int)] rfl)
      have hlt1 := HT1.out.tb.lt
      generalize wr.heap.size = g9 at *
      go_wp2_with (at_builtin; refine list_appR rcell_len (by decide) rcell_one _ rfl _ _ 33 rfl i0 (.agg #[.int .i64 0, .int .i64 0, .int .i64 0]) 24 Tryz.underlying33 hi0 hz0 hz1 hz2 rfl (by decide) rfl HA.out rfl HDn.out rfl ?_ ?_ ?_)
      · have := HLn.out; omega
      · first | omega | (simp; omega)
      intro v1 w4 ho1 hg1 _
      obtain ⟨Av1, nv1, cv1, rfl⟩ := ho1.slice
      obtain ⟨k0, k1, kf, HKf⟩ := pushR_facts HT1.out.tb HT1.out.es ho1 hg1
      have HT4 : Hid (TO13 w (w4.setCell ⟨w.heap.size + 2, 1, none⟩ (.slice Av1 nv1 cv1)) L (some ⟨d, o, none⟩) n c (.slice Av1 nv1 cv1) (es.take (j + 1))) := by
        rw [Hid, HTk.out]
        exact ⟨HT1.out.pb.below HKf.out.2.2 (by omega), HT1.out.rb.below HKf.out.2.2 (by omega), HKf.out.1, HKf.out.2.1, HT1.out.bel.trans (HKf.out.2.2.mono (by omega))⟩
      clear ho1 hg1 HA HDn t0 t1 HKf HT1 b0 b1 b2
      go_wp2_with fail
      go_roundg g'
      case rel => exact ⟨j + 1, _, by have := HJ.out; omega, by go_num, HT4.out⟩
      case measure => omega
    · obtain rfl : j = n := by omega
      have hki : ¬ (j : Int) < (j : Int) := by omega
      have hT : es.take j = es := List.take_of_length_le (by have := HN.out; omega)
      rw [hT] at HT
      obtain ⟨t0, t1, _, _⟩ := box2 HT.out.tb
      obtain ⟨r0, r1, k0, k1⟩ := box2 HT.out.rb
      clear hT
      go_wp2_with fail
      refine bodyPost_ret (v := .agg #[.int .i64 L, .slice Av nv cv]) (by simp [results, Tryz.results41, go_sem, r0, r1]) rfl ⟨_, rfl, ?_, ?_⟩
      · refine (HT.out.es.keep fun k hk => ?_).mono (by omega)
        have hk4 := (HT.out.es.block k hk).1
        rw [Below.heap_setCell _ _ _ k (by show k ≠ w.heap.size + 1; omega), Below.heap_setCell _ _ _ k (by show k ≠ w.heap.size + 1; omega)]
      · exact (HT.out.bel.setCell (by show w.heap.size ≤ w.heap.size + 1; omega) _).setCell (by show w.heap.size ≤ w.heap.size + 1; omega) _
end Go.Proofs.YtlidnialggpcpaaGreatDoor
