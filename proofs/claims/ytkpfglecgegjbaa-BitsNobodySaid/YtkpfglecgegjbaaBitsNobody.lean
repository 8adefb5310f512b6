/- The law BitsNobody: what sets are that are not there, and that no call made. No condition. -/
import Derived.Test.YtkpfglecgegjbaaAll
namespace Go.Proofs.Ytkpfglecgegjbaa.bitsNobody
open Go.ChangeShapes Go.WideShapes Go.ChangeAt Go.RowKit Go.Shelf

attribute [local go_sem] Oper.semAt_some

theorem unlike (g : Nat → Bool) : (decide (0 = 300) && eqB [] (wl g (SW 300))) = false := by simp
theorem alike : (decide (0 = 0) && eqB [] (wl (fun _ => false) (SW 0))) = true := by decide
/-- What stands all along. -/
structure Ctx (w : World) (s t : Nat) (g : Nat → Bool) (W : World) : Prop where
  st : ST W s t 300 g
  hd : HD W (some ⟨w.heap.size + 1, 0, none⟩) false 0 none 0 0
  rc : W.cell? ⟨w.heap.size, 0, none⟩ = some (.bool false)
  rf : W.frozen? ⟨w.heap.size, 0, none⟩ = false
  bl : Below w.heap.size w W
  sz : w.heap.size + 2 ≤ W.heap.size
theorem Ctx.keep {w : World} {s t : Nat} {g : Nat → Bool} {W W' : World} (h : Ctx w s t g W) (hb : Below W.heap.size W W') : Ctx w s t g W' :=
  ⟨h.st.keep hb, h.hd.below hb, (hb.cell (p := ⟨w.heap.size, 0, none⟩) (by have := h.sz; show w.heap.size < W.heap.size; omega)).trans h.rc, (hb.frozen (p := ⟨w.heap.size, 0, none⟩) (by have := h.sz; show w.heap.size < W.heap.size; omega)).trans h.rf,
    h.bl.trans (hb.mono h.bl.size), Nat.le_trans h.sz hb.size⟩
theorem Ctx.drewN {w : World} {s t : Nat} {g : Nat → Bool} {W : World} (h : Ctx w s t g W) (j : Nat) : Ctx w s t g (W.drewN j) := h.keep (below_drewN (Below.refl _ _) j)
theorem def_keep {W W' : World} {D : Nat} {o : Obj} (h : W.heap[D]? = some o) (hb : Below W.heap.size W W') : W'.heap[D]? = some o := (hb.block D (Array.getElem?_eq_some_iff.1 h).1).trans h

set_option maxRecDepth 100000 in
set_option maxHeartbeats 4000000 in
theorem small (i : Int) (A : Option Addr) (c : Nat) (a : List Int) (w : World) (hA : IA w A a) (ha : a.length ≤ 100) :
    Calls Try.prog 8 #[.int .i64 i, .slice A a.length c] w (LawPost w) := by
  have HA := Lib.hid hA
  obtain ⟨x, HX⟩ : ∃ x, Hid (a.length = x) := ⟨_, Lib.hid rfl⟩
  rw [HX.out] at ha ⊢
  clear hA
  refine (callsIn_wide (n := 5)).1 ?_
  refine callsIn_of_wp_marks Try.func8 rfl trivial ?_ rfl
  simp only [Try.ntmps8, List.size_toArray, List.length_cons, List.length_nil, Nat.reduceAdd, Nat.reduceSub, Array.replicate_succ, Array.replicate_zero, List.push_toArray, List.append_toArray, List.nil_append, List.cons_append]
  gi_wp2_with fail
  refine ⟨trivial, ?_⟩
  refine (callsIn_wide.2 (of_some 300 A c x a _ HX.out.symm (by omega) ((HA.out.alloc _).alloc _) (by have := HX.out; omega))).mono ?_
  rintro e w1 ⟨s, t, rfl, h1, hs, ht, hb1⟩
  have HZ1 : Hid (HD w1 (some ⟨w.heap.size + 1, 0, none⟩) false 0 none 0 0) := Lib.hid ((by have := HD.zero (w.alloc (.cells #[.bool false] 4)); rw [World.size_alloc] at this; exact this.below hb1))
  have HB1 : Hid (Below w.heap.size w w1) := Lib.hid ((((Below.refl _ _).alloc (Nat.le_refl _) _).alloc (by simp) _).trans (hb1.mono (by simp; omega)))
  have q1 := cell_new_l w (.bool false) 4
  have r1 : w1.cell? ⟨w.heap.size, 0, none⟩ = some (.bool false) := by
    rw [hb1.cell (p := ⟨w.heap.size, 0, none⟩) (by simp; omega)]
    exact cell_alloc_l _ q1.1
  have f1 : w1.frozen? ⟨w.heap.size, 0, none⟩ = false := by
    rw [hb1.frozen (p := ⟨w.heap.size, 0, none⟩) (by simp; omega)]
    exact frozen_alloc_l _ q1.1 q1.2
  have z1 : w.heap.size + 2 ≤ w1.heap.size := by have := hb1.size; simp at this; omega
  have K1 : Hid (Ctx w s t (ofG 300 a) w1) := Lib.hid ⟨h1, HZ1.out, r1, f1, HB1.out, z1⟩
  clear h1 hb1 q1 r1 f1 hs ht HZ1 HB1 z1
  generalize ofG 300 a = g at *
  have hsq := Try.seqNotNil
  gi_wp2_with fail
  refine ⟨trivial, ?_⟩
  refine (callsIn_wide.2 (all_any none _)).mono ?_
  rintro e w2 ⟨rfl, rfl⟩
  gi_wp2_with fail
  refine ⟨trivial, ?_⟩
  refine (callsIn_wide.2 (all_any _ _)).mono ?_
  rintro e w2 ⟨rfl, rfl⟩
  gi_wp2_with fail
  refine ⟨trivial, ?_⟩
  refine (callsIn_wide.2 (all_any _ _)).mono ?_
  rintro e w2 ⟨rfl, rfl⟩
  gi_wp2_with fail
  have K2 : Hid (Ctx w s t g (((w1.alloc (.cells #[.pointer none] 23)).alloc (.cells #[.pointer (some ⟨w.heap.size + 1, 0, none⟩)] 23)).alloc (.cells #[.pointer none] 23))) :=
    Lib.hid (K1.out.keep ((((Below.refl _ _).alloc (Nat.le_refl _) _).alloc (by simp) _).alloc (by simp; omega) _))
  have hc := (cell_new_l ((w1.alloc (.cells #[.pointer none] 23)).alloc (.cells #[.pointer (some ⟨w.heap.size + 1, 0, none⟩)] 23)) (.pointer none) 23).1
  simp only [World.size_alloc] at hc
  generalize ((w1.alloc (.cells #[.pointer none] 23)).alloc (.cells #[.pointer (some ⟨w.heap.size + 1, 0, none⟩)] 23)).alloc (.cells #[.pointer none] 23) = w2 at *
  refine no_rounds rfl hc (HD.nobody _) rfl ?assign ?done
  case assign =>
    intro l x W K hK
    gi_wp2
    exact hK _
  intro D W hD hB hK
  have K3 := Lib.hid (K2.out.keep hB)
  have HK1 := Lib.hid hK
  have HD1 : Hid (w.heap.size + 2 ≤ D) := Lib.hid (by have := K2.out.sz; omega)
  clear hB hK hD hc K1 K2
  gi_wp2_with fail
  refine ⟨trivial, ?_⟩
  refine (callsIn_wide.2 (all_any _ _)).mono ?_
  rintro e w3 ⟨rfl, rfl⟩
  have hc := (cell_new_l W (.pointer (some ⟨w.heap.size + 1, 0, none⟩)) 23).1
  have hbw : Below W.heap.size W (W.alloc (.cells #[.pointer (some ⟨w.heap.size + 1, 0, none⟩)] 23)) := (Below.refl _ _).alloc (Nat.le_refl _) _
  have K4 := Lib.hid (K3.out.keep hbw)
  have HK2 := Lib.hid (def_keep HK1.out hbw)
  clear hbw K3 HK1
  generalize W.alloc (.cells #[.pointer (some ⟨w.heap.size + 1, 0, none⟩)] 23) = w3 at *
  gi_wp2_with fail
  refine no_rounds rfl hc K4.out.hd rfl ?assign2 ?done2
  case assign2 =>
    intro l x W K hK
    gi_wp2
    exact hK _
  intro D2 W2 hD hB hK
  have K5 := Lib.hid (K4.out.keep hB)
  have HK3 := Lib.hid (def_keep HK2.out hB)
  have HDD : Hid (D < D2) := Lib.hid (by have := (Array.getElem?_eq_some_iff.1 HK2.out).1; omega)
  have HD2 : Hid (w.heap.size + 2 ≤ D2) := Lib.hid (by have := K4.out.sz; omega)
  have HL3 := Lib.hid hK
  clear hB hK hD hc HK2 K4
  gi_wp2_with fail
  refine ⟨trivial, ?_⟩
  refine (callsIn_wide.2 (len_any (HD.nobody W2))).mono ?_
  rintro e w' ⟨rfl, rfl⟩
  gi_wp2_with fail
  refine ⟨trivial, ?_⟩
  refine (callsIn_wide.2 (len_any K5.out.hd)).mono ?_
  rintro e w' ⟨rfl, rfl⟩
  gi_wp2_with fail
  refine ⟨trivial, ?_⟩
  refine (callsIn_wide.2 (count_none (HD.nobody W2))).mono ?_
  rintro e w' ⟨rfl, rfl⟩
  gi_wp2_with fail
  refine ⟨trivial, ?_⟩
  refine (callsIn_wide.2 (count_none K5.out.hd)).mono ?_
  rintro e w' ⟨rfl, rfl⟩
  gi_wp2_with fail
  refine ⟨trivial, ?_⟩
  refine (callsIn_wide.2 (has_out (HD.nobody W2) i (by omega))).mono ?_
  rintro e w' ⟨rfl, rfl⟩
  gi_wp2_with fail
  refine ⟨trivial, ?_⟩
  refine (callsIn_wide.2 (put_out K5.out.hd i (by omega))).mono ?_
  rintro e w' ⟨rfl, rfl⟩
  gi_wp2_with fail
  refine ⟨trivial, ?_⟩
  refine (callsIn_wide.2 (put_out (HD.nobody W2) i (by omega))).mono ?_
  rintro e w' ⟨rfl, rfl⟩
  gi_wp2_with fail
  refine ⟨trivial, ?_⟩
  refine (callsIn_wide.2 (drop_out K5.out.hd i (by omega))).mono ?_
  rintro e w' ⟨rfl, rfl⟩
  gi_wp2_with fail
  refine ⟨trivial, ?_⟩
  refine (callsIn_wide.2 (and_no (HD.nobody W2) K5.out.st.hd (.inl rfl))).mono ?_
  rintro e w' ⟨rfl, j1, rfl⟩
  have K6 := Lib.hid (K5.out.drewN j1)
  have HK4 : Hid ((W2.drewN j1).heap[D]? = some (.deferred (some []))) := HK3
  have HL4 : Hid ((W2.drewN j1).heap[D2]? = some (.deferred (some []))) := HL3
  generalize W2.drewN j1 = w4 at *
  clear K5 HK3 HL3
  gi_wp2_with fail
  refine ⟨trivial, ?_⟩
  refine (callsIn_wide.2 (or_no K6.out.st.hd (HD.nobody w4) (.inr rfl))).mono ?_
  rintro e w' ⟨rfl, j2, rfl⟩
  have K7 := Lib.hid (K6.out.drewN j2)
  have HK5 : Hid ((w4.drewN j2).heap[D]? = some (.deferred (some []))) := HK4
  have HL5 : Hid ((w4.drewN j2).heap[D2]? = some (.deferred (some []))) := HL4
  generalize w4.drewN j2 = w5 at *
  clear K6 HK4 HL4
  gi_wp2_with fail
  refine ⟨trivial, ?_⟩
  refine (callsIn_wide.2 (minus_no K7.out.hd K7.out.st.hd (.inl rfl))).mono ?_
  rintro e w' ⟨rfl, j3, rfl⟩
  have K8 := Lib.hid (K7.out.drewN j3)
  have HK6 : Hid ((w5.drewN j3).heap[D]? = some (.deferred (some []))) := HK5
  have HL6 : Hid ((w5.drewN j3).heap[D2]? = some (.deferred (some []))) := HL5
  generalize w5.drewN j3 = w6 at *
  clear K7 HK5 HL5
  gi_wp2_with fail
  refine ⟨trivial, ?_⟩
  refine (callsIn_wide.2 (and_no K8.out.st.hd K8.out.hd (.inr rfl))).mono ?_
  rintro e w' ⟨rfl, j4, rfl⟩
  have K9 := Lib.hid (K8.out.drewN j4)
  have HK7 : Hid ((w6.drewN j4).heap[D]? = some (.deferred (some []))) := HK6
  have HL7 : Hid ((w6.drewN j4).heap[D2]? = some (.deferred (some []))) := HL6
  generalize w6.drewN j4 = w7 at *
  clear K8 HK6 HL6
  gi_wp2_with fail
  refine ⟨trivial, ?_⟩
  refine (callsIn_wide.2 (same_heads (HD.nobody w7) K9.out.hd (UA.nil _ _) (UA.nil _ _) rfl rfl (by simp) (by simp))).mono ?_
  rintro e w' ⟨rfl, j5, rfl⟩
  have K10 := Lib.hid (K9.out.drewN j5)
  have HK8 : Hid ((w7.drewN j5).heap[D]? = some (.deferred (some []))) := HK7
  have HL8 : Hid ((w7.drewN j5).heap[D2]? = some (.deferred (some []))) := HL7
  generalize w7.drewN j5 = w8 at *
  clear K9 HK7 HL7
  gi_wp2_with fail
  refine ⟨trivial, ?_⟩
  refine (callsIn_wide.2 (same_heads (HD.nobody w8) K10.out.st.hd (UA.nil _ _) K10.out.st.ua rfl (wl_length _ _).symm (by simp) (by rw [wl_length]; unfold SW maxLen; omega))).mono ?_
  rintro e w' ⟨rfl, j6, rfl⟩
  rw [unlike g]
  have K11 := Lib.hid (K10.out.drewN j6)
  have HK9 : Hid ((w8.drewN j6).heap[D]? = some (.deferred (some []))) := HK8
  have HL9 : Hid ((w8.drewN j6).heap[D2]? = some (.deferred (some []))) := HL8
  generalize w8.drewN j6 = w9 at *
  clear K10 HK8 HL8
  gi_wp2_with fail
  refine ⟨trivial, ?_⟩
  refine (callsIn_wide.2 (new_some 0 w9 (by omega))).mono ?_
  rintro e wA ⟨s0, t0, rfl, h0, hs0, ht0, hb0⟩
  have K12 := Lib.hid (K11.out.keep hb0)
  have HKA := Lib.hid (def_keep HK9.out hb0)
  have HLA := Lib.hid (def_keep HL9.out hb0)
  have H0 := Lib.hid h0
  clear hs0 ht0 hb0 h0 K11 HK9 HL9
  gi_wp2_with fail
  refine ⟨trivial, ?_⟩
  refine (callsIn_wide.2 (same_heads K12.out.hd H0.out.hd (UA.nil _ _) H0.out.ua rfl (wl_length _ _).symm (by simp) (by rw [wl_length]; unfold SW maxLen; omega))).mono ?_
  rintro e w' ⟨rfl, j7, rfl⟩
  rw [alike]
  have K13 := Lib.hid (K12.out.drewN j7)
  have HKB : Hid ((wA.drewN j7).heap[D]? = some (.deferred (some []))) := HKA
  have HLB : Hid ((wA.drewN j7).heap[D2]? = some (.deferred (some []))) := HLA
  generalize wA.drewN j7 = wB at *
  clear K12 HKA HLA H0
  gi_wp2_with fail
  refine ⟨trivial, ?_⟩
  refine (callsIn_wide.2 (awake_any wB)).mono ?_
  rintro e wC ⟨rfl, hbC⟩
  have K14 := Lib.hid (K13.out.keep hbC)
  have HKC := Lib.hid (def_keep HKB.out hbC)
  have HLC := Lib.hid (def_keep HLB.out hbC)
  have rC := K14.out.rc
  have fC := K14.out.rf
  clear hbC K13 HKB HLB hsq
  gi_wp2_with fail
  have hD1 := (KeepsOthers.setCell wC ⟨w.heap.size, 0, none⟩ (.bool true)).same D2 _ HLC.out rfl
  have hD2 := (KeepsOthers.setCell wC ⟨w.heap.size, 0, none⟩ (.bool true)).same D _ HKC.out rfl
  have hD3 : ((wC.setCell ⟨w.heap.size, 0, none⟩ (.bool true)).putObj D2 (.deferred none)).heap[D]? = some (.deferred (some [])) := (World.putObj_heap_other (by have := HDD.out; omega)).trans hD2
  refine ⟨by simp, .inl ⟨_, _, rfl, run_takeDeferred hD1, by simp, .inl ⟨_, _, rfl, run_takeDeferred hD3, ?_⟩⟩⟩
  have e1 := World.cell?_setCell_same' wC ⟨w.heap.size, 0, none⟩ (.bool true) (by rw [rC]; rfl)
  have e2 := cell_kept e1 (grownBy_putObj' _ D2 (.deferred none)) (fun r e => by cases e; exact ⟨_, hD1, rfl⟩)
  have e3 := cell_kept e2 (grownBy_putObj' _ D (.deferred none)) (fun r e => by cases e; exact ⟨_, hD3, rfl⟩)
  have b1 := belowK_b (w := w) (Nat.le_refl _) _ D2 _ (.deferred none) (by have := HD2.out; omega) hD1 rfl rfl
  have b2 := belowK_b (w := w) (Nat.le_refl _) _ D _ (.deferred none) (by have := HD1.out; omega) hD3 rfl rfl
  refine ⟨.bool true, ?_, rfl, ((K14.out.bl.setCell (p := ⟨w.heap.size, 0, none⟩) (Nat.le_refl _) _).trans b1).trans b2⟩
  simp [results, Try.f8, go_sem, e3]

theorem large (i : Int) (A : Option Addr) (c : Nat) (a : List Int) (w : World) (ha : 100 < a.length) (hl : 8 * a.length ≤ 140737488355328) :
    Calls Try.prog 8 #[.int .i64 i, .slice A a.length c] w (LawPost w) := by
  generalize a.length = x at ha hl ⊢
  have q1 := cell_new_l w (.bool false) 4
  have hb : Below w.heap.size w (w.alloc (.cells #[.bool false] 4)) := (Below.refl _ _).alloc (Nat.le_refl _) _
  refine (callsIn_wide (n := 5)).1 ?_
  refine callsIn_of_wp_marks Try.func8 rfl trivial ?_ rfl
  simp only [Try.ntmps8, List.size_toArray, List.length_cons, List.length_nil, Nat.reduceAdd, Nat.reduceSub, Array.replicate_succ, Array.replicate_zero, List.push_toArray, List.append_toArray, List.nil_append, List.cons_append]
  gi_wp2_with fail
  refine ⟨trivial, ?_⟩
  refine (callsIn_wide.2 (awake_any _)).mono ?_
  rintro e w1 ⟨rfl, hb1⟩
  have r1 := (hb1.cell (p := ⟨w.heap.size, 0, none⟩) (by simp)).trans q1.1
  have f1 := (hb1.frozen (p := ⟨w.heap.size, 0, none⟩) (by simp)).trans q1.2
  have HB := hb.trans (hb1.mono (by simp))
  clear q1 hb hb1
  gi_wp2_with fail
  have e1 := World.cell?_setCell_same' w1 ⟨w.heap.size, 0, none⟩ (.bool true) (by rw [r1]; rfl)
  refine ⟨.bool true, ?_, rfl, HB.setCell (p := ⟨w.heap.size, 0, none⟩) (Nat.le_refl _) _⟩
  simp [results, Try.f8, go_sem, e1]

theorem walk (i : Int) (A : Option Addr) (c : Nat) (a : List Int) (w : World) (hA : IA w A a) (hl : 8 * a.length ≤ 140737488355328) :
    Calls Try.prog 8 #[.int .i64 i, .slice A a.length c] w (LawPost w) := by
  by_cases h : a.length ≤ 100
  · exact small i A c a w hA h
  · exact large i A c a w (by omega) hl

theorem lifted (os : Os) (started : os.Started) (H : Type) (enc : TypeId × Value → H) :
    ReturnsInHanded {} Try.checked os 8 .any (Rows.bitsNobodySpec.pre6 enc Try.prog Try.f8 Rows.bitsNobodyRow.domain false) (Rows.bitsNobodySpec.post enc Try.prog Try.f8 false true false false) := by
  refine law_lifted started [3, 37] rfl (by kernel_rfl) Try.func8 rfl (by decide +kernel) rfl (fun ds hl => by
    match ds, hl with
    | [_, _], _ => rfl) (ChangeSpec.witness6 (enc := enc) (C := Try.checked) false ⟨#[], #[.int .i64 0, .slice none 0 0], []⟩ 8 (by kernel_rfl) (by kernel_rfl) (by kernel_rfl) (by kernel_rfl)) ?_
  intro W base args ds ps hval hA hlt hsz
  obtain ⟨v0, vs0, d0, ds0, p0, q0, hargs, rfl, rfl, h0, r0⟩ := trodAll_cons hA
  obtain ⟨v1, vs1, d1, ds1, p1, q1, rfl, rfl, rfl, h1, r1⟩ := trodAll_cons r0
  obtain ⟨rfl, rfl, rfl⟩ := trodAll_nil r1
  obtain rfl : args = #[v0, v1] := by cases args; simp_all
  obtain ⟨x0, rfl, rfl, rfl, w0⟩ := open_int Try.underlying3 (hval 0 3 v0 rfl rfl) h0
  obtain ⟨A1, c1, x1, rfl, b1, i1, z1⟩ := open_ints_arg (hval 1 37 v1 rfl rfl) h1 hsz 1 rfl rfl
  exact walk x0 A1 c1 x1 W i1 b1

theorem over : Rows.bitsNobodyRow.holds Try.pinned (OpenSpec.ofChange Rows.bitsNobodySpec) :=
  OpenClaim.holds_of_wide 8 Try.f8 rfl rfl rfl rfl rfl rfl rfl ⟨rfl, rfl, rfl, rfl, rfl⟩ rfl rfl rfl rfl rfl (by kernel_rfl) Try.func8 (by kernel_rfl)
    (of_decide_eq_true (by kernel_rfl)) (by unfold Func.isWrapper; first | (rw [if_pos (by decide +kernel)]; kernel_rfl) | (rw [if_neg (by decide +kernel)]; exact ⟨rfl, rfl⟩))
    (fun os started H enc _ => lifted os started H enc)

theorem proved : Rows.BitsNobodySaid := over
#print axioms proved
end Go.Proofs.Ytkpfglecgegjbaa.bitsNobody
