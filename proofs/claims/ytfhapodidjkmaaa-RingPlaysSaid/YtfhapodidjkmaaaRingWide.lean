/- Contracts of package ring: widen, Put, Push, Take, Last. -/
import Derived.Test.YtfhapodidjkmaaaRingSeq
namespace Go.Proofs.Ytfhapodidjkmaaa
open Go.ChangeShapes Go.WideShapes Go.ChangeAt Go.RowKit Go.Shelf

attribute [local go_sem] Oper.semAt_some

/-- There is room for one more. -/
def Roomy (w : World) (s : Nat) (t : Option Nat) (most : Nat) (l : List Int) : Prop := ∃ b L f g, t = some b ∧ l.length < L ∧ QP w s (some b) most L f l.length g ∧ ∀ i, i < l.length → g ((f + i) % L) = (.int .i64 (l.getD i (0 : Int)))
/-- The places are those from before, or new ones. -/
def Newer (w : World) (t t' : Option Nat) : Prop := t' = t ∨ ∃ b, t' = some b ∧ w.heap.size ≤ b

theorem widen_no {w : World} {s : Nat} {t : Option Nat} {most L f k : Nat} {g : Nat → Value} (h : QP w s t most L f k g) (hk : k < L) :
    Calls Try.prog 56 #[.pointer (some ⟨s, 0, none⟩)] w fun e w' => (∃ v, e = .returned v) ∧ ∃ j, w' = w.drewN j := by
  have c1 := h.head.cell (i := 1) (by omega)
  have c2 := h.head.cell (i := 3) (by omega)
  simp only [headQ] at c1 c2
  have h1 := h.lm
  have h2 := h.mm
  clear h
  go_enter Try.func56, Try.ntmps56
  go_wp2
  go_quiet (fail)
  go_wp2
  refine bodyPost_ret (results_none rfl _ _ _) rfl ?_
  exact ⟨⟨_, rfl⟩, nq, rfl⟩

/-- What the making of new places leaves. -/
def Mid (w : World) (s C : Nat) : Exit → Act → World → Prop
  | .normal, a, W => ∃ (Bb R : Nat) (u4 u5 u6 u7 u8 u9 u10 u11 u12 u13 u14 u15 u16 u17 u18 u19 u20 u21 u22 u23 u24 u25 : Value),
    a = { tmps := #[.pointer (some ⟨s, 0, none⟩), undef, .pointer (some ⟨Bb, 0, none⟩), undef, u4, u5, u6, u7, u8, u9, u10, u11, u12, u13, u14, u15, u16, u17, u18, u19, u20, u21, u22, u23, u24, u25, undef, undef, undef, undef, undef, undef, undef, undef, undef, undef, undef, undef, undef, undef, undef, undef, undef], defers := [] } ∧
    Boxed W Bb 26 (.slice (some ⟨R, 0, none⟩) 0 C) ∧ W.heap[R]? = some (.cells (madeCells #[(.int .i64 (0 : Int))] C) 3 (0, 0)) ∧ w.heap.size ≤ Bb ∧ w.heap.size ≤ R ∧ Bb ≠ R ∧ Below w.heap.size w W
  | _, _, _ => False
theorem mid_a (w : World) (v : Value) (tb : TypeId) (Z : Array Value) (te : TypeId) : Boxed ((w.alloc (.cells #[v] tb)).alloc (.cells Z te)).drew.drew w.heap.size tb v ∧ ((w.alloc (.cells #[v] tb)).alloc (.cells Z te)).drew.drew.heap[w.heap.size + 1]? = some (.cells Z te (0, 0)) ∧ w.heap.size ≤ w.heap.size ∧ w.heap.size ≤ w.heap.size + 1 ∧ w.heap.size ≠ w.heap.size + 1 ∧ Below w.heap.size w ((w.alloc (.cells #[v] tb)).alloc (.cells Z te)).drew.drew := by
  refine ⟨(Boxed.new w tb v).alloc _, ?_, Nat.le_refl _, by omega, by omega, below_drewN (((Below.refl _ w).alloc (Nat.le_refl _) _).alloc (by simp) _) 2⟩
  have := World.alloc_heap_new (w.alloc (.cells #[v] tb)) (.cells Z te)
  rw [World.size_alloc] at this
  exact this
theorem mid_b (w : World) (v : Value) (tb : TypeId) (Z : Array Value) (te : TypeId) : Boxed ((w.alloc (.cells Z te)).alloc (.cells #[v] tb)).drew.drew (w.heap.size + 1) tb v ∧ ((w.alloc (.cells Z te)).alloc (.cells #[v] tb)).drew.drew.heap[w.heap.size]? = some (.cells Z te (0, 0)) ∧ w.heap.size ≤ w.heap.size + 1 ∧ w.heap.size ≤ w.heap.size ∧ w.heap.size + 1 ≠ w.heap.size ∧ Below w.heap.size w ((w.alloc (.cells Z te)).alloc (.cells #[v] tb)).drew.drew := by
  refine ⟨?_, ?_, by omega, Nat.le_refl _, by omega, below_drewN (((Below.refl _ w).alloc (Nat.le_refl _) _).alloc (by simp) _) 2⟩
  · have := Boxed.new (w.alloc (.cells Z te)) tb v
    rw [World.size_alloc] at this
    exact this
  · exact (Below.heap_alloc (w.alloc (.cells Z te)) _ _ (by simp)).trans (World.alloc_heap_new w _)

set_option maxRecDepth 100000 in
set_option maxHeartbeats 4000000 in
theorem widen_yes {w : World} {s : Nat} {t : Option Nat} {most L f : Nat} {g : Nat → Value} {l : List Int} (h : QP w s t most L f l.length g) (hg : ∀ i, i < l.length → g ((f + i) % L) = (.int .i64 (l.getD i (0 : Int)))) (hk : l.length = L) (hm : l.length < most) :
    Calls Try.prog 56 #[.pointer (some ⟨s, 0, none⟩)] w fun e w' => (∃ v, e = .returned v) ∧ ∃ t', Roomy w' s t' most l ∧ Turns w w' s t ∧ Newer w t t' := by
  have c0 := h.head.cell (i := 0) (by omega)
  have c1 := h.head.cell (i := 1) (by omega)
  have c2 := h.head.cell (i := 3) (by omega)
  simp only [headQ] at c0 c1 c2
  have h2 := h.mm
  have HQ : Hid (QU w s t most l) := Lib.hid ⟨L, f, g, h, hg⟩
  have HH : Hid (w.rowIs s 44 4 (headQ most (at0 t) L f l.length)) := Lib.hid h.head
  have HTB : Hid (∀ b, t = some b → b < w.heap.size) := Lib.hid (fun b e => (h.row b e).lt)
  obtain ⟨k, HK⟩ : ∃ k, Hid (l.length = k) := ⟨_, Lib.hid rfl⟩
  rw [HK.out] at c2 hm hk HH
  subst hk
  obtain ⟨C, HC⟩ : ∃ C, Hid (min (2 * k + 1) most = C) := ⟨_, Lib.hid rfl⟩
  have hC0 : k < C := by rw [← HC.out]; omega
  have hC1 : C ≤ most := by rw [← HC.out]; omega
  have hs := h.head.lt
  obtain ⟨i0, hi, hz0, hz1, hz2⟩ := info_parts info'
  have HMK : Hid (∀ W : World, (Instr.makeSlice 26 (.int .i64 0) (.int .i64 (C : Int))).run Try.prog W = .ok (.slice (some ⟨W.heap.size, 0, none⟩) 0 C) (W.alloc (.cells (madeCells #[(.int .i64 (0 : Int))] C) 3))) := Lib.hid fun W => by
    have hr := run_make (P := Try.prog) W 26 3 i0 _ Try.underlying26 hi hz0 .i64 .i64 0 (C : Int) (by omega) (by omega) (by rw [hz2]; omega) (by omega)
    rw [hr, hz1, Int.toNat_natCast, Nat.mul_one]
    rfl
  have HHI := Lib.hid hi
  have HZ1 := Lib.hid hz1
  clear h hg hi hz0 hz1 hz2
  refine (callsIn_wide (n := 5)).1 ?_
  refine callsIn_of_wp_marks Try.func56 rfl trivial ?_ rfl
  simp only [Try.ntmps56, List.size_toArray, List.length_cons, List.length_nil, Nat.reduceAdd, Nat.reduceSub, Array.replicate_succ, Array.replicate_zero, List.push_toArray, List.append_toArray, List.nil_append, List.cons_append]
  gi_wp2_with fail
  gi_region
  gi_wp2
  refine wpIn_mono (Q := Mid w s C) ?reg ?_
  case reg =>
    have hw1 : IntKind.i64.wrap (2 * (k : Int)) = 2 * (k : Int) := IntWalk.i64_in _ (by omega)
    have hw2 : IntKind.i64.wrap (2 * (k : Int) + 1) = 2 * (k : Int) + 1 := IntWalk.i64_in _ (by omega)
    have hmx : Try.prog.follows .mixedOrders = true := by kernel_rfl
    by_cases hmn : most < 2 * k + 1
    · obtain rfl : C = most := by rw [← HC.out]; omega
      have hmnI : (C : Int) < 2 * (k : Int) + 1 := by omega
      clear hmn HQ HH
      gi_region_with_o (rw [HMK.out])
      all_goals first
        | exact ⟨w.heap.size, w.heap.size + 1, _, _, _, _, _, _, _, _, _, _, _, _, _, _, _, _, _, _, _, _, _, _, rfl, mid_a w _ _ _ _⟩
        | exact ⟨w.heap.size + 1, w.heap.size, _, _, _, _, _, _, _, _, _, _, _, _, _, _, _, _, _, _, _, _, _, _, rfl, mid_b w _ _ _ _⟩
    · have hmnI : 2 * (k : Int) + 1 ≤ (most : Int) := by omega
      have HE : Hid (2 * (k : Int) + 1 = (C : Int)) := Lib.hid (by rw [← HC.out]; omega)
      clear hmn HQ HH
      gi_region_with_o (rw [HE.out, HMK.out])
      all_goals first
        | exact ⟨w.heap.size, w.heap.size + 1, _, _, _, _, _, _, _, _, _, _, _, _, _, _, _, _, _, _, _, _, _, _, rfl, mid_a w _ _ _ _⟩
        | exact ⟨w.heap.size + 1, w.heap.size, _, _, _, _, _, _, _, _, _, _, _, _, _, _, _, _, _, _, _, _, _, _, rfl, mid_b w _ _ _ _⟩
  intro e a' W hmid
  cases e <;> try exact hmid.elim
  obtain ⟨Bb, R, u4, u5, u6, u7, u8, u9, u10, u11, u12, u13, u14, u15, u16, u17, u18, u19, u20, u21, u22, u23, u24, u25, rfl, hBx, hR, b1, b2, b3, hB⟩ := hmid
  have HBx := Lib.hid hBx
  have HR := Lib.hid hR
  have HB := Lib.hid hB
  clear c0 c1 c2 hBx hR hB
  gi_wp2_with fail
  refine ⟨trivial, ?_⟩
  refine (callsIn_wide.2 (all_any _ W)).mono ?_
  rintro e w' ⟨rfl, rfl⟩
  gi_wp2_with fail
  have hWz : w.heap.size ≤ W.heap.size := HB.out.size
  have hsl : Bb < W.heap.size := HBx.out.lt
  have hRl : R < W.heap.size := (Array.getElem?_eq_some_iff.1 HR.out).1
  have HQ2 : Hid (QU (W.alloc (.cells #[.pointer (some ⟨s, 0, none⟩)] 24)) s t most l) := Lib.hid (HQ.out.keep (HB.out.trans ((Below.refl _ W).alloc hWz _)))
  have hBn : (W.alloc (.cells #[.pointer (some ⟨s, 0, none⟩)] 24)).cell? ⟨W.heap.size, 0, none⟩ = some (.pointer (some ⟨s, 0, none⟩)) := (Boxed.new W _ _).cell
  have hBx2 := HBx.out.alloc (.cells #[.pointer (some ⟨s, 0, none⟩)] 24)
  have hR2 : (W.alloc (.cells #[.pointer (some ⟨s, 0, none⟩)] 24)).heap[R]? = some (.cells (madeCells #[(.int .i64 (0 : Int))] C) 3 (0, 0)) := (Below.heap_alloc _ _ _ hRl).trans HR.out
  have hz2 : (W.alloc (.cells #[.pointer (some ⟨s, 0, none⟩)] 24)).heap.size = W.heap.size + 1 := by simp
  have HB2 : Hid (Below w.heap.size w (W.alloc (.cells #[.pointer (some ⟨s, 0, none⟩)] 24))) := Lib.hid (HB.out.trans ((Below.refl _ W).alloc hWz _))
  clear HBx HR HB HMK
  generalize W.alloc (.cells #[.pointer (some ⟨s, 0, none⟩)] 24) = W2 at *
  have hKl : ∀ q, (q = s ∨ q = W.heap.size ∨ t = some q) → q < W2.heap.size := fun q hq => by
    rcases hq with rfl | rfl | e
    · omega
    · omega
    · have := HTB.out q e; omega
  refine wpIn_rangeFunc_ownF (F := Fence.wide) (n := 5) rfl (by omega) (gf := 89) (lb := #[.pointer (some ⟨W.heap.size, 0, none⟩)]) rfl trivial (enters_of Try.func89 (by kernel_rfl) rfl)
    (all_stops (fun q => q = s ∨ q = W.heap.size ∨ t = some q) W.heap.size s t most l W2 hKl (.inl rfl) (fun b e => .inr (.inr e)) (.inr (.inl rfl)) hBn HQ2.out) KS.trans (KS.back hKl) (Below.refl _ _) (fun _ => rfl)
    (fun pre V => (∃ v, Boxed V Bb 26 v ∧ V.ownsRow w.heap.size 3 1 v pre.length (pre.map fun x => (.int .i64 x)) ∧ v = .slice (some ⟨R, 0, none⟩) pre.length C) ∧ Below w.heap.size W2 V)
    (fun _ _ _ => False) ?hI ?hIx ?h0 (fun x => { tmps := #[.pointer (some ⟨s, 0, none⟩), undef, .pointer (some ⟨Bb, 0, none⟩), (.int .i64 x), u4, u5, u6, u7, u8, u9, u10, u11, u12, u13, u14, u15, u16, u17, u18, u19, u20, u21, u22, u23, u24, u25, .pointer (some ⟨s, 0, none⟩), .func (.func 89) #[] #[.pointer (some ⟨W.heap.size, 0, none⟩)], (.int .i64 x), undef, undef, undef, undef, undef, undef, undef, undef, undef, undef, undef, undef, undef, undef], defers := [] }) ?assign ?body ?done ?stop
  case hI => exact OwnFrom.and (Own.from (holdsRow_own w.heap.size Bb 26 3 1 (fun pre : List Int => pre.length) (fun pre => pre.map fun x => (.int .i64 x)) (fun pre v => v = .slice (some ⟨R, 0, none⟩) pre.length C)) _) (ownFrom_below (by omega) (by omega))
  case hIx => exact fun _ _ _ _ _ hs _ _ => hs
  case h0 => exact ⟨⟨_, hBx2, ⟨rfl, .inr ⟨R, C, _, rfl, b2, hR2, Nat.zero_le _, by unfold maxLen; omega, by simp [madeCells], by simp⟩⟩, rfl⟩, Below.refl _ _⟩
  case assign =>
    intro l' x V K hK
    gi_wp2
    exact hK
  case body =>
    rintro l' pre x V ⟨⟨v, hv, hrow, rfl⟩, hVB⟩ hlen
    rw [HK.out] at hlen
    have hc := hv.cell
    have hVz := hVB.size
    have HHI2 := HHI.out
    have HZ12 := HZ1.out
    gi_wp2_with (gi_at_builtin; refine wpListIn_append_fits _ rfl _ _ 26 rfl w.heap.size 3 i0 1 Try.underlying26 HHI2 HZ12 R pre.length C _ rfl (hrow.alloc _) ⟨V.heap.size, 0, none⟩ 1 1 [(.int .i64 x)] rfl rfl (cell_one_new _ _ _) (by simp [Value.oneCell']) (by omega) ?_; intro w1 hown' hgrow; obtain ⟨hv1, hv2, hr2, hk2, hb2⟩ := hv.appended (by decide) hrow (by omega) b1 hown' hgrow; have hc1 := hv1.cell; have hf1 := hv1.frozen)
    refine ⟨hk2, fun q hq => ?_, ⟨_, hv2, by simpa using hr2, by simp⟩, hVB.trans hb2⟩
    have hql : q < V.heap.size := by have := hKl q hq; omega
    have hqR : q ≠ R ∧ q ≠ Bb := by
      rcases hq with rfl | rfl | e
      · omega
      · omega
      · have := HTB.out q e; omega
    exact (Below.heap_setCell _ _ _ q (fun e => hqR.2 e)).trans ((hgrow.block q (by simp; omega) (fun e => hqR.1 (by injection e))).trans (Below.heap_alloc _ _ _ hql))
  case done =>
    rintro D ys V hD rfl ⟨⟨v, hv, hrow, rfl⟩, hVB⟩ hK
    have hc := hv.cell
    have HV : Hid (V.rowIs s 44 4 (headQ most (at0 t) k f k)) := Lib.hid (HH.out.of_block ((hVB.block s hs).trans (HB2.out.block s hs)))
    have d1 : V.cell? ⟨s, 1, none⟩ = some (.slice (at0 t) k k) := HV.out.cell (i := 1) (by omega)
    have d2 : V.cell? ⟨s, 2, none⟩ = some (.int .i64 f) := HV.out.cell (i := 2) (by omega)
    have f1 : V.frozen? ⟨s, 1, none⟩ = false := HV.out.frozen _
    have f2 : V.frozen? ⟨s, 2, none⟩ = false := HV.out.frozen _
    have HB3 := HB2.out.trans (hVB.mono (by omega))
    have hDs : W2.heap.size ≤ D := hD
    gi_wp2
    have hK2 : ((V.setCell ⟨s, 1, none⟩ (.slice (some ⟨R, 0, none⟩) C C)).setCell ⟨s, 2, none⟩ (.int .i64 0)).heap[D]? = some (.deferred (some [])) :=
      (Below.heap_setCell _ ⟨s, 2, none⟩ _ D (show D ≠ s by omega)).trans ((Below.heap_setCell _ ⟨s, 1, none⟩ _ D (show D ≠ s by omega)).trans hK)
    refine ⟨by simp, .inl ⟨_, _, rfl, run_takeDeferred hK2, ?_⟩⟩
    refine ⟨_, results_none rfl _ _ _, ⟨_, rfl⟩, some R, ?_, ?_, .inr ⟨R, rfl, b2⟩⟩
    · rcases hrow.2 with ⟨e, _⟩ | ⟨R', C', cur, e, _, hcur, _, _, hsz, htk⟩
      · cases e
      · injection e with e1 e2 e3
        injection e1 with e1
        injection e1 with e1
        subst e1 e3
        rw [Nat.mul_one] at hsz htk
        refine ⟨R, C, 0, fun i => cur.getD i undef, rfl, by rw [HK.out]; exact hC0, ⟨?_, fun b e => ?_, (fun e => by cases e), fun _ => by omega, by rw [HK.out]; omega, hC1, h2, fun _ => rfl, fun _ => by omega⟩, fun i hi => ?_⟩
        · refine World.rowIs.of_block ((World.rowIs.set (World.rowIs.set HV.out 1 (.slice (some ⟨R, 0, none⟩) C C)) 2 (.int .i64 0)).congr (fun i hi => ?_)) (World.putObj_heap_other (by omega))
          rw [HK.out]
          match i, hi with
          | 0, _ | 1, _ | 2, _ | 3, _ => rfl
        · obtain rfl : R = b := by injection e
          refine ⟨cur, (World.putObj_heap_other (by omega)).trans ((Below.heap_setCell _ ⟨s, 2, none⟩ _ R (show R ≠ s by omega)).trans ((Below.heap_setCell _ ⟨s, 1, none⟩ _ R (show R ≠ s by omega)).trans hcur)), hsz, fun i hi => ?_⟩
          simp [hsz, hi]
        · have hi2 : i < C := by have := HK.out; omega
          have h3 : (cur.toList.take ys.length)[i]? = (ys.map fun x => (.int .i64 x))[i]? := by rw [htk]
          rw [Nat.zero_add, Nat.mod_eq_of_lt hi2]
          rw [List.getElem?_take_of_lt hi, List.getElem?_map, List.getElem?_eq_getElem hi] at h3
          simp only [Array.getElem?_toList, Option.map_some] at h3
          show cur.getD i undef = _
          rw [Array.getD_eq_getD_getElem?, h3]
          simp [List.getD, hi]
    · refine ⟨HB3.os, HB3.tape, HB3.output, ?_, fun q hq h1 _ => ?_⟩
      · simp; exact HB3.size
      · exact (World.putObj_heap_other (by omega)).trans ((Below.heap_setCell _ ⟨s, 2, none⟩ _ q h1).trans ((Below.heap_setCell _ ⟨s, 1, none⟩ _ q h1).trans (HB3.block q hq)))
  case stop => exact fun _ _ _ _ _ _ h => h.elim
end Go.Proofs.Ytfhapodidjkmaaa
