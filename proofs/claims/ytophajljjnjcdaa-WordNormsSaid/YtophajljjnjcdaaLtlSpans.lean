/- The program's Spans: where the part of each node begins. -/
import Derived.Test.YtophajljjnjcdaaLtlIa
namespace Go.Proofs.Ytophajljjnjcdaa.lt
open Go.ChangeShapes Go.WideShapes Go.ChangeAt Go.RowKit sr wi

/-- What stands while Spans works: the beginnings told so far lie in block g. -/
def SpI (e : List (Int × Int)) (g bx n : Nat) (k : Nat) (st : List Int) (W : World) : Prop :=
  ∃ pt, Ok e k pt ∧ st = bst e k pt ∧ W.rowIs g 3 n (fst (outF e k) k) ∧ W.cell? ⟨bx, 0, none⟩ = some (.slice (some ⟨g, 0, none⟩) n n) ∧ bx < W.heap.size ∧ g < W.heap.size
theorem fst_snoc {L : List Int} {k : Nat} {x : Int} (hL : L.length = k) (j : Nat) : fst (L ++ [x]) (k + 1) j = if j = k then .int .i64 x else fst L k j := by
  unfold fst
  by_cases hj : j = k
  · subst hj
    rw [if_pos rfl, if_pos (by omega)]
    simp [List.getD, ← hL]
  · rw [if_neg hj]
    by_cases h2 : j < k
    · rw [if_pos h2, if_pos (by omega)]
      simp [List.getD, List.getElem?_append_left (show j < L.length by omega)]
    · rw [if_neg h2, if_neg (by omega)]

set_option maxRecDepth 20000 in
set_option maxHeartbeats 4000000 in
theorem spans1_any (g bx n k m c : Nat) (B : Option Addr) (ps L : List Int) (W : World) (hk : k < n) (hm : m = ps.length) (hm2 : m ≤ 1000) (hB : IA W B ps)
    (hBg : ∀ a, B = some a → a.block ≠ g) (hgx : g ≠ bx) (hG : W.rowIs g 3 n (fst L k)) (hX : W.cell? ⟨bx, 0, none⟩ = some (.slice (some ⟨g, 0, none⟩) n n)) (hbx : bx < W.heap.size) (hg : g < W.heap.size) :
    Calls Try.prog 56 #[.int .i64 k, .slice B m c, .pointer (some ⟨bx, 0, none⟩)] W fun x W' =>
      x = .returned (.int .i64 (if m = 0 then (k : Int) else ps.getD 0 0)) ∧ W'.rowIs g 3 n (fun j => if j = k then .int .i64 (if m = 0 then (k : Int) else ps.getD 0 0) else fst L k j) ∧ Turn (· = g) W W' := by
  have HM := Lib.hid hm
  have HG := Lib.hid hG
  obtain ⟨u, d1⟩ : ∃ u, W.cell? ⟨g, k, none⟩ = some u := ⟨_, hG.cell hk⟩
  have d2 := hG.frozen k
  obtain ⟨V, HV, x1, z1, z2, HGV, HTV, HKV⟩ : ∃ V, V = W.setCell ⟨g, k, none⟩ (.int .i64 (k : Int)) ∧ V.cell? ⟨bx, 0, none⟩ = some (.slice (some ⟨g, 0, none⟩) n n) ∧
      V.cell? ⟨g, k, none⟩ = some (.int .i64 (k : Int)) ∧ V.frozen? ⟨g, k, none⟩ = false ∧ Hid (V.rowIs g 3 n (fun j => if j = k then .int .i64 (k : Int) else fst L k j)) ∧ Hid (Turn (· = g) W V) ∧ Hid (∀ b o, b ≠ g → V.cell? ⟨b, o, none⟩ = W.cell? ⟨b, o, none⟩) :=
    ⟨_, rfl, (World.cell?_of_block (Below.heap_setCell W ⟨g, k, none⟩ _ bx (fun e => hgx e.symm))).trans hX,
      (((HG.out.set k (.int .i64 (k : Int)))).cell hk).trans (by rw [if_pos rfl]), ((HG.out.set k (.int .i64 (k : Int)))).frozen k, Lib.hid (HG.out.set k _),
      Lib.hid ((Turn.refl (· = g) W).set ⟨g, k, none⟩ _ rfl), Lib.hid (fun b o hb => World.cell?_of_block (Below.heap_setCell W ⟨g, k, none⟩ _ b hb))⟩
  clear hG
  by_cases h0 : m = 0
  · rw [if_pos h0]
    subst h0
    clear hm hB hBg
    go_enter Try.func56, Try.ntmps56
    go_upto_region 2 with (fail)
    rw [← HV]
    clear HV d1 d2 hX
    go_wp2
    go_ret
    exact ⟨rfl, HGV.out, HTV.out⟩
  · rw [if_neg h0]
    obtain ⟨b, o, rfl, hb, hc⟩ := hB (by omega)
    have c0 := hc 0 (by omega)
    rw [Nat.add_zero] at c0
    have hbg : b ≠ g := hBg _ rfl
    have y1 : V.cell? ⟨b, o, none⟩ = some (.int .i64 (ps.getD 0 0)) := (HKV.out b o hbg).trans c0
    generalize ps.getD 0 0 = y at *
    have hm1 : 0 < m := by omega
    clear hm hB hBg hc HM c0 HKV
    go_enter Try.func56, Try.ntmps56
    go_upto_region 2 with (fail)
    rw [← HV]
    clear HV d1 d2 hX
    go_wp2
    refine still_tail_at 6 (by kernel_rfl) (by kernel_rfl) ?_
    intro V3 hV3
    have x3 : V3.cell? ⟨bx, 0, none⟩ = some (.slice (some ⟨g, 0, none⟩) n n) := by rw [hV3]; exact x1
    have y3 : V3.cell? ⟨b, o, none⟩ = some (.int .i64 y) := by rw [hV3]; exact y1
    have z3 : V3.cell? ⟨g, k, none⟩ = some (.int .i64 (k : Int)) := by rw [hV3]; exact z1
    have z4 : V3.frozen? ⟨g, k, none⟩ = false := by rw [hV3]; exact z2
    have HG3 : Hid (V3.rowIs g 3 n (fun j => if j = k then .int .i64 (k : Int) else fst L k j)) := Lib.hid (by rw [hV3]; exact HGV.out)
    have HT3 : Hid (Turn (· = g) W V3) := Lib.hid (by rw [hV3]; exact HTV.out.drewN 1)
    clear hV3 x1 y1 z1 z2 HGV HTV
    simp only [List.take_succ_cons, List.take_zero, List.drop_succ_cons, List.drop_zero]
    repeat still_step
    refine wpStill_nil ?_
    have x4 : (V3.setCell ⟨g, k, none⟩ (.int .i64 y)).cell? ⟨bx, 0, none⟩ = some (.slice (some ⟨g, 0, none⟩) n n) := (World.cell?_of_block (Below.heap_setCell V3 ⟨g, k, none⟩ _ bx (fun e => hgx e.symm))).trans x3
    have z5 : (V3.setCell ⟨g, k, none⟩ (.int .i64 y)).cell? ⟨g, k, none⟩ = some (.int .i64 y) := ((HG3.out.set k (.int .i64 y)).cell hk).trans (by rw [if_pos rfl])
    go_wp2
    go_ret
    refine ⟨rfl, (HG3.out.set k (.int .i64 y)).congr (fun j _ => ?_), HT3.out.set ⟨g, k, none⟩ _ rfl⟩
    by_cases hj : j = k
    · rw [if_pos hj, if_pos hj]
    · rw [if_neg hj, if_neg hj, if_neg hj]

/-- A list handed back that lies in a block of the call's own making. -/
def RowN (w : World) (L : List Int) (e : Ending) (w' : World) : Prop := ∃ A c, e = .returned (.slice A L.length c) ∧ InS w' A c L ∧ Below w.heap.size w w' ∧ ∀ a, A = some a → w.heap.size ≤ a.block ∧ a.block < w'.heap.size
theorem RowN.row {w w' : World} {L : List Int} {e : Ending} (h : RowN w L e w') : RowP w L e w' := by
  obtain ⟨A, c, h1, h2, h3, _⟩ := h
  exact ⟨A, c, h1, h2, h3⟩
set_option maxRecDepth 20000 in
set_option maxHeartbeats 4000000 in
theorem spans_new (e : List (Int × Int)) (A : Option Addr) (c m : Nat) (w : World) (hm : m = e.length) (hm2 : m ≤ 1000) (hA : PA w A e) :
    Calls Try.prog 46 #[.slice A m c] w (RowN w (spansL e)) := by
  have hmf : ∀ (fn : Fn) (first cap : Array Value) (w : World), (Instr.makeFunc fn first cap).run Try.prog w = .ok (.func fn first cap) w := fun _ _ _ _ => rfl
  have HM := Lib.hid hm
  have HA := Lib.hid hA
  have hmk := run_make_row' (P := Try.prog) 59 3 (.int .i64 0) 8 Try.underlying59 Try.info3 rfl .i64 .i64 m (by omega) (by omega) w
  clear hm hA
  obtain ⟨z, HZW⟩ : ∃ z, Hid (wrF 0 e = z) := ⟨_, Lib.hid rfl⟩
  go_enter Try.func46, Try.ntmps46
  go_wp2_with fail
  obtain ⟨w2, HW2, hG, hX, hB2, hz⟩ : ∃ w2, w2 = (w.alloc (.cells (madeCells #[.int .i64 0] m) 3)).alloc (.cells #[.slice (some ⟨w.heap.size, 0, none⟩) m m] 59) ∧ w2.rowIs w.heap.size 3 m (fun _ => .int .i64 0) ∧
      w2.cell? ⟨w.heap.size + 1, 0, none⟩ = some (.slice (some ⟨w.heap.size, 0, none⟩) m m) ∧ Below w.heap.size w w2 ∧ w2.heap.size = w.heap.size + 2 :=
    ⟨_, rfl, (World.rowIs_made w _ _ _).alloc _, World.cell?_alloc_at _ _ _ _ (by simp), ((below_one w _).alloc (by simp) _), by simp⟩
  rw [← HW2]
  have HG := Lib.hid hG
  have HX := Lib.hid hX
  have HB2 := Lib.hid hB2
  have HZ := Lib.hid hz
  clear HW2 hmk hG hX hB2 hz
  have hT1 : ∀ a, A = some a → 0 < m → ¬ a.block = w.heap.size := fun a ha h0 => by
    obtain ⟨b, o, hb, hlt, _⟩ := HA.out (by rw [← HM.out]; exact h0)
    rw [ha] at hb
    injection hb with hb
    subst hb
    show ¬ b = w.heap.size
    omega
  have HT1 := Lib.hid hT1
  clear hT1
  have HWK : Hid (Calls Try.prog 55 #[.slice A m c, .func (.func 56) #[] #[.pointer (some ⟨w.heap.size + 1, 0, none⟩)]] w2 (WorkP (· = w.heap.size) e (SpI e w.heap.size (w.heap.size + 1) m) w2)) := Lib.hid (by
    by_cases h0 : m = 0
    · have he : e = [] := List.eq_nil_of_length_eq_zero (by rw [← HM.out]; exact h0)
      subst he
      subst h0
      refine (work_any 56 #[.pointer (some ⟨w.heap.size + 1, 0, none⟩)] (fun _ => False) [] (SpI [] w.heap.size (w.heap.size + 1) 0) A c 0 w2 rfl (fun h => absurd h (by simp)) (by omega) (fun _ h => h.elim) (fun _ _ h => h)
        (enters_of Try.func56 (by kernel_rfl) rfl) (fun k st W W' ⟨S, h1, h2, h3, h4, h5, h6⟩ hT hB => ⟨S, h1, h2, h3.of_block (hB.block _ (by have := HZ.out; omega)), (hB.cell (p := ⟨w.heap.size + 1, 0, none⟩) (by have := HZ.out; show w.heap.size + 1 < w2.heap.size; omega)).trans h4, Nat.lt_of_lt_of_le h5 hB.size, Nat.lt_of_lt_of_le h6 hB.size⟩) (fun k st W B t c hk => absurd hk (by simp))
        ⟨[], Ok.zero _, rfl, HG.out.congr (fun j _ => by simp [fst]), HX.out, by rw [HZ.out]; omega, by rw [HZ.out]; omega⟩).mono ?_
      rintro x W' ⟨r, h1, h2, h3, h4⟩
      exact ⟨r, h1, h2, h3, ⟨h4.os, h4.tape, h4.output, h4.size, fun k hk _ => h4.block k hk (fun h => h)⟩⟩
    · refine work_any 56 #[.pointer (some ⟨w.heap.size + 1, 0, none⟩)] (· = w.heap.size) e (SpI e w.heap.size (w.heap.size + 1) m) A c m w2 HM.out (HA.out.below HB2.out) hm2 (fun k hk => by have := HZ.out; omega) (fun a ha => HT1.out a ha (by omega))
        (enters_of Try.func56 (by kernel_rfl) rfl) ?_ ?_ ?_
      · rintro k st W W' ⟨S, h1, h2, h3, h4, h5, h6⟩ hT hB
        exact ⟨S, h1, h2, h3.of_block (hB.block _ (by have := HZ.out; omega)), (hB.cell (p := ⟨w.heap.size + 1, 0, none⟩) (by have := HZ.out; show w.heap.size + 1 < w2.heap.size; omega)).trans h4, Nat.lt_of_lt_of_le h5 hB.size, Nat.lt_of_lt_of_le h6 hB.size⟩
      · rintro k st W B t d hk ⟨pt, h1, h2, h3, h4, h5, h6⟩ hT hnd hkt htl hRS hBl
        have hz2 := HZ.out
        have hlen : st.length = pt.length := by rw [h2, bst_len]
        have hr := kT_range (e.getD k (0, 0)).1
        refine (spans1_any w.heap.size (w.heap.size + 1) m k t d B (st.drop (st.length - t)) (outF e k) W (by rw [HM.out]; exact hk) (by simp; omega) (by omega) (ia_rs hRS) (fun a ha => by have := hBl a ha; omega) (by omega) h3 h4 h5 h6).mono ?_
        rintro x W' ⟨rfl, hG', hT'⟩
        have hv : (if t = 0 then (k : Int) else (st.drop (st.length - t)).getD 0 0) = bgn (outF e k) k t := by
          by_cases h0 : t = 0
          · rw [if_pos h0, h0]; rfl
          · rw [if_neg h0, hlen, h2]
            exact bst_first h1.1 (by omega) (by omega) (by omega)
        rw [hv] at hG' ⊢
        refine ⟨_, rfl, ⟨_, h1.next hk (by rw [← hlen]; exact hnd), ?_, ?_, (hT'.cell (p := ⟨w.heap.size + 1, 0, none⟩) h5 (by show ¬ w.heap.size + 1 = w.heap.size; omega)).trans h4, Nat.lt_of_lt_of_le h5 hT'.size, Nat.lt_of_lt_of_le h6 hT'.size⟩, hT'⟩
        · rw [hkt, Int.toNat_natCast, bst_next h1.1 hkt, hlen, h2]
        · refine hG'.congr (fun j _ => ?_)
          rw [outF_succ, hkt, Int.toNat_natCast, fst_snoc (outF_len e k)]
      · exact ⟨[], Ok.zero _, rfl, HG.out.congr (fun j _ => by simp [fst]), HX.out, by rw [HZ.out]; omega, by rw [HZ.out]; omega⟩)
  clear HT1
  refine HWK.out.mono ?_
  rintro x w3 ⟨r, rfl, hI, _, hT⟩
  have HB3 : Hid (Below w.heap.size w w3) := Lib.hid (HB2.out.trans (hT.below (fun k hk => Nat.le_of_eq hk.symm) HB2.out.size))
  have HII := Lib.hid hI
  clear hI hT HWK
  rw [HZW.out]
  by_cases hz : z = 0
  · subst hz
    obtain ⟨pt, g1, g2, g3, g4, g5, g6⟩ := HII.out HZW.out
    have HG3 := Lib.hid g3
    clear g1 g2 g3
    go_wp2
    go_ret
    have hl : (outF e e.length).length = m := by rw [outF_len, HM.out]
    refine ⟨some ⟨w.heap.size, 0, none⟩, m, by rw [spansL_is HZW.out, hl]; rfl, ?_, HB3.out, fun a ha => by cases ha; exact ⟨Nat.le_refl _, g6⟩⟩
    rw [spansL_is HZW.out]
    refine ⟨fun _ => ⟨w.heap.size, 0, rfl, g6, fun i hi => ?_⟩, by rw [hl]; exact Nat.le_refl _, by unfold maxLen; omega, fun h => by cases h⟩
    have him : i < m := by rw [← hl]; exact hi
    have hcc := World.rowIs.cell HG3.out him
    rw [Nat.zero_add, hcc, ← HM.out, fst_full i him]
  · have hz2 : (z != 0) = true := by simpa using hz
    have hzi : ¬ z = 0 := hz
    go_wp2
    go_ret
    exact ⟨none, 0, by rw [spansL_not (by rw [HZW.out]; exact hzi)]; rfl, by rw [spansL_not (by rw [HZW.out]; exact hzi)]; exact ⟨IA.nil _ _, Nat.le_refl _, Nat.zero_le _, fun _ => rfl⟩, HB3.out, fun a ha => by cases ha⟩
theorem spans_any (e : List (Int × Int)) (A : Option Addr) (c m : Nat) (w : World) (hm : m = e.length) (hm2 : m ≤ 1000) (hA : PA w A e) :
    Calls Try.prog 46 #[.slice A m c] w (RowP w (spansL e)) := (spans_new e A c m w hm hm2 hA).mono (fun _ _ h => h.row)
end Go.Proofs.Ytophajljjnjcdaa.lt
