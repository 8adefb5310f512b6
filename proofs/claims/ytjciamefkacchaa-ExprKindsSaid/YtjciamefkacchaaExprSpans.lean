/- The program's Spans: where the part of each node begins. -/
import Derived.Test.YtjciamefkacchaaExprWork
import Derived.Test.YtjciamefkacchaaExprSpansPure
import Derived.Shelf.Abstract
namespace Go.Proofs.Ytjciamefkacchaa
open Go.ChangeShapes Go.WideShapes Go.ChangeAt Go.RowKit

/-- What stands while Spans works: the beginnings told so far lie in block g. -/
def SpI (e : List (Int × Int)) (g bx n : Nat) (k : Nat) (st : List Int) (W : World) : Prop :=
  ∃ S, spAt e k = some S ∧ S.st = st ∧ W.rowIs g 3 n (fst S.out k) ∧ W.cell? ⟨bx, 0, none⟩ = some (.slice (some ⟨g, 0, none⟩) n n) ∧ bx < W.heap.size ∧ g < W.heap.size

theorem below_alloc1q (w : World) (o : Obj) : Below w.heap.size w (w.alloc o) := (Below.refl _ _).alloc (Nat.le_refl _) _
set_option maxRecDepth 20000 in
set_option maxHeartbeats 4000000 in
theorem spans1_any (g bx n k m c : Nat) (t p1 p2 : Int) (fv : Value) (B : Option Addr) (ps L : List Int) (nd : Int × Int) (W : World) (hf : fv = .nilFunc ∨ ∃ g lb, fv = .func (.func g) #[] lb) (hk : k < n) (hm : m = ps.length) (hm2 : m ≤ 1000) (hB : IA W B ps)
    (hBg : ∀ a, B = some a → a.block ≠ g) (hgx : g ≠ bx) (hG : W.rowIs g 3 n (fst L k)) (hX : W.cell? ⟨bx, 0, none⟩ = some (.slice (some ⟨g, 0, none⟩) n n)) (hbx : bx < W.heap.size) (hg : g < W.heap.size) :
    Calls Try.prog 52 #[.int .i64 k, .agg #[.int .i64 t, .int .i64 p1, .int .i64 p2, fv], .slice B m c, .pointer (some ⟨bx, 0, none⟩)] W fun x W' =>
      x = .returned (.tuple #[.int .i64 (spF k nd ps).1, .int .i64 0]) ∧ W'.rowIs g 3 n (fun j => if j = k then .int .i64 (spF k nd ps).1 else fst L k j) ∧ Turn (· = g) W W' := by
  have HM := Lib.hid hm
  have HG := Lib.hid hG
  obtain ⟨u, d1⟩ : ∃ u, W.cell? ⟨g, k, none⟩ = some u := ⟨_, hG.cell hk⟩
  have d2 := hG.frozen k
  clear hG
  by_cases h0 : m = 0
  · have HS : Hid ((spF k nd ps).1 = (k : Int)) := Lib.hid (by unfold spF; rw [if_neg (by omega)])
    rw [HS.out]
    subst h0
    clear hm hB hBg
    rcases hf with rfl | ⟨q, lb, rfl⟩
    all_goals
      go_enter Try.func52, Try.ntmps52
      go_wp2
      go_ret2
      refine ⟨rfl, (HG.out.set k _).alloc _, ?_⟩
      exact ((Turn.refl (· = g) W).set ⟨g, k, none⟩ _ rfl).then_below ((below_alloc1q _ _).mono (by simp))
  · have HS : Hid ((spF k nd ps).1 = ps.getD 0 0) := Lib.hid (by unfold spF; rw [if_pos (by omega)])
    rw [HS.out]
    obtain ⟨b, o, rfl, hb, hc⟩ := hB (by omega)
    have c0 := hc 0 (by omega)
    rw [Nat.add_zero] at c0
    have hbg : b ≠ g := hBg _ rfl
    generalize ps.getD 0 0 = y at *
    have hm1 : 0 < m := by omega
    clear hm hB hBg hc HM HS
    rcases hf with rfl | ⟨q, lb, rfl⟩
    · go_enter Try.func52, Try.ntmps52
      go_wp2
      obtain ⟨V, HV, x1, y1, z1, z2, HGV, HTV⟩ : ∃ V, V = (W.setCell ⟨g, k, none⟩ (.int .i64 (k : Int))).alloc (.cells #[.int .i64 t, .int .i64 p1, .int .i64 p2, .nilFunc] 87) ∧ V.cell? ⟨bx, 0, none⟩ = some (.slice (some ⟨g, 0, none⟩) n n) ∧ V.cell? ⟨b, o, none⟩ = some (.int .i64 y) ∧
          V.cell? ⟨g, k, none⟩ = some (.int .i64 (k : Int)) ∧ V.frozen? ⟨g, k, none⟩ = false ∧ Hid (V.rowIs g 3 n (fun j => if j = k then .int .i64 (k : Int) else fst L k j)) ∧ Hid (Turn (· = g) W V) :=
        ⟨_, rfl, ((below_alloc1q _ _).cell (p := ⟨bx, 0, none⟩) (by simpa using hbx)).trans ((World.cell?_of_block (Below.heap_setCell W ⟨g, k, none⟩ _ bx (fun e => hgx e.symm))).trans hX),
          ((below_alloc1q _ _).cell (p := ⟨b, o, none⟩) (by simpa using hb)).trans ((World.cell?_of_block (Below.heap_setCell W ⟨g, k, none⟩ _ b hbg)).trans c0),
          (((HG.out.set k (.int .i64 (k : Int))).alloc _).cell hk).trans (by rw [if_pos rfl]), ((HG.out.set k (.int .i64 (k : Int))).alloc _).frozen k, Lib.hid ((HG.out.set k _).alloc _),
          Lib.hid (((Turn.refl (· = g) W).set ⟨g, k, none⟩ _ rfl).then_below ((below_alloc1q _ _).mono (by simp)))⟩
      rw [← HV]
      clear HV d1 d2 hX c0
      refine still_tail_at 6 (by kernel_rfl) (by kernel_rfl) ?_
      intro V3 hV3
      have x3 : V3.cell? ⟨bx, 0, none⟩ = some (.slice (some ⟨g, 0, none⟩) n n) := by rw [hV3]; exact x1
      have y3 : V3.cell? ⟨b, o, none⟩ = some (.int .i64 y) := by rw [hV3]; exact y1
      have z3 : V3.cell? ⟨g, k, none⟩ = some (.int .i64 (k : Int)) := by rw [hV3]; exact z1
      have z4 : V3.frozen? ⟨g, k, none⟩ = false := by rw [hV3]; exact z2
      have HG3 : Hid (V3.rowIs g 3 n (fun j => if j = k then .int .i64 (k : Int) else fst L k j)) := Lib.hid (by rw [hV3]; exact HGV.out)
      have HT3 : Hid (Turn (· = g) W V3) := Lib.hid (by rw [hV3]; exact HTV.out.drewN 1)
      clear hV3 x1 y1 z1 z2 HGV HTV
      simp only [List.take_succ_cons, List.take_zero, List.drop_succ_cons, List.drop_zero]
      repeat still_step
      refine wpStill_nil ?_
      have x4 : (V3.setCell ⟨g, k, none⟩ (.int .i64 y)).cell? ⟨bx, 0, none⟩ = some (.slice (some ⟨g, 0, none⟩) n n) := (World.cell?_of_block (Below.heap_setCell V3 ⟨g, k, none⟩ _ bx (fun e => hgx e.symm))).trans x3
      have z5 : (V3.setCell ⟨g, k, none⟩ (.int .i64 y)).cell? ⟨g, k, none⟩ = some (.int .i64 y) := ((HG3.out.set k (.int .i64 y)).cell hk).trans (by rw [if_pos rfl])
      go_wp2
      go_ret2
      refine ⟨rfl, (HG3.out.set k (.int .i64 y)).congr (fun j _ => ?_), HT3.out.set ⟨g, k, none⟩ _ rfl⟩
      by_cases hj : j = k
      · rw [if_pos hj, if_pos hj]
      · rw [if_neg hj, if_neg hj, if_neg hj]
    · go_enter Try.func52, Try.ntmps52
      go_wp2
      obtain ⟨V, HV, x1, y1, z1, z2, HGV, HTV⟩ : ∃ V, V = (W.setCell ⟨g, k, none⟩ (.int .i64 (k : Int))).alloc (.cells #[.int .i64 t, .int .i64 p1, .int .i64 p2, .func (.func q) #[] lb] 87) ∧ V.cell? ⟨bx, 0, none⟩ = some (.slice (some ⟨g, 0, none⟩) n n) ∧ V.cell? ⟨b, o, none⟩ = some (.int .i64 y) ∧
          V.cell? ⟨g, k, none⟩ = some (.int .i64 (k : Int)) ∧ V.frozen? ⟨g, k, none⟩ = false ∧ Hid (V.rowIs g 3 n (fun j => if j = k then .int .i64 (k : Int) else fst L k j)) ∧ Hid (Turn (· = g) W V) :=
        ⟨_, rfl, ((below_alloc1q _ _).cell (p := ⟨bx, 0, none⟩) (by simpa using hbx)).trans ((World.cell?_of_block (Below.heap_setCell W ⟨g, k, none⟩ _ bx (fun e => hgx e.symm))).trans hX),
          ((below_alloc1q _ _).cell (p := ⟨b, o, none⟩) (by simpa using hb)).trans ((World.cell?_of_block (Below.heap_setCell W ⟨g, k, none⟩ _ b hbg)).trans c0),
          (((HG.out.set k (.int .i64 (k : Int))).alloc _).cell hk).trans (by rw [if_pos rfl]), ((HG.out.set k (.int .i64 (k : Int))).alloc _).frozen k, Lib.hid ((HG.out.set k _).alloc _),
          Lib.hid (((Turn.refl (· = g) W).set ⟨g, k, none⟩ _ rfl).then_below ((below_alloc1q _ _).mono (by simp)))⟩
      rw [← HV]
      clear HV d1 d2 hX c0
      refine still_tail_at 6 (by kernel_rfl) (by kernel_rfl) ?_
      intro V3 hV3
      have x3 : V3.cell? ⟨bx, 0, none⟩ = some (.slice (some ⟨g, 0, none⟩) n n) := by rw [hV3]; exact x1
      have y3 : V3.cell? ⟨b, o, none⟩ = some (.int .i64 y) := by rw [hV3]; exact y1
      have z3 : V3.cell? ⟨g, k, none⟩ = some (.int .i64 (k : Int)) := by rw [hV3]; exact z1
      have z4 : V3.frozen? ⟨g, k, none⟩ = false := by rw [hV3]; exact z2
      have HG3 : Hid (V3.rowIs g 3 n (fun j => if j = k then .int .i64 (k : Int) else fst L k j)) := Lib.hid (by rw [hV3]; exact HGV.out)
      have HT3 : Hid (Turn (· = g) W V3) := Lib.hid (by rw [hV3]; exact HTV.out.drewN 1)
      clear hV3 x1 y1 z1 z2 HGV HTV
      simp only [List.take_succ_cons, List.take_zero, List.drop_succ_cons, List.drop_zero]
      repeat still_step
      refine wpStill_nil ?_
      have x4 : (V3.setCell ⟨g, k, none⟩ (.int .i64 y)).cell? ⟨bx, 0, none⟩ = some (.slice (some ⟨g, 0, none⟩) n n) := (World.cell?_of_block (Below.heap_setCell V3 ⟨g, k, none⟩ _ bx (fun e => hgx e.symm))).trans x3
      have z5 : (V3.setCell ⟨g, k, none⟩ (.int .i64 y)).cell? ⟨g, k, none⟩ = some (.int .i64 y) := ((HG3.out.set k (.int .i64 y)).cell hk).trans (by rw [if_pos rfl])
      go_wp2
      go_ret2
      refine ⟨rfl, (HG3.out.set k (.int .i64 y)).congr (fun j _ => ?_), HT3.out.set ⟨g, k, none⟩ _ rfl⟩
      by_cases hj : j = k
      · rw [if_pos hj, if_pos hj]
      · rw [if_neg hj, if_neg hj, if_neg hj]

theorem fst_snoc {L : List Int} {k : Nat} {x : Int} (hL : L.length = k) (j : Nat) : fst (L ++ [x]) (k + 1) j = if j = k then .int .i64 x else fst L k j := by
  unfold fst
  by_cases hj : j = k
  · subst hj
    rw [if_pos rfl, if_pos (by omega)]
    simp [List.getD, ← hL]
  · rw [if_neg hj]
    by_cases h2 : j < k
    · rw [if_pos h2, if_pos (by omega)]
      simp [List.getD, List.getElem?_append_left (show j < L.length by omega)]
    · rw [if_neg h2, if_neg (by omega)]

/-- What Spans leaves. -/
def SpansP (w : World) (r : Option (List Int)) (e : Ending) (w' : World) : Prop := Below w.heap.size w w' ∧ match r with
  | none => e = .returned (.tuple #[.slice none 0 0, .bool false])
  | some l => ∃ A c, e = .returned (.tuple #[.slice A l.length c, .bool true]) ∧ InS w' A c l

theorem spAt_some {e : List (Int × Int)} (h : (spansF e).isSome = true) : ∃ S, spAt e e.length = some S ∧ spansF e = some S.out ∧ S.out.length = e.length := by
  unfold spansF at *
  cases hS : spAt e e.length with
  | none => rw [hS] at h; cases h
  | some S =>
    rw [hS] at h
    simp only at h
    by_cases h1 : S.st.length = 1
    · exact ⟨S, rfl, by simp only [if_pos h1], (spAt_ok hS).1⟩
    · rw [if_neg h1] at h; cases h

set_option maxRecDepth 20000 in
set_option maxHeartbeats 4000000 in
theorem spans_any (e : List (Int × Int)) (A : Option Addr) (c m : Nat) (w : World) (hm : m = e.length) (hm2 : m ≤ 1000) (hA : PA w A e) :
    Calls Try.prog 20 #[.slice A m c] w (SpansP w (spansF e)) := by
  have hmf : ∀ (fn : Fn) (first cap : Array Value) (w : World), (Instr.makeFunc fn first cap).run Try.prog w = .ok (.func fn first cap) w := fun _ _ _ _ => rfl
  have HM := Lib.hid hm
  have HA := Lib.hid hA
  have hmk := run_make_row' (P := Try.prog) 35 3 (.int .i64 0) 8 Try.underlying35 Try.info3 rfl .i64 .i64 m (by omega) (by omega) w
  clear hm hA
  go_enter Try.func20, Try.ntmps20
  go_wp2_with fail
  obtain ⟨w2, HW2, hG, hX, hB2, hz⟩ : ∃ w2, w2 = (w.alloc (.cells (madeCells #[.int .i64 0] m) 3)).alloc (.cells #[.slice (some ⟨w.heap.size, 0, none⟩) m m] 35) ∧ w2.rowIs w.heap.size 3 m (fun _ => .int .i64 0) ∧
      w2.cell? ⟨w.heap.size + 1, 0, none⟩ = some (.slice (some ⟨w.heap.size, 0, none⟩) m m) ∧ Below w.heap.size w w2 ∧ w2.heap.size = w.heap.size + 2 :=
    ⟨_, rfl, (World.rowIs_made w _ _ _).alloc _, World.cell?_alloc_at _ _ _ _ (by simp), ((below_alloc1q w _).alloc (by simp) _), by simp⟩
  rw [← HW2]
  have HG := Lib.hid hG
  have HX := Lib.hid hX
  have HB2 := Lib.hid hB2
  have HZ := Lib.hid hz
  clear HW2 hmk hG hX hB2 hz
  by_cases h0 : m = 0
  · have he : e = [] := List.eq_nil_of_length_eq_zero (by rw [← HM.out]; exact h0)
    subst he
    subst h0
    refine (work_any 52 #[.pointer (some ⟨w.heap.size + 1, 0, none⟩)] (fun _ => False) spF [] (fun _ _ _ => True) A c 0 0 w2 rfl (fun h => absurd h (by simp)) (by omega) (fun _ h => h.elim) (fun _ _ h => h)
      (enters_of Try.func52 (by kernel_rfl) rfl) (fun _ _ _ _ _ _ _ => trivial) (fun k st W ov B q d ps hk => absurd hk (by simp)) trivial).mono ?_
    rintro x w3 ⟨rfl, _, hT⟩
    have HB3 : Hid (Below w.heap.size w w3) := Lib.hid (HB2.out.trans (Below.mono ⟨hT.os, hT.tape, hT.output, hT.size, fun i hi => hT.block i hi (fun h => h)⟩ HB2.out.size))
    have hr : runF spF 0 0 [] [] = (0, 4) := rfl
    rw [hr]
    clear hT hr
    go_wp2
    go_ret2
    exact ⟨HB3.out, rfl⟩
  · have hT1 : ∀ a, A = some a → ¬ a.block = w.heap.size := fun a ha => by
      obtain ⟨b, o, hb, hlt, _⟩ := HA.out (by rw [← HM.out]; omega)
      rw [ha] at hb
      injection hb with hb
      subst hb
      show ¬ b = w.heap.size
      omega
    have hme : (m : Int) = (e.length : Int) := by rw [HM.out]
    obtain ⟨r1, r2, HR⟩ : ∃ r1 r2, Hid (runF spF m 0 e [] = (r1, r2)) := ⟨_, _, Lib.hid rfl⟩
    have HRS : Hid ((r2 = 0 ∧ (spansF e).isSome = true) ∨ (r2 ≠ 0 ∧ spansF e = none)) := Lib.hid (by
      have h := run_spans (e := e) e.length 0 ⟨[], []⟩ (by omega) (Nat.zero_le _) rfl
      rw [List.drop_zero, ← hme, HR.out] at h
      rcases h with ⟨x, hx, h⟩ | ⟨hx, h⟩
      · injection hx with h1 h2
        exact .inl ⟨h2, h⟩
      · exact .inr ⟨hx, h⟩)
    clear hme
    refine (work_any 52 #[.pointer (some ⟨w.heap.size + 1, 0, none⟩)] (· = w.heap.size) spF e (SpI e w.heap.size (w.heap.size + 1) m) A c m m w2 HM.out (HA.out.below (HB2.out)) hm2 (fun k hk => by have := HZ.out; omega) hT1
      (enters_of Try.func52 (by kernel_rfl) rfl) ?_ ?_ ?_).mono ?_
    · rintro k st W W' ⟨S, h1, h2, h3, h4, h5, h6⟩ hT hB
      have hz2 := HZ.out
      refine ⟨S, h1, h2, h3.of_block (hB.block _ (by omega)), (hB.cell (p := ⟨w.heap.size + 1, 0, none⟩) (by show w.heap.size + 1 < w2.heap.size; omega)).trans h4, Nat.lt_of_lt_of_le h5 hB.size, Nat.lt_of_lt_of_le h6 hB.size⟩
    · rintro k st W ov B q d ps hk ⟨S, h1, h2, h3, h4, h5, h6⟩ hT ⟨fv, rfl, hfv⟩ hq hps hqs hpst hIA hBl
      subst h2
      have hz2 := HZ.out
      have hr := takesZ_range (e.getD k (0, 0)).1
      refine (spans1_any w.heap.size (w.heap.size + 1) m k q d _ _ _ fv B ps S.out (e.getD k (0, 0)) W hfv.form (by rw [HM.out]; exact hk) hps (by omega) hIA (fun a ha => by have := hBl a ha; omega) (by omega) h3 h4 h5 h6).mono ?_
      rintro x W' ⟨rfl, hG', hT'⟩
      refine ⟨rfl, fun _ => ?_, hT'⟩
      have hnx := spAt_next h1 hq.symm hqs
      rw [← hpst] at hnx
      refine ⟨_, hnx, rfl, hG'.congr (fun j _ => (fst_snoc (spAt_ok h1).1 j).symm), (hT'.cell (p := ⟨w.heap.size + 1, 0, none⟩) h5 (by show ¬ w.heap.size + 1 = w.heap.size; omega)).trans h4, Nat.lt_of_lt_of_le h5 hT'.size, Nat.lt_of_lt_of_le h6 hT'.size⟩
    · exact ⟨⟨[], []⟩, rfl, rfl, HG.out.congr (fun j _ => by simp [fst]), HX.out, by rw [HZ.out]; omega, by rw [HZ.out]; omega⟩
    · rintro x w3 ⟨rfl, hI, hT⟩
      rw [HR.out] at hI ⊢
      have HB3 : Hid (Below w.heap.size w w3) := Lib.hid (HB2.out.trans (hT.below (fun k hk => Nat.le_of_eq hk.symm) HB2.out.size))
      have HII := Lib.hid hI
      clear hI hT
      rcases HRS.out with ⟨hr0, hs⟩ | ⟨hr0, hs⟩
      · subst hr0
        obtain ⟨S, g1, g2, g3, g4, g5, g6⟩ := HII.out rfl
        have HS := Lib.hid hs
        have HG1 := Lib.hid g1
        have HG3 := Lib.hid g3
        clear hs g1 g2 g3
        clear hT1
        go_wp2
        go_ret2
        obtain ⟨S2, s1, s2, s3⟩ := spAt_some HS.out
        have hSS : S2 = S := by
          have h := HG1.out
          rw [HM.out, s1] at h
          injection h
        subst hSS
        refine ⟨HB3.out, ?_⟩
        rw [s2]
        have hlm : S2.out.length = m := by rw [s3, HM.out]
        refine ⟨some ⟨w.heap.size, 0, none⟩, m, by rw [hlm]; rfl, ⟨fun _ => ⟨w.heap.size, 0, rfl, g6, fun i hi => ?_⟩, by rw [hlm]; exact Nat.le_refl _, by unfold maxLen; omega, fun h => by cases h⟩⟩
        have him : i < m := by rw [← hlm]; exact hi
        have hcc := World.rowIs.cell HG3.out him
        rw [Nat.zero_add, hcc]
        rw [fst_full i him]
      · have hr2 : (r2 != 0) = true := by simpa using hr0
        have HS := Lib.hid hs
        clear hs hr0 hT1
        go_wp2
        go_ret2
        refine ⟨HB3.out, ?_⟩
        rw [HS.out]
        rfl
end Go.Proofs.Ytjciamefkacchaa
