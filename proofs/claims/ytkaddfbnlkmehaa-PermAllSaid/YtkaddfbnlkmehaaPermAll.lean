/- Contracts of package perm: All's iterator; slices.Clone; slices.AppendSeq and slices.Collect over the iterator. -/
import Derived.Test.YtkaddfbnlkmehaaPermMem
import Derived.Lib.SliceRun
import Derived.Maps.OwnIn
import Derived.RangeFuncBox
import Derived.Maps.AppendAt
namespace Go.Proofs.Ytkaddfbnlkmehaa
open Go.ChangeShapes Go.WideShapes Go.ChangeAt Go.RowKit Go.Shelf

attribute [local go_sem] Oper.semAt_some

theorem Try.eqlNil22 (w : World) (a : Option Addr) (l c : Nat) : (binOp .eql 22 (.slice a l c) (.slice none 0 0)).run Try.prog w = .ok (.bool a.isNone) w := Lib.run_eql_slice_nil w _ _ a l c 0 0 Try.underlying22
theorem clone_any (ad : Addr) (c m : Nat) (l : List Int) (w : World) (hm : m = l.length) (hI : IA w (some ad) l) (hl : l.length ≤ 1000) :
    Calls Try.prog 62 #[.slice (some ad) m c] w fun e w' => ∃ v, e = .returned v ∧ OI w.heap.size w' v l ∧ Below w.heap.size w w' := by
  have HM := Lib.hid hm
  have HI := Lib.hid hI
  have HL : Hid (([] : List Int).length + l.length ≤ 1000000) := Lib.hid (by simp; omega)
  have HO : Hid (OI w.heap.size (w.alloc (.cells #[] 3)) (.slice (some ⟨w.heap.size, 0, none⟩) 0 0) []) := Lib.hid ⟨rfl, .inr ⟨w.heap.size, 0, #[], rfl, Nat.le_refl _, World.alloc_heap_new w _, Nat.le_refl _, Nat.zero_le _, rfl, rfl⟩⟩
  have q := @Try.eqlNil22
  clear hm hI hl
  go_enter Try.func62, Try.ntmps62
  go_wp2_with (at_builtin; refine append_list rfl (.tmp 5) (.tmp 6) rfl w.heap.size _ [] rfl HO.out (some ad) m c l HM.out rfl (HI.out.alloc _) (fun h => by cases h) HL.out (by simp) ?_; intro v3 w3 ho3 hb3; rw [List.nil_append] at ho3; have HO3 := Lib.hid ho3; have HB3 : Hid (Below w.heap.size w w3) := Lib.hid (((Below.refl _ w).alloc (Nat.le_refl _) _).trans hb3); clear ho3 hb3)
  go_ret
  exact ⟨_, rfl, HO3.out, HB3.out⟩

/-- Id, with where its row lies. -/
theorem id_made (m : Nat) (w : World) (hm8 : m ≤ 8) : Calls Try.prog 32 #[.int .i64 m] w fun e w' => e = .returned (.slice (some ⟨w.heap.size, 0, none⟩) m m) ∧ w'.rowIs w.heap.size 3 m (ri (lrow (ups m))) ∧ Below w.heap.size w w' := by
  have hmk := Lib.hid (fun W => run_make_row' (P := Try.prog) 22 3 (.int .i64 0) 8 Try.underlying22 Try.info3 rfl .i64 .i64 m (by omega) (by omega) W)
  have hd : decide (0 ≤ (m : Int) ∧ (m : Int) ≤ 8) = true := by simp; omega
  have HD := Lib.hid hd
  clear hd
  go_enter Try.func32, Try.ntmps32
  go_wp2_with fail
  refine (isCount_any m w).mono ?_
  rintro e w' ⟨rfl, rfl⟩
  rw [HD.out]
  have hmk := hmk.out
  go_wp2
  clear hmk
  go_loopw [12] (fun i wr => ∃ k : Nat, k ≤ m ∧ i = .int .i64 k ∧ Hid (wr.rowIs w.heap.size 3 m (fst (ups m) k)) ∧ Hid (Below w.heap.size w wr)) (fun i _ => m - (intOf i).toNat)
  case atStart => exact ⟨0, by omega, rfl, Lib.hid ((World.rowIs_made w _ _ _).congr (fun i hi => by simp [fst])), Lib.hid ((Below.refl _ _).alloc (Nat.le_refl _) _)⟩
  case round =>
    obtain ⟨k, hk, rfl, HR, HB⟩ := hrel
    by_cases hlt : k < m
    · obtain ⟨u, d1⟩ : ∃ u, wr.cell? ⟨w.heap.size, k, none⟩ = some u := ⟨_, HR.out.cell hlt⟩
      have d2 := HR.out.frozen k
      go_wp2
      go_roundw
      case rel => exact ⟨k + 1, by omega, by go_num, Lib.hid (fst_step HR.out (ups_getD hlt).symm), Lib.hid (HB.out.setCell (Nat.le_refl _) _)⟩
      case measure => simp [intOf]; omega
    · obtain rfl : k = m := by omega
      go_wp2
      go_ret
      exact ⟨rfl, HR.out.congr (fun q hq => by unfold fst ri lrow; rw [if_pos hq]), HB.out⟩

theorem cell_kept' {W W' : World} {row : Option Nat} {b i : Nat} {v : Value} (h : W.cell? ⟨b, i, none⟩ = some v) (hg : W.grownBy W' row) (hr : ∀ r, row = some r → ∃ o : Obj, W.heap[r]? = some o ∧ o.isCells = false) : W'.cell? ⟨b, i, none⟩ = some v := cell_kept h hg hr
theorem ia_kept {W W' : World} {row : Option Nat} {A : Option Addr} {l : List Int} (h : IA W A l) (hg : W.grownBy W' row) (hr : ∀ r, row = some r → ∃ o : Obj, W.heap[r]? = some o ∧ o.isCells = false) : IA W' A l := fun hn => by
  obtain ⟨b, off, e, hb, hc⟩ := h hn
  exact ⟨b, off, e, Nat.lt_of_lt_of_le hb hg.size, fun i hi => cell_kept (hc i hi) hg hr⟩
theorem ownsRow_blk {W W' : World} {base : Nat} {e : TypeId} {size : Nat} {v : Value} {n : Nat} {xs : List Value} (h : W.ownsRow base e size v n xs) (hb : ∀ g, v.ownBlock = some g → g < W.heap.size → W'.heap[g]? = W.heap[g]?) : W'.ownsRow base e size v n xs := by
  refine ⟨h.1, ?_⟩
  rcases h.2 with h2 | ⟨g, cap, cur, e, hb', hg, rest⟩
  · exact .inl h2
  · exact .inr ⟨g, cap, cur, e, hb', (hb g (by rw [e]; rfl) (Array.getElem?_eq_some_iff.1 hg).1).trans hg, rest⟩
theorem ownsRow_cells {W : World} {base : Nat} {e : TypeId} {size : Nat} {v : Value} {n : Nat} {xs : List Value} (h : W.ownsRow base e size v n xs) {g : Nat} (hg : v.ownBlock = some g) : ∃ cs fz, W.heap[g]? = some (.cells cs e fz) := by
  rcases h.2 with ⟨h2, _⟩ | ⟨g', cap, cur, e', _, hg', _⟩
  · rw [h2] at hg; cases hg
  · rw [e'] at hg
    injection hg with hg
    subst hg
    exact ⟨_, _, hg'⟩

/-- What a row of ints reads as. -/
def rd (V : World) (b : Nat) : List Int := match V.heap[b]? with
  | some (.cells c _ _) => c.toList.map intOf
  | _ => []
theorem rd_row {V : World} {b n : Nat} {t : TypeId} {p : List Int} (h : V.rowIs b t n (ri (lrow p))) (hn : p.length = n) : rd V b = p := by
  obtain ⟨c, hc, hs, hg⟩ := h
  unfold rd
  rw [hc]
  apply List.ext_getElem
  · simp; omega
  · intro i h1 h2
    have h3 : i < n := by omega
    have h4 := hg i h3
    have h5 : i < c.size := by omega
    rw [Array.getElem?_eq_getElem h5] at h4
    injection h4 with h4
    simp [h4, ri, lrow, intOf, List.getD, h2]
def bOf : Value → Nat
  | .bool true => 1
  | _ => 0

/-- What is handed out reads as it should, in a block laid behind pb. -/
def Rd (pb : Nat) (V : World) (x : List Int × Value) : Prop := pb < V.heap.size ∧ ∃ A c, x.2 = .slice A x.1.length c ∧ IA V A x.1 ∧ ∀ a, A = some a → pb < a.block ∧ ∃ cs fz, V.heap[a.block]? = some (.cells cs 3 fz)
/-- All of n things, in the order. -/
def prms (n i : Nat) : List (List Int) := (List.range i).map fun j => uns n j n
theorem prms_succ (n i : Nat) : prms n (i + 1) = prms n i ++ [uns n i n] := by simp [prms, List.range_succ]

theorem all_any (n : Int) (w : World) : Calls Try.prog 42 #[.int .i64 n] w fun e w' => e = .returned (.func (.func 60) #[] #[.pointer (some ⟨w.heap.size, 0, none⟩)]) ∧ w' = w.alloc (.cells #[.int .i64 n] 3) := by
  go_enter Try.func42, Try.ntmps42
  go_wp2
  go_ret
  exact ⟨rfl, rfl⟩

set_option maxRecDepth 100000 in
set_option maxHeartbeats 4000000 in
theorem all_mem (Bn n : Nat) (w : World) (hn : n ≤ 6) (hBn : w.cell? ⟨Bn, 0, none⟩ = some (.int .i64 n)) :
    SeqMem Try.prog 60 #[.pointer (some ⟨Bn, 0, none⟩)] Prod.snd (fun pb => KS (fun q => q = Bn ∨ q = pb)) Rd (fun ys : List (List Int × Value) => ys.map Prod.fst = prms n (fct n)) 1000 w := by
  intro k l J W hW hJ hY h0
  have hBlt : Bn < w.heap.size := by
    rcases Nat.lt_or_ge Bn w.heap.size with hlt | hge
    · exact hlt
    · simp [World.cell?, Array.getElem?_eq_none hge] at hBn
  have hBW : Bn < W.heap.size := Nat.lt_of_lt_of_le hBlt hW.size
  have c0 : W.cell? ⟨Bn, 0, none⟩ = some (.int .i64 n) := (hW.cell (p := ⟨Bn, 0, none⟩) hBlt).trans hBn
  have hd : decide (0 ≤ (n : Int) ∧ (n : Int) ≤ 8) = true := by simp; omega
  have HD := Lib.hid hd
  have hfl : fct n ≤ 720 := by
    have : ∀ n, n < 7 → fct n ≤ 720 := by decide
    exact this n (by omega)
  have HFP := Lib.hid (fct_pos n)
  have HFL := Lib.hid hfl
  clear hBn hd hfl
  refine callsIn_wide.2 ((callsIn_wide (n := 5)).1 ?_)
  refine callsIn_of_wp Try.func60 rfl trivial ?_ rfl
  simp only [Try.ntmps60, List.size_toArray, List.length_cons, List.length_nil, Nat.reduceAdd, Nat.reduceSub, Array.replicate_succ, Array.replicate_zero, List.push_toArray, List.append_toArray, List.nil_append, List.cons_append]
  gi_wp2_with fail
  refine ⟨trivial, ?_⟩
  refine (callsIn_wide.2 (isCount_any n W)).mono ?_
  rintro e w' ⟨rfl, rfl⟩
  rw [HD.out]
  gi_wp2_with fail
  refine ⟨trivial, ?_⟩
  refine (callsIn_wide.2 (id_made n W (by omega))).mono ?_
  rintro e w1 ⟨rfl, hrow, hb1⟩
  have HR1 := Lib.hid (hrow.congr (g := ri (lrow (uns n 0 n))) (fun q _ => by rw [uns_zero n hn]))
  have HT1 : Hid (Turn (fun q => q = W.heap.size) W w1) := Lib.hid ⟨hb1.os, hb1.tape, hb1.output, hb1.size, fun q hq _ => hb1.block q hq⟩
  clear hrow hb1 c0
  gi_wp2_with fail
  gi_loopw [4] (fun more wr => ∃ (b : Bool) (i : Nat) (ys : List (List Int × Value)), more = .bool b ∧ J ys wr ∧ Hid (ys.map Prod.fst = prms n i) ∧ Hid (b = true → i < fct n) ∧ Hid (b = false → i = fct n) ∧ Hid (∃ i', wr.rowIs W.heap.size 3 n (ri (lrow (uns n i' n))) ∧ i' < fct n ∧ (b = true → i' = i)) ∧ Hid (W.heap.size ≤ wr.heap.size))
    (fun more wr => 2 * (fct n - rk (rd wr W.heap.size) n) + bOf more)
  case atStart => exact ⟨true, 0, [], rfl, hJ [] W w1 h0 HT1.out, Lib.hid rfl, Lib.hid (fun _ => HFP.out), Lib.hid (fun h => by cases h), Lib.hid ⟨0, HR1.out, HFP.out, fun _ => rfl⟩, Lib.hid HT1.out.size⟩
  case round =>
    obtain ⟨b, i, ys, rfl, hJ1, HM, HI, HE, HR, HZ⟩ := hrel
    cases b with
    | false =>
      have HX : Hid (ys.map Prod.fst = prms n (fct n)) := Lib.hid (by rw [HM.out, HE.out rfl])
      gi_wp2
      go_end0
      exact ⟨⟨_, rfl⟩, ys, HX.out, hJ1⟩
    | true =>
      have hif : i < fct n := HI.out rfl
      obtain ⟨i', hr0, _, hi'⟩ := HR.out
      have hr1 := hi' rfl
      subst hr1
      have HROW := Lib.hid hr0
      have HUL : Hid (n = (uns n i' n).length) := Lib.hid (uns_length n i' n).symm
      have HIA : Hid (IA wr (some ⟨W.heap.size, 0, none⟩) (uns n i' n)) := Lib.hid (fun _ => ⟨_, 0, rfl, hr0.lt, fun q hq => by rw [Nat.zero_add, hr0.cell (i := q) (by rw [HUL.out]; exact hq)]; rfl⟩)
      have hbw : W.heap.size < wr.heap.size := hr0.lt
      clear hr0 hi' HR
      gi_wp2_with fail
      refine ⟨trivial, ?_⟩
      refine (callsIn_wide.2 (clone_any ⟨W.heap.size, 0, none⟩ n n (uns n i' n) wr HUL.out HIA.out (by rw [← HUL.out]; omega))).mono ?_
      rintro e w2 ⟨v, rfl, hov, hb2⟩
      have hj2 : J ys w2 := hJ ys wr w2 hJ1 ⟨hb2.os, hb2.tape, hb2.output, hb2.size, fun q hq _ => hb2.block q hq⟩
      have hlen : ys.length < 1000 := by
        have h := congrArg List.length HM.out
        simp [prms] at h
        have := HFL.out
        omega
      have hrd : Rd W.heap.size w2 (uns n i' n, v) := by
        have hcl := fun g (hg : v.ownBlock = some g) => ownsRow_cells hov hg
        obtain ⟨A, c, rfl, hi, hbk⟩ := hov.ins
        exact ⟨by have := hb2.size; omega, A, c, rfl, hi.ia, fun a e => ⟨by have := (hbk a e).1; omega, hcl a.block (by rw [e]; rfl)⟩⟩
      obtain ⟨fn, tmps, assign, body, hy, hR⟩ := hY ys (uns n i' n, v) w2 hj2 hrd hlen 4
      have HR2 : Hid (w2.rowIs W.heap.size 3 n (ri (lrow (uns n i' n)))) := Lib.hid (HROW.out.of_block (hb2.block _ hbw))
      have HZ2 : Hid (W.heap.size ≤ w2.heap.size) := Lib.hid (by have := hb2.size; omega)
      clear hrd hlen hj2 hov hb2
      gi_wp2_with fail
      refine hR.mono ?_
      rintro e W3 ⟨rfl, hJ3, hk3⟩
      have HR3 : Hid (W3.rowIs W.heap.size 3 n (ri (lrow (uns n i' n)))) := Lib.hid (HR2.out.of_block (hk3 _ (.inr rfl)))
      have hz3 := HR3.out.lt
      clear hk3
      gi_wp2_with fail
      refine ⟨trivial, ?_⟩
      refine (callsIn_wide.2 (advance_any W.heap.size n (uns n i' n) W3 HUL.out HR3.out (by omega))).mono ?_
      rintro e W4 ⟨q, rfl, hq, hT4, hR4⟩
      have hJ4 := hJ _ _ _ hJ3 hT4
      have HZ4 : Hid (W.heap.size ≤ W4.heap.size) := Lib.hid (by have := hT4.size; omega)
      have HM4 : Hid ((ys ++ [(uns n i' n, v)]).map Prod.fst = prms n (i' + 1)) := Lib.hid (by rw [List.map_append, HM.out, prms_succ]; rfl)
      have HRD : Hid (rk (rd wr W.heap.size) n = i') := Lib.hid (by rw [rd_row HROW.out HUL.out.symm]; exact rk_uns_full hif)
      have HADV := Lib.hid (adv_uns hn hif)
      clear hT4 hJ3 hJ1
      by_cases hlast : i' + 1 < fct n
      · have HAS : Hid ((adv (uns n i' n)).isSome = true ∧ q = uns n (i' + 1) n) := Lib.hid (by rw [hq, HADV.out, if_pos hlast]; exact ⟨rfl, rfl⟩)
        have HR5 := Lib.hid hR4
        have HRD4 : Hid (rk (rd W4 W.heap.size) n = i' + 1) := Lib.hid (by rw [rd_row hR4 (by rw [HAS.out.2, uns_length]), HAS.out.2]; exact rk_uns_full hlast)
        rw [HAS.out.1]
        clear hR4 hq
        gi_wp2
        go_roundw
        case rel => exact ⟨true, i' + 1, _, rfl, hJ4, HM4, Lib.hid (fun _ => hlast), Lib.hid (fun h => by cases h), Lib.hid ⟨i' + 1, by rw [← HAS.out.2]; exact HR5.out, hlast, fun _ => rfl⟩, HZ4⟩
        case measure => rw [HRD.out, HRD4.out]; simp [bOf]; omega
      · have HAS : Hid ((adv (uns n i' n)).isSome = false ∧ q = uns n i' n) := Lib.hid (by rw [hq, HADV.out, if_neg hlast]; exact ⟨rfl, rfl⟩)
        have HR5 := Lib.hid hR4
        have HRD4 : Hid (rk (rd W4 W.heap.size) n = i') := Lib.hid (by rw [rd_row hR4 (by rw [HAS.out.2, uns_length]), HAS.out.2]; exact rk_uns_full hif)
        rw [HAS.out.1]
        clear hR4 hq
        gi_wp2
        go_roundw
        case rel => exact ⟨false, i' + 1, _, rfl, hJ4, HM4, Lib.hid (fun h => by cases h), Lib.hid (fun _ => by omega), Lib.hid ⟨i', by rw [← HAS.out.2]; exact HR5.out, hif, fun h => by cases h⟩, HZ4⟩
        case measure => rw [HRD.out, HRD4.out]; simp [bOf]

set_option maxRecDepth 100000 in
set_option maxHeartbeats 1000000 in
theorem all_none (Bn : Nat) (n : Int) (w : World) (h : ¬ (0 ≤ n ∧ n ≤ 8)) (hBn : w.cell? ⟨Bn, 0, none⟩ = some (.int .i64 n)) :
    SeqMem Try.prog 60 #[.pointer (some ⟨Bn, 0, none⟩)] Prod.snd (fun pb => KS (fun q => q = Bn ∨ q = pb)) Rd (fun ys : List (List Int × Value) => ys.map Prod.fst = []) 1000 w := by
  intro k l J W hW hJ hY h0
  have hBlt : Bn < w.heap.size := by
    rcases Nat.lt_or_ge Bn w.heap.size with hlt | hge
    · exact hlt
    · simp [World.cell?, Array.getElem?_eq_none hge] at hBn
  have c0 : W.cell? ⟨Bn, 0, none⟩ = some (.int .i64 n) := (hW.cell (p := ⟨Bn, 0, none⟩) hBlt).trans hBn
  have HD : Hid (decide (0 ≤ n ∧ n ≤ 8) = false) := Lib.hid (decide_eq_false h)
  clear hBn h hY
  refine callsIn_wide.2 ((callsIn_wide (n := 5)).1 ?_)
  refine callsIn_of_wp Try.func60 rfl trivial ?_ rfl
  simp only [Try.ntmps60, List.size_toArray, List.length_cons, List.length_nil, Nat.reduceAdd, Nat.reduceSub, Array.replicate_succ, Array.replicate_zero, List.push_toArray, List.append_toArray, List.nil_append, List.cons_append]
  gi_wp2_with fail
  refine ⟨trivial, ?_⟩
  refine (callsIn_wide.2 (isCount_any n W)).mono ?_
  rintro e w' ⟨rfl, rfl⟩
  rw [HD.out]
  gi_wp2_with fail
  refine bodyPost_ret (results_none rfl _ _ _) rfl ?_
  exact ⟨⟨_, rfl⟩, [], rfl, h0⟩

theorem info2' : (Try.prog.info? 22).map (fun i => (i.zero, i.size, i.bytes)) = some (some (.slice none 0 0), 1, 24) := by kernel_rfl

/-- What stands in the loop of AppendSeq: a box, the row of what came so far, and that all of it still reads as it should. -/
structure Got (w : World) (pb : Nat) (pre : List (List Int × Value)) (W : World) : Prop where
  row : ∃ v, Boxed W w.heap.size 31 v ∧ W.ownsRow w.heap.size 22 1 v pre.length (pre.map Prod.snd) ∧ v.ownBlock ≠ some pb ∧ (∀ x ∈ pre, ∃ A c, x.2 = .slice A x.1.length c ∧ IA W A x.1 ∧ ∀ a, A = some a → v.ownBlock ≠ some a.block ∧ a.block ≠ w.heap.size ∧ a.block ≠ pb ∧ a.block < W.heap.size)
  bl : Below w.heap.size w W

set_option maxRecDepth 100000 in
set_option maxHeartbeats 4000000 in
theorem appendSeq_all (n : Int) (L : List (List Int)) (w : World) (Bn : Nat) (hmem0 : ∀ w' : World, w'.cell? ⟨Bn, 0, none⟩ = some (.int .i64 n) → SeqMem Try.prog 60 #[.pointer (some ⟨Bn, 0, none⟩)] Prod.snd (fun pb => KS (fun q => q = Bn ∨ q = pb)) Rd (fun ys : List (List Int × Value) => ys.map Prod.fst = L) 1000 w') (hBn : w.cell? ⟨Bn, 0, none⟩ = some (.int .i64 n)) :
    Calls Try.prog 63 #[.slice none 0 0, .func (.func 60) #[] #[.pointer (some ⟨Bn, 0, none⟩)]] w fun e w' => ∃ (xs : List (List Int × Value)) (v : Value), e = .returned v ∧ xs.map Prod.fst = L ∧ w'.ownsRow w.heap.size 22 1 v xs.length (xs.map Prod.snd) ∧
      (∀ x ∈ xs, ∃ A c, x.2 = .slice A x.1.length c ∧ IA w' A x.1) ∧ Below w.heap.size w w' := by
  obtain ⟨i0, hi, hz0, hz1, hz2⟩ := info_parts info2'
  have hBlt : Bn < w.heap.size := by
    rcases Nat.lt_or_ge Bn w.heap.size with hlt | hge
    · exact hlt
    · simp [World.cell?, Array.getElem?_eq_none hge] at hBn
  refine (callsIn_wide (n := 5)).1 ?_
  refine callsIn_of_wp_marks Try.func63 rfl trivial ?_ rfl
  simp only [Try.ntmps63, List.size_toArray, List.length_cons, List.length_nil, Nat.reduceAdd, Nat.reduceSub, Array.replicate_succ, Array.replicate_zero, List.push_toArray, List.append_toArray, List.nil_append, List.cons_append]
  gi_wp2_with fail
  have hB0 : Below w.heap.size w (w.alloc (.cells #[.slice none 0 0] 31)) := (Below.refl _ w).alloc (Nat.le_refl _) _
  have hmem := hmem0 (w.alloc (.cells #[.slice none 0 0] 31)) ((hB0.cell (p := ⟨Bn, 0, none⟩) hBlt).trans hBn)
  have hsz : (w.alloc (.cells #[.slice none 0 0] 31)).heap.size = w.heap.size + 1 := by simp
  refine wpIn_mem (n := 5) rfl (enters_of Try.func60 (by kernel_rfl) rfl) hmem rfl (fun h k => KS.trans h k) (fun W o o' h _ q hq => World.putObj_heap_other (by rw [hsz] at hq ⊢; omega)) ?hR (fun pre W => Got w (w.heap.size + 3) pre W) ?hI ?hIT ?h0
    (fun x a' => a' = { tmps := #[.slice none 0 0, .func (.func 60) #[] #[.pointer (some ⟨Bn, 0, none⟩)], .pointer (some ⟨w.heap.size, 0, none⟩), undef, .slice none 0 0, x.2, .func (.func 60) #[] #[.pointer (some ⟨Bn, 0, none⟩)], x.2, undef, undef, undef, undef, undef], defers := [] }) ?assign ?body ?done
  case hR =>
    rintro ⟨xl, xv⟩ V V' row ⟨h0, A, c, h1, h2, h3⟩ hg hr
    refine ⟨Nat.lt_of_lt_of_le h0 hg.size, A, c, h1, ia_kept h2 hg hr, fun a e => ⟨(h3 a e).1, ?_⟩⟩
    obtain ⟨_, cs, fz, hcs⟩ := h3 a e
    refine ⟨cs, fz, (hg.block a.block (Array.getElem?_eq_some_iff.1 hcs).1 (fun e2 => ?_)).trans hcs⟩
    obtain ⟨o, ho, hno⟩ := hr _ e2.symm
    rw [hcs] at ho
    cases ho
    cases hno
  case hI =>
    rintro pre X Y row ⟨⟨v, hv, hrow, hnp, hxs⟩, hB⟩ hg hr
    refine ⟨⟨v, hv.kept hg (fun e => ?_), ?_, hnp, fun x hx => ?_⟩, ownFrom_below (Nat.le_refl _) (by omega) pre X Y row hB hg hr⟩
    · obtain ⟨_, o, ho, hno⟩ := hr _ e.symm
      rw [show X.heap[w.heap.size]? = _ from hv] at ho
      cases ho
      cases hno
    · refine ownsRow_blk hrow fun g hgg hgs => hg.block g hgs (fun e => ?_)
      obtain ⟨_, o, ho, hno⟩ := hr _ e.symm
      obtain ⟨cs, fz, hcs⟩ := ownsRow_cells hrow hgg
      rw [hcs] at ho
      cases ho
      cases hno
    · obtain ⟨A, c, h1, h2, h3⟩ := hxs x hx
      exact ⟨A, c, h1, ia_kept h2 hg (fun r e => (hr r e).2), fun a e => ⟨(h3 a e).1, (h3 a e).2.1, (h3 a e).2.2.1, Nat.lt_of_lt_of_le (h3 a e).2.2.2 hg.size⟩⟩
  case hIT =>
    rintro pre V V' ⟨⟨v, hv, hrow, hnp, hxs⟩, hB⟩ hz hT
    rw [hsz] at hz hT
    refine ⟨⟨v, (hT.block _ hv.lt (by omega)).trans hv, ownsRow_blk hrow fun g hgg hgs => hT.block g hgs (fun e => hnp (by rw [hgg, e])), hnp, fun x hx => ?_⟩, hB.trans (hT.below (fun k hk => by omega) hB.size)⟩
    obtain ⟨A, c, h1, h2, h3⟩ := hxs x hx
    refine ⟨A, c, h1, fun hn => ?_, fun a e => ⟨(h3 a e).1, (h3 a e).2.1, (h3 a e).2.2.1, Nat.lt_of_lt_of_le (h3 a e).2.2.2 hT.size⟩⟩
    obtain ⟨b, o, rfl, hb, hc⟩ := h2 hn
    exact ⟨b, o, rfl, Nat.lt_of_lt_of_le hb hT.size, fun i hi => (World.cell?_of_block (a := ⟨b, o + i, none⟩) (hT.block b hb (h3 _ rfl).2.2.1)).trans (hc i hi)⟩
  case h0 => exact ⟨⟨_, Boxed.new w _ _, World.ownsRow_nil _ _ _ _, (fun h => by cases h), fun x hx => by simp at hx⟩, hB0⟩
  case assign =>
    intro l' x W K hK
    have HK := Lib.hid hK
    clear hK
    gi_wp2
    exact HK.out _ rfl
  case body =>
    rintro l' pre ⟨xl, xv⟩ a' W ⟨⟨v, hv, hrow, hnp, hxs⟩, hB⟩ ⟨hpbl, A, c, hxv, hI, hbk⟩ rfl hlen hzW
    simp only at hxv
    subst hxv
    have hc := hv.cell
    have hle : w.heap.size ≤ W.heap.size := hB.size
    rw [hsz] at hbk hzW hpbl
    have HXS := Lib.hid hxs
    have HI := Lib.hid hI
    have HBK := Lib.hid hbk
    have HNP := Lib.hid hnp
    have HBB := Lib.hid hB
    have HROW := Lib.hid hrow
    have HV := Lib.hid hv
    clear hxs hI hbk hnp hB
    gi_wp2_with (gi_at_builtin; refine wpListIn_append_own_at _ rfl _ _ 31 rfl w.heap.size 22 i0 (.slice none 0 0) 1 24 Try.underlying31 hi hz0 hz1 hz2 rfl (by decide) v pre.length (pre.map Prod.snd) rfl (hrow.alloc _) ⟨W.heap.size, 0, none⟩ 1 1 [.slice A xl.length c] rfl rfl (cell_one_new _ _ _) (by simp [Value.oneCell']) (by unfold maxLen; omega) (by omega) (by simp; omega) ?_; intro v' w1 hown' hgrow _ hob; obtain ⟨g', cap', rfl⟩ := ownsRow_succ hown'; obtain ⟨hv1, hv2, hr2, hk2, hb2⟩ := hv.appended (by decide) hrow hle (Nat.le_refl _) hown' hgrow; have hc1 := hv1.cell; have hf1 := hv1.frozen)
    have hvr := HROW.out
    have hbl : ∀ b, b < W.heap.size → b ≠ w.heap.size → v.ownBlock ≠ some b → (w1.setCell ⟨w.heap.size, 0, none⟩ (.slice (some ⟨g', 0, none⟩) (pre.length + 1) cap')).heap[b]? = W.heap[b]? := fun b h1 h2 h3 =>
      (Below.heap_setCell w1 _ _ b h2).trans ((hgrow.block b (by simp; omega) (fun e => h3 e.symm)).trans (Below.heap_alloc _ _ _ h1))
    have hia : ∀ (A : Option Addr) (l : List Int), IA W A l → (∀ a, A = some a → v.ownBlock ≠ some a.block ∧ a.block ≠ w.heap.size) → IA (w1.setCell ⟨w.heap.size, 0, none⟩ (.slice (some ⟨g', 0, none⟩) (pre.length + 1) cap')) A l := fun A l h h2 hn => by
      obtain ⟨b, o, rfl, hb, hc⟩ := h hn
      obtain ⟨k1, k2⟩ := h2 _ rfl
      refine ⟨b, o, rfl, ?_, fun i hi => (World.cell?_of_block (a := ⟨b, o + i, none⟩) (hbl b hb k2 k1)).trans (hc i hi)⟩
      have := hb2.size
      omega
    have hnew : ∀ a, A = some a → v.ownBlock ≠ some a.block ∧ a.block ≠ w.heap.size ∧ a.block ≠ w.heap.size + 3 ∧ a.block < W.heap.size := fun a e => by
      obtain ⟨k1, cs, fz, k2⟩ := HBK.out a e
      refine ⟨fun e2 => ?_, by omega, by omega, (Array.getElem?_eq_some_iff.1 k2).1⟩
      obtain ⟨cs2, fz2, hcs⟩ := ownsRow_cells hvr e2
      rw [k2] at hcs
      cases hcs
    have hob2 : ∀ b, b < W.heap.size → v.ownBlock ≠ some b → (Value.slice (some ⟨g', 0, none⟩) (pre.length + 1) cap').ownBlock ≠ some b := fun b h1 h2 e => by
      rcases hob with h | h
      · exact h2 (by rw [← h]; exact e)
      · rw [h] at e
        injection e with e
        simp at e
        omega
    refine ⟨hk2.from _, fun q hq => ?_, ⟨⟨_, hv2, by simpa using hr2, ?_, fun x hx => ?_⟩, HBB.out.trans hb2⟩⟩
    · rcases hq with rfl | rfl
      · exact hb2.block _ hBlt
      · exact hbl _ hpbl (by omega) HNP.out
    · exact hob2 _ (by omega) HNP.out
    · rcases List.mem_append.1 hx with hx | hx
      · obtain ⟨A', c', k1, k2, k3⟩ := HXS.out x hx
        exact ⟨A', c', k1, hia A' _ k2 (fun a e => ⟨(k3 a e).1, (k3 a e).2.1⟩), fun a e => ⟨hob2 _ (k3 a e).2.2.2 (k3 a e).1, (k3 a e).2.1, (k3 a e).2.2.1, Nat.lt_of_lt_of_le (k3 a e).2.2.2 hb2.size⟩⟩
      · rw [List.mem_singleton] at hx
        subst hx
        exact ⟨A, c, rfl, hia A _ HI.out (fun a e => ⟨(hnew a e).1, (hnew a e).2.1⟩), fun a e => ⟨hob2 _ (hnew a e).2.2.2 (hnew a e).1, (hnew a e).2.1, (hnew a e).2.2.1, Nat.lt_of_lt_of_le (hnew a e).2.2.2 hb2.size⟩⟩
  case done =>
    rintro D ys W hD hys ⟨⟨v, hv, hrow, hnp, hxs⟩, hB⟩ hK
    have hc := hv.cell
    gi_wp2
    refine ⟨by simp, .inl ⟨_, _, rfl, run_takeDeferred hK, ?_⟩⟩
    refine ⟨_, results_tmp rfl _ _ _, ys, v, rfl, hys, ownsRow_putObj hrow _ hK rfl, fun x hx => ?_, hB.trans (belowK_b (w := w) (Nat.le_refl _) W D _ _ (by simp at hD; omega) hK rfl rfl)⟩
    obtain ⟨A, c, h1, h2, _⟩ := hxs x hx
    exact ⟨A, c, h1, ia_kept h2 (grownBy_putObj' W D _) (fun r e => by cases e; exact ⟨_, hK, rfl⟩)⟩

/-- What Collect leaves. -/
def Coll (L : List (List Int)) (w : World) (e : Ending) (w' : World) : Prop := ∃ (xs : List (List Int × Value)) (v : Value), e = .returned v ∧ xs.map Prod.fst = L ∧ w'.ownsRow w.heap.size 22 1 v xs.length (xs.map Prod.snd) ∧
      (∀ x ∈ xs, ∃ A c, x.2 = .slice A x.1.length c ∧ IA w' A x.1) ∧ Below w.heap.size w w'
set_option maxHeartbeats 1000000 in
theorem collect_all (n : Int) (L : List (List Int)) (w : World) (Bn : Nat) (hmem0 : ∀ w' : World, w'.cell? ⟨Bn, 0, none⟩ = some (.int .i64 n) → SeqMem Try.prog 60 #[.pointer (some ⟨Bn, 0, none⟩)] Prod.snd (fun pb => KS (fun q => q = Bn ∨ q = pb)) Rd (fun ys : List (List Int × Value) => ys.map Prod.fst = L) 1000 w') (hBn : w.cell? ⟨Bn, 0, none⟩ = some (.int .i64 n)) :
    Calls Try.prog 43 #[.func (.func 60) #[] #[.pointer (some ⟨Bn, 0, none⟩)]] w (Coll L w) := by
  have HC := Lib.hid (appendSeq_all n L w Bn hmem0 hBn)
  clear hBn hmem0
  go_enter Try.func43, Try.ntmps43
  go_wp2_with fail
  refine HC.out.mono ?_
  rintro e w' ⟨xs, v, rfl, h1, h2, h3, h4⟩
  have H1 := Lib.hid h1
  have H2 := Lib.hid h2
  have H3 := Lib.hid h3
  have H4 := Lib.hid h4
  clear h1 h2 h3 h4
  go_wp2_with fail
  go_ret
  exact ⟨xs, v, rfl, H1.out, H2.out, H3.out, H4.out⟩
end Go.Proofs.Ytkaddfbnlkmehaa
