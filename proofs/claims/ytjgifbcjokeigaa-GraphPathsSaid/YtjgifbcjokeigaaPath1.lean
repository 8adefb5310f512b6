/- Contracts of package graph: Path's function value. -/
import Derived.Test.YtjgifbcjokeigaaReach
namespace Go.Proofs.Ytjgifbcjokeigaa
open Go.ChangeShapes Go.WideShapes Go.ChangeAt Go.RowKit Go.Shelf

/-- Does the search go on? It stops at the first goal. -/
def goalB (goal : List Bool) (tr : List (Nat × Int)) : Bool := tr.any fun x => goal.getD x.1 false
def goP (goal : List Bool) (tr : List (Nat × Int)) : Bool := !goalB goal tr
/-- The node at which it stopped; -1: none. -/
def endZ (goal : List Bool) : List (Nat × Int) → Int
  | [] => -1
  | x :: l => if goal.getD x.1 false = true then (if endZ goal l = -1 then (x.1 : Int) else endZ goal l) else endZ goal l
theorem endZ_snoc (goal : List Bool) (tr : List (Nat × Int)) (k : Nat) (a : Int) : endZ goal (tr ++ [(k, a)]) = if goal.getD k false = true then (k : Int) else endZ goal tr := by
  induction tr with
  | nil =>
    simp only [List.nil_append, endZ]
    split <;> rfl
  | cons x l ih =>
    rw [List.cons_append, endZ, ih, endZ]
    by_cases h : goal.getD k false = true
    · rw [if_pos h, if_pos h]
      have : ¬ ((k : Int) = -1) := by omega
      rw [if_neg this]
      split <;> rfl
    · rw [if_neg h, if_neg h]
theorem goalB_end (goal : List Bool) (tr : List (Nat × Int)) : goalB goal tr = decide (endZ goal tr ≠ -1) := by
  induction tr with
  | nil => rfl
  | cons x l ih =>
    have e : goalB goal (x :: l) = (goal.getD x.1 false || goalB goal l) := rfl
    rw [e, ih, endZ]
    by_cases h : goal.getD x.1 false = true
    · rw [if_pos h, h, Bool.true_or]
      by_cases h2 : endZ goal l = -1
      · rw [if_pos h2]; simp
      · rw [if_neg h2]; simp [h2]
    · have h2 : goal.getD x.1 false = false := by simpa using h
      rw [if_neg h, h2, Bool.false_or]
/-- The node ahead of each one. -/
def aheadZ (tr : List (Nat × Int)) (k : Nat) : Int := match tr.reverse.find? fun x => x.1 == k with | some x => x.2 | none => 0
theorem aheadZ_snoc (tr : List (Nat × Int)) (k : Nat) (a : Int) (j : Nat) : aheadZ (tr ++ [(k, a)]) j = if j = k then a else aheadZ tr j := by
  unfold aheadZ
  rw [List.reverse_append]
  by_cases h : j = k
  · subst h; simp
  · rw [if_neg h]
    have : (k == j) = false := by simpa using fun e => h e.symm
    simp [this]
def ahV (tr : List (Nat × Int)) (k : Nat) : Value := .int .i64 (aheadZ tr k)
theorem ahV_step {tr : List (Nat × Int)} {n k : Nat} {w : World} {b : Nat} {t : TypeId} (a : Int) (hr : w.rowIs b t n (ahV tr)) : (w.setCell ⟨b, k, none⟩ (.int .i64 a)).rowIs b t n (ahV (tr ++ [(k, a)])) :=
  (hr.set k (.int .i64 a)).congr (fun j _ => by
    unfold ahV
    rw [aheadZ_snoc]
    by_cases e : j = k
    · subst e; rw [if_pos rfl, if_pos rfl]
    · rw [if_neg e, if_neg e])

/-- What Path's function value keeps: the nodes ahead in block t, boxes z of it, g of the goals, e of the end. -/
structure PathI (n : Nat) (goal : List Bool) (t z g e : Nat) (GA : Option Addr) (gc : Nat) (tr : List (Nat × Int)) (W : World) : Prop where
  row : W.rowIs t 3 n (ahV tr)
  bz : W.heap[z]? = some (.cells #[.slice (some ⟨t, 0, none⟩) n n] 22 (0, 0))
  bg : W.heap[g]? = some (.cells #[.slice GA goal.length gc] 33 (0, 0))
  be : W.heap[e]? = some (.cells #[.int .i64 (endZ goal tr)] 3 (0, 0))
  bl : BL W GA goal

set_option maxHeartbeats 1000000 in
theorem path1_any (n : Nat) (goal : List Bool) (t z g e : Nat) (GA : Option Addr) (gc : Nat) (tr : List (Nat × Int)) (k : Nat) (a : Int) (W : World) (hnl : n ≤ 1000000) (hgl : goal.length ≤ maxLen) (h : PathI n goal t z g e GA gc tr W) (hk : k < n) (hte : t ≠ e) (hze : z ≠ e) (hge : g ≠ e) (htz : t ≠ z) (htg : t ≠ g)
    (hG : 0 < goal.length → ∀ ad, GA = some ad → ad.block ≠ t ∧ ad.block ≠ e) :
    Calls Try.prog 65 #[.int .i64 k, .int .i64 a, .pointer (some ⟨z, 0, none⟩), .pointer (some ⟨g, 0, none⟩), .pointer (some ⟨e, 0, none⟩)] W fun x W' => x = .returned (.bool (goP goal (tr ++ [(k, a)]))) ∧ PathI n goal t z g e GA gc (tr ++ [(k, a)]) W' ∧ Turn (fun q => q = t ∨ q = e) W W' := by
  have c1 := (cell_of_box_l h.bz).1
  have c2 := h.row.cell hk
  have f2 := h.row.frozen k
  have c3 := (cell_of_box_l h.bg).1
  have ⟨c4, f4⟩ := cell_of_box_l h.be
  have H := Lib.hid h
  have hlt := h.row.lt
  have hel := (Array.getElem?_eq_some_iff.1 h.be).1
  generalize ahV tr k = u at c2
  obtain ⟨ez, HEZ⟩ : ∃ ez, Hid (endZ goal tr = ez) := ⟨_, Lib.hid rfl⟩
  rw [HEZ.out] at c4
  obtain ⟨gn, HGN⟩ : ∃ gn, Hid (goal.length = gn) := ⟨_, Lib.hid rfl⟩
  rw [HGN.out] at c3
  have HM : Hid (∀ V, BL V GA goal → Calls Try.prog 57 #[.slice GA gn gc, .int .i64 k] V fun e w' => e = .returned (.bool (goal.getD k false)) ∧ V = w') := Lib.hid (fun V hV => marked_any GA gc gn k goal V HGN.out (by rw [← HGN.out]; exact hgl) (by unfold maxLen; omega) hV)
  obtain ⟨gb, HGB⟩ : ∃ gb, Hid (goal.getD k false = gb) := ⟨_, Lib.hid rfl⟩
  rw [HGB.out] at HM
  have HES : Hid (endZ goal (tr ++ [(k, a)]) = if gb = true then (k : Int) else ez) := Lib.hid (by rw [endZ_snoc, HGB.out, HEZ.out])
  have HGO : Hid (goP goal (tr ++ [(k, a)]) = decide (endZ goal (tr ++ [(k, a)]) = -1)) := Lib.hid (by unfold goP; rw [goalB_end]; simp)
  rw [HGO.out, HES.out]
  clear h hgl
  go_enter Try.func65, Try.ntmps65
  go_wp2_with fail
  have HB1 : Hid (BL (W.setCell ⟨t, k, none⟩ (.int .i64 a)) GA goal) := Lib.hid (fun hn => by
    obtain ⟨b, off, e1, hb, hc⟩ := H.out.bl hn
    refine ⟨b, off, e1, by simpa using hb, fun i hi => ?_⟩
    rw [World.cell?_setCell_other _ _ _ _ (by intro h1; injection h1 with h2 _; exact (hG hn _ e1).1 h2.symm)]
    exact hc i hi)
  refine (HM.out _ HB1.out).mono ?_
  rintro x w2 ⟨rfl, rfl⟩
  have d4 : (W.setCell ⟨t, k, none⟩ (.int .i64 a)).cell? ⟨e, 0, none⟩ = some (.int .i64 ez) := by
    rw [World.cell?_setCell_other _ _ _ _ (by intro h1; injection h1 with h2 _; exact hte h2)]; exact c4
  have HR1 := Lib.hid (ahV_step (k := k) a H.out.row)
  have HZ1 : Hid ((W.setCell ⟨t, k, none⟩ (.int .i64 a)).heap[z]? = _) := Lib.hid ((Below.heap_setCell W ⟨t, k, none⟩ (.int .i64 a) z (fun e => htz e.symm)).trans H.out.bz)
  have HG1 : Hid ((W.setCell ⟨t, k, none⟩ (.int .i64 a)).heap[g]? = _) := Lib.hid ((Below.heap_setCell W ⟨t, k, none⟩ (.int .i64 a) g (fun e => htg e.symm)).trans H.out.bg)
  have HE1 : Hid ((W.setCell ⟨t, k, none⟩ (.int .i64 a)).heap[e]? = some (.cells #[.int .i64 ez] 3 (0, 0))) := Lib.hid ((Below.heap_setCell W ⟨t, k, none⟩ (.int .i64 a) e (fun h => hte h.symm)).trans (by rw [← HEZ.out]; exact H.out.be))
  have HT1 : Hid (Turn (fun q => q = t ∨ q = e) W (W.setCell ⟨t, k, none⟩ (.int .i64 a))) := Lib.hid ((Turn.refl _ _).set _ _ (.inl rfl))
  cases gb with
  | true =>
    have hd : ((k : Int) == -1) = false := by simp
    have HES2 : Hid (endZ goal (tr ++ [(k, a)]) = (k : Int)) := Lib.hid (by rw [HES.out]; rfl)
    go_wp2
    go_ret
    refine ⟨?_, ⟨HR1.out.setOther hte _, (Below.heap_setCell _ ⟨e, 0, none⟩ _ _ hze).trans HZ1.out, (Below.heap_setCell _ ⟨e, 0, none⟩ _ _ hge).trans HG1.out, ?_, fun hn => ?_⟩, HT1.out.set _ _ (.inr rfl)⟩
    · rfl
    · rw [HES2.out]; exact box_set HE1.out _
    · obtain ⟨b, off, e1, hb, hc⟩ := HB1.out hn
      refine ⟨b, off, e1, by simpa using hb, fun i hi => ?_⟩
      rw [World.cell?_setCell_other _ _ _ _ (by intro h1; injection h1 with h2 _; exact (hG hn _ e1).2 h2.symm)]
      exact hc i hi
  | false =>
    have HES2 : Hid (endZ goal (tr ++ [(k, a)]) = ez) := Lib.hid (by rw [HES.out]; rfl)
    go_wp2
    go_ret
    refine ⟨ret_bool rfl, ⟨HR1.out, HZ1.out, HG1.out, ?_, HB1.out⟩, HT1.out⟩
    rw [HES2.out]; exact HE1.out
end Go.Proofs.Ytjgifbcjokeigaa
