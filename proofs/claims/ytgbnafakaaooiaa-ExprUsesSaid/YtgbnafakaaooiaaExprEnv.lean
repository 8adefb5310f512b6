/- The program's values of nodes: entry of numbers and rows, cell, item, what comes of parts, a node's value, Eval. -/
import Derived.Test.YtgbnafakaaooiaaExprVal
namespace Go.Proofs.Ytgbnafakaaooiaa
open Go.ChangeShapes Go.WideShapes Go.ChangeAt Go.RowKit

/-- What an environment says. -/
structure Ev where
  vars : List (List Int)
  lens : List Int
  locals : List Int
  at_ : List (List Int)
  self : Int
/-- An environment as it lies. -/
structure EvX where
  (a1 a2 a3 a4 : Option Addr)
  (n1 c1 n2 c2 n3 c3 n4 c4 : Nat)
  self : Int
@[reducible] def EvX.v (X : EvX) : Value := .agg #[.slice X.a1 X.n1 X.c1, .slice X.a2 X.n2 X.c2, .slice X.a3 X.n3 X.c3, .slice X.a4 X.n4 X.c4, .int .i64 X.self]
/-- A slice of slices of ints at address A (nil let in) reads as rows. -/
def RI (w : World) (A : Option Addr) (rows : List (List Int)) : Prop :=
  0 < rows.length → ∃ b off, A = some ⟨b, off, none⟩ ∧ b < w.heap.size ∧ ∀ i, i < rows.length → ∃ A' c', w.cell? ⟨b, off + i, none⟩ = some (.slice A' (rows.getD i []).length c') ∧ (rows.getD i []).length ≤ 9223372036854775807 ∧ IA w A' (rows.getD i [])
theorem RI.below {w w' : World} {A : Option Addr} {rows : List (List Int)} (h : RI w A rows) (hk : Below w.heap.size w w') : RI w' A rows := fun hn => by
  obtain ⟨b, off, e, hb, hc⟩ := h hn
  refine ⟨b, off, e, Nat.lt_of_lt_of_le hb hk.size, fun i hi => ?_⟩
  obtain ⟨A', c', h1, h2, h3⟩ := hc i hi
  exact ⟨A', c', (hk.cell (p := ⟨b, off + i, none⟩) hb).trans h1, h2, h3.below hk⟩
/-- An environment lies there. -/
structure ER (w : World) (X : EvX) (E : Ev) : Prop where
  l1 : X.n1 = E.vars.length
  l2 : X.n2 = E.lens.length
  l3 : X.n3 = E.locals.length
  l4 : X.n4 = E.at_.length
  self : X.self = E.self
  r1 : RI w X.a1 E.vars
  r2 : IA w X.a2 E.lens
  r3 : IA w X.a3 E.locals
  r4 : RI w X.a4 E.at_
theorem ER.below {w w' : World} {X : EvX} {E : Ev} (h : ER w X E) (k : Below w.heap.size w w') : ER w' X E :=
  ⟨h.l1, h.l2, h.l3, h.l4, h.self, h.r1.below k, h.r2.below k, h.r3.below k, h.r4.below k⟩

/-- The number at a place of cells, or that there is none. -/
def cellV (l : List Int) (n : Int) : Int × Int := if 0 ≤ n ∧ n < l.length then (l.getD n.toNat 0, 0) else (0, 8)
/-- The row at a place of rows, or none. -/
def rowV (rows : List (List Int)) (n : Int) : List Int := if 0 ≤ n ∧ n < rows.length then rows.getD n.toNat [] else []

theorem entryI_yes (A : Option Addr) (c n k : Nat) (l : List Int) (w : World) (hn : n = l.length) (hA : IA w A l) (hk : k < n) :
    Calls Try.prog 54 #[.slice A n c, .int .i64 k] w fun e w' => e = .returned (.tuple #[.int .i64 (l.getD k 0), .bool true]) ∧ Below w.heap.size w w' := by
  obtain ⟨b, o, rfl, hb, hc⟩ := hA (by omega)
  have c1 := hc k (by omega)
  generalize l.getD k 0 = x at *
  clear hc hA hn
  go_enter Try.func54, Try.ntmps54
  go_wp2
  go_ret2
  exact ⟨rfl, by first | exact Below.refl _ _ | exact below_alloc1 _ _⟩
theorem entryI_no (A : Option Addr) (c n : Nat) (k : Int) (w : World) (hk : k < 0 ∨ (n : Int) ≤ k) :
    Calls Try.prog 54 #[.slice A n c, .int .i64 k] w fun e w' => e = .returned (.tuple #[.int .i64 0, .bool false]) ∧ Below w.heap.size w w' := by
  rcases hk with hk | hk
  · go_enter Try.func54, Try.ntmps54
    go_wp2
    go_ret2
    exact ⟨rfl, by first | exact Below.refl _ _ | exact below_alloc1 _ _⟩
  · have hk2 : ¬ k < 0 := by omega
    go_enter Try.func54, Try.ntmps54
    go_wp2
    go_ret2
    exact ⟨rfl, by first | exact Below.refl _ _ | exact below_alloc1 _ _⟩
/-- What entry of rows leaves. -/
def RowE (w : World) (row : List Int) (is : Bool) (e : Ending) (w' : World) : Prop := (∃ A c, e = .returned (.tuple #[.slice A row.length c, .bool is]) ∧ IA w' A row ∧ row.length ≤ 9223372036854775807) ∧ Below w.heap.size w w'
set_option maxRecDepth 20000 in
theorem entryR_any (A : Option Addr) (c n : Nat) (k : Int) (rows : List (List Int)) (w : World) (hn : n = rows.length) (hA : RI w A rows) :
    Calls Try.prog 33 #[.slice A n c, .int .i64 k] w (RowE w (rowV rows k) (decide (0 ≤ k ∧ k < n))) := by
  by_cases h : 0 ≤ k ∧ k < n
  · obtain ⟨j, rfl⟩ : ∃ j : Nat, k = j := ⟨k.toNat, by omega⟩
    have hj : j < n := by omega
    have HR : Hid (rowV rows j = rows.getD j []) := Lib.hid (by unfold rowV; rw [if_pos (by rw [← hn]; exact h), Int.toNat_natCast])
    have HD : Hid (decide (0 ≤ (j : Int) ∧ (j : Int) < n) = true) := Lib.hid (decide_eq_true h)
    rw [HR.out, HD.out]
    obtain ⟨b, o, rfl, hb, hc⟩ := hA (by omega)
    obtain ⟨A', c', c1, hl, hi⟩ := hc j (by omega)
    have HI := Lib.hid hi
    generalize rows.getD j [] = row at *
    clear hc hA hn h hi
    go_enter Try.func33, Try.ntmps33
    go_wp2
    go_ret2
    first
      | exact ⟨⟨A', c', rfl, HI.out, hl⟩, Below.refl _ _⟩
      | exact ⟨⟨A', c', rfl, HI.out.below (below_alloc1 _ _), hl⟩, below_alloc1 _ _⟩
  · have HR : Hid (rowV rows k = []) := Lib.hid (by unfold rowV; rw [if_neg (by rw [← hn]; exact h)])
    have HD : Hid (decide (0 ≤ k ∧ k < (n : Int)) = false) := Lib.hid (decide_eq_false h)
    rw [HR.out, HD.out]
    clear hA hn
    by_cases hk : k < 0
    · clear h
      go_enter Try.func33, Try.ntmps33
      go_wp2
      go_ret2
      first
        | exact ⟨⟨_, _, rfl, IA.nil _ _, Nat.zero_le _⟩, Below.refl _ _⟩
        | exact ⟨⟨_, _, rfl, IA.nil _ _, Nat.zero_le _⟩, below_alloc1 _ _⟩
    · have hk2 : (n : Int) ≤ k := by omega
      clear h
      go_enter Try.func33, Try.ntmps33
      go_wp2
      go_ret2
      first
        | exact ⟨⟨_, _, rfl, IA.nil _ _, Nat.zero_le _⟩, Below.refl _ _⟩
        | exact ⟨⟨_, _, rfl, IA.nil _ _, Nat.zero_le _⟩, below_alloc1 _ _⟩
theorem cell_any (A : Option Addr) (c m : Nat) (n : Int) (l : List Int) (w : World) (hm : m = l.length) (hA : IA w A l) :
    Calls Try.prog 34 #[.slice A m c, .int .i64 n] w (PairP w (cellV l n)) := by
  have HM := Lib.hid hm
  have HA := Lib.hid hA
  clear hm hA
  by_cases h : 0 ≤ n ∧ n < m
  · obtain ⟨k, rfl⟩ : ∃ k : Nat, n = k := ⟨n.toNat, by omega⟩
    obtain ⟨x, HX⟩ : ∃ x, Hid (l.getD k 0 = x) := ⟨_, Lib.hid rfl⟩
    have HE : Hid (cellV l k = (x, 0)) := Lib.hid (by unfold cellV; rw [if_pos (by rw [← HM.out]; exact h), Int.toNat_natCast, HX.out])
    rw [HE.out]
    have hk : k < m := by omega
    clear h
    go_enter Try.func34, Try.ntmps34
    go_wp2_with fail
    refine (entryI_yes A c m k l w HM.out HA.out hk).mono ?_
    rintro e w1 ⟨rfl, hb⟩
    rw [HX.out]
    have HB := Lib.hid hb
    clear hb
    go_wp2_with fail
    refine (had_any _ _ _ _).mono ?_
    rintro e w' ⟨rfl, rfl⟩
    go_wp2
    go_ret2
    exact ⟨rfl, HB.out⟩
  · have HE : Hid (cellV l n = (0, 8)) := Lib.hid (by unfold cellV; rw [if_neg (by rw [← HM.out]; exact h)])
    rw [HE.out]
    have HH := Lib.hid h
    clear h
    go_enter Try.func34, Try.ntmps34
    go_wp2_with fail
    refine (entryI_no A c m n w (by have := HH.out; omega)).mono ?_
    rintro e w1 ⟨rfl, hb⟩
    have HB := Lib.hid hb
    clear hb
    go_wp2_with fail
    refine (had_any _ _ _ _).mono ?_
    rintro e w' ⟨rfl, rfl⟩
    go_wp2
    go_ret2
    exact ⟨rfl, HB.out⟩

/-- The cell of a variable that is an element's. -/
def itemV (rows : List (List Int)) (n x : Int) : Int × Int :=
  if 0 ≤ n ∧ n < rows.length then (if 1 ≤ x ∧ x ≤ (rows.getD n.toNat []).length then ((rows.getD n.toNat []).getD (x - 1).toNat 0, 0) else (0, 10)) else (0, 8)
set_option maxRecDepth 20000 in
set_option maxHeartbeats 1000000 in
theorem envItem_any (X : EvX) (rows : List (List Int)) (n x : Int) (w : World) (hm : X.n1 = rows.length) (hA : RI w X.a1 rows) :
    Calls Try.prog 35 #[X.v, .int .i64 n, .int .i64 x] w (PairP w (itemV rows n x)) := by
  have HM := Lib.hid hm
  have HA := Lib.hid hA
  clear hm hA
  by_cases h : 0 ≤ n ∧ n < X.n1
  · obtain ⟨k, rfl⟩ : ∃ k : Nat, n = k := ⟨n.toNat, by omega⟩
    have HR : Hid (rowV rows k = rows.getD k []) := Lib.hid (by unfold rowV; rw [if_pos (by rw [← HM.out]; exact h), Int.toNat_natCast])
    have HD : Hid (decide (0 ≤ (k : Int) ∧ (k : Int) < X.n1) = true) := Lib.hid (decide_eq_true h)
    have HE : Hid (itemV rows k x = if 1 ≤ x ∧ x ≤ (rows.getD k []).length then ((rows.getD k []).getD (x - 1).toNat 0, 0) else (0, 10)) := Lib.hid (by unfold itemV; rw [if_pos (by rw [← HM.out]; exact h), Int.toNat_natCast])
    clear h
    by_cases hx : 1 ≤ x ∧ x ≤ (rows.getD k []).length
    · have HE2 := Lib.hid (HE.out.trans (if_pos hx))
      rw [HE2.out]
      obtain ⟨j, hj⟩ : ∃ j : Nat, x = (j : Int) + 1 := ⟨(x - 1).toNat, by omega⟩
      subst hj
      have hjl : j < (rows.getD k []).length := by omega
      rw [show ((j : Int) + 1 - 1).toNat = j by omega]
      generalize rows.getD k [] = row at *
      obtain ⟨y, HY⟩ : ∃ y, Hid (row.getD j 0 = y) := ⟨_, Lib.hid rfl⟩
      rw [HY.out]
      clear HE HE2
      have HF : Hid (fitB ((j : Int) + 1) 1 row.length = true) := Lib.hid (decide_eq_true (by omega))
      clear hx
      unfold EvX.v
      go_enter Try.func35, Try.ntmps35
      go_wp2_with fail
      refine (entryR_any X.a1 X.c1 X.n1 k rows _ HM.out (HA.out.below (below_alloc1 _ _))).mono ?_
      rw [HR.out, HD.out]
      rintro e w1 ⟨⟨A', c', rfl, hi, hrl⟩, hb⟩
      have HB : Hid (Below w.heap.size w w1) := Lib.hid (bthen (below_alloc1 _ _) hb)
      obtain ⟨b, o, rfl, hb', hc⟩ := hi (by omega)
      have c1 := hc j hjl
      rw [HY.out] at c1
      clear hi hb hc
      go_wp2_with fail
      refine (fits_any _ _ _ _).mono ?_
      rintro e w' ⟨rfl, rfl⟩
      rw [HF.out]
      go_wp2
      go_ret2
      exact ⟨rfl, HB.out⟩
    · have HE2 := Lib.hid (HE.out.trans (if_neg hx))
      rw [HE2.out]
      clear HE HE2
      generalize rows.getD k [] = row at *
      have HF : Hid (fitB x 1 row.length = false) := Lib.hid (decide_eq_false (by omega))
      clear hx
      unfold EvX.v
      go_enter Try.func35, Try.ntmps35
      go_wp2_with fail
      refine (entryR_any X.a1 X.c1 X.n1 k rows _ HM.out (HA.out.below (below_alloc1 _ _))).mono ?_
      rw [HR.out, HD.out]
      rintro e w1 ⟨⟨A', c', rfl, hi, hrl⟩, hb⟩
      have HB : Hid (Below w.heap.size w w1) := Lib.hid (bthen (below_alloc1 _ _) hb)
      clear hi hb
      go_wp2_with fail
      refine (fits_any _ _ _ _).mono ?_
      rintro e w' ⟨rfl, rfl⟩
      rw [HF.out]
      go_wp2
      go_ret2
      exact ⟨rfl, HB.out⟩
  · have HR : Hid (rowV rows n = []) := Lib.hid (by unfold rowV; rw [if_neg (by rw [← HM.out]; exact h)])
    have HD : Hid (decide (0 ≤ n ∧ n < (X.n1 : Int)) = false) := Lib.hid (decide_eq_false h)
    have HE : Hid (itemV rows n x = (0, 8)) := Lib.hid (by unfold itemV; rw [if_neg (by rw [← HM.out]; exact h)])
    rw [HE.out]
    clear h
    unfold EvX.v
    go_enter Try.func35, Try.ntmps35
    go_wp2_with fail
    refine (entryR_any X.a1 X.c1 X.n1 n rows _ HM.out (HA.out.below (below_alloc1 _ _))).mono ?_
    rw [HR.out, HD.out]
    rintro e w1 ⟨⟨A', c', rfl, hi, hrl⟩, hb⟩
    have HB : Hid (Below w.heap.size w w1) := Lib.hid (bthen (below_alloc1 _ _) hb)
    clear hi hb
    go_wp2
    go_ret2
    exact ⟨rfl, HB.out⟩
end Go.Proofs.Ytgbnafakaaooiaa
