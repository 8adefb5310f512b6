/- The program's values: what comes of parts, a node's value, Eval. -/
import Derived.Test.YtgbnafakaaooiaaExprEnv
namespace Go.Proofs.Ytgbnafakaaooiaa
open Go.ChangeShapes Go.WideShapes Go.ChangeAt Go.RowKit

/-- What comes of parts of these values. -/
def doneV (op : Int) (ps : List Int) : Int × Int :=
  hadF ((valV op (if 1 < ps.length then ps.getD 0 0 else 0) (ps.getD (ps.length - 1) 0)).getD 0) (valV op (if 1 < ps.length then ps.getD 0 0 else 0) (ps.getD (ps.length - 1) 0)).isSome 10

set_option maxRecDepth 20000 in
set_option maxHeartbeats 2000000 in
theorem done_any (op t p1 p2 : Int) (fv : Value) (B : Nat) (A : Option Addr) (c m : Nat) (ps : List Int) (w : World) (hop : 9 ≤ op ∧ op ≤ 19) (hf : OpF w B op fv) (hm : m = ps.length) (hA : IA w A ps) (h12 : m = 1 ∨ m = 2) :
    Calls Try.prog 36 #[.agg #[.int .i64 t, .int .i64 p1, .int .i64 p2, fv], .slice A m c] w (PairP w (doneV op ps)) := by
  obtain ⟨b, o, rfl, hb, hc⟩ := hA (by omega)
  rcases h12 with h1 | h2
  · obtain ⟨a, rfl⟩ : ∃ a, ps = [a] := by
      match ps, hm.symm.trans h1 with
      | [a], _ => exact ⟨a, rfl⟩
    subst h1
    have c0 : w.cell? ⟨b, o, none⟩ = some (.int .i64 a) := hc 0 (by simp)
    clear hc hm hA
    obtain ⟨g, lb, rfl, eg, hcall⟩ := value_any op 0 a fv B w hop hf
    have HC := Lib.hid hcall
    obtain ⟨r, HR⟩ : ∃ r, Hid (valV op 0 a = r) := ⟨_, Lib.hid rfl⟩
    have HE : Hid (doneV op [a] = hadF (r.getD 0) r.isSome 10) := Lib.hid (by rw [← HR.out]; rfl)
    obtain ⟨r1, r2, HE2⟩ : ∃ r1 r2, Hid (hadF (r.getD 0) r.isSome 10 = (r1, r2)) := ⟨_, _, Lib.hid rfl⟩
    rw [HE.out, HE2.out]
    clear hcall hf
    go_enter Try.func36, Try.ntmps36
    go_wp2
    go_quiet (fail)
    go_wp2_with fail
    refine (HC.out _ (below_drewN (below_alloc1 _ _) _)).mono ?_
    rintro e w1 ⟨rfl, hb1⟩
    rw [HR.out]
    have HB1 : Hid (Below w.heap.size w w1) := Lib.hid ((below_drewN (below_alloc1 w _) _).trans (hb1.mono (by simp)))
    clear hb1
    go_wp2_with fail
    refine (had_any _ _ _ _).mono ?_
    rintro e w' ⟨rfl, rfl⟩
    rw [HE2.out]
    go_wp2
    go_ret2
    exact ⟨rfl, HB1.out⟩
  · obtain ⟨a, a2, rfl⟩ : ∃ a a2, ps = [a, a2] := by
      match ps, hm.symm.trans h2 with
      | [a, a2], _ => exact ⟨a, a2, rfl⟩
    subst h2
    have c0 : w.cell? ⟨b, o, none⟩ = some (.int .i64 a) := hc 0 (by simp)
    have c1 : w.cell? ⟨b, o + 1, none⟩ = some (.int .i64 a2) := hc 1 (by simp)
    clear hc hm hA
    obtain ⟨g, lb, rfl, eg, hcall⟩ := value_any op a a2 fv B w hop hf
    have HC := Lib.hid hcall
    obtain ⟨r, HR⟩ : ∃ r, Hid (valV op a a2 = r) := ⟨_, Lib.hid rfl⟩
    have HE : Hid (doneV op [a, a2] = hadF (r.getD 0) r.isSome 10) := Lib.hid (by rw [← HR.out]; rfl)
    obtain ⟨r1, r2, HE2⟩ : ∃ r1 r2, Hid (hadF (r.getD 0) r.isSome 10 = (r1, r2)) := ⟨_, _, Lib.hid rfl⟩
    rw [HE.out, HE2.out]
    clear hcall hf
    go_enter Try.func36, Try.ntmps36
    go_wp2
    go_quiet (fail)
    go_wp2_with fail
    refine (HC.out _ (below_drewN (below_alloc1 _ _) _)).mono ?_
    rintro e w1 ⟨rfl, hb1⟩
    rw [HR.out]
    have HB1 : Hid (Below w.heap.size w w1) := Lib.hid ((below_drewN (below_alloc1 w _) _).trans (hb1.mono (by simp)))
    clear hb1
    go_wp2_with fail
    refine (had_any _ _ _ _).mono ?_
    rintro e w' ⟨rfl, rfl⟩
    rw [HE2.out]
    go_wp2
    go_ret2
    exact ⟨rfl, HB1.out⟩

/-- The value of a node. -/
def nodeV (E : Ev) (nd : Int × Int) (ps : List Int) : Int × Int :=
  if nd.1 = 1 then hadF nd.2 (fitB nd.2 (-1048576) 1048576) 10
  else if nd.1 = 2 then cellV (rowV E.vars nd.2) 0
  else if nd.1 = 3 then itemV E.vars nd.2 (ps.getD 0 0)
  else if nd.1 = 4 then cellV E.locals nd.2
  else if nd.1 = 5 then (E.self, 0)
  else if nd.1 = 6 then cellV E.lens nd.2
  else if nd.1 = 7 then cellV (rowV E.at_ (nd.2.tdiv 16)) (nd.2.tmod 16)
  else if nd.1 = 8 then (0, 0)
  else doneV nd.1 ps
theorem below3 (w : World) (a b c : Obj) : Below w.heap.size w (((w.alloc a).alloc b).alloc c) := bthen (bthen (below_alloc1 _ _) (below_alloc1 _ _)) (below_alloc1 _ _)

set_option maxRecDepth 20000 in
set_option maxHeartbeats 4000000 in
theorem value_leaf (X : EvX) (E : Ev) (op n t p1 p2 : Int) (fv : Value) (A : Option Addr) (c m : Nat) (ps : List Int) (w : World) (h : ER w X E) (hop : 1 ≤ op ∧ op ≤ 8 ∧ op ≠ 3) (hn : -9223372036854775808 ≤ n ∧ n ≤ 9223372036854775807) (hf : fv = .nilFunc) :
    Calls Try.prog 18 #[X.v, .agg #[.int .i64 op, .int .i64 n], .agg #[.int .i64 t, .int .i64 p1, .int .i64 p2, fv], .slice A m c] w (PairP w (nodeV E (op, n) ps)) := by
  subst hf
  have HS := Lib.hid h
  have HN := Lib.hid hn
  have hc : op = 1 ∨ op = 2 ∨ op = 4 ∨ op = 5 ∨ op = 6 ∨ op = 7 ∨ op = 8 := by omega
  obtain ⟨n1, n2⟩ := hn
  clear h hop
  rcases hc with rfl | rfl | rfl | rfl | rfl | rfl | rfl
  · obtain ⟨a, b, HE⟩ : ∃ a b, Hid (hadF n (fitB n (-1048576) 1048576) 10 = (a, b)) := ⟨_, _, Lib.hid rfl⟩
    have HP : Hid (nodeV E (1, n) ps = (a, b)) := Lib.hid (by unfold nodeV; simp only [HE.out]; rfl)
    unfold EvX.v
    go_enter Try.func18, Try.ntmps18
    go_wp2_with fail
    refine (literal_any n _).mono ?_
    rintro e w' ⟨rfl, rfl⟩
    rw [HE.out]
    go_wp2
    go_ret2
    exact ⟨by rw [HP.out]; rfl, below3 _ _ _ _⟩
  · obtain ⟨a, b, HE⟩ : ∃ a b, Hid (cellV (rowV E.vars n) 0 = (a, b)) := ⟨_, _, Lib.hid rfl⟩
    have HP : Hid (nodeV E (2, n) ps = (a, b)) := Lib.hid (by unfold nodeV; exact HE.out)
    unfold EvX.v
    go_enter Try.func18, Try.ntmps18
    go_wp2_with fail
    refine (entryR_any _ _ _ n E.vars _ HS.out.l1 (HS.out.r1.below (below3 _ _ _ _))).mono ?_
    rintro e w1 ⟨⟨A', c', rfl, hi, hrl⟩, hb⟩
    have HI := Lib.hid hi
    have HB := Lib.hid (bthen (below3 w _ _ _) hb)
    generalize rowV E.vars n = row at *
    clear hi hb
    go_wp2_with fail
    refine (cell_any A' c' _ 0 row _ rfl HI.out).mono ?_
    rintro e w2 ⟨rfl, hb⟩
    rw [HE.out]
    have HB2 := Lib.hid (bthen HB.out hb)
    clear hb
    go_wp2
    go_ret2
    exact ⟨by rw [HP.out]; rfl, HB2.out⟩
  · obtain ⟨a, b, HE⟩ : ∃ a b, Hid (cellV E.locals n = (a, b)) := ⟨_, _, Lib.hid rfl⟩
    have HP : Hid (nodeV E (4, n) ps = (a, b)) := Lib.hid (by unfold nodeV; exact HE.out)
    unfold EvX.v
    go_enter Try.func18, Try.ntmps18
    go_wp2_with fail
    refine (cell_any _ _ _ n E.locals _ HS.out.l3 (HS.out.r3.below (below3 _ _ _ _))).mono ?_
    rintro e w2 ⟨rfl, hb⟩
    rw [HE.out]
    have HB2 := Lib.hid (bthen (below3 w _ _ _) hb)
    clear hb
    go_wp2
    go_ret2
    exact ⟨by rw [HP.out]; rfl, HB2.out⟩
  · have HP : Hid (nodeV E (5, n) ps = (X.self, 0)) := Lib.hid (by rw [HS.out.self]; rfl)
    unfold EvX.v
    go_enter Try.func18, Try.ntmps18
    go_wp2
    go_ret2
    exact ⟨by rw [HP.out]; rfl, below3 _ _ _ _⟩
  · obtain ⟨a, b, HE⟩ : ∃ a b, Hid (cellV E.lens n = (a, b)) := ⟨_, _, Lib.hid rfl⟩
    have HP : Hid (nodeV E (6, n) ps = (a, b)) := Lib.hid (by unfold nodeV; exact HE.out)
    unfold EvX.v
    go_enter Try.func18, Try.ntmps18
    go_wp2_with fail
    refine (cell_any _ _ _ n E.lens _ HS.out.l2 (HS.out.r2.below (below3 _ _ _ _))).mono ?_
    rintro e w2 ⟨rfl, hb⟩
    rw [HE.out]
    have HB2 := Lib.hid (bthen (below3 w _ _ _) hb)
    clear hb
    go_wp2
    go_ret2
    exact ⟨by rw [HP.out]; rfl, HB2.out⟩
  · have hmain : ∀ (d r : Int), n.tdiv 16 = d → n.tmod 16 = r → nodeV E (7, n) ps = cellV (rowV E.at_ d) r := fun d r h1 h2 => by subst h1 h2; rfl
    by_cases h0 : 0 ≤ n
    · have hd : n.tdiv 16 = n / 16 := Int.tdiv_eq_ediv_of_nonneg h0
      have hr : n.tmod 16 = n % 16 := Int.tmod_eq_emod_of_nonneg h0
      have HP0 := Lib.hid (hmain _ _ hd hr)
      obtain ⟨a, b, HE⟩ : ∃ a b, Hid (cellV (rowV E.at_ (n / 16)) (n % 16) = (a, b)) := ⟨_, _, Lib.hid rfl⟩
      have HP : Hid (nodeV E (7, n) ps = (a, b)) := Lib.hid (HP0.out.trans HE.out)
      clear hmain hd hr HP0
      unfold EvX.v
      go_enter Try.func18, Try.ntmps18
      go_wp2_with fail
      refine (entryR_any _ _ _ (n / 16) E.at_ _ HS.out.l4 (HS.out.r4.below (below3 _ _ _ _))).mono ?_
      rintro e w1 ⟨⟨A', c', rfl, hi, hrl⟩, hb⟩
      have HI := Lib.hid hi
      have HB := Lib.hid (bthen (below3 w _ _ _) hb)
      have e5 : w1.cell? ⟨w.heap.size + 1, 1, none⟩ = some (.int .i64 n) := (hb.cell (p := ⟨w.heap.size + 1, 1, none⟩) (by simp)).trans ((World.cell?_alloc_past _ _ _ (by simp)).trans (World.cell?_alloc_at _ _ _ _ (by simp)))
      generalize rowV E.at_ (n / 16) = row at *
      clear hi hb
      go_wp2_with fail
      refine (cell_any A' c' _ (n % 16) row _ rfl HI.out).mono ?_
      rintro e w2 ⟨rfl, hb⟩
      rw [HE.out]
      have HB2 := Lib.hid (bthen HB.out hb)
      clear hb
      go_wp2
      go_ret2
      exact ⟨by rw [HP.out]; rfl, HB2.out⟩
    · obtain ⟨a, b, HE⟩ : ∃ a b, Hid (cellV (rowV E.at_ (n.tdiv 16)) (n.tmod 16) = (a, b)) := ⟨_, _, Lib.hid rfl⟩
      have HP : Hid (nodeV E (7, n) ps = (a, b)) := Lib.hid ((hmain _ _ rfl rfl).trans HE.out)
      clear hmain
      unfold EvX.v
      go_enter Try.func18, Try.ntmps18
      go_wp2_with fail
      refine (entryR_any _ _ _ (n.tdiv 16) E.at_ _ HS.out.l4 (HS.out.r4.below (below3 _ _ _ _))).mono ?_
      rintro e w1 ⟨⟨A', c', rfl, hi, hrl⟩, hb⟩
      have HI := Lib.hid hi
      have HB := Lib.hid (bthen (below3 w _ _ _) hb)
      have e5 : w1.cell? ⟨w.heap.size + 1, 1, none⟩ = some (.int .i64 n) := (hb.cell (p := ⟨w.heap.size + 1, 1, none⟩) (by simp)).trans ((World.cell?_alloc_past _ _ _ (by simp)).trans (World.cell?_alloc_at _ _ _ _ (by simp)))
      generalize rowV E.at_ (n.tdiv 16) = row at *
      clear hi hb
      go_wp2_with fail
      refine (cell_any A' c' _ (n.tmod 16) row _ rfl HI.out).mono ?_
      rintro e w2 ⟨rfl, hb⟩
      rw [HE.out]
      have HB2 := Lib.hid (bthen HB.out hb)
      clear hb
      go_wp2
      go_ret2
      exact ⟨by rw [HP.out]; rfl, HB2.out⟩
  · unfold EvX.v
    go_enter Try.func18, Try.ntmps18
    go_wp2
    go_ret2
    exact ⟨rfl, below3 _ _ _ _⟩
end Go.Proofs.Ytgbnafakaaooiaa
