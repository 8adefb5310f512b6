/- The program's Eval: of any nodes with anything that they may speak of. -/
import Derived.Test.YtgbnafakaaooiaaExprDone
import Derived.Shelf.Abstract
namespace Go.Proofs.Ytgbnafakaaooiaa
open Go.ChangeShapes Go.WideShapes Go.ChangeAt Go.RowKit

set_option maxRecDepth 20000 in
set_option maxHeartbeats 4000000 in
theorem value_op (X : EvX) (E : Ev) (op n t p1 p2 : Int) (fv : Value) (B : Nat) (A : Option Addr) (c m : Nat) (ps : List Int) (w : World) (hop : 9 ≤ op ∧ op ≤ 19) (hm : m = ps.length) (hA : IA w A ps) (h12 : m = 1 ∨ m = 2) (hf : OpF w B op fv) :
    Calls Try.prog 18 #[X.v, .agg #[.int .i64 op, .int .i64 n], .agg #[.int .i64 t, .int .i64 p1, .int .i64 p2, fv], .slice A m c] w (PairP w (nodeV E (op, n) ps)) := by
  have HM := Lib.hid hm
  have HA := Lib.hid hA
  obtain ⟨a, b, HE⟩ : ∃ a b, Hid (doneV op ps = (a, b)) := ⟨_, _, Lib.hid rfl⟩
  have HP : Hid (nodeV E (op, n) ps = (a, b)) := Lib.hid (by
    unfold nodeV
    rw [if_neg (by show ¬ op = 1; omega), if_neg (by show ¬ op = 2; omega), if_neg (by show ¬ op = 3; omega), if_neg (by show ¬ op = 4; omega), if_neg (by show ¬ op = 5; omega), if_neg (by show ¬ op = 6; omega), if_neg (by show ¬ op = 7; omega), if_neg (by show ¬ op = 8; omega)]
    exact HE.out)
  have HC := Lib.hid (fun (W : World) (hW : Below w.heap.size w W) => done_any op t p1 p2 fv B A c m ps W hop (hf.keep hW.size (fun p _ hp => hW.cell hp)) HM.out (HA.out.below hW) h12)
  obtain ⟨g, lb, rfl⟩ := hf.form.resolve_left (fun e => by
    rcases hf with ⟨h, _⟩ | ⟨_, h⟩ | ⟨_, h⟩ | ⟨_, h⟩ | ⟨_, b, h, _⟩
    · omega
    all_goals rw [e] at h; cases h)
  have k1 : ¬ op = 1 := by omega
  have k2 : ¬ op = 2 := by omega
  have k3 : ¬ op = 3 := by omega
  have k4 : ¬ op = 4 := by omega
  have k5 : ¬ op = 5 := by omega
  have k6 : ¬ op = 6 := by omega
  have k7 : ¬ op = 7 := by omega
  have k8 : ¬ op = 8 := by omega
  clear hm hA hf h12
  unfold EvX.v
  go_enter Try.func18, Try.ntmps18
  go_wp2_with fail
  refine (HC.out _ (below3 _ _ _ _)).mono ?_
  rintro e w1 ⟨rfl, hb1⟩
  rw [HE.out]
  have HB1 : Hid (Below w.heap.size w w1) := Lib.hid (bthen (below3 w _ _ _) hb1)
  clear hb1
  go_wp2
  go_ret2
  exact ⟨by rw [HP.out]; rfl, HB1.out⟩

/-- An environment in a box. -/
def BxE (w : World) (b : Nat) (X : EvX) : Prop := (w.cell? ⟨b, 0, none⟩ = some (.slice X.a1 X.n1 X.c1) ∧ w.cell? ⟨b, 1, none⟩ = some (.slice X.a2 X.n2 X.c2) ∧ w.cell? ⟨b, 2, none⟩ = some (.slice X.a3 X.n3 X.c3) ∧
  w.cell? ⟨b, 3, none⟩ = some (.slice X.a4 X.n4 X.c4) ∧ w.cell? ⟨b, 4, none⟩ = some (.int .i64 X.self)) ∧ b < w.heap.size
theorem BxE.new (w : World) (X : EvX) (t : TypeId) : BxE (w.alloc (.cells #[.slice X.a1 X.n1 X.c1, .slice X.a2 X.n2 X.c2, .slice X.a3 X.n3 X.c3, .slice X.a4 X.n4 X.c4, .int .i64 X.self] t)) w.heap.size X :=
  ⟨⟨World.cell?_alloc_at _ _ _ _ rfl, World.cell?_alloc_at _ _ _ _ rfl, World.cell?_alloc_at _ _ _ _ rfl, World.cell?_alloc_at _ _ _ _ rfl, World.cell?_alloc_at _ _ _ _ rfl⟩, by simp⟩
theorem BxE.below {w w' : World} {b : Nat} {X : EvX} (h : BxE w b X) (k : Below w.heap.size w w') : BxE w' b X := by
  obtain ⟨⟨c0, c1, c2, c3, c4⟩, hb⟩ := h
  exact ⟨⟨(k.cell (p := ⟨b, 0, none⟩) hb).trans c0, (k.cell (p := ⟨b, 1, none⟩) hb).trans c1, (k.cell (p := ⟨b, 2, none⟩) hb).trans c2, (k.cell (p := ⟨b, 3, none⟩) hb).trans c3, (k.cell (p := ⟨b, 4, none⟩) hb).trans c4⟩, Nat.lt_of_lt_of_le hb k.size⟩

set_option maxRecDepth 20000 in
set_option maxHeartbeats 4000000 in
theorem value_item (X : EvX) (E : Ev) (n t p1 p2 : Int) (fv : Value) (A : Option Addr) (c m : Nat) (ps : List Int) (w : World) (h : ER w X E) (hm : m = ps.length) (hA : IA w A ps) (h1 : 0 < m) (hf : fv = .nilFunc) :
    Calls Try.prog 18 #[X.v, .agg #[.int .i64 3, .int .i64 n], .agg #[.int .i64 t, .int .i64 p1, .int .i64 p2, fv], .slice A m c] w (PairP w (nodeV E (3, n) ps)) := by
  subst hf
  have HS := Lib.hid h
  obtain ⟨ba, oa, rfl, hba, hca⟩ := hA (by omega)
  have hc0 := hca 0 (by omega)
  rw [Nat.add_zero] at hc0
  obtain ⟨ix, HIX⟩ : ∃ ix, Hid (ps.getD 0 0 = ix) := ⟨_, Lib.hid rfl⟩
  rw [HIX.out] at hc0
  obtain ⟨a, b, HE⟩ : ∃ a b, Hid (itemV E.vars n ix = (a, b)) := ⟨_, _, Lib.hid rfl⟩
  have HP : Hid (nodeV E (3, n) ps = (a, b)) := Lib.hid (by unfold nodeV; rw [HIX.out]; exact HE.out)
  rw [HP.out]
  have HC0 := Lib.hid hc0
  clear h hca hc0 hA
  clear hm
  unfold EvX.v
  go_enter Try.func18, Try.ntmps18
  go_wp2_with fail
  obtain ⟨w3, HW3, HX3, HN3, HB3, hz1, hz2⟩ : ∃ w3, w3 = ((w.alloc (.cells #[.slice X.a1 X.n1 X.c1, .slice X.a2 X.n2 X.c2, .slice X.a3 X.n3 X.c3, .slice X.a4 X.n4 X.c4, .int .i64 X.self] 51)).alloc (.cells #[.int .i64 3, .int .i64 n] 28)).alloc (.cells #[.int .i64 t, .int .i64 p1, .int .i64 p2, .nilFunc] 59) ∧
      BxE w3 w.heap.size X ∧ w3.cell? ⟨w.heap.size + 1, 1, none⟩ = some (.int .i64 n) ∧ Below w.heap.size w w3 ∧ w.heap.size < w3.heap.size ∧ w.heap.size + 1 < w3.heap.size :=
    ⟨_, rfl, ((BxE.new w X _).below (below_alloc1 _ _)).below (below_alloc1 _ _), (World.cell?_alloc_past _ _ _ (by simp)).trans (World.cell?_alloc_at _ _ _ _ (by simp)), bthen (bthen (below_alloc1 _ _) (below_alloc1 _ _)) (below_alloc1 _ _), by simp; omega, by simp⟩
  rw [← HW3]
  clear HW3
  have HB3' := Lib.hid HB3
  have hc0 : w3.cell? ⟨ba, oa, none⟩ = some (.int .i64 ix) := (HB3.cell (p := ⟨ba, oa, none⟩) hba).trans HC0.out
  have hbz : ba < w3.heap.size := Nat.lt_of_lt_of_le hba HB3.size
  obtain ⟨⟨x0, x1, x2, x3, x4⟩, _⟩ := HX3
  clear HB3
  have HCALL := Lib.hid (envItem_any X E.vars n ix w3.drew HS.out.l1 (HS.out.r1.below HB3'.out.drew))
  generalize hbx : w.heap.size = bx at *
  have HBX := Lib.hid hbx
  clear hbx
  go_region_held3 (fun w' => w'.cell? ⟨bx, 0, none⟩ = some (.slice X.a1 X.n1 X.c1) ∧ w'.cell? ⟨bx, 1, none⟩ = some (.slice X.a2 X.n2 X.c2) ∧ w'.cell? ⟨bx, 2, none⟩ = some (.slice X.a3 X.n3 X.c3) ∧ w'.cell? ⟨bx, 3, none⟩ = some (.slice X.a4 X.n4 X.c4) ∧
      w'.cell? ⟨bx, 4, none⟩ = some (.int .i64 X.self) ∧ w'.cell? ⟨bx + 1, 1, none⟩ = some (.int .i64 n) ∧ w'.cell? ⟨ba, oa, none⟩ = some (.int .i64 ix))
    (first | exact ⟨x0, x1, x2, x3, x4, HN3, hc0⟩ | exact ⟨g0, g1, g2, g3, g4, g6, g7⟩ | go_keep)
    ((go_at_call 35; refine HCALL.out.mono ?_; rintro e w4 ⟨rfl, hb4⟩; rw [HE.out]; have g0 := (hb4.cell (p := ⟨bx, 0, none⟩) hz1).trans x0; have g1 := (hb4.cell (p := ⟨bx, 1, none⟩) hz1).trans x1; have g2 := (hb4.cell (p := ⟨bx, 2, none⟩) hz1).trans x2; have g3 := (hb4.cell (p := ⟨bx, 3, none⟩) hz1).trans x3; have g4 := (hb4.cell (p := ⟨bx, 4, none⟩) hz1).trans x4; have g6 := (hb4.cell (p := ⟨bx + 1, 1, none⟩) hz2).trans HN3; have g7 := (hb4.cell (p := ⟨ba, oa, none⟩) hbz).trans hc0; have HB4 := Lib.hid hb4; clear hb4))
  go_wp2
  go_ret2
  refine ⟨rfl, ?_⟩
  rw [HBX.out]
  exact HB3'.out.drew.trans (HB4.out.mono (by have := HB3'.out.size; have := HBX.out; show bx ≤ w3.heap.size; omega))
theorem takes_le {op : Int} (h : 0 < takesZ op) : op ≤ 19 := by
  unfold takesZ at h
  split at h
  · omega
  · split at h
    · omega
    · split at h <;> omega
/-- A node's value, by what operationOf hands back. -/
theorem value_node (X : EvX) (E : Ev) (op n : Int) (ov : Value) (B0 : Nat) (A : Option Addr) (c m : Nat) (ps : List Int) (w : World) (h : ER w X E) (hv : OpV w B0 op ov) (hn : -9223372036854775808 ≤ n ∧ n ≤ 9223372036854775807) (ht : (m : Int) = takesZ op) (hm : m = ps.length) (hA : IA w A ps) :
    Calls Try.prog 18 #[X.v, .agg #[.int .i64 op, .int .i64 n], ov, .slice A m c] w (PairP w (nodeV E (op, n) ps)) := by
  obtain ⟨fv, rfl, hf⟩ := hv
  have hr := takesZ_range op
  by_cases h0 : takesZ op = 0
  · have hl := takes_leaf h0
    exact value_leaf X E op n _ _ _ fv A c m ps w h hl hn (hf.nil_ (by omega))
  · rcases takes_pos (op := op) (by omega) with rfl | h9
    · exact value_item X E n _ _ _ fv A c m ps w h hm hA (by omega) (hf.nil_ (by omega))
    · exact value_op X E op n _ _ _ fv B0 A c m ps w ⟨h9, takes_le (by omega)⟩ hm hA (by omega) hf

/-- The value of nodes, or why it cannot be had. -/
def evalF (E : Ev) (e : List (Int × Int)) : Int × Int := if 24 < e.length then (0, 5) else runF (fun _ => nodeV E) 12 0 e []

theorem eval_any (X : EvX) (E : Ev) (e : List (Int × Int)) (A : Option Addr) (c m : Nat) (w : World) (h : ER w X E) (hm : m = e.length) (hA : PA w A e) (hN : N64 e) :
    Calls Try.prog 9 #[.slice A m c, X.v] w (PairP w (evalF E e)) := by
  have hmf : ∀ (fn : Fn) (first cap : Array Value) (w : World), (Instr.makeFunc fn first cap).run Try.prog w = .ok (.func fn first cap) w := fun _ _ _ _ => rfl
  have HM := Lib.hid hm
  have HA := Lib.hid hA
  have HN := Lib.hid hN
  have HS := Lib.hid h
  obtain ⟨r1, r2, HR⟩ : ∃ r1 r2, Hid (evalF E e = (r1, r2)) := ⟨_, _, Lib.hid rfl⟩
  rw [HR.out]
  clear hm hA hN h
  unfold EvX.v
  go_enter Try.func9, Try.ntmps9
  go_wp2_with fail
  refine (bounded_any 18 X.v (nodeV E) e A c m _ HM.out (HA.out.below (below_alloc1 _ _)) (enters_of Try.func18 (by kernel_rfl) rfl) ?_).mono ?_
  · intro k W ov B0 B q d ps hk hW hov hq hps hIA
    exact value_node X E _ _ ov B0 B d q ps W (HS.out.below (bthen (below_alloc1 _ _) hW)) hov (HN.out.at_ k) hq hps hIA
  · rintro x w3 ⟨rfl, hb⟩
    have HB3 : Hid (Below w.heap.size w w3) := Lib.hid (bthen (below_alloc1 _ _) hb)
    have HR2 : Hid ((if 24 < e.length then ((0 : Int), (5 : Int)) else runF (fun _ => nodeV E) 12 0 e []) = (r1, r2)) := Lib.hid HR.out
    rw [HR2.out]
    clear hb
    go_wp2
    go_ret2
    exact ⟨rfl, HB3.out⟩
end Go.Proofs.Ytgbnafakaaooiaa
