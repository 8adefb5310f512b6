/- The program's Kind: of any nodes in any scope. -/
import Derived.Test.YtgbnafakaaooiaaExprItem
import Derived.Shelf.Abstract
namespace Go.Proofs.Ytgbnafakaaooiaa
open Go.ChangeShapes Go.WideShapes Go.ChangeAt Go.RowKit

/-- All numbers of nodes are ints of 64 bits. -/
def N64 (e : List (Int × Int)) : Prop := ∀ z ∈ e, -9223372036854775808 ≤ z.2 ∧ z.2 ≤ 9223372036854775807
theorem N64.at_ {e : List (Int × Int)} (h : N64 e) (k : Nat) : -9223372036854775808 ≤ (e.getD k (0, 0)).2 ∧ (e.getD k (0, 0)).2 ≤ 9223372036854775807 := by
  by_cases hi : k < e.length
  · have q : e.getD k (0, 0) = e[k] := by simp [List.getD, hi]
    rw [q]; exact h _ (List.getElem_mem hi)
  · have q : e.getD k (0, 0) = (0, 0) := by simp [List.getD, List.getElem?_eq_none (show e.length ≤ k by omega)]
    rw [q]; simp

theorem takes_leaf {op : Int} (h : takesZ op = 0) : 1 ≤ op ∧ op ≤ 8 ∧ op ≠ 3 := by
  unfold takesZ at h
  split at h
  · cases h
  · split at h
    · cases h
    · split at h
      · omega
      · cases h
theorem takes_pos {op : Int} (h : 0 < takesZ op) : op = 3 ∨ 9 ≤ op := by
  unfold takesZ at h
  split at h
  · omega
  · split at h
    · omega
    · split at h <;> omega
theorem OpF.nil_ {w : World} {B : Nat} {op : Int} {fv : Value} (h : OpF w B op fv) (ho : op < 9) : fv = .nilFunc := by
  rcases h with ⟨_, h⟩ | ⟨h, _⟩ | ⟨h, _⟩ | ⟨h, _⟩ | ⟨h, _⟩
  · exact h
  all_goals omega
theorem OpF.fn_ {w : World} {B : Nat} {op : Int} {fv : Value} (h : OpF w B op fv) (ho : 9 ≤ op) : ∃ g lb, fv = .func (.func g) #[] lb := by
  rcases h with ⟨h, _⟩ | ⟨_, h⟩ | ⟨_, h⟩ | ⟨_, h⟩ | ⟨_, b, h, _⟩
  · omega
  all_goals exact ⟨_, _, h⟩

/-- A node's kind, by what operationOf hands back. -/
theorem kind_node (X : ScX) (S : Sc) (op n : Int) (ov : Value) (B0 : Nat) (A : Option Addr) (c m : Nat) (ps : List Int) (w : World) (h : SR w X S) (hv : OpV w B0 op ov) (hn : -9223372036854775808 ≤ n ∧ n ≤ 9223372036854775807) (ht : (m : Int) = takesZ op) (hm : m = ps.length) (hA : IA w A ps) :
    Calls Try.prog 17 #[X.v, .agg #[.int .i64 op, .int .i64 n], ov, .slice A m c] w (PairP w (nodeK S (op, n) ps)) := by
  obtain ⟨fv, rfl, hf⟩ := hv
  have hr := takesZ_range op
  by_cases h0 : takesZ op = 0
  · have hl := takes_leaf h0
    exact kind_leaf X S op n _ _ _ fv A c m ps w h hl hn (hf.nil_ (by omega))
  · rcases takes_pos (op := op) (by omega) with rfl | h9
    · exact kind_item X S n _ _ _ fv A c m ps w h hm hA (by omega) (hf.nil_ (by omega))
    · exact kind_op X S op n _ fv A c m ps w h9 hm hA (by omega) (by omega) (hf.fn_ h9)

set_option maxRecDepth 20000 in
set_option maxHeartbeats 4000000 in
theorem bounded1_any (gf : Nat) (xv : Value) (k b1 b2 ba oa m c q d : Nat) (op n t p1 p2 : Int) (fv : Value) (B : Option Addr) (r : Int × Int) (W : World) (hf : fv = .nilFunc ∨ ∃ g lb, fv = .func (.func g) #[] lb) (hk : k < m)
    (hF : W.cell? ⟨b1, 0, none⟩ = some (.func (.func gf) #[xv] #[])) (hS : W.cell? ⟨b2, 0, none⟩ = some (.slice (some ⟨ba, oa, none⟩) m c)) (hb1 : b1 < W.heap.size) (hb2 : b2 < W.heap.size) (hba : ba < W.heap.size)
    (hC : W.cell? ⟨ba, oa + k * 2, none⟩ = some (.int .i64 op) ∧ W.cell? ⟨ba, oa + k * 2 + 1, none⟩ = some (.int .i64 n)) (eg : ∀ args w, (callFunc gf args).run Try.prog w = .ok (.enter gf args) w)
    (hP : ∀ W', Below W.heap.size W W' → Calls Try.prog gf #[xv, .agg #[.int .i64 op, .int .i64 n], .agg #[.int .i64 t, .int .i64 p1, .int .i64 p2, fv], .slice B q d] W' (PairP W' r)) :
    Calls Try.prog 23 #[.int .i64 k, .agg #[.int .i64 t, .int .i64 p1, .int .i64 p2, fv], .slice B q d, .pointer (some ⟨b1, 0, none⟩), .pointer (some ⟨b2, 0, none⟩)] W (PairP W r) := by
  have HF := Lib.hid hF
  have HS := Lib.hid hS
  have HC := Lib.hid hC
  have HCALL := Lib.hid hP
  obtain ⟨r1, r2⟩ := r
  clear hF hS hC hP
  rcases hf with rfl | ⟨g, lb, rfl⟩
  · go_enter Try.func23, Try.ntmps23
    go_wp2_with fail
    obtain ⟨w1, HW1, d0, d1, d2, d3, HB1, hz1⟩ : ∃ w1, w1 = W.alloc (.cells #[.int .i64 t, .int .i64 p1, .int .i64 p2, .nilFunc] 59) ∧ w1.cell? ⟨W.heap.size, 0, none⟩ = some (.int .i64 t) ∧ w1.cell? ⟨W.heap.size, 1, none⟩ = some (.int .i64 p1) ∧ w1.cell? ⟨W.heap.size, 2, none⟩ = some (.int .i64 p2) ∧ w1.cell? ⟨W.heap.size, 3, none⟩ = some (.nilFunc) ∧
        Below W.heap.size W w1 ∧ W.heap.size < w1.heap.size := ⟨_, rfl, World.cell?_alloc_at _ _ _ _ rfl, World.cell?_alloc_at _ _ _ _ rfl, World.cell?_alloc_at _ _ _ _ rfl, World.cell?_alloc_at _ _ _ _ rfl, below_alloc1 _ _, by simp⟩
    rw [← HW1]
    clear HW1
    have HB1' := Lib.hid HB1
    have c1 : w1.cell? ⟨b1, 0, none⟩ = some (.func (.func gf) #[xv] #[]) := (HB1.cell (p := ⟨b1, 0, none⟩) hb1).trans HF.out
    have c2 : w1.cell? ⟨b2, 0, none⟩ = some (.slice (some ⟨ba, oa, none⟩) m c) := (HB1.cell (p := ⟨b2, 0, none⟩) hb2).trans HS.out
    have c3 : w1.cell? ⟨ba, oa + k * 2, none⟩ = some (.int .i64 op) := (HB1.cell (p := ⟨ba, oa + k * 2, none⟩) hba).trans HC.out.1
    have c4 : w1.cell? ⟨ba, oa + k * 2 + 1, none⟩ = some (.int .i64 n) := (HB1.cell (p := ⟨ba, oa + k * 2 + 1, none⟩) hba).trans HC.out.2
    have z1 : b1 < w1.heap.size := Nat.lt_of_lt_of_le hb1 HB1.size
    have z2 : b2 < w1.heap.size := Nat.lt_of_lt_of_le hb2 HB1.size
    have z3 : ba < w1.heap.size := Nat.lt_of_lt_of_le hba HB1.size
    have HCL := Lib.hid (HCALL.out w1.drew HB1.drew)
    clear HB1
    generalize hbx : W.heap.size = bx at *
    have HBX := Lib.hid hbx
    clear hbx
    go_region_held3 (fun w' => w'.cell? ⟨bx, 0, none⟩ = some (.int .i64 t) ∧ w'.cell? ⟨bx, 1, none⟩ = some (.int .i64 p1) ∧ w'.cell? ⟨bx, 2, none⟩ = some (.int .i64 p2) ∧ w'.cell? ⟨bx, 3, none⟩ = some (.nilFunc) ∧ w'.cell? ⟨b1, 0, none⟩ = some (.func (.func gf) #[xv] #[]) ∧
        w'.cell? ⟨b2, 0, none⟩ = some (.slice (some ⟨ba, oa, none⟩) m c) ∧ w'.cell? ⟨ba, oa + k * 2, none⟩ = some (.int .i64 op) ∧ w'.cell? ⟨ba, oa + k * 2 + 1, none⟩ = some (.int .i64 n))
      (first | exact ⟨d0, d1, d2, d3, c1, c2, c3, c4⟩ | exact ⟨g0, g1, g2, g3, g4, g5, g6, g7⟩ | go_keep)
      ((refine HCL.out.mono ?_; rintro x w4 ⟨rfl, hb4⟩; have g0 := (hb4.cell (p := ⟨bx, 0, none⟩) hz1).trans d0; have g1 := (hb4.cell (p := ⟨bx, 1, none⟩) hz1).trans d1; have g2 := (hb4.cell (p := ⟨bx, 2, none⟩) hz1).trans d2; have g3 := (hb4.cell (p := ⟨bx, 3, none⟩) hz1).trans d3; have g4 := (hb4.cell (p := ⟨b1, 0, none⟩) z1).trans c1; have g5 := (hb4.cell (p := ⟨b2, 0, none⟩) z2).trans c2; have g6 := (hb4.cell (p := ⟨ba, oa + k * 2, none⟩) z3).trans c3; have g7 := (hb4.cell (p := ⟨ba, oa + k * 2 + 1, none⟩) z3).trans c4; have HB4 := Lib.hid hb4; clear hb4))
    go_wp2
    go_ret2
    refine ⟨rfl, ?_⟩
    rw [HBX.out]
    exact HB1'.out.drew.trans (HB4.out.mono (by have := HB1'.out.size; have := HBX.out; show bx ≤ w1.heap.size; omega))
  · go_enter Try.func23, Try.ntmps23
    go_wp2_with fail
    obtain ⟨w1, HW1, d0, d1, d2, d3, HB1, hz1⟩ : ∃ w1, w1 = W.alloc (.cells #[.int .i64 t, .int .i64 p1, .int .i64 p2, .func (.func g) #[] lb] 59) ∧ w1.cell? ⟨W.heap.size, 0, none⟩ = some (.int .i64 t) ∧ w1.cell? ⟨W.heap.size, 1, none⟩ = some (.int .i64 p1) ∧ w1.cell? ⟨W.heap.size, 2, none⟩ = some (.int .i64 p2) ∧ w1.cell? ⟨W.heap.size, 3, none⟩ = some (.func (.func g) #[] lb) ∧
        Below W.heap.size W w1 ∧ W.heap.size < w1.heap.size := ⟨_, rfl, World.cell?_alloc_at _ _ _ _ rfl, World.cell?_alloc_at _ _ _ _ rfl, World.cell?_alloc_at _ _ _ _ rfl, World.cell?_alloc_at _ _ _ _ rfl, below_alloc1 _ _, by simp⟩
    rw [← HW1]
    clear HW1
    have HB1' := Lib.hid HB1
    have c1 : w1.cell? ⟨b1, 0, none⟩ = some (.func (.func gf) #[xv] #[]) := (HB1.cell (p := ⟨b1, 0, none⟩) hb1).trans HF.out
    have c2 : w1.cell? ⟨b2, 0, none⟩ = some (.slice (some ⟨ba, oa, none⟩) m c) := (HB1.cell (p := ⟨b2, 0, none⟩) hb2).trans HS.out
    have c3 : w1.cell? ⟨ba, oa + k * 2, none⟩ = some (.int .i64 op) := (HB1.cell (p := ⟨ba, oa + k * 2, none⟩) hba).trans HC.out.1
    have c4 : w1.cell? ⟨ba, oa + k * 2 + 1, none⟩ = some (.int .i64 n) := (HB1.cell (p := ⟨ba, oa + k * 2 + 1, none⟩) hba).trans HC.out.2
    have z1 : b1 < w1.heap.size := Nat.lt_of_lt_of_le hb1 HB1.size
    have z2 : b2 < w1.heap.size := Nat.lt_of_lt_of_le hb2 HB1.size
    have z3 : ba < w1.heap.size := Nat.lt_of_lt_of_le hba HB1.size
    have HCL := Lib.hid (HCALL.out w1.drew HB1.drew)
    clear HB1
    generalize hbx : W.heap.size = bx at *
    have HBX := Lib.hid hbx
    clear hbx
    go_region_held3 (fun w' => w'.cell? ⟨bx, 0, none⟩ = some (.int .i64 t) ∧ w'.cell? ⟨bx, 1, none⟩ = some (.int .i64 p1) ∧ w'.cell? ⟨bx, 2, none⟩ = some (.int .i64 p2) ∧ w'.cell? ⟨bx, 3, none⟩ = some (.func (.func g) #[] lb) ∧ w'.cell? ⟨b1, 0, none⟩ = some (.func (.func gf) #[xv] #[]) ∧
        w'.cell? ⟨b2, 0, none⟩ = some (.slice (some ⟨ba, oa, none⟩) m c) ∧ w'.cell? ⟨ba, oa + k * 2, none⟩ = some (.int .i64 op) ∧ w'.cell? ⟨ba, oa + k * 2 + 1, none⟩ = some (.int .i64 n))
      (first | exact ⟨d0, d1, d2, d3, c1, c2, c3, c4⟩ | exact ⟨g0, g1, g2, g3, g4, g5, g6, g7⟩ | go_keep)
      ((refine HCL.out.mono ?_; rintro x w4 ⟨rfl, hb4⟩; have g0 := (hb4.cell (p := ⟨bx, 0, none⟩) hz1).trans d0; have g1 := (hb4.cell (p := ⟨bx, 1, none⟩) hz1).trans d1; have g2 := (hb4.cell (p := ⟨bx, 2, none⟩) hz1).trans d2; have g3 := (hb4.cell (p := ⟨bx, 3, none⟩) hz1).trans d3; have g4 := (hb4.cell (p := ⟨b1, 0, none⟩) z1).trans c1; have g5 := (hb4.cell (p := ⟨b2, 0, none⟩) z2).trans c2; have g6 := (hb4.cell (p := ⟨ba, oa + k * 2, none⟩) z3).trans c3; have g7 := (hb4.cell (p := ⟨ba, oa + k * 2 + 1, none⟩) z3).trans c4; have HB4 := Lib.hid hb4; clear hb4))
    go_wp2
    go_ret2
    refine ⟨rfl, ?_⟩
    rw [HBX.out]
    exact HB1'.out.drew.trans (HB4.out.mono (by have := HB1'.out.size; have := HBX.out; show bx ≤ w1.heap.size; omega))

/-- Nodes worked off with a bounded stack, by any function value. -/
theorem bounded_any (gf : Nat) (xv : Value) (f : Int × Int → List Int → Int × Int) (e : List (Int × Int)) (A : Option Addr) (c m : Nat) (w : World) (hm : m = e.length) (hA : PA w A e)
    (eg : ∀ args w, (callFunc gf args).run Try.prog w = .ok (.enter gf args) w)
    (hP : ∀ (k : Nat) (W : World) (ov : Value) (B0 : Nat) (B : Option Addr) (q d : Nat) (ps : List Int), k < e.length → Below w.heap.size w W → OpV W B0 (e.getD k (0, 0)).1 ov → (q : Int) = takesZ (e.getD k (0, 0)).1 → q = ps.length → IA W B ps →
      Calls Try.prog gf #[xv, .agg #[.int .i64 (e.getD k (0, 0)).1, .int .i64 (e.getD k (0, 0)).2], ov, .slice B q d] W (PairP W (f (e.getD k (0, 0)) ps))) :
    Calls Try.prog 16 #[.slice A m c, .func (.func gf) #[xv] #[]] w (PairP w (if 24 < e.length then (0, 5) else runF (fun _ => f) 12 0 e [])) := by
  have hmf : ∀ (fn : Fn) (first cap : Array Value) (w : World), (Instr.makeFunc fn first cap).run Try.prog w = .ok (.func fn first cap) w := fun _ _ _ _ => rfl
  have HM := Lib.hid hm
  have HA := Lib.hid hA
  have HP := Lib.hid hP
  have HEG := Lib.hid eg
  clear hm hA hP eg
  by_cases hl : 24 < m
  · have HE : Hid ((if 24 < e.length then ((0 : Int), (5 : Int)) else runF (fun _ => f) 12 0 e []) = (0, 5)) := Lib.hid (if_pos (by rw [← HM.out]; exact hl))
    rw [HE.out]
    go_enter Try.func16, Try.ntmps16
    go_wp2
    go_ret2
    exact ⟨rfl, bthen (below_alloc1 _ _) (below_alloc1 _ _)⟩
  · have HE : Hid ((if 24 < e.length then ((0 : Int), (5 : Int)) else runF (fun _ => f) 12 0 e []) = runF (fun _ => f) 12 0 e []) := Lib.hid (if_neg (by rw [← HM.out]; exact hl))
    rw [HE.out]
    obtain ⟨r1, r2, HR⟩ : ∃ r1 r2, Hid (runF (fun _ => f) 12 0 e [] = (r1, r2)) := ⟨_, _, Lib.hid rfl⟩
    rw [HR.out]
    go_enter Try.func16, Try.ntmps16
    go_wp2_with fail
    have hB0 : Below w.heap.size w ((w.alloc (.cells #[.slice A m c] 22)).alloc (.cells #[.func (.func gf) #[xv] #[]] 49)) := bthen (below_alloc1 _ _) (below_alloc1 _ _)
    have e1 : ((w.alloc (.cells #[.slice A m c] 22)).alloc (.cells #[.func (.func gf) #[xv] #[]] 49)).cell? ⟨w.heap.size + 1, 0, none⟩ = some (.func (.func gf) #[xv] #[]) := World.cell?_alloc_at _ _ _ _ (by simp)
    have e2 : ((w.alloc (.cells #[.slice A m c] 22)).alloc (.cells #[.func (.func gf) #[xv] #[]] 49)).cell? ⟨w.heap.size, 0, none⟩ = some (.slice A m c) := (World.cell?_alloc_past _ _ _ (by simp)).trans (World.cell?_alloc_at _ _ _ _ rfl)
    have hz : w.heap.size + 1 < ((w.alloc (.cells #[.slice A m c] 22)).alloc (.cells #[.func (.func gf) #[xv] #[]] 49)).heap.size := by simp
    generalize (w.alloc (.cells #[.slice A m c] 22)).alloc (.cells #[.func (.func gf) #[xv] #[]] 49) = w2 at *
    have E1 := Lib.hid e1
    have E2 := Lib.hid e2
    have HB0 := Lib.hid hB0
    clear e1 e2 hB0
    refine (work_any 23 #[.pointer (some ⟨w.heap.size + 1, 0, none⟩), .pointer (some ⟨w.heap.size, 0, none⟩)] (fun _ => False) (fun _ => f) e (fun _ _ _ => True) A c m 12 w2 HM.out (HA.out.below HB0.out) (by omega) (fun _ h => h.elim) (fun _ _ h => h)
      (enters_of Try.func23 (by kernel_rfl) rfl) (fun _ _ _ _ _ _ _ => trivial) ?_ trivial).mono ?_
    · intro k st W ov B q d ps hk _ hT hov hq hps _ _ hIA _
      have hB : Below w2.heap.size w2 W := ⟨hT.os, hT.tape, hT.output, hT.size, fun i hi => hT.block i hi (fun h => h)⟩
      have hBw : Below w.heap.size w W := HB0.out.trans (hB.mono HB0.out.size)
      obtain ⟨fv, rfl, hfv⟩ := hov
      obtain ⟨ba, oa, rfl, hba, hc⟩ := HA.out.below hBw (by omega)
      refine (bounded1_any gf xv k (w.heap.size + 1) w.heap.size ba oa m c q d _ _ _ _ _ fv B (f (e.getD k (0, 0)) ps) W hfv.form (by rw [HM.out]; exact hk) ((hB.cell (p := ⟨w.heap.size + 1, 0, none⟩) hz).trans E1.out) ((hB.cell (p := ⟨w.heap.size, 0, none⟩) (by show w.heap.size < w2.heap.size; omega)).trans E2.out)
        (by have := hB.size; omega) (by have := hB.size; omega) hba (hc k hk) HEG.out ?_).mono ?_
      · intro W' hW'
        refine HP.out k W' _ w2.heap.size B q d ps hk (hBw.trans (hW'.mono hBw.size)) ⟨fv, rfl, hfv.keep hW'.size (fun p _ hp => hW'.cell hp)⟩ hq hps (hIA.below hW')
      · rintro x W' ⟨h1, h2⟩
        exact ⟨h1, fun _ => trivial, Turn.of_below h2⟩
    · rintro x w3 ⟨rfl, _, hT⟩
      have HB3 : Hid (Below w.heap.size w w3) := Lib.hid (HB0.out.trans (Below.mono ⟨hT.os, hT.tape, hT.output, hT.size, fun i hi => hT.block i hi (fun h => h)⟩ HB0.out.size))
      rw [HR.out]
      clear hT hz
      go_wp2
      go_ret2
      exact ⟨rfl, HB3.out⟩

/-- The kind of nodes in a scope, or why they have none. -/
def kindF (S : Sc) (e : List (Int × Int)) : Int × Int := if 24 < e.length then (0, 5) else runF (fun _ => nodeK S) 12 0 e []

theorem kind_any (X : ScX) (S : Sc) (e : List (Int × Int)) (A : Option Addr) (c m : Nat) (w : World) (h : SR w X S) (hm : m = e.length) (hA : PA w A e) (hN : N64 e) :
    Calls Try.prog 8 #[.slice A m c, X.v] w (PairP w (kindF S e)) := by
  have hmf : ∀ (fn : Fn) (first cap : Array Value) (w : World), (Instr.makeFunc fn first cap).run Try.prog w = .ok (.func fn first cap) w := fun _ _ _ _ => rfl
  have HM := Lib.hid hm
  have HA := Lib.hid hA
  have HN := Lib.hid hN
  have HS := Lib.hid h
  obtain ⟨r1, r2, HR⟩ : ∃ r1 r2, Hid (kindF S e = (r1, r2)) := ⟨_, _, Lib.hid rfl⟩
  rw [HR.out]
  clear hm hA hN h
  unfold ScX.v
  go_enter Try.func8, Try.ntmps8
  go_wp2_with fail
  refine (bounded_any 17 X.v (nodeK S) e A c m _ HM.out (HA.out.below (below_alloc1 _ _)) (enters_of Try.func17 (by kernel_rfl) rfl) ?_).mono ?_
  · intro k W ov B0 B q d ps hk hW hov hq hps hIA
    exact kind_node X S _ _ ov B0 B d q ps W (HS.out.below (bthen (below_alloc1 _ _) hW)) hov (HN.out.at_ k) hq hps hIA
  · rintro x w3 ⟨rfl, hb⟩
    have HB3 : Hid (Below w.heap.size w w3) := Lib.hid (bthen (below_alloc1 _ _) hb)
    have HR2 : Hid ((if 24 < e.length then ((0 : Int), (5 : Int)) else runF (fun _ => nodeK S) 12 0 e []) = (r1, r2)) := Lib.hid HR.out
    rw [HR2.out]
    clear hb
    go_wp2
    go_ret2
    exact ⟨rfl, HB3.out⟩
end Go.Proofs.Ytgbnafakaaooiaa
