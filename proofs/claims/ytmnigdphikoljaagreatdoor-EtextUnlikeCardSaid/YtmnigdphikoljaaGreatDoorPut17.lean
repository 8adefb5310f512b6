/- Contracts that the claim stands on, several texts in one: ExprKindAll, EtWriter. -/
import Derived.Shelf.Abstract
import Derived.Test.YtmnigdphikoljaaGreatDoorPut1
import Derived.Test.YtmnigdphikoljaaGreatDoorPut2
import Derived.Test.YtmnigdphikoljaaGreatDoorPut3
import Derived.Test.YtmnigdphikoljaaGreatDoorPut4
import Derived.Test.YtmnigdphikoljaaGreatDoorPut5
import Derived.Test.YtmnigdphikoljaaGreatDoorPut6
import Derived.Test.YtmnigdphikoljaaGreatDoorPut7
import Derived.Test.YtmnigdphikoljaaGreatDoorPut8
import Derived.Test.YtmnigdphikoljaaGreatDoorPut9
import Derived.Test.YtmnigdphikoljaaGreatDoorPut10
import Derived.Test.YtmnigdphikoljaaGreatDoorPut11
import Derived.Test.YtmnigdphikoljaaGreatDoorPut12
import Derived.Test.YtmnigdphikoljaaGreatDoorPut13
import Derived.Test.YtmnigdphikoljaaGreatDoorPut14
import Derived.Test.YtmnigdphikoljaaGreatDoorPut15
import Derived.Test.YtmnigdphikoljaaGreatDoorPut16
namespace Go.Proofs.YtmnigdphikoljaaGreatDoor
open Go.ChangeShapes Go.WideShapes Go.ChangeAt Go.RowKit

/-- All numbers of nodes are ints of 64 bits. -/
def N64 (e : List (Int × Int)) : Prop := ∀ z ∈ e, -9223372036854775808 ≤ z.2 ∧ z.2 ≤ 9223372036854775807
theorem N64.at_ {e : List (Int × Int)} (h : N64 e) (k : Nat) : -9223372036854775808 ≤ (e.getD k (0, 0)).2 ∧ (e.getD k (0, 0)).2 ≤ 9223372036854775807 := by
  by_cases hi : k < e.length
  · have q : e.getD k (0, 0) = e[k] := by simp [List.getD, hi]
    rw [q]; exact h _ (List.getElem_mem hi)
  · have q : e.getD k (0, 0) = (0, 0) := by simp [List.getD, List.getElem?_eq_none (show e.length ≤ k by omega)]
    rw [q]; simp

theorem takes_leaf {op : Int} (h : takesZ op = 0) : 1 ≤ op ∧ op ≤ 8 ∧ op ≠ 3 := by
  unfold takesZ at h
  split at h
  · cases h
  · split at h
    · cases h
    · split at h
      · omega
      · cases h
theorem takes_pos {op : Int} (h : 0 < takesZ op) : op = 3 ∨ 9 ≤ op := by
  unfold takesZ at h
  split at h
  · omega
  · split at h
    · omega
    · split at h <;> omega
theorem OpF.nil_ {w : World} {B : Nat} {op : Int} {fv : Value} (h : OpF w B op fv) (ho : op < 9) : fv = .nilFunc := by
  rcases h with ⟨_, h⟩ | ⟨h, _⟩ | ⟨h, _⟩ | ⟨h, _⟩ | ⟨h, _⟩
  · exact h
  all_goals omega
theorem OpF.fn_ {w : World} {B : Nat} {op : Int} {fv : Value} (h : OpF w B op fv) (ho : 9 ≤ op) : ∃ g lb, fv = .func (.func g) #[] lb := by
  rcases h with ⟨h, _⟩ | ⟨_, h⟩ | ⟨_, h⟩ | ⟨_, h⟩ | ⟨_, b, h, _⟩
  · omega
  all_goals exact ⟨_, _, h⟩

/-- A node's kind, by what operationOf hands back. -/
theorem kind_node (X : ScX) (S : Sc) (op n : Int) (ov : Value) (B0 : Nat) (A : Option Addr) (c m : Nat) (ps : List Int) (w : World) (h : SR w X S) (hv : OpV w B0 op ov) (hn : -9223372036854775808 ≤ n ∧ n ≤ 9223372036854775807) (ht : (m : Int) = takesZ op) (hm : m = ps.length) (hA : IA w A ps) :
    Calls Tryz.prog 38 #[X.v, .agg #[.int .i64 op, .int .i64 n], ov, .slice A m c] w (PairP w (nodeK S (op, n) ps)) := by
  obtain ⟨fv, rfl, hf⟩ := hv
  have hr := takesZ_range op
  by_cases h0 : takesZ op = 0
  · have hl := takes_leaf h0
    exact kind_leaf X S op n _ _ _ fv A c m ps w h hl hn (hf.nil_ (by omega))
  · rcases takes_pos (op := op) (by omega) with rfl | h9
    · exact kind_item X S n _ _ _ fv A c m ps w h hm hA (by omega) (hf.nil_ (by omega))
    · exact kind_op X S op n _ fv A c m ps w h9 hm hA (by omega) (by omega) (hf.fn_ h9)

set_option maxRecDepth 20000 in
set_option maxHeartbeats 4000000 in
theorem bounded1_any (gf : Nat) (xv : Value) (k b1 b2 ba oa m c q d : Nat) (op n t p1 p2 : Int) (fv : Value) (B : Option Addr) (r : Int × Int) (W : World) (hf : fv = .nilFunc ∨ ∃ g lb, fv = .func (.func g) #[] lb) (hk : k < m)
    (hF : W.cell? ⟨b1, 0, none⟩ = some (.func (.func gf) #[xv] #[])) (hS : W.cell? ⟨b2, 0, none⟩ = some (.slice (some ⟨ba, oa, none⟩) m c)) (hb1 : b1 < W.heap.size) (hb2 : b2 < W.heap.size) (hba : ba < W.heap.size)
    (hC : W.cell? ⟨ba, oa + k * 2, none⟩ = some (.int .i64 op) ∧ W.cell? ⟨ba, oa + k * 2 + 1, none⟩ = some (.int .i64 n)) (eg : ∀ args w, (callFunc gf args).run Tryz.prog w = .ok (.enter gf args) w)
    (hP : ∀ W', Below W.heap.size W W' → Calls Tryz.prog gf #[xv, .agg #[.int .i64 op, .int .i64 n], .agg #[.int .i64 t, .int .i64 p1, .int .i64 p2, fv], .slice B q d] W' (PairP W' r)) :
    Calls Tryz.prog 74 #[.int .i64 k, .agg #[.int .i64 t, .int .i64 p1, .int .i64 p2, fv], .slice B q d, .pointer (some ⟨b1, 0, none⟩), .pointer (some ⟨b2, 0, none⟩)] W (PairP W r) := by
  have HF := Lib.hid hF
  have HS := Lib.hid hS
  have HC := Lib.hid hC
  have HCALL := Lib.hid hP
  obtain ⟨r1, r2⟩ := r
  clear hF hS hC hP
  rcases hf with rfl | ⟨g, lb, rfl⟩
  · go_enter Tryz.func74, Tryz.ntmps74
    go_wp2_with fail
    obtain ⟨w1, HW1, d0, d1, d2, d3, HB1, hz1⟩ : ∃ w1, w1 = W.alloc (.cells #[.int .i64 t, .int .i64 p1, .int .i64 p2, .nilFunc] 90) ∧ w1.cell? ⟨W.heap.size, 0, none⟩ = some (.int .i64 t) ∧ w1.cell? ⟨W.heap.size, 1, none⟩ = some (.int .i64 p1) ∧ w1.cell? ⟨W.heap.size, 2, none⟩ = some (.int .i64 p2) ∧ w1.cell? ⟨W.heap.size, 3, none⟩ = some (.nilFunc) ∧
        Below W.heap.size W w1 ∧ W.heap.size < w1.heap.size := ⟨_, rfl, World.cell?_alloc_at _ _ _ _ rfl, World.cell?_alloc_at _ _ _ _ rfl, World.cell?_alloc_at _ _ _ _ rfl, World.cell?_alloc_at _ _ _ _ rfl, below_alloc1 _ _, by simp⟩
    rw [← HW1]
    clear HW1
    have HB1' := Lib.hid HB1
    have c1 : w1.cell? ⟨b1, 0, none⟩ = some (.func (.func gf) #[xv] #[]) := (HB1.cell (p := ⟨b1, 0, none⟩) hb1).trans HF.out
    have c2 : w1.cell? ⟨b2, 0, none⟩ = some (.slice (some ⟨ba, oa, none⟩) m c) := (HB1.cell (p := ⟨b2, 0, none⟩) hb2).trans HS.out
    have c3 : w1.cell? ⟨ba, oa + k * 2, none⟩ = some (.int .i64 op) := (HB1.cell (p := ⟨ba, oa + k * 2, none⟩) hba).trans HC.out.1
    have c4 : w1.cell? ⟨ba, oa + k * 2 + 1, none⟩ = some (.int .i64 n) := (HB1.cell (p := ⟨ba, oa + k * 2 + 1, none⟩) hba).trans HC.out.2
    have z1 : b1 < w1.heap.size := Nat.lt_of_lt_of_le hb1 HB1.size
    have z2 : b2 < w1.heap.size := Nat.lt_of_lt_of_le hb2 HB1.size
    have z3 : ba < w1.heap.size := Nat.lt_of_lt_of_le hba HB1.size
    have HCL := Lib.hid (HCALL.out w1.drew HB1.drew)
    clear HB1
    generalize hbx : W.heap.size = bx at *
    have HBX := Lib.hid hbx
    clear hbx
    go_region_held3 (fun w' => w'.cell? ⟨bx, 0, none⟩ = some (.int .i64 t) ∧ w'.cell? ⟨bx, 1, none⟩ = some (.int .i64 p1) ∧ w'.cell? ⟨bx, 2, none⟩ = some (.int .i64 p2) ∧ w'.cell? ⟨bx, 3, none⟩ = some (.nilFunc) ∧ w'.cell? ⟨b1, 0, none⟩ = some (.func (.func gf) #[xv] #[]) ∧
        w'.cell? ⟨b2, 0, none⟩ = some (.slice (some ⟨ba, oa, none⟩) m c) ∧ w'.cell? ⟨ba, oa + k * 2, none⟩ = some (.int .i64 op) ∧ w'.cell? ⟨ba, oa + k * 2 + 1, none⟩ = some (.int .i64 n))
      (first | exact ⟨d0, d1, d2, d3, c1, c2, c3, c4⟩ | exact ⟨g0, g1, g2, g3, g4, g5, g6, g7⟩ | go_keep)
      ((refine HCL.out.mono ?_; rintro x w4 ⟨rfl, hb4⟩; have g0 := (hb4.cell (p := ⟨bx, 0, none⟩) hz1).trans d0; have g1 := (hb4.cell (p := ⟨bx, 1, none⟩) hz1).trans d1; have g2 := (hb4.cell (p := ⟨bx, 2, none⟩) hz1).trans d2; have g3 := (hb4.cell (p := ⟨bx, 3, none⟩) hz1).trans d3; have g4 := (hb4.cell (p := ⟨b1, 0, none⟩) z1).trans c1; have g5 := (hb4.cell (p := ⟨b2, 0, none⟩) z2).trans c2; have g6 := (hb4.cell (p := ⟨ba, oa + k * 2, none⟩) z3).trans c3; have g7 := (hb4.cell (p := ⟨ba, oa + k * 2 + 1, none⟩) z3).trans c4; have HB4 := Lib.hid hb4; clear hb4))
    go_wp2
    go_ret2
    refine ⟨rfl, ?_⟩
    rw [HBX.out]
    exact HB1'.out.drew.trans (HB4.out.mono (by have := HB1'.out.size; have := HBX.out; show bx ≤ w1.heap.size; omega))
  · go_enter Tryz.func74, Tryz.ntmps74
    go_wp2_with fail
    obtain ⟨w1, HW1, d0, d1, d2, d3, HB1, hz1⟩ : ∃ w1, w1 = W.alloc (.cells #[.int .i64 t, .int .i64 p1, .int .i64 p2, .func (.func g) #[] lb] 90) ∧ w1.cell? ⟨W.heap.size, 0, none⟩ = some (.int .i64 t) ∧ w1.cell? ⟨W.heap.size, 1, none⟩ = some (.int .i64 p1) ∧ w1.cell? ⟨W.heap.size, 2, none⟩ = some (.int .i64 p2) ∧ w1.cell? ⟨W.heap.size, 3, none⟩ = some (.func (.func g) #[] lb) ∧
        Below W.heap.size W w1 ∧ W.heap.size < w1.heap.size := ⟨_, rfl, World.cell?_alloc_at _ _ _ _ rfl, World.cell?_alloc_at _ _ _ _ rfl, World.cell?_alloc_at _ _ _ _ rfl, World.cell?_alloc_at _ _ _ _ rfl, below_alloc1 _ _, by simp⟩
    rw [← HW1]
    clear HW1
    have HB1' := Lib.hid HB1
    have c1 : w1.cell? ⟨b1, 0, none⟩ = some (.func (.func gf) #[xv] #[]) := (HB1.cell (p := ⟨b1, 0, none⟩) hb1).trans HF.out
    have c2 : w1.cell? ⟨b2, 0, none⟩ = some (.slice (some ⟨ba, oa, none⟩) m c) := (HB1.cell (p := ⟨b2, 0, none⟩) hb2).trans HS.out
    have c3 : w1.cell? ⟨ba, oa + k * 2, none⟩ = some (.int .i64 op) := (HB1.cell (p := ⟨ba, oa + k * 2, none⟩) hba).trans HC.out.1
    have c4 : w1.cell? ⟨ba, oa + k * 2 + 1, none⟩ = some (.int .i64 n) := (HB1.cell (p := ⟨ba, oa + k * 2 + 1, none⟩) hba).trans HC.out.2
    have z1 : b1 < w1.heap.size := Nat.lt_of_lt_of_le hb1 HB1.size
    have z2 : b2 < w1.heap.size := Nat.lt_of_lt_of_le hb2 HB1.size
    have z3 : ba < w1.heap.size := Nat.lt_of_lt_of_le hba HB1.size
    have HCL := Lib.hid (HCALL.out w1.drew HB1.drew)
    clear HB1
    generalize hbx : W.heap.size = bx at *
    have HBX := Lib.hid hbx
    clear hbx
    go_region_held3 (fun w' => w'.cell? ⟨bx, 0, none⟩ = some (.int .i64 t) ∧ w'.cell? ⟨bx, 1, none⟩ = some (.int .i64 p1) ∧ w'.cell? ⟨bx, 2, none⟩ = some (.int .i64 p2) ∧ w'.cell? ⟨bx, 3, none⟩ = some (.func (.func g) #[] lb) ∧ w'.cell? ⟨b1, 0, none⟩ = some (.func (.func gf) #[xv] #[]) ∧
        w'.cell? ⟨b2, 0, none⟩ = some (.slice (some ⟨ba, oa, none⟩) m c) ∧ w'.cell? ⟨ba, oa + k * 2, none⟩ = some (.int .i64 op) ∧ w'.cell? ⟨ba, oa + k * 2 + 1, none⟩ = some (.int .i64 n))
      (first | exact ⟨d0, d1, d2, d3, c1, c2, c3, c4⟩ | exact ⟨g0, g1, g2, g3, g4, g5, g6, g7⟩ | go_keep)
      ((refine HCL.out.mono ?_; rintro x w4 ⟨rfl, hb4⟩; have g0 := (hb4.cell (p := ⟨bx, 0, none⟩) hz1).trans d0; have g1 := (hb4.cell (p := ⟨bx, 1, none⟩) hz1).trans d1; have g2 := (hb4.cell (p := ⟨bx, 2, none⟩) hz1).trans d2; have g3 := (hb4.cell (p := ⟨bx, 3, none⟩) hz1).trans d3; have g4 := (hb4.cell (p := ⟨b1, 0, none⟩) z1).trans c1; have g5 := (hb4.cell (p := ⟨b2, 0, none⟩) z2).trans c2; have g6 := (hb4.cell (p := ⟨ba, oa + k * 2, none⟩) z3).trans c3; have g7 := (hb4.cell (p := ⟨ba, oa + k * 2 + 1, none⟩) z3).trans c4; have HB4 := Lib.hid hb4; clear hb4))
    go_wp2
    go_ret2
    refine ⟨rfl, ?_⟩
    rw [HBX.out]
    exact HB1'.out.drew.trans (HB4.out.mono (by have := HB1'.out.size; have := HBX.out; show bx ≤ w1.heap.size; omega))

/-- Nodes worked off with a bounded stack, by any function value. -/
theorem bounded_any (gf : Nat) (xv : Value) (f : Int × Int → List Int → Int × Int) (e : List (Int × Int)) (A : Option Addr) (c m : Nat) (w : World) (hm : m = e.length) (hA : PA w A e)
    (eg : ∀ args w, (callFunc gf args).run Tryz.prog w = .ok (.enter gf args) w)
    (hP : ∀ (k : Nat) (W : World) (ov : Value) (B0 : Nat) (B : Option Addr) (q d : Nat) (ps : List Int), k < e.length → Below w.heap.size w W → OpV W B0 (e.getD k (0, 0)).1 ov → (q : Int) = takesZ (e.getD k (0, 0)).1 → q = ps.length → IA W B ps →
      Calls Tryz.prog gf #[xv, .agg #[.int .i64 (e.getD k (0, 0)).1, .int .i64 (e.getD k (0, 0)).2], ov, .slice B q d] W (PairP W (f (e.getD k (0, 0)) ps))) :
    Calls Tryz.prog 37 #[.slice A m c, .func (.func gf) #[xv] #[]] w (PairP w (if 24 < e.length then (0, 5) else runF (fun _ => f) 12 0 e [])) := by
  have hmf : ∀ (fn : Fn) (first cap : Array Value) (w : World), (Instr.makeFunc fn first cap).run Tryz.prog w = .ok (.func fn first cap) w := fun _ _ _ _ => rfl
  have HM := Lib.hid hm
  have HA := Lib.hid hA
  have HP := Lib.hid hP
  have HEG := Lib.hid eg
  clear hm hA hP eg
  by_cases hl : 24 < m
  · have HE : Hid ((if 24 < e.length then ((0 : Int), (5 : Int)) else runF (fun _ => f) 12 0 e []) = (0, 5)) := Lib.hid (if_pos (by rw [← HM.out]; exact hl))
    rw [HE.out]
    go_enter Tryz.func37, Tryz.ntmps37
    go_wp2
    go_ret2
    exact ⟨rfl, bthen (below_alloc1 _ _) (below_alloc1 _ _)⟩
  · have HE : Hid ((if 24 < e.length then ((0 : Int), (5 : Int)) else runF (fun _ => f) 12 0 e []) = runF (fun _ => f) 12 0 e []) := Lib.hid (if_neg (by rw [← HM.out]; exact hl))
    rw [HE.out]
    obtain ⟨r1, r2, HR⟩ : ∃ r1 r2, Hid (runF (fun _ => f) 12 0 e [] = (r1, r2)) := ⟨_, _, Lib.hid rfl⟩
    rw [HR.out]
    go_enter Tryz.func37, Tryz.ntmps37
    go_wp2_with fail
    have hB0 : Below w.heap.size w ((w.alloc (.cells #[.slice A m c] 22)).alloc (.cells #[.func (.func gf) #[xv] #[]] 81)) := bthen (below_alloc1 _ _) (below_alloc1 _ _)
    have e1 : ((w.alloc (.cells #[.slice A m c] 22)).alloc (.cells #[.func (.func gf) #[xv] #[]] 81)).cell? ⟨w.heap.size + 1, 0, none⟩ = some (.func (.func gf) #[xv] #[]) := World.cell?_alloc_at _ _ _ _ (by simp)
    have e2 : ((w.alloc (.cells #[.slice A m c] 22)).alloc (.cells #[.func (.func gf) #[xv] #[]] 81)).cell? ⟨w.heap.size, 0, none⟩ = some (.slice A m c) := (World.cell?_alloc_past _ _ _ (by simp)).trans (World.cell?_alloc_at _ _ _ _ rfl)
    have hz : w.heap.size + 1 < ((w.alloc (.cells #[.slice A m c] 22)).alloc (.cells #[.func (.func gf) #[xv] #[]] 81)).heap.size := by simp
    generalize (w.alloc (.cells #[.slice A m c] 22)).alloc (.cells #[.func (.func gf) #[xv] #[]] 81) = w2 at *
    have E1 := Lib.hid e1
    have E2 := Lib.hid e2
    have HB0 := Lib.hid hB0
    clear e1 e2 hB0
    refine (work_any 74 #[.pointer (some ⟨w.heap.size + 1, 0, none⟩), .pointer (some ⟨w.heap.size, 0, none⟩)] (fun _ => False) (fun _ => f) e (fun _ _ _ => True) A c m 12 w2 HM.out (HA.out.below HB0.out) (by omega) (fun _ h => h.elim) (fun _ _ h => h)
      (enters_of Tryz.func74 (by kernel_rfl) rfl) (fun _ _ _ _ _ _ _ => trivial) ?_ trivial).mono ?_
    · intro k st W ov B q d ps hk _ hT hov hq hps _ _ hIA _
      have hB : Below w2.heap.size w2 W := ⟨hT.os, hT.tape, hT.output, hT.size, fun i hi => hT.block i hi (fun h => h)⟩
      have hBw : Below w.heap.size w W := HB0.out.trans (hB.mono HB0.out.size)
      obtain ⟨fv, rfl, hfv⟩ := hov
      obtain ⟨ba, oa, rfl, hba, hc⟩ := HA.out.below hBw (by omega)
      refine (bounded1_any gf xv k (w.heap.size + 1) w.heap.size ba oa m c q d _ _ _ _ _ fv B (f (e.getD k (0, 0)) ps) W hfv.form (by rw [HM.out]; exact hk) ((hB.cell (p := ⟨w.heap.size + 1, 0, none⟩) hz).trans E1.out) ((hB.cell (p := ⟨w.heap.size, 0, none⟩) (by show w.heap.size < w2.heap.size; omega)).trans E2.out)
        (by have := hB.size; omega) (by have := hB.size; omega) hba (hc k hk) HEG.out ?_).mono ?_
      · intro W' hW'
        refine HP.out k W' _ w2.heap.size B q d ps hk (hBw.trans (hW'.mono hBw.size)) ⟨fv, rfl, hfv.keep hW'.size (fun p _ hp => hW'.cell hp)⟩ hq hps (hIA.below hW')
      · rintro x W' ⟨h1, h2⟩
        exact ⟨h1, fun _ => trivial, Turn.of_below h2⟩
    · rintro x w3 ⟨rfl, _, hT⟩
      have HB3 : Hid (Below w.heap.size w w3) := Lib.hid (HB0.out.trans (Below.mono ⟨hT.os, hT.tape, hT.output, hT.size, fun i hi => hT.block i hi (fun h => h)⟩ HB0.out.size))
      rw [HR.out]
      clear hT hz
      go_wp2
      go_ret2
      exact ⟨rfl, HB3.out⟩

/-- The kind of nodes in a scope, or why they have none. -/
def kindF (S : Sc) (e : List (Int × Int)) : Int × Int := if 24 < e.length then (0, 5) else runF (fun _ => nodeK S) 12 0 e []

theorem kind_any (X : ScX) (S : Sc) (e : List (Int × Int)) (A : Option Addr) (c m : Nat) (w : World) (h : SR w X S) (hm : m = e.length) (hA : PA w A e) (hN : N64 e) :
    Calls Tryz.prog 18 #[.slice A m c, X.v] w (PairP w (kindF S e)) := by
  have hmf : ∀ (fn : Fn) (first cap : Array Value) (w : World), (Instr.makeFunc fn first cap).run Tryz.prog w = .ok (.func fn first cap) w := fun _ _ _ _ => rfl
  have HM := Lib.hid hm
  have HA := Lib.hid hA
  have HN := Lib.hid hN
  have HS := Lib.hid h
  obtain ⟨r1, r2, HR⟩ : ∃ r1 r2, Hid (kindF S e = (r1, r2)) := ⟨_, _, Lib.hid rfl⟩
  rw [HR.out]
  clear hm hA hN h
  unfold ScX.v
  go_enter Tryz.func18, Tryz.ntmps18
  go_wp2_with fail
  refine (bounded_any 38 X.v (nodeK S) e A c m _ HM.out (HA.out.below (below_alloc1 _ _)) (enters_of Tryz.func38 (by kernel_rfl) rfl) ?_).mono ?_
  · intro k W ov B0 B q d ps hk hW hov hq hps hIA
    exact kind_node X S _ _ ov B0 B d q ps W (HS.out.below (bthen (below_alloc1 _ _) hW)) hov (HN.out.at_ k) hq hps hIA
  · rintro x w3 ⟨rfl, hb⟩
    have HB3 : Hid (Below w.heap.size w w3) := Lib.hid (bthen (below_alloc1 _ _) hb)
    have HR2 : Hid ((if 24 < e.length then ((0 : Int), (5 : Int)) else runF (fun _ => nodeK S) 12 0 e []) = (r1, r2)) := Lib.hid HR.out
    rw [HR2.out]
    clear hb
    go_wp2
    go_ret2
    exact ⟨rfl, HB3.out⟩
end Go.Proofs.YtmnigdphikoljaaGreatDoor
namespace Go.Proofs.YtmnigdphikoljaaGreatDoor.et
open Go.ChangeShapes Go.WideShapes Go.ChangeAt Go.RowKit Go.Deep

theorem str_add {P : Program} {x y z : ByteArray} (hz : x ++ y = z) (h : x.size + y.size ≤ 9000000000) (W : World) : (Op.stringOp .add x y).run P W = .ok (.string z) W := by
  subst hz
  simp [Op.stringOp]
  omega
set_option maxRecDepth 20000 in
theorem bracketed_any (s : ByteArray) (w : World) (h : s.size ≤ 1000000000) : Calls Tryz.prog 46 #[.string s] w fun e w' => e = .returned (.string (brB s)) ∧ Below w.heap.size w w' := by
  obtain ⟨z1, h1⟩ : ∃ z, (⟨#[40]⟩ : ByteArray) ++ s = z := ⟨_, rfl⟩
  obtain ⟨z2, h2⟩ : ∃ z, z1 ++ (⟨#[41]⟩ : ByteArray) = z := ⟨_, rfl⟩
  have HE : Hid (brB s = z2) := Lib.hid (by unfold brB; rw [h1, h2])
  have hz1 : z1.size = 1 + s.size := by rw [← h1, size_app]; rfl
  have e1 := fun W => str_add (P := Tryz.prog) h1 (by show 1 + s.size ≤ _; omega) W
  have e2 := fun W => str_add (P := Tryz.prog) h2 (by show z1.size + 1 ≤ _; omega) W
  clear h1 h2 hz1
  go_enter Tryz.func46, Tryz.ntmps46
  go_wp2
  go_ret
  exact ⟨by rw [HE.out]; rfl, Below.refl _ _⟩

/-- What a writer holds: nodes, beginnings, a scope. -/
structure Wr where
  (A AB : Option Addr)
  (n c nb cb : Nat)
  X : ScX
  N : Nm
  e : List (Int × Int)
  B : List Int
def Wr.v (F : Wr) : Value := .agg #[.slice F.A F.n F.c, .slice F.AB F.nb F.cb, .slice F.X.a1 F.X.n1 F.X.c1, .slice F.X.a2 F.X.n2 F.X.c2, .slice F.X.a3 F.X.n3 F.X.c3, .slice F.X.a4 F.X.n4 F.X.c4, .slice F.X.a5 F.X.n5 F.X.c5, .int .i64 F.X.self]
structure WrW (F : Wr) (w : World) : Prop where
  n : F.n = F.e.length
  nb : F.nb = F.B.length
  pa : PA w F.A F.e
  ia : IA w F.AB F.B
  nm : NmR w F.X F.N
  tabs : Tabs w
  lb : F.B.length = F.e.length
  ln : F.e.length ≤ 1000000
theorem WrW.below {F : Wr} {w w' : World} (h : WrW F w) (k : Below w.heap.size w w') : WrW F w' := ⟨h.n, h.nb, h.pa.below k, h.ia.below k, h.nm.below k, h.tabs.below k, h.lb, h.ln⟩
/-- A writer in a box. -/
def WB (F : Wr) (w : World) (g : Nat) : Prop := w.heap[g]? = some (.cells #[.slice F.A F.n F.c, .slice F.AB F.nb F.cb, .slice F.X.a1 F.X.n1 F.X.c1, .slice F.X.a2 F.X.n2 F.X.c2, .slice F.X.a3 F.X.n3 F.X.c3, .slice F.X.a4 F.X.n4 F.X.c4, .slice F.X.a5 F.X.n5 F.X.c5, .int .i64 F.X.self] 52 (0, 0))
theorem WB.lt {F : Wr} {w : World} {g : Nat} (h : WB F w g) : g < w.heap.size := (Array.getElem?_eq_some_iff.1 h).1
theorem WB.keep {F : Wr} {w w' : World} {g : Nat} (h : WB F w g) (k : Below w.heap.size w w') : WB F w' g := (k.block _ h.lt).trans h
theorem WB.new (F : Wr) (w : World) : WB F (w.alloc (.cells #[.slice F.A F.n F.c, .slice F.AB F.nb F.cb, .slice F.X.a1 F.X.n1 F.X.c1, .slice F.X.a2 F.X.n2 F.X.c2, .slice F.X.a3 F.X.n3 F.X.c3, .slice F.X.a4 F.X.n4 F.X.c4, .slice F.X.a5 F.X.n5 F.X.c5, .int .i64 F.X.self] 52)) w.heap.size := World.alloc_heap_new w _
theorem WB.c {F : Wr} {w : World} {g : Nat} (h : WB F w g) : w.cell? ⟨g, 0, none⟩ = some (.slice F.A F.n F.c) ∧ w.cell? ⟨g, 1, none⟩ = some (.slice F.AB F.nb F.cb) ∧ w.cell? ⟨g, 2, none⟩ = some (.slice F.X.a1 F.X.n1 F.X.c1) ∧ w.cell? ⟨g, 3, none⟩ = some (.slice F.X.a2 F.X.n2 F.X.c2) ∧ w.cell? ⟨g, 4, none⟩ = some (.slice F.X.a3 F.X.n3 F.X.c3) ∧ w.cell? ⟨g, 5, none⟩ = some (.slice F.X.a4 F.X.n4 F.X.c4) ∧ w.cell? ⟨g, 6, none⟩ = some (.slice F.X.a5 F.X.n5 F.X.c5) ∧ w.cell? ⟨g, 7, none⟩ = some (.int .i64 F.X.self) :=
  ⟨cell_of_heap h rfl, cell_of_heap h rfl, cell_of_heap h rfl, cell_of_heap h rfl, cell_of_heap h rfl, cell_of_heap h rfl, cell_of_heap h rfl, cell_of_heap h rfl⟩
def bndO (o : Option (Int × Nat × ByteArray × Nat)) (least : Nat) (t : ByteArray) : ByteArray := match o with
  | none => t
  | some p => if p.2.1 < least then brB t else t
/-- part writes t at node k. -/
def PartK (F : Wr) (k : Nat) (t : ByteArray) : Prop := ∀ w, WrW F w → Calls Tryz.prog 21 #[F.v, .int .i64 (k : Nat)] w fun e w' => e = .returned (.string t) ∧ Below w.heap.size w w'
set_option maxRecDepth 20000 in
set_option maxHeartbeats 4000000 in
theorem bound_any (F : Wr) (k least : Nat) (t : ByteArray) (nd : Int × Int) (hp : PartK F k t) (hk : k < F.e.length) (hnd : F.e.getD k (0, 0) = nd) (hs : t.size ≤ 1000000000) (w : World) (h : WrW F w) :
    Calls Tryz.prog 47 #[F.v, .int .i64 (k : Nat), .int .i64 (least : Nat)] w fun e w' => e = .returned (.string (bndT nd least t)) ∧ Below w.heap.size w w' := by
  have H := Lib.hid h
  have HP := Lib.hid hp
  have HS := Lib.hid hs
  have hb1 := below_alloc1 w (.cells #[.slice F.A F.n F.c, .slice F.AB F.nb F.cb, .slice F.X.a1 F.X.n1 F.X.c1, .slice F.X.a2 F.X.n2 F.X.c2, .slice F.X.a3 F.X.n3 F.X.c3, .slice F.X.a4 F.X.n4 F.X.c4, .slice F.X.a5 F.X.n5 F.X.c5, .int .i64 F.X.self] 52)
  have H1 := Lib.hid (h.below hb1)
  have HWB := Lib.hid (WB.new F w)
  have HB1 := Lib.hid hb1
  have hkn : (k : Int) < (F.n : Int) := by rw [h.n]; omega
  have hk0 : (0 : Int) ≤ (k : Int) := by omega
  obtain ⟨o, HO⟩ : ∃ o, Hid (pOf nd.1 = o) := ⟨_, Lib.hid rfl⟩
  have HE : Hid (bndT nd least t = bndO o least t) := Lib.hid (by rw [← HO.out]; rfl)
  rw [HE.out]
  clear h hp hs hb1
  unfold Wr.v
  go_enter Tryz.func47, Tryz.ntmps47
  go_upto_region 1 with (fail)
  generalize hgn : w.heap.size = g at *
  generalize w.alloc (.cells #[.slice F.A F.n F.c, .slice F.AB F.nb F.cb, .slice F.X.a1 F.X.n1 F.X.c1, .slice F.X.a2 F.X.n2 F.X.c2, .slice F.X.a3 F.X.n3 F.X.c3, .slice F.X.a4 F.X.n4 F.X.c4, .slice F.X.a5 F.X.n5 F.X.c5, .int .i64 F.X.self] 52) = w1 at *
  obtain ⟨x0, x1, x2, x3, x4, x5, x6, x7⟩ := HWB.out.c
  obtain ⟨ba, oa, hA, hba, hc⟩ := H1.out.pa (by omega)
  obtain ⟨d0, d1⟩ := hc k hk
  rw [hnd] at d0 d1
  rw [hA] at x0
  clear hc hba
  go_wp2_with fail
  refine (pairOf_any nd.1 w1).mono ?_
  rw [HO.out]
  rintro e w2 ⟨rfl, hb2⟩
  have HB2 := Lib.hid (HB1.out.trans (hb2.mono (by have := HB1.out.size; omega)))
  have H2 := Lib.hid (H1.out.below hb2)
  have HWB2 := Lib.hid (HWB.out.keep hb2)
  clear x0 x1 x2 x3 x4 x5 x6 x7 d0 d1
  cases o with
  | none =>
    have HE2 : Hid (bndO none least t = t) := Lib.hid rfl
    have hb3 := below_alloc1 w2 (.cells #[.int .i64 0, .int .i64 0, .string ⟨#[]⟩, .nilFunc] 139)
    have HW := Lib.hid (H2.out.below hb3)
    have HBW : Hid (Below w.heap.size w _) := Lib.hid (by rw [hgn]; exact HB2.out.trans (hb3.mono (by have := HB2.out.size; have := HB1.out.size; omega)))
    have HWB3 := Lib.hid (HWB2.out.keep hb3)
    have hnew := World.alloc_heap_new w2 (.cells #[.int .i64 0, .int .i64 0, .string ⟨#[]⟩, .nilFunc] 139)
    unfold pvC
    dsimp only [Option.isSome]
    go_upto_region 2 with (fail)
    generalize hpn : w2.heap.size = pb at *
    generalize w2.alloc (.cells #[.int .i64 0, .int .i64 0, .string ⟨#[]⟩, .nilFunc] 139) = w3 at *
    obtain ⟨x0, x1, x2, x3, x4, x5, x6, x7⟩ := HWB3.out.c
    rw [hA] at x0
    clear hnew hb3
    rw [← hgn]
    have HPC := HP.out w3 HW.out
    unfold Wr.v at HPC
    rw [hA] at HPC
    have HPC := Lib.hid HPC
    go_wp2_with fail
    refine HPC.out.mono ?_
    rintro e w7 ⟨rfl, hb7⟩
    have HB7 := Lib.hid (bthen HBW.out hb7)
    clear hb7 HPC
    go_wp2
    go_ret
    exact ⟨by rw [HE2.out]; rfl, HB7.out⟩
  | some p =>
    obtain ⟨op, sr, sg, fn⟩ := p
    have hb3 := below_alloc1 w2 (.cells #[.int .i64 op, .int .i64 (sr : Nat), .string sg, .func (.func fn) #[] #[]] 139)
    have HW := Lib.hid (H2.out.below hb3)
    have HBW : Hid (Below w.heap.size w _) := Lib.hid (by rw [hgn]; exact HB2.out.trans (hb3.mono (by have := HB2.out.size; have := HB1.out.size; omega)))
    have HWB3 := Lib.hid (HWB2.out.keep hb3)
    have hnew := World.alloc_heap_new w2 (.cells #[.int .i64 op, .int .i64 (sr : Nat), .string sg, .func (.func fn) #[] #[]] 139)
    unfold pvC
    dsimp only [Option.isSome]
    go_upto_region 2 with (fail)
    generalize hpn : w2.heap.size = pb at *
    generalize w2.alloc (.cells #[.int .i64 op, .int .i64 (sr : Nat), .string sg, .func (.func fn) #[] #[]] 139) = w3 at *
    obtain ⟨x0, x1, x2, x3, x4, x5, x6, x7⟩ := HWB3.out.c
    have y1 : w3.cell? ⟨pb, 1, none⟩ = some (.int .i64 (sr : Nat)) := cell_of_heap hnew rfl
    rw [hA] at x0
    clear hnew hb3
    rw [← hgn]
    by_cases hl : sr < least
    · have HE2 : Hid (bndO (some (op, sr, sg, fn)) least t = brB t) := Lib.hid (if_pos hl)
      have hl2 : (sr : Int) < (least : Int) := by omega
      have HPC := HP.out w3 HW.out
      unfold Wr.v at HPC
      rw [hA] at HPC
      have HPC := Lib.hid HPC
      go_wp2_with fail
      refine HPC.out.mono ?_
      rintro e w7 ⟨rfl, hb7⟩
      have HB7 := Lib.hid (bthen HBW.out hb7)
      clear hb7 HPC
      go_wp2_with fail
      refine (bracketed_any t w7 HS.out).mono ?_
      rintro e w8 ⟨rfl, hb8⟩
      have HB8 := Lib.hid (bthen HB7.out hb8)
      clear hb8
      go_wp2
      go_ret
      exact ⟨by rw [HE2.out]; rfl, HB8.out⟩
    · have HE2 : Hid (bndO (some (op, sr, sg, fn)) least t = t) := Lib.hid (if_neg hl)
      have hl2 : ¬ (sr : Int) < (least : Int) := by omega
      have HPC := HP.out w3 HW.out
      unfold Wr.v at HPC
      rw [hA] at HPC
      have HPC := Lib.hid HPC
      go_wp2_with fail
      refine HPC.out.mono ?_
      rintro e w7 ⟨rfl, hb7⟩
      have HB7 := Lib.hid (bthen HBW.out hb7)
      clear hb7 HPC
      go_wp2
      go_ret
      exact ⟨by rw [HE2.out]; rfl, HB7.out⟩
end Go.Proofs.YtmnigdphikoljaaGreatDoor.et
