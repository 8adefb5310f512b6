/- Contracts of package perm: left and its iterator. -/
import Derived.Test.YtkaddfbnlkmehaaPermOwn
import Derived.Test.YtkaddfbnlkmehaaPermRkPure
import Derived.RangeFuncNested
import Derived.RangeFuncBound
import Derived.RangeFuncCalls
import Derived.RangeFuncLeaves
import Derived.Shelf.Abstract
import Derived.Shelf.RegionOpen
import Derived.OwnWalkIn
import Derived.TacticsInMore
import Derived.LoopNIn
import Derived.LoopIn
namespace Go.Proofs.Ytkaddfbnlkmehaa
open Go.ChangeShapes Go.WideShapes Go.ChangeAt Go.RowKit Go.Shelf

attribute [local go_sem] Oper.semAt_some

/-- The blocks K stay. -/
def KS (K : Nat → Prop) (W W' : World) : Prop := ∀ q, K q → W'.heap[q]? = W.heap[q]?
theorem KS.refl (K : Nat → Prop) (W : World) : KS K W W := fun _ _ => rfl
theorem KS.trans {K : Nat → Prop} {A B C : World} (h : KS K A B) (k : KS K B C) : KS K A C := fun q hq => (k q hq).trans (h q hq)
theorem KS.below {K : Nat → Prop} {B : Nat} {A C : World} (h : Below B A C) (hK : ∀ q, K q → q < B) : KS K A C := fun q hq => h.block q (hK q hq)
theorem KS.drewN {K : Nat → Prop} {A C : World} (j : Nat) (h : KS K (A.drewN j) C) : KS K A C := h
theorem KS.back {K : Nat → Prop} {w : World} (hK : ∀ q, K q → q < w.heap.size) (W : World) (l : Nat) (o o' : Obj) (hl : w.heap.size ≤ l) (_ : W.heap[l]? = some o) (_ : o.isCells = false) (_ : o.isWalk = false) : KS K W (W.putObj l o') :=
  fun q hq => World.putObj_heap_other (fun e => by have := hK q hq; omega)

theorem left_any (p : Option Addr) (n : Int) (w : World) :
    Calls Try.prog 58 #[.pointer p, .int .i64 n] w fun e w' => e = .returned (.func (.func 69) #[] #[.pointer (some ⟨w.heap.size, 0, none⟩), .pointer (some ⟨w.heap.size + 1, 0, none⟩)]) ∧
      w' = (w.alloc (.cells #[.pointer p] 79)).alloc (.cells #[.int .i64 n] 3) := by
  go_enter Try.func58, Try.ntmps58
  go_wp2
  go_ret
  exact ⟨rfl, rfl⟩

theorem sn_no {L : List Int} {m : Nat} (h : (m : Int) ∉ L) : sn L m = .bool false := by unfold sn; rw [decide_eq_false h]
theorem sn_yes {L : List Int} {m : Nat} (h : (m : Int) ∈ L) : sn L m = .bool true := by unfold sn; rw [decide_eq_true h]

theorem Try.slice_stood (s n : Nat) (hn : n ≤ 8) (W' : World) : (Instr.sliceAt 65 (.pointer (some ⟨s, 0, none⟩)) none (some (.int .i64 (n : Int))) none).run Try.prog W' = .ok (.slice (some ⟨s, 0, none⟩) n 8) W' := by
  have ha : Try.prog.arrayLen 65 = 8 := by kernel_rfl
  have he : Try.prog.elem 65 = 4 := by kernel_rfl
  have hu : Try.prog.underlying 65 = some (.array (Try.prog.arrayLen 65) (Try.prog.elem 65)) := by kernel_rfl
  rw [run_sliceAt_array_h W' _ _ hu .i64 n (by omega) (by omega), ha, he]
  simp [go_sem, slicedAt, Addr.add]

set_option maxRecDepth 100000 in
set_option maxHeartbeats 1000000 in
/-- left's iterator, for every loop body that keeps the blocks K. -/
theorem left1_in (K : Nat → Prop) (l Bp Bn s n : Nat) (L : List Int) (hn : n ≤ 8) (J Jx : List Int → World → Prop)
    (hD : ∀ pre W (j : Nat), J pre W → J pre (W.drewN j))
    (hY : ∀ pre x W, J pre W → pre.length < 8 → YieldAt Fence.wide 3 Try.prog l #[(.int .i64 x)] W fun e W' =>
      (e = .returned (.bool true) ∧ J (pre ++ [x]) W' ∧ KS K W W') ∨ (e = .returned (.bool false) ∧ Jx (pre ++ [x]) W'))
    (W : World) (hs : K s) (hBp : W.cell? ⟨Bp, 0, none⟩ = some (.pointer (some ⟨s, 0, none⟩))) (hBn : W.cell? ⟨Bn, 0, none⟩ = some (.int .i64 n)) (hS : W.rowIs s 65 8 (sn L)) (h0 : J [] W) :
    CallsIn Fence.wide 4 Try.prog 69 #[.func (.yield l) #[] #[], .pointer (some ⟨Bp, 0, none⟩), .pointer (some ⟨Bn, 0, none⟩)] W fun e W' => (∃ v, e = .returned v) ∧
      ((∃ ys, ys = lft L n ∧ J ys W') ∨ (∃ pre, pre <+: lft L n ∧ Jx pre W')) := by
  have HS := Lib.hid hS
  have hmx : Try.prog.follows .mixedOrders = true := by kernel_rfl
  have hsl := Try.slice_stood s n hn
  clear hS
  refine callsIn_of_wp Try.func69 rfl trivial ?_ rfl
  simp only [Try.ntmps69, List.size_toArray, List.length_cons, List.length_nil, Nat.reduceAdd, Nat.reduceSub, Array.replicate_succ, Array.replicate_zero, List.push_toArray, List.append_toArray, List.nil_append, List.cons_append]
  gi_wp2
  gi_region
  all_goals
    gi_wp2
    clear hsl hBp hBn
    have HSd : Hid (W.drew.rowIs s 65 8 (sn L)) := Lib.hid HS.out.drew
    have hJ0 : J [] W.drew := hD [] W 1 h0
    generalize W.drew = w0 at *
    gi_loopw [11] (fun i wr => ∃ m : Nat, m ≤ n ∧ i = .int .i64 m ∧ J (lft L m) wr ∧ Hid (KS K w0 wr)) (fun i _ => n - (intOf i).toNat)
    case atStart => exact ⟨0, by omega, rfl, hJ0, Lib.hid (KS.refl _ _)⟩
    case round =>
      obtain ⟨m, hm, rfl, hJ, HW⟩ := hrel
      by_cases hlt : m < n
      · have hm8 : m < 8 := by omega
        have HR : Hid (wr.rowIs s 65 8 (sn L)) := Lib.hid (HSd.out.of_block (HW.out s hs))
        by_cases hx : (m : Int) ∈ L
        · have c1 : wr.cell? ⟨s, m, none⟩ = some (.bool true) := (HR.out.cell hm8).trans (by rw [sn_yes hx])
          have HL : Hid (lft L (m + 1) = lft L m) := Lib.hid (by rw [lft_succ, if_pos hx])
          clear hx
          gi_wp2
          refine ⟨fun _ h => (by cases h), ?_⟩
          gi_wp2
          go_roundw
          case rel => exact ⟨m + 1, by omega, by go_num, by rw [HL.out]; exact hJ, HW⟩
          case measure => simp [intOf]; omega
        · have c1 : wr.cell? ⟨s, m, none⟩ = some (.bool false) := (HR.out.cell hm8).trans (by rw [sn_no hx])
          have HL : Hid (lft L (m + 1) = lft L m ++ [(m : Int)]) := Lib.hid (by rw [lft_succ, if_neg hx])
          have HPX : Hid (lft L m ++ [(m : Int)] <+: lft L n) := Lib.hid (by rw [← HL.out]; exact lft_prefix L (by omega))
          have HLEN : (lft L m).length < 8 := by have := lft_length L m; omega
          obtain ⟨fn, tmps, assign, body, hy, hR⟩ := hY _ (m : Int) wr hJ HLEN
          clear hx HLEN
          gi_wp2
          refine hR.mono ?_
          rintro e W3 (⟨rfl, hJ3, hk3⟩ | ⟨rfl, hJx3⟩)
          · gi_wp2
            go_roundw
            case rel => exact ⟨m + 1, by omega, by go_num, by rw [HL.out]; exact hJ3, Lib.hid (HW.out.trans hk3)⟩
            case measure => simp [intOf]; omega
          · gi_wp2
            refine bodyPost_ret (results_none rfl _ _ _) rfl ?_
            exact ⟨⟨_, rfl⟩, .inr ⟨_, HPX.out, hJx3⟩⟩
      · obtain rfl : m = n := by omega
        gi_wp2
        go_end0
        exact ⟨⟨_, rfl⟩, .inl ⟨_, rfl, hJ⟩⟩

/-- left hands back a value that tells what did not stand yet. -/
theorem left_stops (K : Nat → Prop) (Bp Bn s n : Nat) (L : List Int) (w : World) (hn : n ≤ 8) (hK : ∀ q, K q → q < w.heap.size) (hs : K s) (hKp : K Bp) (hKn : K Bn)
    (hBp : w.cell? ⟨Bp, 0, none⟩ = some (.pointer (some ⟨s, 0, none⟩))) (hBn : w.cell? ⟨Bn, 0, none⟩ = some (.int .i64 n)) (hS : w.rowIs s 65 8 (sn L)) :
    SeqStopsK Fence.wide 4 Try.prog 69 #[.pointer (some ⟨Bp, 0, none⟩), .pointer (some ⟨Bn, 0, none⟩)] (fun x : Int => #[(.int .i64 x)]) (KS K) (fun ys => ys = lft L n) (fun pre => pre <+: lft L n) 8 w := fun l J Jx W hW hJ _ hY h0 =>
  left1_in K l Bp Bn s n L hn J Jx (fun pre W j h => hJ pre W (W.drewN j) none h ⟨rfl, rfl, rfl, Nat.le_refl _, fun _ _ _ => rfl⟩ (fun r e => by cases e)) hY W hs ((hW.cell (p := ⟨Bp, 0, none⟩) (hK Bp hKp)).trans hBp) ((hW.cell (p := ⟨Bn, 0, none⟩) (hK Bn hKn)).trans hBn)
    (hS.of_block (hW.block s (hK s hs))) h0
end Go.Proofs.Ytkaddfbnlkmehaa
