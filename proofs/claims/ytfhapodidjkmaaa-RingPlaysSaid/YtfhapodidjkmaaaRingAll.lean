/- Contracts of package ring: New, All and its iterator. -/
import Derived.Test.YtfhapodidjkmaaaRing
import Derived.RangeFuncNested
import Derived.RangeFuncBound
import Derived.RangeFuncCalls
import Derived.RangeFuncLeaves
import Derived.Shelf.Abstract
import Derived.Shelf.RegionOpen
import Derived.OwnWalkIn
import Derived.TacticsInMore
import Derived.LoopNIn
import Derived.LoopIn
namespace Go.Proofs.Ytfhapodidjkmaaa
open Go.ChangeShapes Go.WideShapes Go.ChangeAt Go.RowKit Go.Shelf

attribute [local go_sem] Oper.semAt_some

def KS (K : Nat → Prop) (W W' : World) : Prop := ∀ q, K q → W'.heap[q]? = W.heap[q]?
theorem KS.refl (K : Nat → Prop) (W : World) : KS K W W := fun _ _ => rfl
theorem KS.trans {K : Nat → Prop} {A B C : World} (h : KS K A B) (k : KS K B C) : KS K A C := fun q hq => (k q hq).trans (h q hq)
theorem KS.below {K : Nat → Prop} {B : Nat} {A C : World} (h : Below B A C) (hK : ∀ q, K q → q < B) : KS K A C := fun q hq => h.block q (hK q hq)
theorem KS.drewN {K : Nat → Prop} {A C : World} (j : Nat) (h : KS K (A.drewN j) C) : KS K A C := h
theorem KS.back {K : Nat → Prop} {w : World} (hK : ∀ q, K q → q < w.heap.size) (W : World) (l : Nat) (o o' : Obj) (hl : w.heap.size ≤ l) (_ : W.heap[l]? = some o) (_ : o.isCells = false) (_ : o.isWalk = false) : KS K W (W.putObj l o') :=
  fun q hq => World.putObj_heap_other (fun e => by have := hK q hq; omega)

theorem take_snoc (xs : List Int) {m : Nat} (h : m < xs.length) : xs.take (m + 1) = xs.take m ++ [xs.getD m (0 : Int)] := by
  rw [List.take_succ_eq_append_getElem h]; simp [List.getD, h]

theorem all_any (p : Option Addr) (w : World) :
    Calls Try.prog 59 #[.pointer p] w fun e w' => e = .returned (.func (.func 89) #[] #[.pointer (some ⟨w.heap.size, 0, none⟩)]) ∧ w' = w.alloc (.cells #[.pointer p] 24) := by
  go_enter Try.func59, Try.ntmps59
  go_wp2
  go_ret
  exact ⟨rfl, rfl⟩

/-- How a round has ended. -/
def Ended (J Jx : List Int → World → Prop) (Kp : World → World → Prop) (pre : List Int) (W : World) (b : Bool) (W' : World) : Prop := (b = true ∧ J pre W' ∧ Kp W W') ∨ (b = false ∧ Jx pre W')

theorem ended {J Jx : List Int → World → Prop} {Kp : World → World → Prop} {pre : List Int} {W W' : World} {e : Ending} (h : (e = .returned (.bool true) ∧ J pre W' ∧ Kp W W') ∨ (e = .returned (.bool false) ∧ Jx pre W')) :
    ∃ b, e = .returned (.bool b) ∧ Hid (Ended J Jx Kp pre W b W') := by
  rcases h with ⟨rfl, h⟩ | ⟨rfl, h⟩
  · exact ⟨true, rfl, Lib.hid (.inl ⟨rfl, h⟩)⟩
  · exact ⟨false, rfl, Lib.hid (.inr ⟨rfl, h⟩)⟩

set_option maxRecDepth 100000 in
set_option maxHeartbeats 1000000 in
/-- All's iterator, for every loop body that keeps the blocks K. -/
theorem all1_in (K : Nat → Prop) (l Bn s : Nat) (t : Option Nat) (most : Nat) (xs : List Int) (J Jx : List Int → World → Prop)
    (hD : ∀ pre W (j : Nat), J pre W → J pre (W.drewN j))
    (hY : ∀ pre x W, J pre W → pre.length < xs.length → YieldAt Fence.wide 3 Try.prog l #[(.int .i64 x)] W fun e W' =>
      (e = .returned (.bool true) ∧ J (pre ++ [x]) W' ∧ KS K W W') ∨ (e = .returned (.bool false) ∧ Jx (pre ++ [x]) W'))
    (W : World) (hs : K s) (ht : ∀ b, t = some b → K b) (hB0 : K Bn) (hBn : W.cell? ⟨Bn, 0, none⟩ = some (.pointer (some ⟨s, 0, none⟩))) (hQ : QU W s t most xs) (h0 : J [] W) :
    CallsIn Fence.wide 4 Try.prog 89 #[.func (.yield l) #[] #[], .pointer (some ⟨Bn, 0, none⟩)] W fun e W' => (∃ v, e = .returned v) ∧
      ((∃ ys, ys = xs ∧ J ys W') ∨ (∃ pre, pre <+: xs ∧ Jx pre W')) := by
  obtain ⟨L, f, g, hQ, hg⟩ := hQ
  obtain ⟨k, HK⟩ : ∃ k, Hid (xs.length = k) := ⟨_, Lib.hid rfl⟩
  rw [HK.out] at hQ hg
  have HG := Lib.hid hg
  have H := Lib.hid hQ
  have hmx : Try.prog.follows .mixedOrders = true := by kernel_rfl
  have q1 := hQ.room
  have q2 := hQ.lm
  have q3 := hQ.mm
  have HB : Hid (W.cell? ⟨Bn, 0, none⟩ = some (.pointer (some ⟨s, 0, none⟩))) := Lib.hid hBn
  have HT := Lib.hid ht
  clear hQ ht hg
  refine callsIn_of_wp Try.func89 rfl trivial ?_ rfl
  simp only [Try.ntmps89, List.size_toArray, List.length_cons, List.length_nil, Nat.reduceAdd, Nat.reduceSub, Array.replicate_succ, Array.replicate_zero, List.push_toArray, List.append_toArray, List.nil_append, List.cons_append]
  gi_wp2_with fail
  refine ⟨trivial, ?_⟩
  refine (callsIn_wide.2 (len_any H.out)).mono ?_
  rintro e w' ⟨rfl, rfl⟩
  gi_wp2_with fail
  clear hBn
  gi_loopw [6] (fun i wr => ∃ m : Nat, m ≤ k ∧ i = .int .i64 m ∧ J (xs.take m) wr ∧ Hid (KS K W wr)) (fun i _ => k - (intOf i).toNat)
  case atStart => exact ⟨0, by omega, rfl, by simpa using h0, Lib.hid (KS.refl _ _)⟩
  case round =>
    obtain ⟨m, hm, rfl, hJ, HW⟩ := hrel
    by_cases hlt : m < k
    · have HQ : Hid (QP wr s t most L f k g) := Lib.hid (H.out.of_blocks (HW.out s hs) (fun b e => HW.out b (HT.out b e)))
      obtain ⟨b, rfl⟩ : ∃ b, t = some b := by
        cases t with
        | none => have := HQ.out.non rfl; omega
        | some b => exact ⟨b, rfl⟩
      have b0 : wr.cell? ⟨Bn, 0, none⟩ = some (.pointer (some ⟨s, 0, none⟩)) := (World.cell?_of_block (a := ⟨Bn, 0, none⟩) (HW.out Bn hB0)).trans HB.out
      have c1 : wr.cell? ⟨s, 1, none⟩ = some (.slice (some ⟨b, 0, none⟩) L L) := HQ.out.head.cell (i := 1) (by omega)
      have hL : 0 < L := by omega
      obtain ⟨a, HA⟩ : ∃ a, Hid ((f + m) % L = a) := ⟨_, Lib.hid rfl⟩
      have ha : a < L := by rw [← HA.out]; exact md_lt hL
      have c2 : wr.cell? ⟨b, a, none⟩ = some (.int .i64 (xs.getD m (0 : Int))) := ((HQ.out.row b rfl).cell ha).trans (by rw [← HA.out, HG.out m hlt])
      have HS := Lib.hid (take_snoc xs (show m < xs.length by rw [HK.out]; exact hlt))
      generalize xs.getD m (0 : Int) = x at c2 HS
      have HPX : Hid (xs.take m ++ [x] <+: xs) := Lib.hid (by rw [← HS.out]; exact List.take_prefix _ _)
      have HLEN : Hid ((xs.take m).length < xs.length) := Lib.hid (by rw [List.length_take, HK.out]; omega)
      gi_wp2_with fail
      have hQ2 := HQ.out
      have HA2 := HA
      clear HB HT HA HG
      gi_region_with_o (first
        | (refine ⟨trivial, ?_⟩; gi_at_call 57; refine (callsIn_wide.2 (place_any (hQ2.drewN 1) m (by omega) hL)).mono ?_; rintro e w' ⟨rfl, j, rfl⟩; rw [HA2.out]; obtain ⟨fn, tmps, assign, body, hy, hR⟩ := hY _ x (wr.drewN (1 + j)) (hD _ _ _ hJ) HLEN.out)
        | (refine hR.mono ?_; intro e W3 he; obtain ⟨bb, rfl, HE⟩ := ended he; clear he hy hR))
      all_goals
        rcases HE.out with ⟨rfl, hJ3, hk3⟩ | ⟨rfl, hJx3⟩
        · have HW3 : Hid (KS K W W3) := Lib.hid (HW.out.trans (KS.drewN _ hk3))
          clear HE hk3 hJ
          gi_wp2
          go_roundw
          case rel => exact ⟨m + 1, by omega, by go_num, by rw [HS.out]; exact hJ3, HW3⟩
          case measure => simp [intOf]; omega
        · clear HE hJ
          gi_wp2
          refine bodyPost_ret (results_none rfl _ _ _) rfl ?_
          exact ⟨⟨_, rfl⟩, .inr ⟨_, HPX.out, hJx3⟩⟩
    · obtain rfl : m = k := by omega
      gi_wp2
      go_end0
      exact ⟨⟨_, rfl⟩, .inl ⟨_, rfl, by rwa [List.take_of_length_le (Nat.le_of_eq HK.out)] at hJ⟩⟩

/-- All hands back a value that tells the queue's things. -/
theorem all_stops (K : Nat → Prop) (Bn s : Nat) (t : Option Nat) (most : Nat) (xs : List Int) (w : World) (hK : ∀ q, K q → q < w.heap.size) (hs : K s) (ht : ∀ b, t = some b → K b) (hB0 : K Bn)
    (hBn : w.cell? ⟨Bn, 0, none⟩ = some (.pointer (some ⟨s, 0, none⟩))) (hQ : QU w s t most xs) :
    SeqStopsK Fence.wide 4 Try.prog 89 #[.pointer (some ⟨Bn, 0, none⟩)] (fun x : Int => #[(.int .i64 x)]) (KS K) (fun ys => ys = xs) (fun pre => pre <+: xs) xs.length w := fun l J Jx W hW hJ _ hY h0 =>
  all1_in K l Bn s t most xs J Jx (fun pre W j h => hJ pre W (W.drewN j) none h ⟨rfl, rfl, rfl, Nat.le_refl _, fun _ _ _ => rfl⟩ (fun r e => by cases e)) hY W hs ht hB0 ((hW.cell (p := ⟨Bn, 0, none⟩) (hK Bn hB0)).trans hBn)
    (hQ.of_blocks (hW.block s (hK s hs)) (fun b e => hW.block b (hK b (ht b e)))) h0

set_option maxRecDepth 100000 in
set_option maxHeartbeats 1000000 in
theorem all1_nil (l Bn : Nat) (J : List Int → World → Prop) (W : World) (hBn : W.cell? ⟨Bn, 0, none⟩ = some (.pointer none)) (h0 : J [] W) :
    CallsIn Fence.wide 4 Try.prog 89 #[.func (.yield l) #[] #[], .pointer (some ⟨Bn, 0, none⟩)] W fun e W' => (∃ v, e = .returned v) ∧ J [] W' := by
  refine callsIn_of_wp Try.func89 rfl trivial ?_ rfl
  simp only [Try.ntmps89, List.size_toArray, List.length_cons, List.length_nil, Nat.reduceAdd, Nat.reduceSub, Array.replicate_succ, Array.replicate_zero, List.push_toArray, List.append_toArray, List.nil_append, List.cons_append]
  gi_wp2_with fail
  refine ⟨trivial, ?_⟩
  refine (callsIn_wide.2 (len_nil W)).mono ?_
  rintro e w' ⟨rfl, rfl⟩
  gi_wp2_with fail
  gi_loopw [6] (fun i wr => i = .int .i64 (0 : Nat) ∧ J [] wr) (fun i _ => 0)
  case atStart => exact ⟨rfl, h0⟩
  case round =>
    obtain ⟨rfl, hJ⟩ := hrel
    gi_wp2
    go_end0
    exact ⟨⟨_, rfl⟩, hJ⟩
theorem nil_stops (Bn : Nat) (w : World) (Kp : World → World → Prop) (hB : Bn < w.heap.size) (hBn : w.cell? ⟨Bn, 0, none⟩ = some (.pointer none)) :
    SeqStopsK Fence.wide 4 Try.prog 89 #[.pointer (some ⟨Bn, 0, none⟩)] (fun x : Int => #[(.int .i64 x)]) Kp (fun ys => ys = []) (fun pre => pre <+: []) 0 w := fun l J _ W hW _ _ _ h0 =>
  (all1_nil l Bn J W ((hW.cell (p := ⟨Bn, 0, none⟩) hB).trans hBn) h0).mono fun _ _ ⟨hv, hj⟩ => ⟨hv, .inl ⟨[], rfl, hj⟩⟩
end Go.Proofs.Ytfhapodidjkmaaa
