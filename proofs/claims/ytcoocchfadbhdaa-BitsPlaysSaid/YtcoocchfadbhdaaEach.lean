/- Contracts of package bits: Each; the document's Each and Ones. -/
import Derived.Test.YtcoocchfadbhdaaBitsMore
import Derived.Test.YtcoocchfadbhdaaOwn
import Derived.RangeFuncNested
import Derived.RangeFuncBound
import Derived.RangeFuncCalls
import Derived.RangeFuncLeaves
import Derived.Shelf.Abstract
import Derived.Shelf.RegionOpen
import Derived.OwnWalkIn
import Derived.TacticsInMore
import Derived.LoopNIn
import Derived.LoopIn
namespace Go.Proofs.Ytcoocchfadbhdaa
open Go.ChangeShapes Go.WideShapes Go.ChangeAt Go.RowKit Go.Shelf

attribute [local go_sem] Oper.semAt_some

theorem cell_of_box_l {W : World} {B : Nat} {v : Value} {t : TypeId} (h : W.heap[B]? = some (.cells #[v] t (0, 0))) : W.cell? ⟨B, 0, none⟩ = some v ∧ W.frozen? ⟨B, 0, none⟩ = false := by
  constructor <;> simp [World.cell?, World.frozen?, h]
theorem cell_new_l (W : World) (v : Value) (t : TypeId) : (W.alloc (.cells #[v] t)).cell? ⟨W.heap.size, 0, none⟩ = some v ∧ (W.alloc (.cells #[v] t)).frozen? ⟨W.heap.size, 0, none⟩ = false :=
  cell_of_box_l (World.alloc_heap_new W _)
theorem cell_alloc_l {W : World} {a : Addr} {v : Value} (o : Obj) (h : W.cell? a = some v) : (W.alloc o).cell? a = some v := cell_kept h (World.grownBy_alloc W o none) (fun r e => by cases e)
theorem frozen_alloc_l {W : World} {a : Addr} {v : Value} (o : Obj) (h : W.cell? a = some v) (hf : W.frozen? a = false) : (W.alloc o).frozen? a = false := (frozen_kept h (World.grownBy_alloc W o none) (fun r e => by cases e)).trans hf

theorem ia_kept {W W' : World} {row : Option Nat} {A : Option Addr} {l : List Int} (h : IA W A l) (hg : W.grownBy W' row) (hr : ∀ r, row = some r → ∃ o : Obj, W.heap[r]? = some o ∧ o.isCells = false) : IA W' A l := fun hn => by
  obtain ⟨b, off, e, hb, hc⟩ := h hn
  exact ⟨b, off, e, Nat.lt_of_lt_of_le hb hg.size, fun i hi => cell_kept (hc i hi) hg hr⟩

/-- The places below k of the digits of u that are 1. -/
def plc (u : Nat) : Nat → List Nat
  | 0 => []
  | k + 1 => if u / 2 ^ k % 2 = 1 then plc u k ++ [k] else plc u k
theorem plc_length (u k : Nat) : (plc u k).length ≤ k := by
  induction k with
  | zero => simp [plc]
  | succ k ih =>
    rw [plc]
    split
    · rw [List.length_append, List.length_singleton]; omega
    · omega
theorem plc_pop (u k : Nat) : pop u = (plc u k).length + pop (u / 2 ^ k) := by
  induction k with
  | zero => simp [plc]
  | succ k ih =>
    rw [plc, ih, pop_step (u / 2 ^ k), Nat.div_div_eq_div_mul, ← Nat.pow_succ, Nat.succ_eq_add_one]
    split
    · next h => rw [h]; simp; omega
    · next h => have : u / 2 ^ k % 2 = 0 := by omega
                rw [this]; omega
theorem plc_prefix (u : Nat) {k m : Nat} (h : k ≤ m) : plc u k <+: plc u m := by
  induction m with
  | zero => obtain rfl : k = 0 := by omega
            exact List.prefix_refl _
  | succ m ih =>
    by_cases e : k = m + 1
    · subst e; exact List.prefix_refl _
    · refine (ih (by omega)).trans ?_
      conv => rhs; rw [plc]
      split
      · exact List.prefix_append _ _
      · exact List.prefix_refl _
theorem plc_end {u k m : Nat} (h : u / 2 ^ k = 0) (hk : k ≤ m) : plc u m = plc u k := by
  induction m with
  | zero => obtain rfl : k = 0 := by omega
            rfl
  | succ m ih =>
    by_cases e : k = m + 1
    · subst e; rfl
    · have h2 : u / 2 ^ m = 0 := by
        obtain ⟨d, rfl⟩ : ∃ d, m = k + d := ⟨m - k, by omega⟩
        rw [Nat.pow_add, ← Nat.div_div_eq_div_mul, h, Nat.zero_div]
      rw [plc, if_neg (by rw [h2]; decide), ih (by omega)]
theorem plc_snoc_prefix {u k : Nat} (h : u / 2 ^ k % 2 = 1) (hk : k < 64) : plc u k ++ [k] <+: plc u 64 := by
  have := plc_prefix u (show k + 1 ≤ 64 by omega)
  rwa [plc, if_pos h] at this
theorem div_zero64 {u : Nat} (hu : u < 18446744073709551616) : u / 2 ^ 64 = 0 := Nat.div_eq_of_lt (by omega)
theorem places_pop {u : Nat} (hu : u < 18446744073709551616) : (plc u 64).length = pop u := by
  rw [plc_pop u 64, div_zero64 hu, pop_zero]; rfl

theorem low_bit {q : Nat} (hq : q < 18446744073709551616) : (bits .and .u64 (q : Int) 1 == 1) = decide (q % 2 = 1) := by
  have e := u64_and_nat q 1 hq (by omega)
  rw [nat_mask1] at e
  have e2 : bits .and .u64 (q : Int) 1 = ((q % 2 : Nat) : Int) := e
  rw [e2, Bool.eq_iff_iff]
  simp
  omega

theorem each_any (u : Nat) (w : World) :
    Calls Try.prog 36 #[.int .u64 u] w fun e w' => e = .returned (.func (.func 58) #[] #[.pointer (some ⟨w.heap.size, 0, none⟩)]) ∧ w' = w.alloc (.cells #[.int .u64 u] 51) := by
  go_enter Try.func36, Try.ntmps36
  go_wp2
  go_ret
  exact ⟨rfl, rfl⟩

theorem run_equalIn_func_nil {P : Program} (w : World) (d : Nat) (t : TypeId) {ps rs : Array TypeId} {va : Bool} (h : P.underlying t = some (.func ps rs va)) (f : Fn) (x y : Array Value) :
    (Op.equalIn (d + 1) t (.func f x y) .nilFunc).run P w = .ok false w := by
  simp [Op.equalIn, run_underlying h]
theorem run_eql_func_nil {P : Program} (w : World) (t : TypeId) {ps rs : Array TypeId} {va : Bool} (h : P.underlying t = some (.func ps rs va)) (f : Fn) (x y : Array Value) : (binOp .eql t (.func f x y) .nilFunc).run P w = .ok (.bool false) w := by
  simp only [binOp]
  simp [Op.equal, Op.maxDepth, run_equalIn_func_nil w 9999 t h f x y]
theorem Try.seqNotNil (w : World) (f : Fn) (x y : Array Value) : (binOp .eql 53 (.func f x y) .nilFunc).run Try.prog w = .ok (.bool false) w := run_eql_func_nil w _ Try.underlying53 f x y

/-- Places as ints. -/
def pli (l : List Nat) : List Int := l.map fun (k : Nat) => (k : Int)
theorem pli_length (l : List Nat) : (pli l).length = l.length := by simp [pli]

set_option maxHeartbeats 1000000 in
theorem refEach_any (u : Nat) (w : World) (hu : u < 18446744073709551616) :
    Calls Try.prog 37 #[.int .u64 u] w fun e w' => ∃ v, e = .returned v ∧ OI w.heap.size w' v (pli (plc u 64)) ∧ Below w.heap.size w w' := by
  have HU := Lib.hid hu
  clear hu
  go_enter Try.func37, Try.ntmps37
  go_wp2
  go_loopw [0, 3, 4] (fun t a i wr => ∃ (v' : Value) (k : Nat), a = v' ∧ i = .int .i64 k ∧ k ≤ 64 ∧ t = .int .u64 ((u / 2 ^ k : Nat) : Int) ∧ Hid (OI w.heap.size wr v' (pli (plc u k))) ∧ Hid (Below w.heap.size w wr)) (fun _ _ i _ => 64 - (intOf i).toNat)
  case atStart => exact ⟨_, 0, rfl, rfl, by omega, by simp, Lib.hid (OI.nil _ _), Lib.hid (Below.refl _ _)⟩
  case round =>
    obtain ⟨v', k, rfl, rfl, hk, rfl, HO, HW⟩ := hrel
    have hbw : w.heap.size ≤ wr.heap.size := HW.out.size
    have HT : Hid (u / 2 ^ (k + 1) = u / 2 ^ k / 2) := Lib.hid (by rw [Nat.pow_succ, Nat.div_div_eq_div_mul])
    have hq : u / 2 ^ k < 18446744073709551616 := Nat.lt_of_le_of_lt (Nat.div_le_self _ _) HU.out
    by_cases hlt : k < 64
    · by_cases hb : u / 2 ^ k % 2 = 1
      · have HS : Hid (pli (plc u (k + 1)) = pli (plc u k) ++ [(k : Int)]) := Lib.hid (by rw [plc, if_pos hb]; simp [pli])
        have hlen : (pli (plc u k)).length ≤ 64 := by rw [pli_length]; have := plc_length u k; omega
        generalize u / 2 ^ k = q at *
        generalize pli (plc u k) = l' at HS HO hlen
        have hb1 : ((q : Int) % 2 == 1) = true := by simp; omega
        have HQ := Lib.hid hb
        clear hb
        go_wp2_with (at_builtin; refine append_one rfl (.tmp 12) (.tmp 14) rfl w.heap.size _ l' rfl HO.out (k : Int) rfl (by omega) hbw ?_; intro v3 w3 ho3 hg3 hb3 hn3)
        have HO3 := Lib.hid ho3
        have HW3 := Lib.hid (HW.out.trans hb3)
        clear ho3 hg3 hb3 hn3
        go_wp2
        go_roundw
        case rel => exact ⟨_, k + 1, rfl, by go_num, by omega, by rw [HT.out]; rfl, by rw [HS.out]; exact HO3, HW3⟩
        case measure => simp [intOf]; omega
      · have HS : Hid (pli (plc u (k + 1)) = pli (plc u k)) := Lib.hid (by rw [plc, if_neg hb])
        generalize u / 2 ^ k = q at *
        generalize pli (plc u k) = l' at HS HO
        have hb1 : ((q : Int) % 2 == 1) = false := by simp; omega
        have HQ := Lib.hid hb
        clear hb
        go_wp2
        go_roundw
        case rel => exact ⟨_, k + 1, rfl, by go_num, by omega, by rw [HT.out]; rfl, by rw [HS.out]; exact HO, HW⟩
        case measure => simp [intOf]; omega
    · obtain rfl : k = 64 := by omega
      go_wp2
      go_ret
      exact ⟨_, rfl, HO.out, HW.out⟩
theorem refOnes_any (u : Nat) (w : World) (hu : u < 18446744073709551616) :
    Calls Try.prog 39 #[.int .u64 u] w fun e w' => e = .returned (.int .i64 (pop u)) ∧ Below w.heap.size w w' := by
  have HP := Lib.hid (places_pop hu)
  have HU := Lib.hid hu
  clear hu
  go_enter Try.func39, Try.ntmps39
  go_wp2_with fail
  refine (refEach_any u w HU.out).mono ?_
  rintro e w1 ⟨v, rfl, ho, hb⟩
  obtain ⟨A, c, rfl, _⟩ := ho.form
  have HB := Lib.hid hb
  clear ho hb
  have hl : (pli (plc u 64)).length = pop u := by rw [pli_length]; exact HP.out
  rw [hl]
  clear hl
  go_wp2
  go_ret
  exact ⟨rfl, HB.out⟩

set_option maxRecDepth 100000 in
set_option maxHeartbeats 1000000 in
/-- Each's iterator, for every loop body. -/
theorem each1_in (F : Fence) (n : Nat) (h6 : F.fn 58) (hro : F.round = none) (hn : 1 ≤ n) (l Bn u : Nat) (hu : u < 18446744073709551616) (Kp : World → World → Prop) (J Jx : List Nat → World → Prop)
    (hD : ∀ pre W, J pre W → J pre W.drew)
    (hY : ∀ pre (x : Nat) W, x < 64 → J pre W → pre.length < 64 → YieldAt F (n - 1) Try.prog l #[.int .i64 x] W fun e W' =>
      (e = .returned (.bool true) ∧ J (pre ++ [x]) W' ∧ Kp W W') ∨ (e = .returned (.bool false) ∧ Jx (pre ++ [x]) W'))
    (W : World) (hBn : W.cell? ⟨Bn, 0, none⟩ = some (.int .u64 u)) (h0 : J [] W) :
    CallsIn F n Try.prog 58 #[.func (.yield l) #[] #[], .pointer (some ⟨Bn, 0, none⟩)] W fun e W' => (∃ v, e = .returned v) ∧
      ((∃ ys, ys = plc u 64 ∧ J ys W') ∨ (∃ pre, pre <+: plc u 64 ∧ Jx pre W')) := by
  have HU := Lib.hid hu
  clear hu
  refine callsIn_of_wp Try.func58 rfl h6 ?_ hro
  simp only [Try.ntmps58, List.size_toArray, List.length_cons, List.length_nil, Nat.reduceAdd, Nat.reduceSub, Array.replicate_succ, Array.replicate_zero, List.push_toArray, List.append_toArray, List.nil_append, List.cons_append]
  gi_wp2
  gi_region
  all_goals
    gi_wp2
    gi_loopw [3, 4] (fun i x wr => ∃ k : Nat, k ≤ 64 ∧ i = .int .i64 k ∧ x = .int .u64 ((u / 2 ^ k : Nat) : Int) ∧ J (plc u k) wr) (fun i _ _ => 64 - (intOf i).toNat)
    case atStart => exact ⟨0, by omega, rfl, by simp, hD _ _ h0⟩
    case round =>
      obtain ⟨k, hk, rfl, rfl, hJ⟩ := hrel
      by_cases h0 : u / 2 ^ k = 0
      · have HE := Lib.hid (plc_end h0 hk)
        rw [h0]
        clear h0
        gi_wp2
        go_end0
        exact ⟨⟨_, rfl⟩, .inl ⟨_, HE.out.symm, hJ⟩⟩
      · have hlt : k < 64 := by
          rcases Nat.lt_or_ge k 64 with h | h
          · exact h
          · obtain rfl : k = 64 := by omega
            exact absurd (div_zero64 HU.out) h0
        have HT : Hid (u / 2 ^ (k + 1) = u / 2 ^ k / 2) := Lib.hid (by rw [Nat.pow_succ, Nat.div_div_eq_div_mul])
        have HQ : Hid (u / 2 ^ k < 18446744073709551616) := Lib.hid (Nat.lt_of_le_of_lt (Nat.div_le_self _ _) HU.out)
        have HB : Hid ((bits .and .u64 ((u / 2 ^ k : Nat) : Int) 1 == 1) = decide (u / 2 ^ k % 2 = 1)) := Lib.hid (low_bit HQ.out)
        by_cases hb : u / 2 ^ k % 2 = 1
        · have HP : Hid (plc u (k + 1) = plc u k ++ [k]) := Lib.hid (by rw [plc, if_pos hb])
          have HX := Lib.hid (plc_snoc_prefix hb hlt)
          have hb1 : (bits .and .u64 ((u / 2 ^ k : Nat) : Int) 1 == 1) = true := by rw [HB.out]; simpa using hb
          have hlen : (plc u k).length < 64 := by have := plc_length u k; omega
          obtain ⟨fn, tmps, assign, body, hy, hR⟩ := hY (plc u k) k _ hlt hJ hlen
          generalize u / 2 ^ k = q at *
          have hq0 : ((q : Int) != 0) = true := by simpa using h0
          have HQ2 := HQ.out
          clear h0 hb HB
          gi_wp2
          refine hR.mono ?_
          rintro e W3 (⟨rfl, hJ3, hk3⟩ | ⟨rfl, hJx3⟩)
          · gi_wp2
            go_roundw
            case rel => exact ⟨k + 1, by omega, by go_num, by rw [HT.out]; rfl, by rw [HP.out]; exact hJ3⟩
            case measure => simp [intOf]; omega
          · gi_wp2
            refine bodyPost_ret (results_none rfl _ _ _) rfl ?_
            exact ⟨⟨_, rfl⟩, .inr ⟨_, HX.out, hJx3⟩⟩
        · have HP : Hid (plc u (k + 1) = plc u k) := Lib.hid (by rw [plc, if_neg hb])
          have hb1 : (bits .and .u64 ((u / 2 ^ k : Nat) : Int) 1 == 1) = false := by rw [HB.out]; simpa using hb
          generalize u / 2 ^ k = q at *
          have hq0 : ((q : Int) != 0) = true := by simpa using h0
          have HQ2 := HQ.out
          clear h0 hb HB
          gi_wp2
          refine ⟨fun _ h => (by cases h), ?_⟩
          gi_wp2
          go_roundw
          case rel => exact ⟨k + 1, by omega, by go_num, by rw [HT.out]; rfl, by rw [HP.out]; exact hJ⟩
          case measure => simp [intOf]; omega

/-- Each(u) hands back a value that tells the places of u. -/
theorem each_stops (F : Fence) (n : Nat) (h6 : F.fn 58) (hro : F.round = none) (hn : 1 ≤ n) (Bn u : Nat) (hu : u < 18446744073709551616) (Kp : World → World → Prop) (w : World) (hBn : Bn < w.heap.size)
    (hc : w.cell? ⟨Bn, 0, none⟩ = some (.int .u64 u)) :
    SeqStopsK F n Try.prog 58 #[.pointer (some ⟨Bn, 0, none⟩)] (fun x : Nat => #[Value.int .i64 x]) Kp (fun ys => ys = plc u 64) (fun pre => pre <+: plc u 64) 64 w := fun l J Jx W hW hJ _ hY h0 =>
  each1_in F n h6 hro hn l Bn u hu Kp J Jx (fun pre W h => hJ pre W W.drew none h ⟨rfl, rfl, rfl, Nat.le_refl _, fun _ _ _ => rfl⟩ (fun r e => by cases e)) (fun pre x W _ => hY pre x W) W ((hW.cell (p := ⟨Bn, 0, none⟩) hBn).trans hc) h0

/-- .. told as numbers below 64. -/
theorem each_stops64 (F : Fence) (n : Nat) (h6 : F.fn 58) (hro : F.round = none) (hn : 1 ≤ n) (Bn u : Nat) (hu : u < 18446744073709551616) (Kp : World → World → Prop) (w : World) (hBn : Bn < w.heap.size)
    (hc : w.cell? ⟨Bn, 0, none⟩ = some (.int .u64 u)) :
    SeqStopsK F n Try.prog 58 #[.pointer (some ⟨Bn, 0, none⟩)] (fun x : Fin 64 => #[Value.int .i64 (x.val : Nat)]) Kp (fun ys => ys.map Fin.val = plc u 64) (fun pre => pre.map Fin.val <+: plc u 64) 64 w := fun l J Jx W hW hJ _ hY h0 => by
  refine (each1_in F n h6 hro hn l Bn u hu Kp (fun pre W => ∃ ys : List (Fin 64), ys.map Fin.val = pre ∧ J ys W) (fun pre W => ∃ ys : List (Fin 64), ys.map Fin.val = pre ∧ Jx ys W)
    (fun pre W ⟨ys, e, h⟩ => ⟨ys, e, hJ ys W W.drew none h ⟨rfl, rfl, rfl, Nat.le_refl _, fun _ _ _ => rfl⟩ (fun r e => by cases e)⟩) (fun pre x V hx ⟨ys, e, h⟩ hlen => ?_) W ((hW.cell (p := ⟨Bn, 0, none⟩) hBn).trans hc) ⟨[], rfl, h0⟩).mono ?_
  · obtain ⟨fn, tmps, assign, body, hy, hR⟩ := hY ys ⟨x, hx⟩ V h (by rw [← e, List.length_map] at hlen; exact hlen)
    refine ⟨fn, tmps, assign, body, hy, hR.mono ?_⟩
    rintro e' V' (⟨rfl, h1, h2⟩ | ⟨rfl, h1⟩)
    · exact .inl ⟨rfl, ⟨_, by rw [List.map_append, e]; rfl, h1⟩, h2⟩
    · exact .inr ⟨rfl, _, by rw [List.map_append, e]; rfl, h1⟩
  · rintro e' V' ⟨hv, ⟨pre, rfl, ys, e, h⟩ | ⟨pre, hp, ys, e, h⟩⟩
    · exact ⟨hv, .inl ⟨ys, e, h⟩⟩
    · exact ⟨hv, .inr ⟨ys, by show List.map Fin.val ys <+: _; rw [e]; exact hp, h⟩⟩
end Go.Proofs.Ytcoocchfadbhdaa
