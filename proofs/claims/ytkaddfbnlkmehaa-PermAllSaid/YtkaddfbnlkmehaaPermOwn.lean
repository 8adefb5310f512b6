/- Rows of ints of the call's own: what they read as, appends to them; slices.Equal of ints. -/
import Derived.Test.YtkaddfbnlkmehaaPerm
import Derived.Maps.AppendAt
import Derived.Deep.AppendLies
import Derived.Laws.OwnMore
import Derived.Laws.AppendOwnNone
namespace Go.Proofs.Ytkaddfbnlkmehaa
open Go.ChangeShapes Go.WideShapes Go.ChangeAt Go.RowKit

/-- The slice v is a row of ints of the call's own, from block base on. -/
def OI (base : Nat) (w : World) (v : Value) (l : List Int) : Prop := w.ownsRow base 3 1 v l.length (l.map (Value.int .i64))
theorem OI.form {base : Nat} {w : World} {v : Value} {l : List Int} (h : OI base w v l) : ∃ A c, v = .slice A l.length c ∧ IA w A l := by
  rcases h.2 with ⟨rfl, h0⟩ | ⟨g, cap, cur, rfl, _⟩
  · exact ⟨none, 0, by rw [h0], fun hn => by omega⟩
  · refine ⟨_, cap, rfl, fun hn => ?_⟩
    obtain ⟨g', cap', e, _, hlt⟩ := World.ownsRow.form h hn
    injection e with e1 e2 e3
    injection e1 with e1
    injection e1 with e1
    subst e1
    refine ⟨g, 0, rfl, hlt, fun i hi => ?_⟩
    have := World.ownsRow.cellAt h i (by omega)
    rw [Nat.zero_add, this]
    simp [List.getD, hi]
theorem oi_snoc {base : Nat} {w : World} {v : Value} {l : List Int} {x : Int} (h : w.ownsRow base 3 1 v (l.length + 1) (l.map (Value.int .i64) ++ [.int .i64 x])) : OI base w v (l ++ [x]) := by
  unfold OI
  rw [List.length_append, List.map_append]
  exact h
theorem OI.nil (base : Nat) (w : World) : OI base w (.slice none 0 0) [] := World.ownsRow_nil _ _ _ _
theorem OI.ins {base : Nat} {w : World} {v : Value} {l : List Int} (h : OI base w v l) : ∃ A c, v = .slice A l.length c ∧ InS w A c l ∧ ∀ a, A = some a → base ≤ a.block ∧ a.block < w.heap.size := by
  have hb := World.ownsRow.lt h
  obtain ⟨A, c, e, i⟩ := h.form
  subst e
  refine ⟨A, c, rfl, ?_, fun a e => hb a.block (by rw [e]; rfl)⟩
  rcases h.2 with ⟨e2, h0⟩ | ⟨g2, cap, cur, e2, _, _, h1, h2, _⟩
  · injection e2 with e3 e4 e5
    subst e5
    exact ⟨i, by omega, by unfold maxLen; omega, fun _ => rfl⟩
  · injection e2 with e3 e4 e5
    subst e5
    exact ⟨i, h1, h2, fun e => by rw [e] at e3; cases e3⟩
theorem OI.row {w w' : World} {v : Value} {l : List Int} (h : OI w.heap.size w' v l) (hb : Below w.heap.size w w') : RowP w l (.returned v) w' := by
  obtain ⟨A, c, rfl, hi, _⟩ := h.ins
  exact ⟨A, c, rfl, hi, hb⟩

/-- append of one int onto a row of the call's own. -/
theorem append_one {w : World} {ops : Array Oper} {rest : List Oper} {o : Oper} {a : Act} {Q : Exit → Act → World → Prop} (hgd : o.guard = none) (s x : Operand)
    (ho : o.op = .call { callee := .builtin .append, args := #[s, x], argTypes := #[22, 22] })
    (base : Nat) (v : Value) (l : List Int) (hs : a.eval s = v) (hown : OI base w v l) (z : Int)
    (hx : a.eval x = .slice (some ⟨w.heap.size, 0, none⟩) 1 1)
    (hlen : l.length + 1 ≤ 1000000) (hbase : base ≤ w.heap.size)
    (h : ∀ v' w', OI base w' v' (l ++ [z]) → Below base w w' → wpList Try.prog ops Q rest (a.put o.dst v') w') :
    wpList Try.prog ops Q (o :: rest) a (w.alloc (.cells #[.int .i64 z] 3)) := by
  obtain ⟨i0, hi, hz0, hz1, hz2⟩ := info_parts Try.info3
  refine wpList_append_own_at _ hgd s x 22 ho base 3 i0 (.int .i64 0) 1 8 Try.underlying22 hi hz0 hz1 hz2 rfl (by decide) v l.length _ hs (hown.alloc _) ⟨w.heap.size, 0, none⟩ 1 1 [.int .i64 z] hx rfl (cell_one_new _ _ _) (by simp [Value.oneCell']) (by unfold maxLen; omega) (by omega) (by simp; omega) ?_
  intro v' w' hown' hgrow _ hb
  exact h v' w' (oi_snoc hown') (Below.grown ((Below.refl _ _).alloc hbase _) hgrow (by simp; omega) (fun k hk => (hown.lt k hk).1))

/-- append of what a slice reads as onto a row of the call's own. -/
theorem append_list {w : World} {ops : Array Oper} {rest : List Oper} {o : Oper} {a : Act} {Q : Exit → Act → World → Prop} (hgd : o.guard = none) (s x : Operand)
    (ho : o.op = .call { callee := .builtin .append, args := #[s, x], argTypes := #[22, 22] })
    (base : Nat) (v : Value) (l : List Int) (hs : a.eval s = v) (hown : OI base w v l) (A : Option Addr) (m c : Nat) (l2 : List Int) (hm : m = l2.length)
    (hx : a.eval x = .slice A m c) (hA : IA w A l2) (hN : A = none → c = 0) (hlen : l.length + l2.length ≤ 1000000) (hbase : base ≤ w.heap.size)
    (h : ∀ v' w', OI base w' v' (l ++ l2) → Below base w w' → wpList Try.prog ops Q rest (a.put o.dst v') w') :
    wpList Try.prog ops Q (o :: rest) a w := by
  obtain ⟨i0, hi, hz0, hz1, hz2⟩ := info_parts Try.info3
  subst hm
  cases A with
  | none =>
    have h0 : l2 = [] := by
      rcases Nat.eq_zero_or_pos l2.length with h | h
      · exact List.eq_nil_of_length_eq_zero h
      · obtain ⟨b, o, e, _⟩ := hA h
        cases e
    subst h0
    rw [hN rfl] at hx
    refine wpList_append_own_none hgd s x 22 ho base 3 i0 1 Try.underlying22 hi v l.length _ hs hown hx (h v w ?_ (Below.refl _ _))
    rw [List.append_nil]
    exact hown
  | some ad =>
    refine wpList_append_own_at _ hgd s x 22 ho base 3 i0 (.int .i64 0) 1 8 Try.underlying22 hi hz0 hz1 hz2 rfl (by decide) v l.length _ hs hown ad l2.length c (l2.map (Value.int .i64)) hx (by simp) (fun j u hu => ?_) (fun u hu => ?_) (by unfold maxLen; omega) (by omega) hbase ?_
    · rw [List.getElem?_map] at hu
      cases e : l2[j]? with
      | none => rw [e] at hu; cases hu
      | some y =>
        rw [e] at hu
        injection hu with hu
        subst hu
        have hj : j < l2.length := (List.getElem?_eq_some_iff.1 e).1
        obtain ⟨b, o2, e2, _, hc⟩ := hA (by omega)
        injection e2 with e2
        subst e2
        rw [add_plain, hc j hj]
        simp [List.getD, e]
    · obtain ⟨y, _, rfl⟩ := List.mem_map.1 hu
      simp [Value.oneCell']
    · intro v' w' hown' hgrow _ _
      refine h v' w' ?_ (Below.grown (Below.refl _ _) hgrow hbase (fun k hk => (hown.lt k hk).1))
      unfold OI
      rw [List.length_append, List.map_append]
      exact hown'

def eqB (xs ys : List Int) : Bool := decide (xs = ys)
theorem getD_ext' {xs ys : List Int} (hl : xs.length = ys.length) (h : ∀ i, i < xs.length → xs.getD i 0 = ys.getD i 0) : xs = ys := by
  apply List.ext_getElem hl
  intro i h1 h2
  have := h i h1
  simpa [List.getD, h1, h2] using this
set_option maxHeartbeats 1000000 in
theorem equal_ints (A B : Option Addr) (c d m1 m2 : Nat) (xs ys : List Int) (w : World) (hm1 : m1 = xs.length) (hm2 : m2 = ys.length) (hA : IA w A xs) (hB : IA w B ys) (hxl : xs.length ≤ maxLen) (hyl : ys.length ≤ maxLen) :
    Calls Try.prog 27 #[.slice A m1 c, .slice B m2 d] w fun e w' => e = .returned (.bool (eqB xs ys)) ∧ ∃ n, w' = w.drewN n := by
  subst hm1 hm2
  unfold maxLen at hxl hyl
  by_cases hl : xs.length = ys.length
  · have H := Lib.hid hl
    clear hl
    go_enter Try.func27, Try.ntmps27
    have hl0 : (xs.length : Int) = (ys.length : Int) := by rw [H.out]
    go_wp2
    clear hl0
    go_loopw [13] (fun i wr => ∃ (k j : Nat), k ≤ ys.length ∧ i = .int .i64 k ∧ wr = w.drewN j ∧ Hid (∀ i, i < k → xs.getD i 0 = ys.getD i 0)) (fun i _ => ys.length - (intOf i).toNat)
    case atStart => exact ⟨0, 0, Nat.zero_le _, rfl, rfl, Lib.hid (fun i hi => absurd hi (by omega))⟩
    case round =>
      obtain ⟨k, j, hk, rfl, rfl, HV⟩ := hrel
      by_cases hlty : k < ys.length
      · have hlt : k < xs.length := by rw [H.out]; exact hlty
        obtain ⟨bA, oA, rfl, hbA, hcA⟩ := hA (by omega)
        obtain ⟨bB, oB, rfl, hbB, hcB⟩ := hB (by omega)
        have c1 := hcA k hlt
        have c2 := hcB k hlty
        by_cases t1 : xs.getD k 0 = ys.getD k 0
        · have HS : Hid (∀ i, i < k + 1 → xs.getD i 0 = ys.getD i 0) := Lib.hid (fun i hi => by
            by_cases hik : i = k
            · subst hik; exact t1
            · exact HV.out i (by omega))
          rw [← t1] at c2
          generalize xs.getD k 0 = x at c1 c2
          clear hcA hcB hA hB t1 HV
          go_wp2
          go_quiet (fail)
          go_wp2
          go_roundw
          case rel => exact ⟨k + 1, _, by omega, by go_num, rfl, HS⟩
          case measure => simp [intOf]; omega
        · have HE : Hid (eqB xs ys = false) := Lib.hid (decide_eq_false (fun h => t1 (by rw [h])))
          generalize xs.getD k 0 = x at c1 t1
          generalize ys.getD k 0 = y at c2 t1
          have t2 : (x != y) = true := by simpa using t1
          clear hcA hcB hA hB t1 HV
          go_wp2
          go_quiet (fail)
          go_wp2
          go_ret
          exact ⟨ret_bool HE.out.symm, _, World.drewN_drewN _ _ _⟩
      · have hk2 : k = xs.length := by rw [H.out]; omega
        subst hk2
        have HE : Hid (eqB xs ys = true) := Lib.hid (decide_eq_true (getD_ext' H.out HV.out))
        have hge : ys.length ≤ xs.length := by omega
        clear hlty hk
        go_wp2
        go_ret
        exact ⟨ret_bool HE.out.symm, _, rfl⟩
  · have e : eqB xs ys = false := decide_eq_false (fun h => hl (by rw [h]))
    rw [e]
    go_enter Try.func27, Try.ntmps27
    go_wp2
    go_ret
    exact ⟨rfl, 0, rfl⟩

end Go.Proofs.Ytkaddfbnlkmehaa
