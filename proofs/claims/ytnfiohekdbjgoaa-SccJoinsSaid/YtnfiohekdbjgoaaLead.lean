/- Contracts of package graph: leading and its iterator. -/
import Derived.Test.YtnfiohekdbjgoaaGraph
import Derived.Test.YtnfiohekdbjgoaaGMarks
namespace Go.Proofs.Ytnfiohekdbjgoaa
open Go.ChangeShapes Go.WideShapes Go.ChangeAt Go.RowKit Go.Shelf

attribute [local go_sem] Oper.semAt_some

theorem leading_any (A : Option Addr) (n c : Nat) (w : World) :
    Calls Try.prog 61 #[.slice A n c] w fun e w' => e = .returned (.func (.func 81) #[] #[.pointer (some ⟨w.heap.size, 0, none⟩)]) ∧ w' = w.alloc (.cells #[.slice A n c] 55) := by
  go_enter Try.func61, Try.ntmps61
  go_wp2
  go_ret
  exact ⟨rfl, rfl⟩

/-- The edges of node a that lead to nodes. -/
def rowL (n a : Nat) (row : List (Int × Int)) : List (Nat × (Int × Int)) := (row.filter fun e => nodeB n e.1).map fun e => (a, e)
theorem rowL_snoc {n a : Nat} {row : List (Int × Int)} {j : Nat} (h : j < row.length) : rowL n a (row.take (j + 1)) = rowL n a (row.take j) ++ if nodeB n (row.getD j (0, 0)).1 = true then [(a, row.getD j (0, 0))] else [] := by
  have e : row.take (j + 1) = row.take j ++ [row.getD j (0, 0)] := by rw [List.take_succ_eq_append_getElem h]; simp [List.getD, h]
  unfold rowL
  rw [e, List.filter_append, List.map_append]
  congr 1
  generalize row.getD j (0, 0) = x
  by_cases hx : nodeB n x.1 = true <;> simp [hx]
/-- Those of the first k nodes. -/
def leadTo (rows : List (List (Int × Int))) : Nat → List (Nat × (Int × Int))
  | 0 => []
  | k + 1 => leadTo rows k ++ rowL rows.length k (rows.getD k [])
theorem leadTo_prefix (rows : List (List (Int × Int))) {k m : Nat} (h : k ≤ m) : leadTo rows k <+: leadTo rows m := by
  induction m with
  | zero => obtain rfl : k = 0 := by omega
            exact List.prefix_refl _
  | succ m ih =>
    by_cases e : k = m + 1
    · subst e; exact List.prefix_refl _
    · exact (ih (by omega)).trans (List.prefix_append _ _)
theorem rowL_prefix {n a : Nat} {row : List (Int × Int)} (j : Nat) : rowL n a (row.take j) <+: rowL n a row := by
  unfold rowL
  obtain ⟨t, ht⟩ := List.take_prefix j row
  exact ⟨(t.filter fun e => nodeB n e.1).map fun e => (a, e), by rw [← List.map_append, ← List.filter_append, ht]⟩
theorem lead_part {rows : List (List (Int × Int))} {k : Nat} (hk : k < rows.length) (j : Nat) : leadTo rows k ++ rowL rows.length k ((rows.getD k []).take j) <+: leadTo rows rows.length := by
  refine List.IsPrefix.trans ?_ (leadTo_prefix rows (show k + 1 ≤ rows.length by omega))
  rw [leadTo]
  exact (List.prefix_append_right_inj _).2 (rowL_prefix j)

/-- An edge, as it is told. -/
def encE (x : Nat × (Int × Int)) : Array Value := #[.int .i64 x.1, .agg #[.int .i64 x.2.1, .int .i64 x.2.2]]

set_option maxRecDepth 100000 in
set_option maxHeartbeats 2000000 in
/-- leading's iterator, for every loop body that keeps the elder blocks, and the iterator's own. -/
theorem lead1_in (w0 : World) (l Bp c : Nat) (A : Option Addr) (rows : List (List (Int × Int))) (hR : RA w0 A rows) (hrl : rows.length ≤ 140737488355328) (J Jx : List (Nat × (Int × Int)) → World → Prop) (W : World)
    (hJ : AbidesFrom W.heap.size J) (hw : ∀ q, q < w0.heap.size → W.heap[q]? = w0.heap[q]?)
    (hY : ∀ pre x V, nodeB rows.length x.2.1 = true → x.1 < rows.length → J pre V → pre.length < (leadTo rows rows.length).length → YieldAt Fence.wide 3 Try.prog l (encE x) V fun e V' =>
      (e = .returned (.bool true) ∧ J (pre ++ [x]) V' ∧ KS (fun q => q < w0.heap.size ∨ q = Bp) V V') ∨ (e = .returned (.bool false) ∧ Jx (pre ++ [x]) V'))
    (hBp : W.heap[Bp]? = some (.cells #[.slice A rows.length c] 55 (0, 0))) (h0 : J [] W) :
    CallsIn Fence.wide 4 Try.prog 81 #[.func (.yield l) #[] #[], .pointer (some ⟨Bp, 0, none⟩)] W fun e W' => (∃ v, e = .returned v) ∧
      ((∃ ys, ys = leadTo rows rows.length ∧ J ys W') ∨ (∃ pre, pre <+: leadTo rows rows.length ∧ Jx pre W')) := by
  have HR := Lib.hid hR
  have c0 := (cell_of_box_l hBp).1
  have HB0 := Lib.hid hBp
  have HW0 := Lib.hid hw
  have HJ := Lib.hid hJ
  obtain ⟨n, HN⟩ : ∃ n, Hid (rows.length = n) := ⟨_, Lib.hid rfl⟩
  rw [HN.out] at c0 hrl
  clear hR hw hJ hBp
  refine callsIn_of_wp Try.func81 rfl trivial ?_ rfl
  simp only [Try.ntmps81, List.size_toArray, List.length_cons, List.length_nil, Nat.reduceAdd, Nat.reduceSub, Array.replicate_succ, Array.replicate_zero, List.push_toArray, List.append_toArray, List.nil_append, List.cons_append]
  gi_wp2
  gi_loopw [9] (fun i wr => ∃ k : Nat, k ≤ n ∧ i = .int .i64 k ∧ J (leadTo rows k) wr ∧ Hid (∀ q, q < w0.heap.size → wr.heap[q]? = w0.heap[q]?) ∧ Hid (wr.heap[Bp]? = some (.cells #[.slice A n c] 55 (0, 0)))) (fun i _ => n - (intOf i).toNat)
  case atStart => exact ⟨0, by omega, rfl, h0, HW0, by rw [← HN.out]; exact HB0⟩
  case round =>
    obtain ⟨k, hk, rfl, hJ1, HW, HB⟩ := hrel
    by_cases hlt : k < n
    · obtain ⟨b, off, rfl, hb, hc⟩ := HR.out (by rw [HN.out]; omega)
      obtain ⟨A', c', e1, hl1, hl2, hP⟩ := hc k (by rw [HN.out]; exact hlt)
      have c1 : wr.cell? ⟨b, off + k, none⟩ = some (.slice A' (rows.getD k []).length c') := (World.cell?_of_block (a := ⟨b, off + k, none⟩) (HW.out b hb)).trans e1
      have HP := Lib.hid hP
      have HK : Hid (k < rows.length) := Lib.hid (by rw [HN.out]; exact hlt)
      obtain ⟨row, HROW⟩ : ∃ row, Hid (rows.getD k [] = row) := ⟨_, Lib.hid rfl⟩
      rw [HROW.out] at c1 HP hl1
      obtain ⟨m, HM⟩ : ∃ m, Hid (row.length = m) := ⟨_, Lib.hid rfl⟩
      rw [HM.out] at c1 hl1
      have hml : m ≤ 9223372036854775807 := by unfold maxLen at hl2; omega
      clear hc e1 hP hl1 hl2
      gi_wp2
      gi_loopw [16] (fun i wr => ∃ j : Nat, j ≤ m ∧ i = .int .i64 j ∧ J (leadTo rows k ++ rowL n k (row.take j)) wr ∧ Hid (∀ q, q < w0.heap.size → wr.heap[q]? = w0.heap[q]?) ∧ Hid (wr.heap[Bp]? = some (.cells #[.slice (some ⟨b, off, none⟩) n c] 55 (0, 0)))) (fun i _ => m - (intOf i).toNat)
      case atStart => exact ⟨0, by omega, rfl, by simpa [rowL] using hJ1, HW, HB⟩
      case round =>
        clear hJ1
        obtain ⟨j, hj, rfl, hJ2, HW2, HB2⟩ := hrel
        by_cases hjm : j < m
        · obtain ⟨br, fr, rfl, hbr, hcr⟩ := HP.out (by rw [HM.out]; omega)
          obtain ⟨e1, e2⟩ := hcr j (by rw [HM.out]; exact hjm)
          have d1 := (World.cell?_of_block (a := ⟨br, fr + j * 2, none⟩) (HW2.out br hbr)).trans e1
          have d2 := (World.cell?_of_block (a := ⟨br, fr + j * 2 + 1, none⟩) (HW2.out br hbr)).trans e2
          have HSN := Lib.hid (rowL_snoc (n := n) (a := k) (row := row) (j := j) (by rw [HM.out]; exact hjm))
          have HPT : Hid (leadTo rows k ++ rowL n k (row.take (j + 1)) <+: leadTo rows rows.length) := Lib.hid (by
            have := lead_part HK.out (j + 1)
            rw [HN.out, HROW.out] at this
            rw [HN.out]
            exact this)
          clear hcr e1 e2
          generalize row.getD j (0, 0) = e at d1 d2 HSN
          obtain ⟨to, ac⟩ := e
          simp only at d1 d2 HSN
          have hbp := (Array.getElem?_eq_some_iff.1 HB2.out).1
          have hj3 : J (leadTo rows k ++ rowL n k (row.take j)) (wr.alloc (.cells #[.int .i64 to, .int .i64 ac] 46)) := HJ.out _ _ _ none hJ2 (World.grownBy_alloc wr _ none) (fun r e => by cases e)
          have HW3 : Hid (∀ q, q < w0.heap.size → (wr.alloc (.cells #[.int .i64 to, .int .i64 ac] 46)).heap[q]? = w0.heap[q]?) := Lib.hid (fun q hq => (Below.heap_alloc _ _ _ (Array.getElem?_eq_some_iff.1 ((HW2.out q hq).trans (Array.getElem?_eq_getElem hq))).1).trans (HW2.out q hq))
          have HB3 : Hid ((wr.alloc (.cells #[.int .i64 to, .int .i64 ac] 46)).heap[Bp]? = some (.cells #[.slice (some ⟨b, off, none⟩) n c] 55 (0, 0))) := Lib.hid ((Below.heap_alloc _ _ _ hbp).trans HB2.out)
          have c3 := (cell_of_box_l HB3.out).1
          have n1 : (wr.alloc (.cells #[.int .i64 to, .int .i64 ac] 46)).cell? ⟨wr.heap.size, 0, none⟩ = some (.int .i64 to) := cell_of_row _ _ 0 _ _ _ (World.alloc_heap_new wr _)
          have n2 : (wr.alloc (.cells #[.int .i64 to, .int .i64 ac] 46)).cell? ⟨wr.heap.size, 1, none⟩ = some (.int .i64 ac) := cell_of_row _ _ 1 _ _ _ (World.alloc_heap_new wr _)
          have hl1 : (leadTo rows k ++ rowL n k (row.take j) ++ [(k, (to, ac))]).length ≤ (leadTo rows rows.length).length ∨ nodeB n to = false := by
            rcases hnb : nodeB n to with _ | _
            · exact .inr rfl
            · rw [HSN.out, if_pos hnb] at HPT
              exact .inl (by rw [List.append_assoc]; exact HPT.out.length_le)
          have HL1 := Lib.hid hl1
          clear hl1
          gi_wp2_with fail
          refine ⟨trivial, ?_⟩
          refine (callsIn_wide.2 (has_any _ n c to _)).mono ?_
          rintro _ _ ⟨rfl, rfl⟩
          rcases hnb : nodeB n to with _ | _
          · have HE : Hid (rowL n k (row.take (j + 1)) = rowL n k (row.take j)) := Lib.hid (by rw [HSN.out, hnb]; simp)
            clear hnb
            gi_wp2
            refine ⟨fun _ h => (by cases h), ?_⟩
            gi_wp2
            go_roundw
            case rel => exact ⟨j + 1, by omega, by go_num, by rw [HE.out]; exact hj3, HW3, HB3⟩
            case measure => simp [intOf]; omega
          · have HE : Hid (rowL n k (row.take (j + 1)) = rowL n k (row.take j) ++ [(k, (to, ac))]) := Lib.hid (by rw [HSN.out, if_pos hnb])
            have HLEN : (leadTo rows k ++ rowL n k (row.take j)).length < (leadTo rows rows.length).length := by
              rcases HL1.out with h | h
              · rw [List.length_append, List.length_singleton] at h; omega
              · rw [hnb] at h; cases h
            obtain ⟨fn, tmps, assign, body, hy, hRR⟩ := hY _ (k, (to, ac)) _ (by rw [HN.out]; exact hnb) HK.out hj3 HLEN
            clear hnb HLEN
            unfold encE at hy
            simp only at hy
            gi_wp2
            refine hRR.mono ?_
            rintro e W3 (⟨rfl, hJ3, hk3⟩ | ⟨rfl, hJx3⟩)
            · gi_wp2
              go_roundw
              case rel => exact ⟨j + 1, by omega, by go_num, by rw [HE.out, ← List.append_assoc]; exact hJ3, Lib.hid (fun q hq => (hk3 q (.inl hq)).trans (HW3.out q hq)), Lib.hid ((hk3 Bp (.inr rfl)).trans HB3.out)⟩
              case measure => simp [intOf]; omega
            · gi_wp2
              refine bodyPost_ret (results_none rfl _ _ _) rfl ?_
              exact ⟨⟨_, rfl⟩, .inr ⟨_, by rw [List.append_assoc, ← HE.out]; exact HPT.out, hJx3⟩⟩
        · obtain rfl : j = m := by omega
          have HL : Hid (leadTo rows (k + 1) = leadTo rows k ++ rowL n k (row.take j)) := Lib.hid (by rw [leadTo, HN.out, HROW.out, List.take_of_length_le (Nat.le_of_eq HM.out)])
          gi_wp2
          go_roundw
          case rel => exact ⟨k + 1, by omega, by go_num, by rw [HL.out]; exact hJ2, HW2, HB2⟩
          case measure => simp [intOf]; omega
    · obtain rfl : k = n := by omega
      gi_wp2
      go_end0
      exact ⟨⟨_, rfl⟩, .inl ⟨_, rfl, by rw [HN.out]; exact hJ1⟩⟩
/-- An edge to a node, with the node it leads out of. -/
structure Led (n : Nat) where
  e : Nat × (Int × Int)
  is : nodeB n e.2.1 = true
  lt : e.1 < n
def encL {n : Nat} (x : Led n) : Array Value := encE x.e

/-- leading hands back a value that tells the edges between nodes, each with the node it leads out of. -/
theorem leading_stops (w0 w : World) (Bp c : Nat) (A : Option Addr) (rows : List (List (Int × Int))) (hR : RA w0 A rows) (hrl : rows.length ≤ 140737488355328) (hz : w0.heap.size ≤ w.heap.size) (hw : ∀ q, q < w0.heap.size → w.heap[q]? = w0.heap[q]?)
    (hBp : w.heap[Bp]? = some (.cells #[.slice A rows.length c] 55 (0, 0))) :
    SeqStopsK Fence.wide 4 Try.prog 81 #[.pointer (some ⟨Bp, 0, none⟩)] (encL (n := rows.length)) (KS fun q => q < w0.heap.size ∨ q = Bp) (fun ys => ys.map Led.e = leadTo rows rows.length) (fun pre => pre.map Led.e <+: leadTo rows rows.length) (leadTo rows rows.length).length w := fun l J Jx W hW hJ _ hY h0 => by
  refine CallsIn.mono (lead1_in w0 l Bp c A rows hR hrl (fun ys V => ∃ zs : List (Led rows.length), zs.map Led.e = ys ∧ J zs V) (fun ys V => ∃ zs : List (Led rows.length), zs.map Led.e = ys ∧ Jx zs V) W
    (fun ys V V' row ⟨zs, e, h⟩ hg hr => ⟨zs, e, hJ zs V V' row h hg hr⟩) (fun q hq => (hW.block q (by omega)).trans (hw q hq)) (fun pre x V hx hxl hJ1 hlen => ?_) ((hW.block Bp (Array.getElem?_eq_some_iff.1 hBp).1).trans hBp) ⟨[], rfl, h0⟩) ?_
  · obtain ⟨zs, rfl, hz1⟩ := hJ1
    obtain ⟨fn, tmps, assign, body, hy, hRR⟩ := hY zs ⟨x, hx, hxl⟩ V hz1 (by rw [List.length_map] at hlen; exact hlen)
    refine ⟨fn, tmps, assign, body, hy, hRR.mono ?_⟩
    rintro e V2 (⟨he, h1, h2⟩ | ⟨he, h1⟩)
    · exact .inl ⟨he, ⟨_, by simp, h1⟩, h2⟩
    · exact .inr ⟨he, _, by simp, h1⟩
  · rintro e V ⟨hv, ⟨ys, rfl, zs, e1, h1⟩ | ⟨pre, hp, zs, rfl, h1⟩⟩
    · exact ⟨hv, .inl ⟨zs, e1, h1⟩⟩
    · exact ⟨hv, .inr ⟨zs, hp, h1⟩⟩
end Go.Proofs.Ytnfiohekdbjgoaa
