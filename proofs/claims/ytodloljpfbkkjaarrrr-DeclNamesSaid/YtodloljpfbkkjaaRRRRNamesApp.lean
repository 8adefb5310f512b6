/- The program's Names: an append of text slices to a row of them. -/
import Derived.Test.YtodloljpfbkkjaaRRRRNamesRows
namespace Go.Proofs.YtodloljpfbkkjaaRRRR.nms
open Go.ChangeShapes Go.WideShapes Go.ChangeAt Go.RowKit Go.Deep Go.Joins

theorem infoTT : (Try.prog.info? 47).map (fun i => (i.zero, i.size, i.bytes)) = some (some (.slice none 0 0), 1, 24) := by kernel_rfl
theorem OT.len {base : Nat} {w : World} {P : Option Addr} {N Z : Nat} {VL : List (List ByteArray)} (h : OT base w (.slice P N Z) VL) : N = VL.length := by
  obtain ⟨A, c, e, _⟩ := h.tt
  injection e
set_option maxRecDepth 20000 in
theorem run_append_ot {w : World} (base lo : Nat) (v : Value) (VL : List (List ByteArray)) (hown : OT base w v VL) (H n2 c2 : Nat) (VL2 : List (List ByteArray)) (h2 : OT lo w (.slice (some ⟨H, 0, none⟩) n2 c2) VL2) (hlo : base ≤ lo) (hv : ∀ b, v.ownBlock = some b → b < lo) (hlen : VL.length + VL2.length ≤ 100000) (hbase : base ≤ w.heap.size) (n : Nat) (hn : VL.length + VL2.length = n) :
    ∃ A' c' w', (Builtin.append_ #[78, 78] 78 #[v, .slice (some ⟨H, 0, none⟩) n2 c2]).run Try.prog w = .ok (.slice A' n c') w' ∧ OT base w' (.slice A' n c') (VL ++ VL2) ∧ Below base w w' ∧ w.grownBy w' v.ownBlock := by
  have hl2 := h2.len
  obtain ⟨cs, hw, hr0⟩ := hown.own
  obtain ⟨cs2, hw2, hr2⟩ := h2.own
  subst hl2
  obtain ⟨i0, hi, hz0, hz1, hz2⟩ := info_parts infoTT
  have hcs2 : cs2.length = VL2.length := by have := hw2.1; omega
  obtain ⟨v', w', hr, h3, h4, _, h5⟩ := run_append_own_at (P := Try.prog) w base 78 78 47 i0 (.slice none 0 0) 1 24 Try.underlying78 hi hz0 hz1 hz2 rfl (by decide) v VL.length _ hw ⟨H, 0, none⟩ VL2.length c2 cs2 (by omega) (fun j u hu => by
    have hj : j < VL2.length := by rw [← hcs2]; exact (List.getElem?_eq_some_iff.1 hu).1
    rw [add_plain, Nat.zero_add, World.ownsRow.cellAt hw2 j (by omega)]
    exact hu) (fun u hu => by
    obtain ⟨j, hj⟩ := List.getElem?_of_mem hu
    have hjl : j < VL2.length := by rw [← hcs2]; exact (List.getElem?_eq_some_iff.1 hj).1
    obtain ⟨b, m, c, e, _⟩ := hr2 j hjl
    rw [hj] at e
    injection e with e
    subst e
    rfl) (by unfold maxLen; omega) (by omega) hbase
  have far : ∀ k, k < w.heap.size → v.ownBlock ≠ some k → w'.heap[k]? = w.heap[k]? := fun k hk hne => h4.block k hk (fun e => hne e.symm)
  have own' : ∀ k, k < w.heap.size → v.ownBlock ≠ some k → v'.ownBlock ≠ some k := fun k hk hne e => by
    rcases h5 with h5 | h5
    · exact hne (h5 ▸ e)
    · rw [h5] at e
      injection e with e
      omega
  have keep : ∀ (b : Nat) (l : List ByteArray), TA w (some ⟨b, 0, none⟩) l → b < w.heap.size → v.ownBlock ≠ some b → TA w' (some ⟨b, 0, none⟩) l := fun b l hA hb hne hn => by
    obtain ⟨b1, o1, e1, _, hc1⟩ := hA hn
    injection e1 with e1
    injection e1 with e1 e2
    subst e1 e2
    exact ⟨b, 0, rfl, Nat.lt_of_lt_of_le hb h4.size, fun i hi => (World.cell?_of_block (far b hb hne)).trans (hc1 i hi)⟩
  have hcs : cs.length = VL.length := by have := hw.1; omega
  have h6 : OT base w' v' (VL ++ VL2) := by
    refine ⟨cs ++ cs2, by rw [List.length_append]; exact h3, fun i hi => ?_⟩
    rw [List.length_append] at hi
    by_cases hik : i < VL.length
    · obtain ⟨b, m, c, e, hl, ht, p1, p2, p3⟩ := hr0 i hik
      have eg : (VL ++ VL2).getD i [] = VL.getD i [] := by simp [List.getD, List.getElem?_append_left hik]
      rw [eg]
      exact ⟨b, m, c, by rw [List.getElem?_append_left (by omega)]; exact e, hl, keep b _ ht p3 p2, p1, own' _ p3 p2, Nat.lt_of_lt_of_le p3 h4.size⟩
    · obtain ⟨b, m, c, e, hl, ht, p1, p2, p3⟩ := hr2 (i - VL.length) (by omega)
      have eg : (VL ++ VL2).getD i [] = VL2.getD (i - VL.length) [] := by simp [List.getD, List.getElem?_append_right (show VL.length ≤ i by omega)]
      rw [eg]
      have hne : v.ownBlock ≠ some b := fun e9 => by have := hv b e9; omega
      exact ⟨b, m, c, by rw [List.getElem?_append_right (by omega), hcs]; exact e, hl, keep b _ ht p3 hne, by omega, own' _ p3 hne, Nat.lt_of_lt_of_le p3 h4.size⟩
  obtain ⟨A', c', rfl, _⟩ := h6.tt
  rw [List.length_append, hn] at h6 hr
  exact ⟨A', c', w', hr, h6, Below.grown (Below.refl _ _) h4 hbase (fun k hk => (World.ownsRow.lt hw k hk).1), h4⟩
/-- At a step of a region that draws its order. -/
theorem step_ot {w : World} {ops : Array Oper} {o : Oper} {a : Act} {K : Act → World → Prop} {Q : Exit → Act → World → Prop} {E : Prop} (base lo : Nat) (hgd : o.guard = none) (s x : Operand)
    (ho : o.op = .call { callee := .builtin .append, args := #[s, x], argTypes := #[78, 78] }) (hty : o.type = 78) (v : Value) (VL : List (List ByteArray)) (hs : a.eval s = v) (hown : OT base w v VL) (H n2 c2 : Nat) (VL2 : List (List ByteArray)) (hx : a.eval x = .slice (some ⟨H, 0, none⟩) n2 c2) (h2 : OT lo w (.slice (some ⟨H, 0, none⟩) n2 c2) VL2) (hlo : base ≤ lo) (hv : ∀ b, v.ownBlock = some b → b < lo) (hlen : VL.length + VL2.length ≤ 100000) (hbase : base ≤ w.heap.size) (n : Nat) (hn : VL.length + VL2.length = n)
    (h : ∀ A' c' w', OT base w' (.slice A' n c') (VL ++ VL2) → Below base w w' → w.grownBy w' v.ownBlock → K (a.put o.dst (.slice A' n c')) w') :
    if Region.wanted o (yielded ops a.tmps) = true then Oper.wp Try.prog o a w K Q else E := by
  obtain ⟨A', c', w', hr, h3, h4, h5⟩ := run_append_ot base lo v VL hown H n2 c2 VL2 h2 hlo hv hlen hbase n hn
  have hw : Region.wanted o (yielded ops a.tmps) = true := by simp [Region.wanted, hgd]
  rw [if_pos hw]
  unfold Oper.wp execOp
  simp only [ho, resolve, invoke, builtin, Sem.run_bind, Sem.run_pure, Result.andThen_ok, List.map_toArray, List.map_cons, List.map_nil, hs, hx, hty, hr]
  exact h A' c' w' h3 h4 h5
/-- named's contract, the new block under a name. -/
theorem newT_row {w w' : World} {l : List ByteArray} {e : Ending} (h : NewT w l e w') : ∃ b, e = .returned (.slice (some ⟨b, 0, none⟩) l.length l.length) ∧ RowT w.heap.size w' b l.length l ∧ Below w.heap.size w w' := by
  obtain ⟨h1, h2, h3, h4⟩ := h
  exact ⟨_, h1, ⟨rfl, h2, Nat.le_refl _, h4⟩, h3⟩
theorem RowT.mono {base base' : Nat} {w : World} {b n : Nat} {l : List ByteArray} (h : RowT base w b n l) (hb : base' ≤ base) : RowT base' w b n l := ⟨h.1, h.2.1, Nat.le_trans hb h.2.2.1, h.2.2.2⟩
end Go.Proofs.YtodloljpfbkkjaaRRRR.nms
