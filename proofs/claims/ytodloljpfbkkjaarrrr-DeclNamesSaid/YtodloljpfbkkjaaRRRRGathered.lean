/- The program's gathered; rows of text slices of the call's own. -/
import Derived.Test.YtodloljpfbkkjaaRRRRRefNames
namespace Go.Proofs.YtodloljpfbkkjaaRRRR.nms
open Go.ChangeShapes Go.WideShapes Go.ChangeAt Go.RowKit Go.Deep Go.Joins

/-- A slice of text slices at address A (nil let in), none of them nil. -/
def TT (w : World) (A : Option Addr) (rows : List (List ByteArray)) : Prop :=
  0 < rows.length → ∃ b off, A = some ⟨b, off, none⟩ ∧ b < w.heap.size ∧ ∀ i, i < rows.length → ∃ b2 n2 c2, w.cell? ⟨b, off + i, none⟩ = some (.slice (some ⟨b2, 0, none⟩) n2 c2) ∧ n2 = (rows.getD i []).length ∧ TA w (some ⟨b2, 0, none⟩) (rows.getD i [])
theorem TT.below {w w' : World} {A : Option Addr} {rows : List (List ByteArray)} (h : TT w A rows) (hk : Below w.heap.size w w') : TT w' A rows := fun hn => by
  obtain ⟨b, off, e, hb, hc⟩ := h hn
  refine ⟨b, off, e, Nat.lt_of_lt_of_le hb hk.size, fun i hi => ?_⟩
  obtain ⟨b2, n2, c2, h0, h1, h2⟩ := hc i hi
  exact ⟨b2, n2, c2, (hk.cell (p := ⟨b, off + i, none⟩) hb).trans h0, h1, h2.below hk⟩
theorem infoTx : (Try.prog.info? 9).map (fun i => (i.zero, i.size, i.bytes)) = some (some (.string ⟨#[]⟩), 1, 16) := by kernel_rfl
set_option maxRecDepth 20000 in
/-- append of what a slice of texts reads as onto a row of the call's own. -/
theorem append_txts {w : World} {ops : Array Oper} {rest : List Oper} {o : Oper} {a : Act} {Q : Exit → Act → World → Prop} (hgd : o.guard = none) (s x : Operand)
    (ho : o.op = .call { callee := .builtin .append, args := #[s, x], argTypes := #[47, 47] })
    (base : Nat) (v : Value) (l : List ByteArray) (hs : a.eval s = v) (hown : OS base w v l) (b m c : Nat) (l2 : List ByteArray) (hm : m = l2.length) (hx : a.eval x = .slice (some ⟨b, 0, none⟩) m c) (hA : TA w (some ⟨b, 0, none⟩) l2)
    (hlen : l.length + m ≤ 1000000) (hbase : base ≤ w.heap.size) (n : Nat) (hn : l.length + m = n)
    (h : ∀ A' c' w', OS base w' (.slice A' n c') (l ++ l2) → Below base w w' → wpList Try.prog ops Q rest (a.put o.dst (.slice A' n c')) w') :
    wpList Try.prog ops Q (o :: rest) a w := by
  obtain ⟨i0, hi, hz0, hz1, hz2⟩ := info_parts infoTx
  subst hm
  refine wpList_append_own_at _ hgd s x 47 ho base 9 i0 (.string ⟨#[]⟩) 1 16 Try.underlying47 hi hz0 hz1 hz2 rfl (by decide) v l.length _ hs hown ⟨b, 0, none⟩ l2.length c (l2.map Value.string) hx (by simp) (fun j u hu => ?_) (fun u hu => ?_) (by unfold maxLen; omega) (by omega) hbase ?_
  · rw [List.getElem?_map] at hu
    cases e : l2[j]? with
    | none => rw [e] at hu; cases hu
    | some y =>
      rw [e] at hu
      injection hu with hu
      subst hu
      have hj : j < l2.length := (List.getElem?_eq_some_iff.1 e).1
      obtain ⟨b2, o2, e2, _, hc⟩ := hA (by omega)
      injection e2 with e2
      injection e2 with e3 e4
      subst e3 e4
      rw [add_plain, hc j hj]
      simp [List.getD, e]
  · obtain ⟨y, _, rfl⟩ := List.mem_map.1 hu
    simp [Value.oneCell']
  · intro v' w' hown' hgrow _ hb
    have h2 : OS base w' v' (l ++ l2) := by
      unfold OS
      rw [List.length_append, List.map_append]
      exact hown'
    obtain ⟨A', c', rfl, _⟩ := h2.form
    rw [List.length_append, hn] at h2 ⊢
    exact h A' c' w' h2 (Below.grown (Below.refl _ _) hgrow hbase (fun k hk => (World.ownsRow.lt hown k hk).1))
theorem flat_snoc {rows : List (List ByteArray)} {k : Nat} (h : k < rows.length) : (rows.take (k + 1)).flatten = (rows.take k).flatten ++ rows.getD k [] := by
  rw [List.take_add_one, List.flatten_append]
  simp [List.getD, h]
theorem flat_le {rows : List (List ByteArray)} {k : Nat} (h : k < rows.length) : ((rows.take k).flatten).length + (rows.getD k []).length ≤ rows.flatten.length := by
  rw [← List.length_append, ← flat_snoc h]
  conv => rhs; rw [← List.take_append_drop (k + 1) rows, List.flatten_append, List.length_append]
  omega
set_option maxRecDepth 20000 in
set_option maxHeartbeats 4000000 in
theorem gathered_any (rows : List (List ByteArray)) (A : Option Addr) (c m : Nat) (w : World) (hm : m = rows.length) (hmm : m ≤ 10000) (hA : TT w A rows) (hall : rows.flatten.length ≤ 100000) :
    Calls Try.prog 32 #[.slice A m c] w (TextsP w rows.flatten) := by
  have HM := Lib.hid hm
  have HA := Lib.hid hA
  have HALL := Lib.hid hall
  clear hm hA hall
  go_enter Try.func32, Try.ntmps32
  go_wp2
  go_loopw [3, 8] (fun ov iv wr => ∃ (k N : Nat) (P : Option Addr) (Z : Nat), k ≤ m ∧ iv = .int .i64 k ∧ ov = .slice P N Z ∧ Hid (OS w.heap.size wr (.slice P N Z) (rows.take k).flatten) ∧ Hid (Below w.heap.size w wr)) (fun _ iv _ => m - (intOf iv).toNat)
  case atStart => exact ⟨0, 0, none, 0, Nat.zero_le _, rfl, rfl, Lib.hid (OS.nil _ _), Lib.hid (Below.refl _ _)⟩
  case round =>
    obtain ⟨k, N, P, Z, hk, rfl, rfl, HO, HB⟩ := hrel
    by_cases hlt : k < m
    · obtain ⟨b, o, rfl, hb, hc⟩ := HA.out.below HB.out (by rw [← HM.out]; omega)
      obtain ⟨b2, n2, c2, g0, g1, g2⟩ := hc k (by rw [← HM.out]; exact hlt)
      have HN2 := Lib.hid g1
      have HT2 := Lib.hid g2
      have HN := Lib.hid HO.out.len
      have HF := Lib.hid (flat_le (rows := rows) (k := k) (by rw [← HM.out]; exact hlt))
      have HSN := Lib.hid (flat_snoc (rows := rows) (k := k) (by rw [← HM.out]; exact hlt))
      have hi0 : (0 : Int) ≤ (k : Int) := by omega
      have hi9 : (k : Int) < (m : Int) := by omega
      have hbz := HB.out.size
      clear hc g1 g2
      go_wp2_with (at_builtin; refine append_txts rfl (.tmp 12) (.tmp 13) rfl w.heap.size (.slice P N Z) (rows.take k).flatten rfl HO.out b2 n2 c2 (rows.getD k []) HN2.out rfl HT2.out (by have := HF.out; have := HALL.out; have := HN2.out; omega) hbz (N + n2) (by have := HN.out; omega) ?_; intro A6 c6 w6 ho6 hb6; have HO6 : Hid (OS w.heap.size w6 (.slice A6 (N + n2) c6) (rows.take (k + 1)).flatten) := Lib.hid (by rw [HSN.out]; exact ho6); have HB6 : Hid (Below w.heap.size w w6) := Lib.hid (HB.out.trans hb6); clear ho6 hb6 g0)
      go_roundw
      case rel => exact ⟨k + 1, _, _, _, by omega, by go_num, rfl, HO6, HB6⟩
      case measure => simp [intOf]; omega
    · obtain rfl : k = m := by omega
      have HOX : Hid (OS w.heap.size wr (.slice P N Z) rows.flatten) := Lib.hid (by
        have := HO.out
        rwa [HM.out, List.take_length] at this)
      obtain ⟨A9, c9, e9, h9⟩ := HOX.out.form
      injection e9 with e91 e92 e93
      subst e91 e92 e93
      have H9 := Lib.hid h9
      clear h9
      go_wp2
      go_ret
      exact ⟨P, Z, rfl, H9.out, HB.out⟩
end Go.Proofs.YtodloljpfbkkjaaRRRR.nms
