/- Contracts of package scc: Live; the document's. -/
import Derived.Test.YtnfiohekdbjgoaaSccRefParts
namespace Go.Proofs.Ytnfiohekdbjgoaa.sc
open Go.ChangeShapes Go.WideShapes Go.ChangeAt Go.RowKit

/-- Truths of nodes: each tells whether a way leads back to it. -/
def LiveR (w : World) (n : Nat) (rows : List (List (Int × Int))) (A : Option Addr) (w' : World) : Prop :=
  ∃ lv : Nat → Bool, (0 < n → ∃ b, A = some ⟨b, 0, none⟩ ∧ w.heap.size ≤ b ∧ b < w'.heap.size ∧ ∀ i, i < n → w'.cell? ⟨b, i, none⟩ = some (.bool (lv i))) ∧ (∀ i, i < n → (lv i = true ↔ Wp (eR n rows) i i))
def LiveP (w : World) (n : Nat) (rows : List (List (Int × Int))) (e : Ending) (w' : World) : Prop := ∃ A c, e = .returned (.slice A n c) ∧ LiveR w n rows A w' ∧ Below w.heap.size w w'
theorem bool_iff {a b : Bool} {p : Prop} (h : a = true ↔ p) (k : b = true ↔ p) : a = b := Bool.eq_iff_iff.2 (h.trans k.symm)
set_option maxRecDepth 20000 in
/-- append of one truth onto a row of the call's own. -/
theorem append_truth {w : World} {ops : Array Oper} {rest : List Oper} {o : Oper} {a : Act} {Q : Exit → Act → World → Prop} (hgd : o.guard = none) (s x : Operand)
    (ho : o.op = .call { callee := .builtin .append, args := #[s, x], argTypes := #[33, 33] })
    (base : Nat) (v : Value) (l : List Bool) (hs : a.eval s = v) (hown : w.ownsRow base 4 1 v l.length (l.map Value.bool)) (z : Bool)
    (hx : a.eval x = .slice (some ⟨w.heap.size, 0, none⟩) 1 1) (hlen : l.length + 1 ≤ 1000000) (hbase : base ≤ w.heap.size)
    (h : ∀ v' w', w'.ownsRow base 4 1 v' (l ++ [z]).length ((l ++ [z]).map Value.bool) → Below base w w' → wpList Try.prog ops Q rest (a.put o.dst v') w') :
    wpList Try.prog ops Q (o :: rest) a (w.alloc (.cells #[.bool z] 4)) := by
  obtain ⟨i0, hi, hz0, hz1, hz2⟩ := info_parts (show (Try.prog.info? 4).map (fun i => (i.zero, i.size, i.bytes)) = some (some (.bool false), 1, 1) by kernel_rfl)
  refine wpList_append_own_at _ hgd s x 33 ho base 4 i0 (.bool false) 1 1 Try.underlying33 hi hz0 hz1 hz2 rfl (by decide) v l.length _ hs (hown.alloc _) ⟨w.heap.size, 0, none⟩ 1 1 [.bool z] hx rfl (cell_one_new _ _ _) (by simp [Value.oneCell']) (by unfold maxLen; omega) (by omega) (by simp; omega) ?_
  intro v' w' hown' hgrow _ hb
  refine h v' w' ?_ (Below.grown ((Below.refl _ _).alloc hbase _) hgrow (by simp; omega) (fun k hk => (hown.lt k hk).1))
  rw [List.length_append, List.map_append]
  exact hown'
set_option maxRecDepth 20000 in
set_option maxHeartbeats 4000000 in
theorem refLive_any' (v1 v3 : Value) (A2 : Option Addr) (c2 n : Nat) (rows : List (List (Int × Int))) (w : World) (hn : n = rows.length) (hnl : n ≤ 100) (hrow : ∀ i, (rows.getD i []).length ≤ 2000) (hA : RA w A2 rows) :
    Calls Try.prog 44 #[.agg #[v1, .slice A2 n c2, v3]] w (LiveP w n rows) := by
  obtain ⟨w1, HW1⟩ : ∃ w1, Hid (w1 = w.alloc (.cells #[v1, .slice A2 n c2, v3] 26)) := ⟨_, Lib.hid rfl⟩
  have HB1 : Hid (Below w.heap.size w w1) := Lib.hid (by rw [HW1.out]; exact (Below.refl _ _).alloc (Nat.le_refl _) _)
  have HWY := Lib.hid (refWays_any' v1 v3 A2 c2 n rows w1 hn hnl hrow (RA.below hA HB1.out))
  obtain ⟨q0, q1, q2⟩ := box3 w v1 (.slice A2 n c2) v3 26
  rw [← HW1.out] at q0 q1 q2
  clear hn hrow hA
  go_enter Try.func44, Try.ntmps44
  go_wp2_with fail
  rw [← HW1.out]
  go_wp2_with fail
  refine HWY.out.mono ?_
  rintro e w2 ⟨v2, rb, rfl, hm2, hb2⟩
  have HM2 := Lib.hid hm2
  have HB2 : Hid (Below w.heap.size w w2) := Lib.hid (HB1.out.trans (hb2.mono HB1.out.size))
  clear hm2 hb2 q0 q1 q2
  obtain ⟨A0, cap0, rfl⟩ := HM2.out.form
  go_wp2_with fail
  go_loopw [4, 5] (fun v i wr => ∃ (j : Nat) (l : List Bool), j ≤ n ∧ i = .int .i64 j ∧ Hid (wr.ownsRow w2.heap.size 4 1 v l.length (l.map Value.bool)) ∧ Hid (l = (List.range j).map (fun a => wR n rows a a)) ∧ Hid (Below w2.heap.size w2 wr)) (fun _ i _ => n - (intOf i).toNat)
  case atStart => exact ⟨0, [], by omega, rfl, Lib.hid (World.ownsRow_nil _ _ _ _), Lib.hid rfl, Lib.hid (Below.refl _ _)⟩
  case round =>
    obtain ⟨j, l, hj, rfl, HO, HL, HB⟩ := hrel
    by_cases hlt : j < n
    · have HM := Lib.hid (HM2.out.below HB.out)
      obtain ⟨g0, cap1, hv, hg1, _, _, _⟩ := HM.out.cell (by omega)
      injection hv with hv1 _ hv2
      subst hv1 hv2
      have c1 := HM.out.at_ hlt
      have c2 := (HM.out.row j hlt).cell hlt
      have hll : l.length + 1 ≤ 1000000 := by have := congrArg List.length HL.out; simp at this; omega
      have HLN : Hid (l ++ [wR n rows j j] = (List.range (j + 1)).map (fun a => wR n rows a a)) := Lib.hid (by rw [HL.out, List.range_succ, List.map_append]; rfl)
      generalize wR n rows j j = z at c2 HLN
      go_wp2_with (at_builtin; go_loud (refine append_truth rfl (.tmp 14) (.tmp 22) rfl w2.heap.size _ l rfl HO.out z rfl hll HB.out.size ?_); intro v4 w4 ho4 hb4; have HO4 := Lib.hid ho4; have HB4 : Hid (Below w2.heap.size w2 w4) := Lib.hid (HB.out.trans hb4); clear ho4 hb4)
      go_roundw
      case rel => exact ⟨j + 1, l ++ [z], by omega, by go_num, HO4, HLN, HB4⟩
      case measure => simp [intOf]; omega
    · obtain rfl : n = j := by omega
      go_wp2_with fail
      go_ret
      have hln : l.length = n := by have := congrArg List.length HL.out; simpa using this
      have ho := HO.out
      rcases ho.2 with ⟨e, h0⟩ | ⟨g, cap, cur, e, hb, hg, h3, h4, h5, h6⟩
      · subst e
        exact ⟨none, 0, by rw [show n = 0 by omega]; rfl, ⟨fun _ => false, fun h => by omega, fun i hi => by omega⟩, HB2.out.trans (HB.out.mono HB2.out.size)⟩
      · subst e
        refine ⟨some ⟨g, 0, none⟩, cap, by rw [hln]; rfl, ⟨fun i => wR n rows i i, fun _ => ⟨g, rfl, Nat.le_trans HB2.out.size hb, (Array.getElem?_eq_some_iff.1 hg).1, fun i hi => ?_⟩, fun i hi => wR_iff⟩, HB2.out.trans (HB.out.mono HB2.out.size)⟩
        have := World.ownsRow.cellAt ho i (by simp; omega)
        rw [this, HL.out]
        simp [hi]
theorem refLive_any {w : World} {v : Value} {G : Gr} (hv : GV w v G) (hnl : G.rows.length ≤ 100) (hrow : ∀ i, (G.rows.getD i []).length ≤ 2000) : Calls Try.prog 44 #[v] w (LiveP w G.rows.length G.rows) := by
  obtain ⟨A1, c1, A2, c2, A3, c3, rfl, _, ⟨a2, b2, d2⟩, _⟩ := hv
  exact refLive_any' _ _ A2 c2 _ G.rows w rfl hnl hrow d2

theorem ca_any (v1 v3 : Value) (A2 : Option Addr) (c2 n : Nat) (rows : List (List (Int × Int))) (A : Option Addr) (m c : Nat) (part : List Int) (w : World) (hn : n = rows.length) (hnl : n ≤ 100) (hrow : ∀ i, (rows.getD i []).length ≤ 2000) (hA : RA w A2 rows) (hm : m = part.length) (hml : m ≤ 1000000) (hP : IA w A part) :
    Calls Try.prog 41 #[.agg #[v1, .slice A2 n c2, v3], .slice A m c] w (CycP w n rows part) := cyclic_any' v1 v3 A2 c2 n rows A m c part w hn hnl hrow hA hm hml hP
set_option maxRecDepth 20000 in
set_option maxHeartbeats 8000000 in
theorem live_any' (v1 v3 : Value) (A2 : Option Addr) (c2 n : Nat) (rows : List (List (Int × Int))) (w : World) (hn : n = rows.length) (hnl : n ≤ 100) (hc2 : n ≤ c2) (hcm : c2 ≤ maxLen) (hrow : ∀ i, (rows.getD i []).length ≤ 2000) (hA : RA w A2 rows) :
    Calls Try.prog 43 #[.agg #[v1, .slice A2 n c2, v3]] w (LiveP w n rows) := by
  obtain ⟨i0, hi, hz0, hz1, hz2⟩ := info_parts (show (Try.prog.info? 4).map (fun i => (i.zero, i.size, i.bytes)) = some (some (.bool false), 1, 1) by kernel_rfl)
  have hmk : ∀ W : World, (Instr.makeSlice 33 (.int .i64 (n : Int)) (.int .i64 (n : Int))).run Try.prog W = .ok (.slice (some ⟨W.heap.size, 0, none⟩) n n) (W.alloc (.cells (madeCells #[.bool false] n) 4)) := fun W => by
    have hr := run_make (P := Try.prog) W 33 4 i0 _ (by kernel_rfl) hi hz0 .i64 .i64 (n : Int) (n : Int) (by omega) (Int.le_refl _) (by rw [hz2]; omega) (by omega)
    rw [hr, hz1]
    rw [Int.toNat_natCast, Nat.mul_one]
    rfl
  clear hi hz0 hz1 hz2
  have HN := Lib.hid hn
  have HROW := Lib.hid hrow
  obtain ⟨w1, HW1⟩ : ∃ w1, Hid (w1 = w.alloc (.cells #[v1, .slice A2 n c2, v3] 26)) := ⟨_, Lib.hid rfl⟩
  have HB1 : Hid (Below w.heap.size w w1) := Lib.hid (by rw [HW1.out]; exact (Below.refl _ _).alloc (Nat.le_refl _) _)
  have HZ1 : Hid (w1.heap.size = w.heap.size + 1) := Lib.hid (by rw [HW1.out]; simp)
  obtain ⟨q0, q1, q2⟩ := box3 w v1 (.slice A2 n c2) v3 26
  rw [← HW1.out] at q0 q1 q2
  obtain ⟨w2, HW2⟩ : ∃ w2, Hid (w2 = w1.alloc (.cells (madeCells #[.bool false] n) 4)) := ⟨_, Lib.hid rfl⟩
  have HB2 : Hid (Below w1.heap.size w1 w2) := Lib.hid (by rw [HW2.out]; exact (Below.refl _ _).alloc (Nat.le_refl _) _)
  have HZ2 : Hid (w2.heap.size = w1.heap.size + 1) := Lib.hid (by rw [HW2.out]; simp)
  have HR2 : Hid (w2.rowIs w1.heap.size 4 n (fun i => .bool ((fun _ => false) i))) := Lib.hid (by rw [HW2.out]; exact World.rowIs_made w1 (.bool false) n 4)
  have HV : Hid (∀ W, Below w1.heap.size w2 W → W.cell? ⟨w.heap.size, 0, none⟩ = some v1 ∧ W.cell? ⟨w.heap.size, 1, none⟩ = some (.slice A2 n c2) ∧ W.cell? ⟨w.heap.size, 2, none⟩ = some v3 ∧ RA W A2 rows ∧ Below w.heap.size w W) := Lib.hid (fun W hW => by
    have k : Below w1.heap.size w1 W := HB2.out.trans hW
    have kw : Below w.heap.size w W := HB1.out.trans (k.mono HB1.out.size)
    exact ⟨(k.cell (p := ⟨w.heap.size, 0, none⟩) (by have := HZ1.out; simp; omega)).trans q0, (k.cell (p := ⟨w.heap.size, 1, none⟩) (by have := HZ1.out; simp; omega)).trans q1, (k.cell (p := ⟨w.heap.size, 2, none⟩) (by have := HZ1.out; simp; omega)).trans q2, RA.below hA kw, kw⟩)
  have HPA := Lib.hid (parts_any' v1 v3 A2 c2 n rows w2 hn hnl hc2 hcm hrow (HV.out w2 (Below.refl _ _)).2.2.2.1)
  clear hn hrow hA
  go_enter Try.func43, Try.ntmps43
  go_upto_region 1 with (fail)
  rw [← HW1.out]
  go_upto_region 2 with (fail)
  rw [← HW2.out]
  obtain ⟨s0, s1, s2, _, _⟩ := HV.out w2 (Below.refl _ _)
  clear q0 q1 q2 hmk
  go_wp2_with fail
  refine HPA.out.mono ?_
  rintro e w3 ⟨L, hL, v, vals, rfl, hpt, hb3⟩
  have HL := Lib.hid hL
  have HPT := Lib.hid hpt
  have HB3 := Lib.hid hb3
  obtain ⟨cnt, HCNT⟩ : ∃ cnt, Hid ((stF (lstF L) n).length = cnt) := ⟨_, Lib.hid rfl⟩
  have hcn : cnt ≤ n := by have := stF_le (lstF L) n; have := HCNT.out; omega
  rw [HCNT.out] at HPT
  obtain ⟨Av, capv, hv⟩ := HPT.out.form
  subst hv
  have HR3 : Hid (w3.rowIs w1.heap.size 4 n (fun i => .bool ((fun _ => false) i))) := Lib.hid (HR2.out.of_block (HB3.out.block _ (by have := HZ2.out; omega)))
  have HZ3 : Hid (w2.heap.size ≤ w3.heap.size) := Lib.hid HB3.out.size
  have HB23 : Hid (Below w1.heap.size w2 w3) := Lib.hid (HB3.out.mono (by have := HZ2.out; omega))
  clear hL hpt hb3 s0 s1 s2
  go_wp2_with fail
  go_loopw [15] (fun i wr => ∃ (k : Nat) (lv : Nat → Bool), k ≤ cnt ∧ i = .int .i64 k ∧ Hid (wr.rowIs w1.heap.size 4 n (fun i => .bool (lv i))) ∧ Hid (∀ i, i < n → (lv i = true ↔ ∃ j, j < k ∧ lstF L i = (stF (lstF L) n).getD j 0 ∧ CyP n rows (memF (lstF L) n ((stF (lstF L) n).getD j 0)))) ∧ Hid (Below w1.heap.size w3 wr) ∧ Hid (∀ q, w2.heap.size ≤ q → q < w3.heap.size → wr.heap[q]? = w3.heap[q]?)) (fun i _ => cnt - (intOf i).toNat)
  case atStart => exact ⟨0, _, by omega, rfl, HR3, Lib.hid (fun i _ => ⟨fun h => Bool.noConfusion h, fun ⟨j, hj, _⟩ => absurd hj (by omega)⟩), Lib.hid (Below.refl _ _), Lib.hid (fun _ _ _ => rfl)⟩
  case round =>
    obtain ⟨k, lv, hk, rfl, HR, HLV, HB, HKQ⟩ := hrel
    by_cases hlt : k < cnt
    · have HP := Lib.hid (HPT.out.keep HKQ.out)
      obtain ⟨g, cap, hv, _, _, _, hg4, _⟩ := HP.out.cell (by omega)
      injection hv with hv1 _ hv2
      subst hv1 hv2
      have oc := hg4 k hlt
      have hrow := HP.out.row k hlt
      obtain ⟨s, HS⟩ : ∃ s, Hid ((stF (lstF L) n).getD k 0 = s) := ⟨_, Lib.hid rfl⟩
      rw [HS.out] at hrow
      obtain ⟨A, c, hval, hia⟩ := hrow.form
      obtain ⟨len, HLEN⟩ : ∃ len, Hid (len = (memF (lstF L) n s).length) := ⟨_, Lib.hid rfl⟩
      have hlen : len ≤ n := by have := memF_le (lstF L) n s; have := HLEN.out; omega
      rw [hval, ← HLEN.out] at oc
      have HIA := Lib.hid hia
      have HBA : Hid (∀ a, A = some a → w2.heap.size ≤ a.block ∧ a.block < wr.heap.size) := Lib.hid (fun a e => World.ownsRow.lt hrow a.block (by rw [hval, e]; rfl))
      obtain ⟨s0, s1, s2, hra, hbw⟩ := HV.out wr (HB23.out.trans HB.out)
      have HBW := Lib.hid hbw
      have HCY := Lib.hid (ca_any v1 v3 A2 c2 n rows A len c (memF (lstF L) n s) wr HN.out hnl HROW.out hra HLEN.out (by omega) hia)
      clear hrow hval hg4 hia hra hbw
      go_wp2_with fail
      refine HCY.out.mono ?_
      rintro e w4 ⟨⟨b, rfl, hbi⟩, hb4⟩
      have HBI := Lib.hid hbi
      have HB4 := Lib.hid hb4
      have HR4 : Hid (w4.rowIs w1.heap.size 4 n (fun i => .bool (lv i))) := Lib.hid (HR.out.of_block (HB4.out.block _ (by have := HZ3.out; have := HZ2.out; have := HB.out.size; omega)))
      have HB34 : Hid (Below w1.heap.size w3 w4) := Lib.hid (HB.out.trans (hb4.mono (by have := HZ3.out; have := HZ2.out; have := HB.out.size; omega)))
      have HK4 : Hid (∀ q, w2.heap.size ≤ q → q < w3.heap.size → w4.heap[q]? = w3.heap[q]?) := Lib.hid (fun q h1 h2 => (HB4.out.block q (by have := HB.out.size; omega)).trans (HKQ.out q h1 h2))
      clear hbi hb4
      cases b with
      | false =>
        have HLN : Hid (∀ i, i < n → (lv i = true ↔ ∃ j, j < k + 1 ∧ lstF L i = (stF (lstF L) n).getD j 0 ∧ CyP n rows (memF (lstF L) n ((stF (lstF L) n).getD j 0)))) := Lib.hid (fun i hi => by
          rw [HLV.out i hi]
          constructor
          · rintro ⟨j, h1, h2⟩
            exact ⟨j, by omega, h2⟩
          · rintro ⟨j, h1, h2, h3⟩
            by_cases e : j = k
            · subst e
              rw [HS.out] at h3
              exact absurd (HBI.out.2 h3) (by decide)
            · exact ⟨j, by omega, h2, h3⟩)
        go_wp2
        go_roundw
        case rel => exact ⟨k + 1, lv, by omega, by go_num, HR4, HLN, HB34, HK4⟩
        case measure => simp [intOf]; omega
      | true =>
        have HCYP : Hid (CyP n rows (memF (lstF L) n s)) := Lib.hid (HBI.out.1 rfl)
        have HIA4 : Hid (IA w4 A (memF (lstF L) n s)) := Lib.hid (HIA.out.below HB4.out)
        go_wp2_with fail
        go_loopw [25] (fun i wq => ∃ (j : Nat) (lv2 : Nat → Bool), j ≤ len ∧ i = .int .i64 j ∧ Hid (wq.rowIs w1.heap.size 4 n (fun i => .bool (lv2 i))) ∧ Hid (∀ i, i < n → (lv2 i = true ↔ lv i = true ∨ (i : Int) ∈ (memF (lstF L) n s).take j)) ∧ Hid (Below w1.heap.size w3 wq) ∧ Hid (∀ q, w2.heap.size ≤ q → q < w4.heap.size → wq.heap[q]? = w4.heap[q]?)) (fun i _ => len - (intOf i).toNat)
        case atStart => exact ⟨0, lv, by omega, rfl, HR4, Lib.hid (fun i _ => by simp), HB34, Lib.hid (fun _ _ _ => rfl)⟩
        case round =>
          obtain ⟨wo, hwo⟩ : ∃ wo, wo = wr := ⟨_, rfl⟩
          obtain ⟨j, lv2, hj, rfl, HQ, HL2, HBQ, HKQ2⟩ := hrel
          by_cases hltj : j < len
          · obtain ⟨b', o', rfl, hb', hcc⟩ := HIA4.out (by rw [← HLEN.out]; omega)
            have hba := (HBA.out ⟨b', o', none⟩ rfl).1
            have hjl : j < (memF (lstF L) n s).length := by rw [← HLEN.out]; exact hltj
            have cj := (World.cell?_of_block (w := w4) (a := ⟨b', o' + j, none⟩) (HKQ2.out b' hba hb')).trans (hcc j hjl)
            have hmem : (memF (lstF L) n s).getD j 0 ∈ memF (lstF L) n s := by
              rw [show (memF (lstF L) n s).getD j 0 = (memF (lstF L) n s)[j] by simp [List.getD, hjl]]
              exact List.getElem_mem hjl
            obtain ⟨i1, hi1, hi2, _⟩ := memF_mem.1 hmem
            have HT : Hid ((memF (lstF L) n s).take (j + 1) = (memF (lstF L) n s).take j ++ [(i1 : Int)]) := Lib.hid (by
              rw [List.take_succ_eq_append_getElem hjl, ← hi1]
              simp [List.getD, hjl])
            rw [hi1] at cj
            have c3 := HQ.out.cell hi2
            have f3 := HQ.out.frozen i1
            have HNX : Hid ((wr.setCell ⟨w1.heap.size, i1, none⟩ (.bool true)).rowIs w1.heap.size 4 n (fun i => .bool (if i = i1 then true else lv2 i))) := Lib.hid ((HQ.out.set i1 (.bool true)).congr (fun i _ => by by_cases e : i = i1 <;> simp [e]))
            have HLX : Hid (∀ i, i < n → ((if i = i1 then true else lv2 i) = true ↔ lv i = true ∨ (i : Int) ∈ (memF (lstF L) n s).take (j + 1))) := Lib.hid (fun i hi => by
              rw [HT.out, List.mem_append, List.mem_singleton]
              by_cases e : i = i1
              · subst e; simp
              · rw [if_neg e, HL2.out i hi]
                have : ¬ (i : Int) = (i1 : Int) := by omega
                simp [this])
            have HBX : Hid (Below w1.heap.size w3 (wr.setCell ⟨w1.heap.size, i1, none⟩ (.bool true))) := Lib.hid (HBQ.out.setCell (Nat.le_refl _) _)
            have HKX : Hid (∀ q, w2.heap.size ≤ q → q < w4.heap.size → (wr.setCell ⟨w1.heap.size, i1, none⟩ (.bool true)).heap[q]? = w4.heap[q]?) := Lib.hid (fun q h1 h2 => (Below.heap_setCell _ _ _ q (by have := HZ2.out; simp; omega)).trans (HKQ2.out q h1 h2))
            clear hcc hmem hi1 hwo
            go_wp2
            go_roundw
            case rel => exact ⟨j + 1, _, by omega, by go_num, HNX, HLX, HBX, HKX⟩
            case measure => simp [intOf]; omega
          · obtain rfl : len = j := by omega
            have HLN : Hid (∀ i, i < n → (lv2 i = true ↔ ∃ j, j < k + 1 ∧ lstF L i = (stF (lstF L) n).getD j 0 ∧ CyP n rows (memF (lstF L) n ((stF (lstF L) n).getD j 0)))) := Lib.hid (fun i hi => by
              rw [HL2.out i hi, HLV.out i hi, List.take_of_length_le (by rw [← HLEN.out]; exact Nat.le_refl _)]
              constructor
              · rintro (⟨j, h1, h2⟩ | h)
                · exact ⟨j, by omega, h2⟩
                · obtain ⟨i', e, _, h3⟩ := memF_mem.1 h
                  obtain rfl : i = i' := by omega
                  exact ⟨k, by omega, by rw [HS.out]; exact h3, by rw [HS.out]; exact HCYP.out⟩
              · rintro ⟨j, h1, h2, h3⟩
                by_cases e : j = k
                · subst e
                  rw [HS.out] at h2
                  exact .inr (memF_mem.2 ⟨i, rfl, hi, h2⟩)
                · exact .inl ⟨j, by omega, h2, h3⟩)
            have HKN : Hid (∀ q, w2.heap.size ≤ q → q < w3.heap.size → wr.heap[q]? = w3.heap[q]?) := Lib.hid (fun q h1 h2 => (HKQ2.out q h1 (by have := HB34.out.size; omega)).trans (HK4.out q h1 h2))
            go_wp2_with fail
            go_roundw
            case rel => exact ⟨k + 1, lv2, by omega, by go_num, HQ, HLN, HBQ, HKN⟩
            case measure => simp [intOf]; omega
    · obtain rfl : cnt = k := by omega
      go_wp2_with fail
      go_ret
      refine ⟨some ⟨w1.heap.size, 0, none⟩, n, rfl, ⟨lv, fun _ => ⟨w1.heap.size, rfl, HB1.out.size, by have := HB.out.size; have := HZ3.out; have := HZ2.out; omega, fun i hi => HR.out.cell hi⟩, fun i hi => ?_⟩, (HV.out _ (HB23.out.trans HB.out)).2.2.2.2⟩
      rw [HLV.out i hi, ← part_live HL.out hi]
      obtain ⟨_, h1, h2, _⟩ := HL.out.lst hi
      constructor
      · rintro ⟨j, _, h3, h4⟩
        rw [h3]; exact h4
      · intro h
        obtain ⟨h3, h4⟩ := stF_at h2 (k := n) (by omega)
        exact ⟨(stF (lstF L) (lstF L i)).length, by rw [← HCNT.out]; exact h3, h4.symm, by rw [h4]; exact h⟩
theorem live_any {w : World} {v : Value} {G : Gr} (hv : GV w v G) (hnl : G.rows.length ≤ 100) (hrow : ∀ i, (G.rows.getD i []).length ≤ 2000) : Calls Try.prog 43 #[v] w (LiveP w G.rows.length G.rows) := by
  obtain ⟨A1, c1, A2, c2, A3, c3, rfl, _, ⟨a2, b2, d2⟩, _⟩ := hv
  exact live_any' _ _ A2 c2 _ G.rows w rfl hnl a2 b2 hrow d2
end Go.Proofs.Ytnfiohekdbjgoaa.sc
