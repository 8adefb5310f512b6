/- The document's far: how far each node is from a goal. -/
import Derived.Test.YtjgifbcjokeigaaFarPure
import Derived.Test.YtjgifbcjokeigaaRefGoalsO
import Derived.Test.YtjgifbcjokeigaaRefTurnF
namespace Go.Proofs.Ytjgifbcjokeigaa
open Go.ChangeShapes Go.WideShapes Go.ChangeAt Go.RowKit Go.Shelf

/-- append of one int onto a row of the call's own: where the row lies then. -/
theorem append_one_g {w : World} {ops : Array Oper} {rest : List Oper} {o : Oper} {a : Act} {Q : Exit → Act → World → Prop} (hgd : o.guard = none) (s x : Operand)
    (ho : o.op = .call { callee := .builtin .append, args := #[s, x], argTypes := #[22, 22] })
    (base : Nat) (v : Value) (l : List Int) (hs : a.eval s = v) (hown : OI base w v l) (z : Int)
    (hx : a.eval x = .slice (some ⟨w.heap.size, 0, none⟩) 1 1)
    (hlen : l.length + 1 ≤ 1000000) (hbase : base ≤ w.heap.size)
    (h : ∀ v' w', OI base w' v' (l ++ [z]) → (w.alloc (.cells #[.int .i64 z] 3)).grownBy w' v.ownBlock → Below base w w' → (v'.ownBlock = v.ownBlock ∨ v'.ownBlock = some (w.heap.size + 1)) → wpList Try.prog ops Q rest (a.put o.dst v') w') :
    wpList Try.prog ops Q (o :: rest) a (w.alloc (.cells #[.int .i64 z] 3)) := by
  obtain ⟨i0, hi, hz0, hz1, hz2⟩ := info_parts Try.info3
  refine wpList_append_own_at _ hgd s x 22 ho base 3 i0 (.int .i64 0) 1 8 Try.underlying22 hi hz0 hz1 hz2 rfl (by decide) v l.length _ hs (hown.alloc _) ⟨w.heap.size, 0, none⟩ 1 1 [.int .i64 z] hx rfl (cell_one_new _ _ _) (by simp [Value.oneCell']) (by unfold maxLen; omega) (by omega) (by simp; omega) ?_
  intro v' w' hown' hgrow _ hb
  refine h v' w' (oi_snoc hown') hgrow (Below.grown ((Below.refl _ _).alloc hbase _) hgrow (by simp; omega) (fun k hk => (hown.lt k hk).1)) ?_
  rcases hb with hb | hb
  · exact .inl hb
  · exact .inr (by rw [hb]; simp)
/-- What far hands back. -/
def FarP (w : World) (n : Nat) (rows : List (List (Int × Int))) (goal : List Bool) (e : Ending) (w' : World) : Prop :=
  ∃ (D : Nat) (d : Nat → Int), e = .returned (.slice (some ⟨D, 0, none⟩) n n) ∧ w'.rowIs D 3 n (fun j => .int .i64 (d j)) ∧ FarOk n rows goal ((List.range n).map d) ∧ Below w.heap.size w w'
theorem oi_cell {B : Nat} {w : World} {A : Option Addr} {lq c : Nat} {l : List Int} (h : OI B w (.slice A lq c) l) {k : Nat} (hk : k < l.length) : ∃ g, A = some ⟨g, 0, none⟩ ∧ B ≤ g ∧ g < w.heap.size ∧ w.cell? ⟨g, k, none⟩ = some (.int .i64 (l.getD k 0)) := by
  rcases h.2 with ⟨e, h0⟩ | ⟨g, cap, cur, e, hb, hg, _⟩
  · omega
  · injection e with e1 e2 e3
    subst e1
    refine ⟨g, rfl, hb, (Array.getElem?_eq_some_iff.1 hg).1, ?_⟩
    obtain ⟨A', c', e2, i2⟩ := h.form
    injection e2 with e2 e3 e4
    obtain ⟨b', o', e5, _, hc⟩ := i2 (by omega)
    rw [← e2] at e5
    injection e5 with e5
    injection e5 with e5 e6
    have := hc k hk
    rw [← e5, ← e6, Nat.zero_add] at this
    exact this
/-- What stands while distances are counted. -/
structure FarS (w2 : World) (D Z B E : Nat) (v1 v3 : Value) (TA : Option Addr) (tc n : Nat) (T : List (List (Int × Int))) (goal : List Bool) (Aq : Option Addr) (lq cq : Nat) (Q : List Nat) (d : Nat → Int) (at_ z : Nat) (wr : World) : Prop where
  row : wr.rowIs D 3 n (fun j => .int .i64 (d j))
  q : OI w2.heap.size wr (.slice Aq lq cq) (qL Q)
  lq : lq = Q.length
  zc : wr.heap[Z]? = some (.cells #[v1, .slice TA n tc, v3] 26 (0, 0))
  ra : RAf B E wr TA T
  ne : ∀ a, Aq = some a → a.block ≠ Z ∧ ¬ (B ≤ a.block ∧ a.block < E)
  turn : Turn (fun q => q = D) w2 wr
  inv : FarI n T goal Q d at_ z
  ez : E ≤ wr.heap.size
theorem FarS.drewN {w2 : World} {D Z B E : Nat} {v1 v3 : Value} {TA : Option Addr} {tc n : Nat} {T : List (List (Int × Int))} {goal : List Bool} {Aq : Option Addr} {lq cq : Nat} {Q : List Nat} {d : Nat → Int} {at_ z : Nat} {wr : World} (h : FarS w2 D Z B E v1 v3 TA tc n T goal Aq lq cq Q d at_ z wr) (j : Nat) : FarS w2 D Z B E v1 v3 TA tc n T goal Aq lq cq Q d at_ z (wr.drewN j) :=
  ⟨h.row, h.q, h.lq, h.zc, h.ra, h.ne, h.turn.drewN j, h.inv, h.ez⟩

set_option maxRecDepth 20000 in
set_option maxHeartbeats 8000000 in
theorem far_any (A1 A2 A3 : Option Addr) (n1 n n3 c1 c2 c3 : Nat) (G : Gr) (GA : Option Addr) (gn gc : Nat) (goal : List Bool) (w : World) (hg : GV w (.agg #[.slice A1 n1 c1, .slice A2 n c2, .slice A3 n3 c3]) G) (hn : n = G.rows.length) (hnl : n ≤ 1000) (hrow : ∀ i, (G.rows.getD i []).length ≤ 1000) (hl1 : G.init.length ≤ 1000000) (hl3 : G.labels.length ≤ 1000000)
    (hgn : gn = goal.length) (hgl : goal.length ≤ maxLen) (hG : BL w GA goal) :
    Calls Try.prog 67 #[.agg #[.slice A1 n1 c1, .slice A2 n c2, .slice A3 n3 c3], .slice GA gn gc] w (FarP w n G.rows goal) := by
  obtain ⟨i0, hi, hz0, hz1, hz2⟩ := info_parts Try.info3
  have hmk : ∀ W : World, (Instr.makeSlice 22 (.int .i64 (n : Int)) (.int .i64 (n : Int))).run Try.prog W = .ok (.slice (some ⟨W.heap.size, 0, none⟩) n n) (W.alloc (.cells (madeCells #[.int .i64 0] n) 3)) := fun W => by
    have hr := run_make (P := Try.prog) W 22 3 i0 _ (by kernel_rfl) hi hz0 .i64 .i64 (n : Int) (n : Int) (by omega) (Int.le_refl _) (by rw [hz2]; omega) (by omega)
    rw [hr, hz1, Int.toNat_natCast, Nat.mul_one]
    rfl
  have HMK := Lib.hid hmk
  have HN := Lib.hid hn
  have HROW := Lib.hid hrow
  have HI := Lib.hid hl1
  have HL := Lib.hid hl3
  have HGN := Lib.hid hgn
  have HGL := Lib.hid hgl
  have HG := Lib.hid hG
  have HGV0 := Lib.hid hg
  clear hg hn hrow hl1 hl3 hgn hgl hG hi hz0 hz1 hz2 hmk
  go_enter Try.func67, Try.ntmps67
  have hmk := HMK.out
  go_wp2_with fail
  clear hmk
  have hB2 : Below w.heap.size w ((w.alloc (.cells #[.slice A1 n1 c1, .slice A2 n c2, .slice A3 n3 c3] 26)).alloc (.cells (madeCells #[.int .i64 0] n) 3)) := below2 _ _ _
  have hbx := (box3 w (.slice A1 n1 c1) (.slice A2 n c2) (.slice A3 n3 c3) 26)
  have hbx2 : B3 _ _ _ _ _ := B3.below (w' := (w.alloc (.cells #[.slice A1 n1 c1, .slice A2 n c2, .slice A3 n3 c3] 26)).alloc (.cells (madeCells #[.int .i64 0] n) 3)) hbx (below1 _ _)
  have hrow : ((w.alloc (.cells #[.slice A1 n1 c1, .slice A2 n c2, .slice A3 n3 c3] 26)).alloc (.cells (madeCells #[.int .i64 0] n) 3)).rowIs (w.heap.size + 1) 3 n (fun _ => .int .i64 0) := by
    have h := World.rowIs_made (w.alloc (.cells #[.slice A1 n1 c1, .slice A2 n c2, .slice A3 n3 c3] 26)) (.int .i64 0) n 3
    rw [World.size_alloc] at h
    exact h
  have hz2 : w.heap.size + 2 ≤ ((w.alloc (.cells #[.slice A1 n1 c1, .slice A2 n c2, .slice A3 n3 c3] 26)).alloc (.cells (madeCells #[.int .i64 0] n) 3)).heap.size := by simp
  generalize ((w.alloc (.cells #[.slice A1 n1 c1, .slice A2 n c2, .slice A3 n3 c3] 26)).alloc (.cells (madeCells #[.int .i64 0] n) 3)) = w2 at *
  have HRW0 := Lib.hid hrow
  have HB2 := Lib.hid hB2
  have HBX2 : Hid (B3 w2 w.heap.size (.slice A1 n1 c1) (.slice A2 n c2) (.slice A3 n3 c3)) := Lib.hid hbx2
  -- worlds in which only the distances and new blocks have turned
  have HKP : Hid (∀ W, Turn (fun q => q = w.heap.size + 1) w2 W → B3 W w.heap.size (.slice A1 n1 c1) (.slice A2 n c2) (.slice A3 n3 c3) ∧ Below w.heap.size w W ∧ w.heap.size + 2 ≤ W.heap.size) := Lib.hid (fun W h => by
    have hs := h.size
    exact ⟨⟨(h.cell (p := ⟨w.heap.size, 0, none⟩) (by show w.heap.size < w2.heap.size; omega) (by simp)).trans hbx2.1, (h.cell (p := ⟨w.heap.size, 1, none⟩) (by show w.heap.size < w2.heap.size; omega) (by simp)).trans hbx2.2.1, (h.cell (p := ⟨w.heap.size, 2, none⟩) (by show w.heap.size < w2.heap.size; omega) (by simp)).trans hbx2.2.2⟩, hB2.trans (h.below (B := w.heap.size) (fun q hq => by omega) hB2.size), by omega⟩)
  clear hrow hB2 hbx hbx2
  go_loopw [6] (fun i wr => ∃ k : Nat, k ≤ n ∧ i = .int .i64 k ∧ Hid (Turn (fun q => q = w.heap.size + 1) w2 wr) ∧ Hid (wr.rowIs (w.heap.size + 1) 3 n (fun j => .int .i64 (if j < k then -1 else 0)))) (fun i _ => n - (intOf i).toNat)
  case atStart => exact ⟨0, Nat.zero_le _, rfl, Lib.hid (Turn.refl _ _), Lib.hid (HRW0.out.congr (fun j _ => by rw [if_neg (Nat.not_lt_zero _)]))⟩
  case round =>
    obtain ⟨k, hk, rfl, HT, HRW⟩ := hrel
    by_cases hlt : k < n
    · have m1 := HRW.out.cell hlt
      have f1 := HRW.out.frozen k
      have HT2 : Hid (Turn (fun q => q = w.heap.size + 1) w2 (wr.setCell ⟨w.heap.size + 1, k, none⟩ (.int .i64 (-1)))) := Lib.hid (HT.out.set _ _ rfl)
      have HRW2 : Hid ((wr.setCell ⟨w.heap.size + 1, k, none⟩ (.int .i64 (-1))).rowIs (w.heap.size + 1) 3 n (fun j => .int .i64 (if j < k + 1 then -1 else 0))) := Lib.hid ((HRW.out.set k (.int .i64 (-1))).congr (fun j _ => by
        by_cases e : j = k
        · subst e; rw [if_pos rfl, if_pos (by omega)]
        · rw [if_neg e]
          by_cases e2 : j < k
          · rw [if_pos e2, if_pos (by omega)]
          · rw [if_neg e2, if_neg (by omega)]))
      go_wp2
      go_roundw
      case rel => exact ⟨k + 1, hlt, by go_num, HT2, HRW2⟩
      case measure => simp [intOf]; omega
    · obtain rfl : n = k := by omega
      have HRW1 : Hid (wr.rowIs (w.heap.size + 1) 3 n (fun _ => .int .i64 (-1))) := Lib.hid (HRW.out.congr (fun j hj => by rw [if_pos hj]))
      obtain ⟨⟨q0, q1, q2⟩, hbw, hzz⟩ := HKP.out wr HT.out
      have HBW := Lib.hid hbw
      have hzr := HT.out.size
      clear hlt HRW hbw
      go_wp2_with fail
      clear q0 q1 q2
      refine (refGoals_own _ _ A2 c2 n GA gn gc goal _ hnl HGN.out HGL.out (HG.out.below HBW.out)).mono ?_
      rintro e w3 ⟨Aq, cq, B0, hB0, rfl, hoi, hb3⟩
      obtain ⟨lq, HLQ⟩ : ∃ lq, Hid ((goalsTo goal n).length = lq) := ⟨_, Lib.hid rfl⟩
      rw [HLQ.out] at hoi ⊢
      have HLG : Hid ((gQ goal n).length = lq) := Lib.hid (by rw [← HLQ.out, gQ_to, qL_len])
      have hlqn : lq ≤ n := by have := goalsTo_len goal n; rw [HLQ.out] at this; exact this
      have HT : Hid (Turn (fun q => q = w.heap.size + 1) w2 w3) := Lib.hid (HT.out.then_below (hb3.mono HT.out.size))
      have HRW : Hid (w3.rowIs (w.heap.size + 1) 3 n (fun _ => .int .i64 (-1))) := Lib.hid (HRW1.out.of_block (hb3.block _ HRW1.out.lt))
      have HOI : Hid (OI w2.heap.size w3 (.slice Aq lq cq) (qL (gQ goal n))) := Lib.hid (by rw [← gQ_to]; exact hoi.weak (by omega))
      clear hoi hb3 HRW1
      go_wp2_with fail
      go_loopw [8] (fun i wr => ∃ k : Nat, k ≤ lq ∧ i = .int .i64 k ∧ Hid (Turn (fun q => q = w.heap.size + 1) w2 wr) ∧ Hid (OI w2.heap.size wr (.slice Aq lq cq) (qL (gQ goal n))) ∧ Hid (wr.rowIs (w.heap.size + 1) 3 n (fun j => .int .i64 (if j ∈ (gQ goal n).take k then 0 else -1)))) (fun i _ => lq - (intOf i).toNat)
      case atStart => exact ⟨0, Nat.zero_le _, rfl, HT, HOI, Lib.hid (HRW.out.congr (fun j _ => by rw [List.take_zero, if_neg (by simp)]))⟩
      case round =>
        clear HT HOI HRW
        obtain ⟨k, hk, rfl, HT, HOI, HRW⟩ := hrel
        by_cases hlt : k < lq
        · have hkl : k < (gQ goal n).length := by rw [HLG.out]; exact hlt
          obtain ⟨g, rfl, hg1, hg2, d1⟩ := oi_cell HOI.out (k := k) (by rw [qL_len]; exact hkl)
          rw [qL_at hkl] at d1
          have hgn2 := (gQ_mem.1 (qat_mem hkl)).1
          have HST : Hid (∀ j, j ∈ (gQ goal n).take (k + 1) ↔ j ∈ (gQ goal n).take k ∨ j = (gQ goal n).getD k 0) := Lib.hid (fun j => by
            rw [List.take_succ_eq_append_getElem hkl, List.mem_append, List.mem_singleton]
            have e : (gQ goal n).getD k 0 = (gQ goal n)[k] := by simp [List.getD, hkl]
            rw [e])
          generalize (gQ goal n).getD k 0 = y at d1 hgn2 HST
          have m1 := HRW.out.cell hgn2
          have f1 := HRW.out.frozen y
          have HT2 : Hid (Turn (fun q => q = w.heap.size + 1) w2 (wr.setCell ⟨w.heap.size + 1, y, none⟩ (.int .i64 0))) := Lib.hid (HT.out.set _ _ rfl)
          have HOI2 : Hid (OI w2.heap.size (wr.setCell ⟨w.heap.size + 1, y, none⟩ (.int .i64 0)) (.slice (some ⟨g, 0, none⟩) lq cq) (qL (gQ goal n))) := Lib.hid (OI.turn (T := fun q => q = w.heap.size + 1) HOI.out ((Turn.refl _ _).set _ _ rfl) (fun q hq => by omega))
          have HRW2 : Hid ((wr.setCell ⟨w.heap.size + 1, y, none⟩ (.int .i64 0)).rowIs (w.heap.size + 1) 3 n (fun j => .int .i64 (if j ∈ (gQ goal n).take (k + 1) then 0 else -1))) := Lib.hid ((HRW.out.set y (.int .i64 0)).congr (fun j _ => by
            by_cases e : j = y
            · subst e; rw [if_pos rfl, if_pos ((HST.out j).2 (.inr rfl))]
            · rw [if_neg e]
              by_cases e2 : j ∈ (gQ goal n).take k
              · rw [if_pos e2, if_pos ((HST.out j).2 (.inl e2))]
              · rw [if_neg e2, if_neg (fun e3 => by rcases (HST.out j).1 e3 with h | h; exact e2 h; exact e h)]))
          go_wp2
          go_roundw
          case rel => exact ⟨k + 1, hlt, by go_num, HT2, HOI2, HRW2⟩
          case measure => simp [intOf]; omega
        · obtain rfl : lq = k := by omega
          have HRW1 : Hid (wr.rowIs (w.heap.size + 1) 3 n (fun j => .int .i64 (far0 goal j))) := Lib.hid (HRW.out.congr (fun j hj => by
            rw [List.take_of_length_le (by rw [HLG.out]; exact Nat.le_refl _)]
            unfold far0
            by_cases e : goal.getD j false = true
            · rw [if_pos e, if_pos (gQ_mem.2 ⟨hj, e⟩)]
            · rw [if_neg e, if_neg (fun h => e (gQ_mem.1 h).2)]))
          obtain ⟨⟨q0, q1, q2⟩, hbw, hzz⟩ := HKP.out wr HT.out
          have HBW := Lib.hid hbw
          have hzq := HT.out.size
          clear hlt HRW hbw
          go_wp2_with fail
          clear q0 q1 q2
          refine (refTurn_f (HGV0.out.below HBW.out) (by rw [← HN.out]; exact hnl) HROW.out HI.out HL.out).mono ?_
          rintro e w4 ⟨v, rfl, ⟨E, hE, T1, t1, T2, t2, T3, t3, rfl, _, ⟨_, _, hra⟩, _⟩, hb4⟩
          rw [show (turnG G).rows.length = n from (turnR_len _).trans HN.out.symm]
          have hra : RAf wr.heap.size E w4 T2 (turnR G.rows) := hra
          have HRA := Lib.hid hra
          generalize (turnG G).init.length = x1
          generalize (turnG G).labels.length = x3
          have HT : Hid (Turn (fun q => q = w.heap.size + 1) w2 w4) := Lib.hid (HT.out.then_below (hb4.mono HT.out.size))
          have HRW : Hid (w4.rowIs (w.heap.size + 1) 3 n (fun j => .int .i64 (far0 goal j))) := Lib.hid (HRW1.out.of_block (hb4.block _ HRW1.out.lt))
          have HQB : Hid (∀ a, Aq = some a → a.block < wr.heap.size) := Lib.hid (fun a e => by
            subst e
            exact (World.ownsRow.lt HOI.out a.block rfl).2)
          have HOI : Hid (OI w2.heap.size w4 (.slice Aq lq cq) (qL (gQ goal n))) := Lib.hid (OI.below HOI.out hb4)
          have hwz := hb4.size
          have hwz2 := HT.out.size
          clear hra hb4 HRW1 HBW
          go_wp2_with fail
          have h5 := World.alloc_heap_new w4 (.cells #[.slice T1 x1 t1, .slice T2 n t2, .slice T3 x3 t3] 26)
          have hb5 := below1 w4 (.cells #[.slice T1 x1 t1, .slice T2 n t2, .slice T3 x3 t3] 26)
          have hs5 : w4.heap.size + 1 ≤ (w4.alloc (.cells #[.slice T1 x1 t1, .slice T2 n t2, .slice T3 x3 t3] 26)).heap.size := by simp
          generalize (w4.alloc (.cells #[.slice T1 x1 t1, .slice T2 n t2, .slice T3 x3 t3] 26)) = w5 at *
          obtain ⟨Z, HZ⟩ : ∃ Z, Hid (w4.heap.size = Z) := ⟨_, Lib.hid rfl⟩
          obtain ⟨Bz, HBz⟩ : ∃ Z, Hid (wr.heap.size = Z) := ⟨_, Lib.hid rfl⟩
          have HD : Hid (w.heap.size + 1 < w2.heap.size ∧ w2.heap.size ≤ Bz ∧ E ≤ Z ∧ Bz ≤ Z ∧ w.heap.size + 1 < Bz) := Lib.hid (by
            have := HZ.out; have := HBz.out; omega)
          have HFS : Hid (FarS w2 (w.heap.size + 1) Z Bz E (.slice T1 x1 t1) (.slice T3 x3 t3) T2 t2 n (turnR G.rows) goal Aq lq cq (gQ goal n) (far0 goal) 0 0 w5) := Lib.hid (by
            rw [← HZ.out, ← HBz.out]
            refine ⟨HRW.out.of_block (hb5.block _ HRW.out.lt), OI.below HOI.out hb5, HLG.out.symm, h5, ?_, fun a e => ?_, HT.out.then_below (hb5.mono HT.out.size), farI_init _ _ _, by omega⟩
            · exact HRA.out.cells hb5.size (fun p u hp hc => (hb5.cell (p := p) (by omega)).trans hc)
            · have := HQB.out a e
              exact ⟨by omega, by omega⟩)
          rw [HZ.out]
          clear h5 hb5 hs5 HRW HOI HT HRA HQB hwz hwz2
          go_loopw [7, 10] (fun q i wr => ∃ (at_ : Nat) (Q : List Nat) (d : Nat → Int) (Aq : Option Addr) (lq cq : Nat), q = .slice Aq lq cq ∧ i = .int .i64 at_ ∧ at_ ≤ lq ∧ Hid (FarS w2 (w.heap.size + 1) Z Bz E (.slice T1 x1 t1) (.slice T3 x3 t3) T2 t2 n (turnR G.rows) goal Aq lq cq Q d at_ 0 wr)) (fun _ i _ => n - (intOf i).toNat)
          case atStart => exact ⟨0, _, _, Aq, lq, cq, rfl, rfl, Nat.zero_le _, HFS⟩
          case round =>
            clear HFS HLQ HLG hlqn
            obtain ⟨at_, Q, d, Aq, lq, cq, rfl, rfl, hat, HS⟩ := hrel
            have hlqn : lq ≤ n := by rw [HS.out.lq]; exact q_len HS.out.inv.nd HS.out.inv.lt
            by_cases hlt : at_ < lq
            · have hal : at_ < Q.length := by rw [← HS.out.lq]; exact hlt
              obtain ⟨g, rfl, hg1, hg2, d9⟩ := oi_cell HS.out.q (k := at_) (by rw [qL_len]; exact hal)
              rw [qL_at hal] at d9
              have hk0 := HS.out.inv.lt _ (qat_mem hal)
              obtain ⟨k0, HK0⟩ : ∃ k0, Hid (Q.getD at_ 0 = k0) := ⟨_, Lib.hid rfl⟩
              rw [HK0.out] at d9 hk0
              have htl : (turnR G.rows).length = n := (turnR_len _).trans HN.out.symm
              have hra := HS.out.ra
              obtain ⟨z0, z1, z2, _⟩ := cells3 HS.out.zc
              obtain ⟨br, fr, hte, hbr, hbe, hcr⟩ := hra (by rw [htl]; omega)
              obtain ⟨A5, c5, e7, hl5, hm5, hp5⟩ := hcr k0 (by rw [htl]; exact hk0)
              have HTE := Lib.hid hte
              obtain ⟨row, HROWE⟩ : ∃ row, Hid ((turnR G.rows).getD k0 [] = row) := ⟨_, Lib.hid rfl⟩
              rw [HROWE.out] at e7 hl5 hp5
              obtain ⟨rl, HRL⟩ : ∃ rl, Hid (row.length = rl) := ⟨_, Lib.hid rfl⟩
              rw [HRL.out] at e7 hl5
              have hm6 : rl ≤ 9223372036854775807 := by unfold maxLen at hm5; omega
              have HP5 := Lib.hid hp5
              rw [hte] at z1
              clear hcr hp5 hra htl hte hl5 hm5
              go_wp2_with fail
              go_quiet (fail)
              go_wp2_with fail
              clear z0 z1 z2 d9 e7
              have HSX : Hid (FarS w2 (w.heap.size + 1) Z Bz E (.slice T1 x1 t1) (.slice T3 x3 t3) T2 t2 n (turnR G.rows) goal (some ⟨g, 0, none⟩) lq cq Q d at_ 0 (wr.drewN nq)) := Lib.hid (HS.out.drewN _)
              have HPX : Hid (PAf Bz E (wr.drewN nq) A5 row) := HP5
              clear HS HP5 hbr
              generalize wr.drewN nq = wx at *
              go_loopw [7, 12] (fun q i wr => ∃ (z : Nat) (Q : List Nat) (d : Nat → Int) (Aq : Option Addr) (lq cq : Nat), q = .slice Aq lq cq ∧ i = .int .i64 z ∧ z ≤ rl ∧ Hid (Q.getD at_ 0 = k0 ∧ at_ < Q.length) ∧ Hid (PAf Bz E wr A5 row) ∧ Hid (FarS w2 (w.heap.size + 1) Z Bz E (.slice T1 x1 t1) (.slice T3 x3 t3) T2 t2 n (turnR G.rows) goal Aq lq cq Q d at_ z wr)) (fun _ i _ => rl - (intOf i).toNat)
              case atStart => exact ⟨0, Q, d, _, lq, cq, rfl, rfl, Nat.zero_le _, Lib.hid ⟨HK0.out, hal⟩, HPX, HSX⟩
              case round =>
                clear HSX HPX HK0 hal hlt hat hlqn hg1 hg2
                obtain ⟨z, Q, d, Aq, lq, cq, rfl, rfl, hz, HQ, HP, HS⟩ := hrel
                by_cases hlz : z < rl
                · have hzl : z < row.length := by rw [HRL.out]; exact hlz
                  obtain ⟨g, rfl, hg1, hg2, d9⟩ := oi_cell HS.out.q (k := at_) (by rw [qL_len]; exact HQ.out.2)
                  rw [qL_at HQ.out.2, HQ.out.1] at d9
                  have hlt : at_ < lq := by rw [HS.out.lq]; exact HQ.out.2
                  obtain ⟨b, o, rfl, hb, hc⟩ := HP.out.1 (by omega)
                  have hbe5 := HP.out.2 (by omega) _ rfl
                  have d1 := (hc z hzl).1
                  have hnd : nodeB n (row.getD z (0, 0)).1 = true := by
                    have h := turn_node (rows := G.rows) (a := k0) (e := row.getD z (0, 0)) (by rw [HROWE.out, pairAt hzl]; exact List.getElem_mem hzl)
                    rwa [← HN.out] at h
                  obtain ⟨k, hke, hk⟩ : ∃ k : Nat, (row.getD z (0, 0)).1 = (k : Int) ∧ k < n := by
                    have := node_iff.1 hnd
                    exact ⟨(row.getD z (0, 0)).1.toNat, by omega, by omega⟩
                  rw [hke] at d1
                  have HKE : Hid ((((turnR G.rows).getD (Q.getD at_ 0) []).getD z (0, 0)).1 = (k : Int)) := Lib.hid (by rw [HQ.out.1, HROWE.out]; exact hke)
                  have HZL : Hid (z < ((turnR G.rows).getD (Q.getD at_ 0) []).length) := Lib.hid (by rw [HQ.out.1, HROWE.out]; exact hzl)
                  have m1 := HS.out.row.cell hk
                  have hbn : b < wr.heap.size := hb
                  have hbe6 : Bz ≤ b ∧ b < E := hbe5
                  clear hc hnd hke hzl hbe5 hb
                  by_cases hdk : 0 ≤ d k
                  · have HS2 : Hid (FarS w2 (w.heap.size + 1) Z Bz E (.slice T1 x1 t1) (.slice T3 x3 t3) T2 t2 n (turnR G.rows) goal (some ⟨g, 0, none⟩) lq cq Q d at_ (z + 1) wr) := Lib.hid { HS.out with inv := HS.out.inv.old HQ.out.2 hk HKE.out hdk }
                    generalize d k = x at m1 hdk
                    have hx : decide (x < 0) = false := decide_eq_false (by omega)
                    go_wp2_with fail
                    go_roundw
                    case rel => exact ⟨z + 1, Q, d, _, lq, cq, rfl, by go_num, by omega, HQ, HP, HS2⟩
                    case measure => simp [intOf]; omega
                  · have hdk2 : d k < 0 := by omega
                    have HI2 := Lib.hid (HS.out.inv.new HQ.out.2 HZL.out hk HKE.out hdk2)
                    rw [HQ.out.1] at HI2
                    have hk0n : k0 < n := by have := HS.out.inv.lt _ (qat_mem HQ.out.2); rw [HQ.out.1] at this; exact this
                    have hy0 : 0 ≤ d k0 := by
                      have := qat_mem HQ.out.2
                      rw [HQ.out.1] at this
                      exact (HS.out.inv.mem k0 hk0n).2 this
                    have hlqn : lq ≤ n := by rw [HS.out.lq]; exact q_len HS.out.inv.nd HS.out.inv.lt
                    have hy1 : d k0 ≤ 1000 := by
                      have := HS.out.inv.idx at_ HQ.out.2
                      rw [HQ.out.1] at this
                      have := HQ.out.2
                      have := HS.out.lq
                      omega
                    have hne : k0 ≠ k := fun e => by rw [e] at hy0; omega
                    have m2 := HS.out.row.cell hk0n
                    have f1 := HS.out.row.frozen k
                    have HSR := Lib.hid (HS.out.row.set k (.int .i64 (d k0 + 1)))
                    have HRW2 : Hid ((wr.setCell ⟨w.heap.size + 1, k, none⟩ (.int .i64 (d k0 + 1))).rowIs (w.heap.size + 1) 3 n (fun j => .int .i64 (if j = k then d k0 + 1 else d j))) := Lib.hid (HSR.out.congr (fun j _ => by
                      by_cases e : j = k
                      · rw [if_pos e, if_pos e]
                      · rw [if_neg e, if_neg e]))
                    obtain ⟨d2, HD2⟩ : ∃ d2 : Nat → Int, Hid ((fun j => if j = k then d k0 + 1 else d j) = d2) := ⟨_, Lib.hid rfl⟩
                    have HRW3 : Hid ((wr.setCell ⟨w.heap.size + 1, k, none⟩ (.int .i64 (d k0 + 1))).rowIs (w.heap.size + 1) 3 n (fun j => .int .i64 (d2 j))) := Lib.hid (by rw [← HD2.out]; exact HRW2.out)
                    rw [HD2.out] at HI2
                    generalize d k0 = y at m2 hy0 hy1 HRW3
                    generalize d k = x at m1 hdk2
                    have hx : decide (x < 0) = true := decide_eq_true hdk2
                    have hwr : IntKind.i64.wrap (y + 1) = y + 1 := by rw [IntKind.wrap_i64]; omega
                    clear hdk HSR HRW2
                    go_upto_region 20 with (fail)
                    have hDne : b ≠ w.heap.size + 1 := by have := HD.out; omega
                    have hDg : g ≠ w.heap.size + 1 := by have := HD.out; omega
                    have HS0 : Hid (wr.drew.cell? ⟨b, o + z * 2, none⟩ = some (.int .i64 (k : Int)) ∧ wr.drew.cell? ⟨g, at_, none⟩ = some (.int .i64 (k0 : Int)) ∧ wr.drew.cell? ⟨w.heap.size + 1, k0, none⟩ = some (.int .i64 y)) := Lib.hid ⟨d1, d9, m2⟩
                    have HS1 : Hid ((wr.drew.setCell ⟨w.heap.size + 1, k, none⟩ (.int .i64 (y + 1))).cell? ⟨b, o + z * 2, none⟩ = some (.int .i64 (k : Int)) ∧ (wr.drew.setCell ⟨w.heap.size + 1, k, none⟩ (.int .i64 (y + 1))).cell? ⟨g, at_, none⟩ = some (.int .i64 (k0 : Int)) ∧ (wr.drew.setCell ⟨w.heap.size + 1, k, none⟩ (.int .i64 (y + 1))).cell? ⟨w.heap.size + 1, k0, none⟩ = some (.int .i64 y)) := Lib.hid
                      ⟨(World.cell?_setCell_other _ _ _ _ (by intro h1; injection h1 with h2 _; exact hDne h2.symm)).trans HS0.out.1, (World.cell?_setCell_other _ _ _ _ (by intro h1; injection h1 with h2 _; exact hDg h2.symm)).trans HS0.out.2.1, (World.cell?_setCell_other _ _ _ _ (by intro h1; injection h1 with _ h2 _; exact hne h2.symm)).trans HS0.out.2.2⟩
                    clear d1 d9 m2
                    refine wp_region_held_drew (S := (fun W => W.cell? ⟨b, o + z * 2, none⟩ = some (.int .i64 (k : Int)) ∧ W.cell? ⟨g, at_, none⟩ = some (.int .i64 (k0 : Int)) ∧ W.cell? ⟨w.heap.size + 1, k0, none⟩ = some (.int .i64 y))) (by kernel_rfl) HS0.out ?_
                    intro hS0
                    clear hS0
                    simp only [Array.replicate, List.replicate]
                    refine wpAnyH_take (i := 0) (oi := ⟨some 72, _, _, _, _, _⟩) (v := .slice (some ⟨w.heap.size + 1, 0, none⟩) n n) rfl (by kernel_rfl) (by kernel_rfl) (by kernel_rfl) (fun _ _ _ h => h) (Or.inl ⟨by kernel_rfl, fun w9 hS => ?_⟩) HS0.out ?_
                    · clear hS
                      go_simp
                    try simp only [Act.put, List.setIfInBounds_toArray, List.set_cons_zero, List.set_cons_succ]
                    refine wpAnyH_take (i := 1) (oi := ⟨some 73, _, _, _, _, _⟩) (v := .slice (some ⟨b, o, none⟩) rl c5) rfl (by kernel_rfl) (by kernel_rfl) (by kernel_rfl) (fun _ _ _ h => h) (Or.inl ⟨by kernel_rfl, fun w9 hS => ?_⟩) HS0.out ?_
                    · clear hS
                      go_simp
                    try simp only [Act.put, List.setIfInBounds_toArray, List.set_cons_zero, List.set_cons_succ]
                    refine wpAnyH_take (i := 2) (oi := ⟨some 74, _, _, _, _, _⟩) (v := .int .i64 (z : Int)) rfl (by kernel_rfl) (by kernel_rfl) (by kernel_rfl) (fun _ _ _ h => h) (Or.inl ⟨by kernel_rfl, fun w9 hS => ?_⟩) HS0.out ?_
                    · clear hS
                      go_simp
                    try simp only [Act.put, List.setIfInBounds_toArray, List.set_cons_zero, List.set_cons_succ]
                    refine wpAnyH_take (i := 3) (oi := ⟨some 75, _, _, _, _, _⟩) (v := .pointer (some ⟨b, o + z * 2, none⟩)) rfl (by kernel_rfl) (by kernel_rfl) (by kernel_rfl) (fun _ _ _ h => h) (Or.inl ⟨by kernel_rfl, fun w9 hS => ?_⟩) HS0.out ?_
                    · clear hS
                      go_simp
                    try simp only [Act.put, List.setIfInBounds_toArray, List.set_cons_zero, List.set_cons_succ]
                    refine wpAnyH_take (i := 4) (oi := ⟨some 76, _, _, _, _, _⟩) (v := .pointer (some ⟨b, o + z * 2, none⟩)) rfl (by kernel_rfl) (by kernel_rfl) (by kernel_rfl) (fun _ _ _ h => h) (Or.inl ⟨by kernel_rfl, fun w9 hS => ?_⟩) HS0.out ?_
                    · clear hS
                      go_simp
                    try simp only [Act.put, List.setIfInBounds_toArray, List.set_cons_zero, List.set_cons_succ]
                    refine wpAnyH_take (i := 5) (oi := ⟨some 77, _, _, _, _, _⟩) (v := .int .i64 (k : Int)) rfl (by kernel_rfl) (by kernel_rfl) (by kernel_rfl) (fun _ _ _ h => h) (Or.inl ⟨by kernel_rfl, fun w9 hS => ?_⟩) HS0.out ?_
                    · obtain ⟨s3, s4, s5⟩ := hS
                      go_simp
                    try simp only [Act.put, List.setIfInBounds_toArray, List.set_cons_zero, List.set_cons_succ]
                    refine wpAnyH_take (i := 6) (oi := ⟨some 78, _, _, _, _, _⟩) (v := .slice (some ⟨w.heap.size + 1, 0, none⟩) n n) rfl (by kernel_rfl) (by kernel_rfl) (by kernel_rfl) (fun _ _ _ h => h) (Or.inl ⟨by kernel_rfl, fun w9 hS => ?_⟩) HS0.out ?_
                    · clear hS
                      go_simp
                    try simp only [Act.put, List.setIfInBounds_toArray, List.set_cons_zero, List.set_cons_succ]
                    refine wpAnyH_take (i := 7) (oi := ⟨some 79, _, _, _, _, _⟩) (v := .slice (some ⟨g, 0, none⟩) lq cq) rfl (by kernel_rfl) (by kernel_rfl) (by kernel_rfl) (fun _ _ _ h => h) (Or.inl ⟨by kernel_rfl, fun w9 hS => ?_⟩) HS0.out ?_
                    · clear hS
                      go_simp
                    try simp only [Act.put, List.setIfInBounds_toArray, List.set_cons_zero, List.set_cons_succ]
                    refine wpAnyH_take (i := 8) (oi := ⟨some 80, _, _, _, _, _⟩) (v := .int .i64 (at_ : Int)) rfl (by kernel_rfl) (by kernel_rfl) (by kernel_rfl) (fun _ _ _ h => h) (Or.inl ⟨by kernel_rfl, fun w9 hS => ?_⟩) HS0.out ?_
                    · clear hS
                      go_simp
                    try simp only [Act.put, List.setIfInBounds_toArray, List.set_cons_zero, List.set_cons_succ]
                    refine wpAnyH_take (i := 9) (oi := ⟨some 81, _, _, _, _, _⟩) (v := .pointer (some ⟨g, at_, none⟩)) rfl (by kernel_rfl) (by kernel_rfl) (by kernel_rfl) (fun _ _ _ h => h) (Or.inl ⟨by kernel_rfl, fun w9 hS => ?_⟩) HS0.out ?_
                    · clear hS
                      go_simp
                    try simp only [Act.put, List.setIfInBounds_toArray, List.set_cons_zero, List.set_cons_succ]
                    refine wpAnyH_take (i := 10) (oi := ⟨some 82, _, _, _, _, _⟩) (v := .int .i64 (k0 : Int)) rfl (by kernel_rfl) (by kernel_rfl) (by kernel_rfl) (fun _ _ _ h => h) (Or.inl ⟨by kernel_rfl, fun w9 hS => ?_⟩) HS0.out ?_
                    · obtain ⟨s3, s4, s5⟩ := hS
                      go_simp
                    try simp only [Act.put, List.setIfInBounds_toArray, List.set_cons_zero, List.set_cons_succ]
                    refine wpAnyH_take (i := 11) (oi := ⟨some 83, _, _, _, _, _⟩) (v := .pointer (some ⟨w.heap.size + 1, k0, none⟩)) rfl (by kernel_rfl) (by kernel_rfl) (by kernel_rfl) (fun _ _ _ h => h) (Or.inl ⟨by kernel_rfl, fun w9 hS => ?_⟩) HS0.out ?_
                    · clear hS
                      go_simp
                    try simp only [Act.put, List.setIfInBounds_toArray, List.set_cons_zero, List.set_cons_succ]
                    refine wpAnyH_take (i := 12) (oi := ⟨some 84, _, _, _, _, _⟩) (v := .int .i64 y) rfl (by kernel_rfl) (by kernel_rfl) (by kernel_rfl) (fun _ _ _ h => h) (Or.inl ⟨by kernel_rfl, fun w9 hS => ?_⟩) HS0.out ?_
                    · obtain ⟨s3, s4, s5⟩ := hS
                      go_simp
                    try simp only [Act.put, List.setIfInBounds_toArray, List.set_cons_zero, List.set_cons_succ]
                    refine wpAnyH_take (i := 13) (oi := ⟨some 85, _, _, _, _, _⟩) (v := .int .i64 (y + 1)) rfl (by kernel_rfl) (by kernel_rfl) (by kernel_rfl) (fun _ _ _ h => h) (Or.inl ⟨by kernel_rfl, fun w9 hS => ?_⟩) HS0.out ?_
                    · clear hS
                      go_simp
                    try simp only [Act.put, List.setIfInBounds_toArray, List.set_cons_zero, List.set_cons_succ]
                    refine wpAnyH_take (i := 14) (oi := ⟨some 86, _, _, _, _, _⟩) (v := .pointer (some ⟨w.heap.size + 1, k, none⟩)) rfl (by kernel_rfl) (by kernel_rfl) (by kernel_rfl) (fun _ _ _ h => h) (Or.inl ⟨by kernel_rfl, fun w9 hS => ?_⟩) HS0.out ?_
                    · clear hS
                      go_simp
                    try simp only [Act.put, List.setIfInBounds_toArray, List.set_cons_zero, List.set_cons_succ]
                    refine wpAnyH_ready (rs := [15]) (by kernel_rfl) (by simp) ?_
                    refine AllReadyH.cons (o := ⟨none, _, _, _, _, _⟩) rfl (fun K hK => ?_) AllReadyH.nil
                    go_simp
                    refine hK.out _ _ HS1.out (fun _ => ?_)
                    clear hK K
                    try dsimp only
                    refine wpAnyH_done (by kernel_rfl) ?_ _
                    have nc3 : (wr.setCell ⟨w.heap.size + 1, k, none⟩ (.int .i64 (y + 1))).drew.cell? ⟨b, o + z * 2, none⟩ = some (.int .i64 (k : Int)) := HS1.out.1
                    have HT4 : Hid (Turn (fun q => q = w.heap.size + 1) w2 (wr.setCell ⟨w.heap.size + 1, k, none⟩ (.int .i64 (y + 1))).drew) := Lib.hid ((HS.out.turn.set _ _ rfl).drewN 1)
                    have HO4 : Hid (OI w2.heap.size (wr.setCell ⟨w.heap.size + 1, k, none⟩ (.int .i64 (y + 1))).drew (.slice (some ⟨g, 0, none⟩) lq cq) (qL Q)) := Lib.hid (OI.turn (T := fun q => q = w.heap.size + 1) HS.out.q (Turn.drewN (Turn.set (Turn.refl (fun q => q = w.heap.size + 1) wr) ⟨w.heap.size + 1, k, none⟩ (.int .i64 (y + 1)) rfl) 1) (fun q hq => by omega))
                    have hblk : ∀ q, q ≠ w.heap.size + 1 → (wr.setCell ⟨w.heap.size + 1, k, none⟩ (.int .i64 (y + 1))).drew.heap[q]? = wr.heap[q]? := fun q hq => Below.heap_setCell _ _ _ _ hq
                    have HZC4 := Lib.hid ((hblk Z (by have := HD.out; omega)).trans HS.out.zc)
                    have HRA4 : Hid (RAf Bz E (wr.setCell ⟨w.heap.size + 1, k, none⟩ (.int .i64 (y + 1))).drew T2 (turnR G.rows)) := Lib.hid (HS.out.ra.cells (by show wr.heap.size ≤ (wr.setCell _ _).heap.size; simp) (fun p u hp hc => (World.cell?_of_block (hblk p.block (by have := HD.out; omega))).trans hc))
                    have HP4 : Hid (PAf Bz E (wr.setCell ⟨w.heap.size + 1, k, none⟩ (.int .i64 (y + 1))).drew (some ⟨b, o, none⟩) row) := Lib.hid (HP.out.cells (by show wr.heap.size ≤ (wr.setCell _ _).heap.size; simp) (fun p u hp hc => (World.cell?_of_block (hblk p.block (by have := HD.out; omega))).trans hc))
                    have HE4 : Hid (E ≤ (wr.setCell ⟨w.heap.size + 1, k, none⟩ (.int .i64 (y + 1))).drew.heap.size) := Lib.hid (by show E ≤ (wr.setCell _ _).heap.size; simp; exact HS.out.ez)
                    have hwz : w2.heap.size ≤ (wr.setCell ⟨w.heap.size + 1, k, none⟩ (.int .i64 (y + 1))).drew.heap.size := HT4.out.size
                    have HLN : Hid ((qL Q).length + 1 ≤ 1000000) := Lib.hid (by rw [qL_len, ← HS.out.lq]; omega)
                    have HLQ4 : Hid (lq + 1 = (qL (Q ++ [k])).length) := Lib.hid (by rw [qL_snoc, List.length_append, qL_len, ← HS.out.lq]; rfl)
                    have hgne := HS.out.ne _ rfl
                    have HGNE : Hid (g ≠ Z ∧ ¬ (Bz ≤ g ∧ g < E)) := Lib.hid hgne
                    have HRW4 : Hid ((wr.setCell ⟨w.heap.size + 1, k, none⟩ (.int .i64 (y + 1))).drew.rowIs (w.heap.size + 1) 3 n (fun j => .int .i64 (d2 j))) := Lib.hid HRW3.out
                    clear HRW3 HS0 HS1 hblk hgne m1 f1 HP
                    go_upto_region 21 with (fail)
                    generalize (wr.setCell ⟨w.heap.size + 1, k, none⟩ (.int .i64 (y + 1))).drew = w4 at *
                    go_upto_region 18 with (at_builtin; refine append_one_g rfl (.tmp 87) (.tmp 93) rfl w2.heap.size _ (qL Q) rfl HO4.out (k : Int) rfl HLN.out hwz ?_; intro v5 w5 ho5 hgr5 hb5 hown5; rw [← qL_snoc] at ho5; obtain ⟨A5q, c5q, rfl, _⟩ := ho5.form; rw [← HLQ4.out] at ho5 hown5 ⊢; have HO5 := Lib.hid ho5; have HGR5 := Lib.hid hgr5; have HB5 := Lib.hid hb5; have HOWN5 := Lib.hid hown5; clear ho5 hgr5 hb5 hown5)
                    have HS9 : Hid (FarS w2 (w.heap.size + 1) Z Bz E (.slice T1 x1 t1) (.slice T3 x3 t3) T2 t2 n (turnR G.rows) goal A5q (lq + 1) c5q (Q ++ [k]) d2 at_ (z + 1) w5 ∧ PAf Bz E w5 (some ⟨b, o, none⟩) row) := Lib.hid (by
                      have hsz := HB5.out.size
                      have hb5 : ∀ q, q < w4.heap.size → q ≠ g → w5.heap[q]? = w4.heap[q]? := fun q hq hne => (HGR5.out.block q (by simp; omega) (fun e => hne (Option.some.inj e))).trans (Below.heap_alloc _ _ _ hq)
                      have hD := HD.out
                      have hE := HE4.out
                      have hG := HGNE.out
                      have hzl := (Array.getElem?_eq_some_iff.1 HZC4.out).1
                      have hlt5 := HRW4.out.lt
                      refine ⟨⟨HRW4.out.of_block (hb5 _ hlt5 (by omega)), HO5.out, by rw [List.length_append, ← HS.out.lq]; rfl, (hb5 Z hzl (fun e => hG.1 e.symm)).trans HZC4.out, ?_, fun a e => ?_, HT4.out.then_below HB5.out, HI2.out, by omega⟩, ?_⟩
                      · exact HRA4.out.cells hsz (fun p u hp hc => (World.cell?_of_block (hb5 p.block (by omega) (fun e => hG.2 (by rw [← e]; exact hp)))).trans hc)
                      · subst e
                        rcases HOWN5.out with h | h
                        · have h : some a.block = some g := h
                          injection h with h
                          rw [h]; exact hG
                        · have h : some a.block = some (w4.heap.size + 1) := h
                          injection h with h
                          rw [h]
                          exact ⟨by omega, by omega⟩
                      · exact HP4.out.cells hsz (fun p u hp hc => (World.cell?_of_block (hb5 p.block (by omega) (fun e => hG.2 (by rw [← e]; exact hp)))).trans hc))
                    have HQ9 : Hid ((Q ++ [k]).getD at_ 0 = k0 ∧ at_ < (Q ++ [k]).length) := Lib.hid ⟨by rw [qat_app HQ.out.2]; exact HQ.out.1, by have := HQ.out.2; simp; omega⟩
                    have HP9 := Lib.hid HS9.out.2
                    have HS9 := Lib.hid HS9.out.1
                    clear nc3 HO5 HGR5 HB5 HOWN5
                    go_wp2_with fail
                    go_roundw
                    case rel => exact ⟨z + 1, Q ++ [k], d2, A5q, lq + 1, c5q, rfl, by go_num, by omega, HQ9, HP9, HS9⟩
                    case measure => simp [intOf]; omega
                · obtain rfl : z = rl := by omega
                  have HS2 : Hid (FarS w2 (w.heap.size + 1) Z Bz E (.slice T1 x1 t1) (.slice T3 x3 t3) T2 t2 n (turnR G.rows) goal Aq lq cq Q d (at_ + 1) 0 wr) := Lib.hid { HS.out with inv := HS.out.inv.next HQ.out.2 (by rw [HQ.out.1, HROWE.out, HRL.out]; exact Nat.le_refl _) }
                  have hlq2 : at_ + 1 ≤ lq := by have := HQ.out.2; have := HS.out.lq; omega
                  have hln : lq ≤ n := by rw [HS.out.lq]; exact q_len HS.out.inv.nd HS.out.inv.lt
                  clear HS HP
                  go_wp2_with fail
                  go_roundw
                  case rel => exact ⟨at_ + 1, Q, d, Aq, lq, cq, rfl, by go_num, hlq2, HS2⟩
                  case measure => simp [intOf]; omega
            · have HOKF : Hid (FarOk n G.rows goal ((List.range n).map d)) := Lib.hid (by
                have h := HS.out.inv
                rw [HN.out] at h ⊢
                have h2 : FarI G.rows.length (turnR G.rows) goal Q d at_ 0 := h
                exact h2.ok (by rw [← HS.out.lq]; omega))
              have hlt3 : ¬ (at_ : Int) < (lq : Int) := by omega
              go_wp2_with fail
              go_ret
              exact ⟨w.heap.size + 1, d, rfl, HS.out.row, HOKF.out, (HKP.out _ HS.out.turn).2.1⟩
end Go.Proofs.Ytjgifbcjokeigaa
