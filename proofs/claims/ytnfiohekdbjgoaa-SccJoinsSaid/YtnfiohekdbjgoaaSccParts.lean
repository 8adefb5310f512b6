/- Contract of package scc: Parts. -/
import Derived.Test.YtnfiohekdbjgoaaSccTab
import Derived.Deep.CutRange
namespace Go.Proofs.Ytnfiohekdbjgoaa.sc
open Go.ChangeShapes Go.WideShapes Go.ChangeAt Go.RowKit

/-- Of each node its least one, as a number. -/
def lstF (L : List Int) (i : Nat) : Nat := (L.getD i 0).toNat
theorem least_self {n : Nat} {e : Nat → Nat → Prop} {i m : Nat} (h : Least n e i m) : Least n e m m :=
  ⟨Nat.le_refl _, .here _, .here _, fun k hk hw => h.2.2.2 k hk ⟨h.2.1.trans hw.1, hw.2.trans h.2.2.1⟩⟩
theorem OfL.lst {n : Nat} {e : Nat → Nat → Prop} {L : List Int} (h : OfL n e L) {i : Nat} (hi : i < n) : L.getD i 0 = (lstF L i : Int) ∧ lstF L i ≤ i ∧ lstF L (lstF L i) = lstF L i ∧ Least n e i (lstF L i) := by
  obtain ⟨m, h1, h2⟩ := h.2 i hi
  have e1 : lstF L i = m := by unfold lstF; rw [h1]; simp
  rw [e1]
  refine ⟨h1, h2.1, ?_, h2⟩
  obtain ⟨m', h3, h4⟩ := h.2 m (by have := h2.1; omega)
  have e2 : lstF L m = m' := by unfold lstF; rw [h3]; simp
  rw [e2]
  exact h4.one (least_self h2)
theorem lstF_le {n : Nat} {e : Nat → Nat → Prop} {L : List Int} (h : OfL n e L) (i : Nat) : lstF L i ≤ i := by
  by_cases hi : i < n
  · exact (h.lst hi).2.1
  · have : L.getD i 0 = 0 := by simp [List.getD, List.getElem?_eq_none (show L.length ≤ i by have := h.1; omega)]
    unfold lstF
    rw [this]; simp
theorem memF_le (lst : Nat → Nat) (k s : Nat) : (memF lst k s).length ≤ k := by
  unfold memF
  rw [List.length_map]
  have := List.length_filter_le (fun i => lst i == s) (List.range k)
  simpa using this
def PartsP (w : World) (n : Nat) (rows : List (List (Int × Int))) (e : Ending) (w' : World) : Prop :=
  ∃ L, OfL n (eR n rows) L ∧ ∃ v vals, e = .returned v ∧ PT w.heap.size w' v (stF (lstF L) n).length vals (fun j => memF (lstF L) n ((stF (lstF L) n).getD j 0)) ∧ Below w.heap.size w w'
set_option maxRecDepth 20000 in
set_option maxHeartbeats 8000000 in
theorem parts_any' (v1 v3 : Value) (A2 : Option Addr) (c2 n : Nat) (rows : List (List (Int × Int))) (w : World) (hn : n = rows.length) (hnl : n ≤ 100) (hc2 : n ≤ c2) (hcm : c2 ≤ maxLen) (hrow : ∀ i, (rows.getD i []).length ≤ 2000) (hA : RA w A2 rows) :
    Calls Try.prog 39 #[.agg #[v1, .slice A2 n c2, v3]] w (PartsP w n rows) := by
  obtain ⟨i0, hi, hz0, hz1, hz2⟩ := info_parts Try.info3
  have hmk : ∀ W : World, (Instr.makeSlice 22 (.int .i64 (n : Int)) (.int .i64 (n : Int))).run Try.prog W = .ok (.slice (some ⟨W.heap.size, 0, none⟩) n n) (W.alloc (.cells (madeCells #[.int .i64 0] n) 3)) := fun W => by
    have hr := run_make (P := Try.prog) W 22 3 i0 _ (by kernel_rfl) hi hz0 .i64 .i64 (n : Int) (n : Int) (by omega) (Int.le_refl _) (by rw [hz2]; omega) (by omega)
    rw [hr, hz1]
    rw [Int.toNat_natCast, Nat.mul_one]
    rfl
  clear hi hz0 hz1 hz2
  have HMK := Lib.hid hmk
  obtain ⟨w1, HW1⟩ : ∃ w1, Hid (w1 = w.alloc (.cells #[v1, .slice A2 n c2, v3] 26)) := ⟨_, Lib.hid rfl⟩
  have HB1 : Hid (Below w.heap.size w w1) := Lib.hid (by rw [HW1.out]; exact (Below.refl _ _).alloc (Nat.le_refl _) _)
  have HZ1 : Hid (w1.heap.size = w.heap.size + 1) := Lib.hid (by rw [HW1.out]; simp)
  obtain ⟨q0, q1, q2⟩ := box3 w v1 (.slice A2 n c2) v3 26
  rw [← HW1.out] at q0 q1 q2
  obtain ⟨w2, HW2⟩ : ∃ w2, Hid (w2 = w1.alloc (.cells (madeCells #[.int .i64 0] n) 3)) := ⟨_, Lib.hid rfl⟩
  have HB2 : Hid (Below w1.heap.size w1 w2) := Lib.hid (by rw [HW2.out]; exact (Below.refl _ _).alloc (Nat.le_refl _) _)
  have HZ2 : Hid (w2.heap.size = w1.heap.size + 1) := Lib.hid (by rw [HW2.out]; simp)
  have HR2 : Hid (w2.rowIs w1.heap.size 3 n (fun i => .int .i64 ((fun _ => (0 : Int)) i))) := Lib.hid (by rw [HW2.out]; exact World.rowIs_made w1 (.int .i64 0) n 3)
  have s0 := (HB2.out.cell (p := ⟨w.heap.size, 0, none⟩) (by have := HZ1.out; simp; omega)).trans q0
  have s1 := (HB2.out.cell (p := ⟨w.heap.size, 1, none⟩) (by have := HZ1.out; simp; omega)).trans q1
  have s2 := (HB2.out.cell (p := ⟨w.heap.size, 2, none⟩) (by have := HZ1.out; simp; omega)).trans q2
  have HBW2 : Hid (Below w.heap.size w w2) := Lib.hid (HB1.out.trans (HB2.out.mono HB1.out.size))
  have HOF := Lib.hid (of_any' v1 v3 A2 c2 n rows w2 hn hnl hc2 hcm hrow (RA.below hA HBW2.out))
  clear hn hrow hA
  go_enter Try.func39, Try.ntmps39
  go_upto_region 1 with (fail)
  rw [← HW1.out]
  go_upto_region 3 with (fail)
  rw [← HW2.out]
  clear q0 q1 q2 hmk
  go_wp2_with fail
  refine HOF.out.mono ?_
  rintro e w3 ⟨L, hL, A, c, rfl, hA3, hb3, hn3⟩
  have HL := Lib.hid hL
  have hLL : L.length = n := hL.1
  have HB3 := Lib.hid hb3
  have HLI : Hid (IA w3 A L) := Lib.hid hA3.ia
  have HNA : Hid (∀ a, A = some a → w2.heap.size ≤ a.block) := Lib.hid hn3
  have HLE : Hid (∀ i, lstF L i ≤ i) := Lib.hid (lstF_le hL)
  rw [hLL]
  clear hL hb3 hA3 hn3 s0 s1 s2
  have HR3 : Hid (w3.rowIs w1.heap.size 3 n (fun i => .int .i64 ((fun _ => (0 : Int)) i))) := Lib.hid (HR2.out.of_block (HB3.out.block _ (by have := HZ2.out; omega)))
  have HZ3 : Hid (w2.heap.size ≤ w3.heap.size) := Lib.hid HB3.out.size
  have HLR : Hid (∀ W, Below (w1.heap.size) w3 W → (∀ q, q < w3.heap.size → q ≠ w1.heap.size → W.heap[q]? = w3.heap[q]?) → IA W A L) := Lib.hid (fun W hW hk h0 => by
    obtain ⟨b, o, e, hb, hcc⟩ := HLI.out h0
    subst e
    refine ⟨b, o, rfl, Nat.lt_of_lt_of_le hb hW.size, fun i hi => ?_⟩
    have hbn : b ≠ w1.heap.size := by have h1 : w2.heap.size ≤ b := HNA.out _ rfl; have := HZ2.out; omega
    exact (World.cell?_of_block (w := w3) (a := ⟨b, o + i, none⟩) (hk b hb hbn)).trans (hcc i hi))
  go_wp2_with fail
  go_loopw [3, 15] (fun v i wr => ∃ (k : Nat) (vals : Nat → Value) (plf : Nat → Int), k ≤ n ∧ i = .int .i64 k ∧ Hid (PT w3.heap.size wr v (stF (lstF L) k).length vals (fun j => memF (lstF L) k ((stF (lstF L) k).getD j 0))) ∧ Hid (wr.rowIs w1.heap.size 3 n (fun i => .int .i64 (plf i))) ∧ Hid (∀ s, s < k → lstF L s = s → plf s = ((stF (lstF L) s).length : Nat)) ∧ Hid (Below w1.heap.size w3 wr) ∧ Hid (∀ q, q < w3.heap.size → q ≠ w1.heap.size → wr.heap[q]? = w3.heap[q]?)) (fun _ i _ => n - (intOf i).toNat)
  case atStart => exact ⟨0, _, _, by omega, rfl, Lib.hid ((PT.nil _ _).congr (fun j hj => absurd hj (by omega))), HR3, Lib.hid (fun s hs => absurd hs (by omega)), Lib.hid (Below.refl _ _), Lib.hid (fun _ _ _ => rfl)⟩
  case round =>
    obtain ⟨k, vals, plf, hk, rfl, HPT, HPR, HPL, HB, HKQ⟩ := hrel
    by_cases hlt : k < n
    · obtain ⟨bA, oA, rfl, hbA, hcA⟩ := (HLR.out _ HB.out HKQ.out) (by rw [hLL]; omega)
      have cA := hcA k (by rw [hLL]; exact hlt)
      obtain ⟨hl1, hl2, hl3, _⟩ := HL.out.lst hlt
      rw [hl1] at cA
      obtain ⟨m, HM⟩ : ∃ m, Hid (lstF L k = m) := ⟨_, Lib.hid rfl⟩
      rw [HM.out] at cA hl2 hl3
      have HMS := Lib.hid hl3
      clear hcA hl1 hl3
      obtain ⟨Av, capv, hv⟩ := HPT.out.form
      subst hv
      obtain ⟨cnt, HCNT⟩ : ∃ cnt, Hid ((stF (lstF L) k).length = cnt) := ⟨_, Lib.hid rfl⟩
      have hcnt : cnt ≤ k := by have := stF_le (lstF L) k; have := HCNT.out; omega
      rw [HCNT.out] at HPT ⊢
      go_upto_if 22 with (fail)
      go_cut [3] from 16 to 45 (fun v W => ∃ (vals : Nat → Value) (plf : Nat → Int), Hid (PT w3.heap.size W v (stF (lstF L) (k + 1)).length vals (fun j => memF (lstF L) k ((stF (lstF L) (k + 1)).getD j 0))) ∧ Hid (W.rowIs w1.heap.size 3 n (fun i => .int .i64 (plf i))) ∧ Hid (∀ s, s < k + 1 → lstF L s = s → plf s = ((stF (lstF L) s).length : Nat)) ∧ Hid (Below w1.heap.size w3 W) ∧ Hid (∀ q, q < w3.heap.size → q ≠ w1.heap.size → W.heap[q]? = w3.heap[q]?))
      case first =>
        by_cases hmk2 : m = k
        · subst hmk2
          have hS : stF (lstF L) (m + 1) = stF (lstF L) m ++ [m] := by rw [stF_succ, if_pos HM.out]
          have hz : ((m : Int) == (m : Int)) = true := by simp
          have pc := HPR.out.cell hlt
          have pf := HPR.out.frozen m
          have HX1 : Hid (PT w3.heap.size (wr.setCell ⟨w1.heap.size, m, none⟩ (.int .i64 (cnt : Nat))) (.slice Av cnt capv) cnt vals (fun j => memF (lstF L) m ((stF (lstF L) m).getD j 0))) := Lib.hid (HPT.out.keep (fun q hq _ => Below.heap_setCell _ _ _ q (by have := HZ3.out; have := HZ2.out; simp; omega)))
          have HX2 : Hid ((wr.setCell ⟨w1.heap.size, m, none⟩ (.int .i64 (cnt : Nat))).rowIs w1.heap.size 3 n (fun i => .int .i64 (if i = m then ((cnt : Nat) : Int) else plf i))) := Lib.hid ((HPR.out.set m _).congr (fun j _ => by by_cases e : j = m <;> simp [e]))
          have HX3 : Hid (Below w1.heap.size w3 (wr.setCell ⟨w1.heap.size, m, none⟩ (.int .i64 (cnt : Nat)))) := Lib.hid (HB.out.setCell (Nat.le_refl _) _)
          have HX4 : Hid (∀ q, q < w3.heap.size → q ≠ w1.heap.size → (wr.setCell ⟨w1.heap.size, m, none⟩ (.int .i64 (cnt : Nat))).heap[q]? = w3.heap[q]?) := Lib.hid (fun q hq hne => (Below.heap_setCell _ _ _ q hne).trans (HKQ.out q hq hne))
          have hzs : w3.heap.size ≤ (wr.setCell ⟨w1.heap.size, m, none⟩ (.int .i64 (cnt : Nat))).heap.size := by simp; exact HB.out.size
          go_wp2_with (at_builtin; go_loud (refine append_pt rfl (.tmp 28) (.tmp 29) rfl w3.heap.size _ cnt vals _ rfl HX1.out (.slice none 0 0) [] (OI.nil _ _) (fun j _ q _ e => by cases e) wr.heap.size (by simp) rfl (by omega) hzs ?_); intro v4 w4 hp4 hb4; have HP4 := Lib.hid hp4; have HB4 := Lib.hid hb4; clear hp4 hb4)
          go_meet
          case rel =>
            refine ⟨(fun j => if j = cnt then .slice none 0 0 else vals j), (fun i => if i = m then ((cnt : Nat) : Int) else plf i), Lib.hid ?_, Lib.hid (HX2.out.of_block (HB4.out.block _ (by have := HZ3.out; have := HZ2.out; omega))), Lib.hid (fun s hs hls => ?_), Lib.hid (HX3.out.trans (HB4.out.mono (by have := HZ3.out; have := HZ2.out; omega))), Lib.hid (fun q hq hne => (HB4.out.block q hq).trans (HX4.out q hq hne))⟩
            · have h := HP4.out
              have hc1 : (stF (lstF L) (m + 1)).length = cnt + 1 := by rw [hS, List.length_append, HCNT.out]; rfl
              rw [hc1]
              refine h.congr (fun j hj => ?_)
              rw [hS]
              by_cases e : j = cnt
              · rw [if_pos e, e, ← HCNT.out, show (stF (lstF L) m ++ [m]).getD (stF (lstF L) m).length 0 = m by simp [List.getD], memF_none HLE.out]
              · rw [if_neg e, show (stF (lstF L) m ++ [m]).getD j 0 = (stF (lstF L) m).getD j 0 by simp only [List.getD]; rw [List.getElem?_append_left (by have := HCNT.out; omega)]]
            · by_cases e : s = m
              · subst e
                show (if s = s then ((cnt : Nat) : Int) else plf s) = _
                rw [if_pos rfl, HCNT.out]
              · show (if s = m then ((cnt : Nat) : Int) else plf s) = _
                rw [if_neg e]
                exact HPL.out s (by omega) hls
        · have hz : ((k : Int) == (m : Int)) = false := by simp; omega
          have hS : stF (lstF L) (k + 1) = stF (lstF L) k := by rw [stF_succ, if_neg (by rw [HM.out]; exact hmk2), List.append_nil]
          go_wp2
          go_meet
          case rel =>
            refine ⟨vals, plf, Lib.hid ?_, HPR, Lib.hid (fun s hs hls => HPL.out s (by
              by_cases e : s = k
              · subst e; rw [HM.out] at hls; exact absurd hls hmk2
              · omega) hls), HB, HKQ⟩
            rw [hS, HCNT.out]
            exact HPT.out
      case rest =>
        obtain ⟨vals2, plf2, HP2, HR2', HL2, HBc, HKc⟩ := hcut
        obtain ⟨hx1, hx2⟩ := stF_at HMS.out (k := k + 1) (by omega)
        obtain ⟨cnt2, HC2⟩ : ∃ c, Hid ((stF (lstF L) (k + 1)).length = c) := ⟨_, Lib.hid rfl⟩
        obtain ⟨ix, HIX⟩ : ∃ c, Hid ((stF (lstF L) m).length = c) := ⟨_, Lib.hid rfl⟩
        have hc2k : cnt2 ≤ k + 1 := by have := stF_le (lstF L) (k + 1); have := HC2.out; omega
        rw [HC2.out] at HP2 hx1
        rw [HIX.out] at hx1 hx2
        have HX2 := Lib.hid hx2
        have pc := HR2'.out.cell (i := m) (by omega)
        rw [HL2.out m (by omega) HMS.out, HIX.out] at pc
        obtain ⟨g, cap, hv, hg1, hg2, hg3, hg4, hg5⟩ := HP2.out.cell (by omega)
        subst hv
        have oc := hg4 ix hx1
        have hrow := HP2.out.row ix hx1
        rw [hx2] at hrow
        have HROWX := Lib.hid hrow
        have HNG : Hid ((vals2 ix).ownBlock ≠ some g) := Lib.hid (own_ints HP2.out.own hrow rfl)
        have hml : (memF (lstF L) k m).length + 1 ≤ 1000000 := by have := memF_le (lstF L) k m; omega
        obtain ⟨xv, HXV⟩ : ∃ xv, Hid (vals2 ix = xv) := ⟨_, Lib.hid rfl⟩
        rw [HXV.out] at oc HROWX HNG
        have HGL : Hid (g < wc.heap.size) := Lib.hid hg2
        have HOC := Lib.hid oc
        have HFR : Hid (wc.frozen? ⟨g, ix, none⟩ = false) := Lib.hid (hg5 ix)
        have hz3 : w3.heap.size ≤ wc.heap.size := HBc.out.size
        have hkm : k < n := hlt
        clear hrow hg4 hg5 hx2
        go_wp2_with (at_builtin; go_loud (refine append_tight rfl (.tmp 40) (.tmp 42) rfl w3.heap.size _ (memF (lstF L) k m) rfl HROWX.out (k : Int) rfl hml hz3 ?_); intro v5 w5 ho5 hT5 hb5; obtain ⟨A5, d5, rfl, _⟩ := ho5.form; rw [show (memF (lstF L) k m ++ [(k : Int)]).length = (memF (lstF L) k m).length + 1 by simp] at ho5 hb5 ⊢; have HO5 := Lib.hid ho5; have HT5 := Lib.hid hT5; have HB5 := Lib.hid hb5; have e5 : w5.cell? ⟨g, ix, none⟩ = some xv := (hT5.cell (p := ⟨g, ix, none⟩) HGL.out HNG.out).trans HOC.out; have f5 : w5.frozen? ⟨g, ix, none⟩ = false := (World.frozen?_of_block (w := wc) (a := ⟨g, ix, none⟩) (hT5.block g HGL.out HNG.out)).trans HFR.out; clear ho5 hT5 hb5)
        have HSET := Lib.hid (HP2.out.set hx1 (by rw [HXV.out]; exact HT5.out) HO5.out (by rw [HXV.out]; exact HB5.out))
        have HBT : Hid (Below w1.heap.size w3 w5) := Lib.hid (HBc.out.trans (HT5.out.below (fun q hq => by have := (World.ownsRow.lt HROWX.out q hq).1; have := HZ3.out; have := HZ2.out; omega) (by have := HZ3.out; have := HZ2.out; omega)))
        have HKT : Hid (∀ q, q < w3.heap.size → q ≠ w1.heap.size → w5.heap[q]? = w3.heap[q]?) := Lib.hid (fun q hq hne => (HT5.out.block q (by omega) (fun e => by have := (World.ownsRow.lt HROWX.out q e).1; omega)).trans (HKc.out q hq hne))
        have HRT : Hid (w5.rowIs w1.heap.size 3 n (fun i => .int .i64 (plf2 i))) := Lib.hid (HR2'.out.of_block (HT5.out.block _ (by have := HZ3.out; have := HZ2.out; omega) (fun e => by have := (World.ownsRow.lt HROWX.out _ e).1; have := HZ3.out; have := HZ2.out; omega)))
        go_roundw
        case rel =>
          refine ⟨k + 1, (fun j => if j = ix then .slice A5 ((memF (lstF L) k m).length + 1) d5 else vals2 j), plf2, by omega, by go_num, Lib.hid ?_, Lib.hid (HRT.out.setOther (by have := HZ3.out; have := HZ2.out; simp; omega) _), HL2, Lib.hid (HBT.out.setCell (by have := HZ3.out; have := HZ2.out; simp; omega) _), Lib.hid (fun q hq hne => (Below.heap_setCell _ _ _ q (by simp; omega)).trans (HKT.out q hq hne))⟩
          rw [HC2.out]
          refine HSET.out.congr (fun j hj => ?_)
          by_cases e : j = ix
          · subst e
            show (if j = j then _ else _) = _
            rw [if_pos rfl, HX2.out, memF_succ, if_pos HM.out]
          · show (if j = ix then _ else _) = _
            rw [if_neg e, memF_succ, if_neg, List.append_nil]
            intro e2
            have h1 := stF_back (lst := lstF L) (k := k + 1) (j := j) (by rw [HC2.out]; exact hj)
            rw [← e2, HM.out, HIX.out] at h1
            exact e h1.symm
        case measure => simp [intOf]; omega
    · obtain rfl : n = k := by omega
      go_wp2_with fail
      go_ret
      have hz31 : w.heap.size ≤ w3.heap.size := by have := HZ3.out; have := HBW2.out.size; omega
      exact ⟨L, HL.out, _, vals, rfl, HPT.out.mono hz31, (HBW2.out.trans (HB3.out.mono HBW2.out.size)).trans (HB.out.mono HB1.out.size)⟩
theorem parts_any {w : World} {v : Value} {G : Gr} (hv : GV w v G) (hnl : G.rows.length ≤ 100) (hrow : ∀ i, (G.rows.getD i []).length ≤ 2000) : Calls Try.prog 39 #[v] w (PartsP w G.rows.length G.rows) := by
  obtain ⟨A1, c1, A2, c2, A3, c3, rfl, _, ⟨a2, b2, d2⟩, _⟩ := hv
  exact parts_any' _ _ A2 c2 _ G.rows w rfl hnl a2 b2 hrow d2
end Go.Proofs.Ytnfiohekdbjgoaa.sc
