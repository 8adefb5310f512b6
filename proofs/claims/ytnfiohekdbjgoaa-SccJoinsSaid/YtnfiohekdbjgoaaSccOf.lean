/- Contract of package scc: Of. -/
import Derived.Test.YtnfiohekdbjgoaaSccRev
import Derived.Deep.RegionHeld3
namespace Go.Proofs.Ytnfiohekdbjgoaa.sc
open Go.ChangeShapes Go.WideShapes Go.ChangeAt Go.RowKit Go.Shelf

set_option maxRecDepth 20000 in
set_option maxHeartbeats 8000000 in
theorem of_any' (v1 v3 : Value) (A2 : Option Addr) (c2 n : Nat) (rows : List (List (Int × Int))) (w : World) (hn : n = rows.length) (hnl : n ≤ 100) (hc2 : n ≤ c2) (hcm : c2 ≤ maxLen) (hrow : ∀ i, (rows.getD i []).length ≤ 2000) (hA : RA w A2 rows) :
    Calls Try.prog 37 #[.agg #[v1, .slice A2 n c2, v3]] w fun e w' => ∃ L, OfL n (eR n rows) L ∧ RowN w L e w' := by
  have HN := Lib.hid hn
  have HROW := Lib.hid hrow
  clear hn hrow
  go_enter Try.func37, Try.ntmps37
  go_upto_region 2 with (fail)
  obtain ⟨w2, HW2⟩ : ∃ w2, w2 = (w.alloc (.cells #[v1, .slice A2 n c2, v3] 26)).alloc (.cells #[.slice none 0 0] 22) := ⟨_, rfl⟩
  have HB2 : Hid (Below w.heap.size w w2) := Lib.hid (by rw [HW2]; exact ((Below.refl _ _).alloc (Nat.le_refl _) _).alloc (by simp) _)
  have HZ2 : Hid (w2.heap.size = w.heap.size + 2) := Lib.hid (by rw [HW2]; simp)
  have HT2 : Hid (w2.heap[w.heap.size + 1]? = some (.cells #[.slice none 0 0] 22 (0, 0))) := Lib.hid (by rw [HW2]; have h := World.alloc_heap_new (w.alloc (.cells #[v1, .slice A2 n c2, v3] 26)) (.cells #[.slice none 0 0] 22); simpa using h)
  have HV : Hid (∀ W : World, W.heap[w.heap.size]? = w2.heap[w.heap.size]? → W.cell? ⟨w.heap.size, 0, none⟩ = some v1 ∧ W.cell? ⟨w.heap.size, 1, none⟩ = some (.slice A2 n c2) ∧ W.cell? ⟨w.heap.size, 2, none⟩ = some v3) := Lib.hid (fun W hW => by
    obtain ⟨q0, q1, q2⟩ := box3 w v1 (.slice A2 n c2) v3 26
    have e : W.heap[w.heap.size]? = (w.alloc (.cells #[v1, .slice A2 n c2, v3] 26)).heap[w.heap.size]? := hW.trans (by rw [HW2]; exact Below.heap_alloc _ _ _ (by simp))
    exact ⟨(World.cell?_of_block (a := ⟨w.heap.size, 0, none⟩) e).trans q0, (World.cell?_of_block (a := ⟨w.heap.size, 1, none⟩) e).trans q1, (World.cell?_of_block (a := ⟨w.heap.size, 2, none⟩) e).trans q2⟩)
  have HA0 := Lib.hid hA
  rw [← HW2]
  clear HW2 hA
  have hS0 := HV.out w2 rfl
  have HKW : Hid (∀ W, Below w2.heap.size w2 W → OrI (w.heap.size + 1) w2.heap.size [] (fun q => q = w.heap.size + 1 ∨ (Value.slice none 0 0).ownBlock = some q) W) := Lib.hid (fun W hW => ⟨⟨_, rfl, (hW.block _ (by have := HZ2.out; omega)).trans HT2.out, OI.nil _ _⟩, by have := HZ2.out; omega, hW.size⟩)
  have HRD : Hid (∀ W As cs, Below w2.heap.size w2 W → InS W As cs (ups n) → ∀ W', Turn (fun q => q = w.heap.size + 1 ∨ (Value.slice none 0 0).ownBlock = some q) W W' → RA W' A2 rows ∧ IA W' As ((List.range n).map Int.ofNat)) := Lib.hid (fun W As cs hW hi W' hT => by
    have hz := hW.size
    have hz2 := HZ2.out
    refine ⟨RA.below HA0.out ((HB2.out.trans (hW.mono HB2.out.size)).trans (hT.below (fun q hq => ?_) (by omega))), fun h0 => ?_⟩
    · rcases hq with rfl | hq
      · omega
      · cases hq
    · refine hi.ia.turn hT (fun a ea hq => ?_) h0
      rcases hq with hq | hq
      · obtain ⟨b, o, e1, hb, hcc⟩ := hi.ia h0
        rw [ea] at e1
        injection e1 with e1
        subst e1
        have h1 := hcc 0 h0
        have h2 := (hW.block (w.heap.size + 1) (by omega)).trans HT2.out
        have hq : b = w.heap.size + 1 := hq
        subst hq
        simp only [World.cell?, h2, Nat.add_zero] at h1
        rcases Nat.eq_zero_or_pos o with rfl | ho
        · simp at h1
        · rw [Array.getElem?_eq_none (by simp; omega)] at h1; cases h1
      · cases hq)
  go_cut [3] from 6 (fun v W => v = .pointer (some ⟨w.heap.size + 1, 0, none⟩) ∧ ∃ L1 O1, Hid (Rest (eR n rows) (List.range n) L1) ∧ Hid (∀ u ∈ ns L1, u < n) ∧ Hid (OrI (w.heap.size + 1) w2.heap.size L1 O1 W) ∧ Hid (Below w.heap.size w W) ∧ Hid (W.heap[w.heap.size]? = w2.heap[w.heap.size]?))
  case first =>
    go_region_held3 (fun w' => w'.cell? ⟨w.heap.size, 0, none⟩ = some v1 ∧ w'.cell? ⟨w.heap.size, 1, none⟩ = some (.slice A2 n c2) ∧ w'.cell? ⟨w.heap.size, 2, none⟩ = some v3)
      (first | exact hS0 | exact hS3 | exact hS4 | go_keep)
      (first
        | (go_at_call 69; refine (nodes_any v1 v3 A2 n c2 _ (by omega)).mono ?_; rintro e w3 ⟨As, cs, rfl, h3, hb3⟩; have HB3 : Hid (Below w2.heap.size w2 w3) := Lib.hid ((by first | exact (Below.refl _ _).drew | exact Below.refl _ _ : Below w2.heap.size w2 _).trans hb3); have hS3 := HV.out w3 (HB3.out.block _ (by have := HZ2.out; omega)); have H3 := Lib.hid h3; clear h3 hb3; rw [ups_length])
        | (go_at_call 68; refine (walk_any n rows A2 c2 As n cs (List.range n) 70 #[.pointer (some ⟨w.heap.size + 1, 0, none⟩)] (OrI (w.heap.size + 1) w2.heap.size) (leaveK1 n (w.heap.size + 1) w2.heap.size (by omega)) (enters_of Try.func70 (by kernel_rfl) rfl) _ w3 HN.out (by omega) (fun i => Nat.le_trans (HROW.out i) (by decide)) (by simp) (by omega) (fun s hs => List.mem_range.1 hs) (fun W hW => HRD.out w3 As cs HB3.out H3.out W hW) (HKW.out w3 HB3.out)).mono ?_; rintro e w4 ⟨⟨r4, rfl⟩, L1, O1, hr1, hl1, hi1, ht1, ho1⟩; have HT4 := Lib.hid ht1; have HR1 := Lib.hid hr1; have HL1 := Lib.hid hl1; have HI1 := Lib.hid hi1; have HB4 : Hid (w4.heap[w.heap.size]? = w3.heap[w.heap.size]?) := Lib.hid (HT4.out.block _ (by have := HZ2.out; have := HB3.out.size; omega) (fun h => by rcases h with h | h; exact absurd h (Nat.ne_of_lt (Nat.lt_succ_self _)); cases h)); have hS4 := HV.out w4 (HB4.out.trans (HB3.out.block _ (by have := HZ2.out; omega))); clear ht1 hr1 hl1 hi1 ho1)
        | fail)
    all_goals
      go_wp2
      go_meet
      case rel =>
        exact ⟨rfl, L1, O1, HR1, HL1, HI1, Lib.hid ((HB2.out.trans (HB3.out.mono HB2.out.size)).trans (HT4.out.below (fun q hq => by rcases hq with rfl | hq; exact Nat.le_succ _; cases hq) (by have := HB3.out.size; have := HZ2.out; omega))), Lib.hid (HB4.out.trans (HB3.out.block _ (by have := HZ2.out; omega)))⟩
  case rest =>
    obtain ⟨rfl, L1, O1, HR1, HL1, HI1, HBW, HBX⟩ := hcut
    obtain ⟨⟨v, hO1, hbx, hov⟩, hlt1, hbig⟩ := HI1.out
    obtain ⟨hall, hlen⟩ := walk1_all HR1.out HL1.out
    obtain ⟨A, c, rfl, hA4, _⟩ := hov.ins
    have hlm : ((ns L1).map Int.ofNat).length = n := by rw [List.length_map]; exact hlen
    rw [hlm] at hov hbx
    have HO4 := Lib.hid hov
    have HT4 := Lib.hid hbx
    have HLM := Lib.hid hlm
    have ct := (cell_of_box_l hbx).1
    clear hov hbx hlm hA4 hO1 hall hlen
    go_wp2_with fail
    refine (rev_own w2.heap.size wc A n c ((ns L1).map Int.ofNat) HLM.out.symm (by omega) hbig HO4.out).mono ?_
    rintro e w5 ⟨⟨r5, rfl⟩, ho5, hb5⟩
    have HO5 : Hid (OI w2.heap.size w5 (.slice A n c) ((ns L1).reverse.map Int.ofNat)) := Lib.hid (by rw [List.map_reverse]; exact ho5)
    have HB5 : Hid (Below w.heap.size w w5) := Lib.hid (HBW.out.trans (hb5.mono (by have := HZ2.out; omega)))
    have HT5 : Hid (w5.heap[w.heap.size + 1]? = some (.cells #[.slice A n c] 22 (0, 0))) := Lib.hid ((hb5.block _ (by have := HZ2.out; omega)).trans HT4.out)
    have HV5 : Hid (w5.heap[w.heap.size]? = w2.heap[w.heap.size]?) := Lib.hid ((hb5.block _ (by have := HZ2.out; omega)).trans HBX.out)
    have hz5 : w.heap.size + 2 ≤ w5.heap.size := by have := hb5.size; have := HZ2.out; omega
    clear ct ho5 hb5 HO4 HT4 HLM
    obtain ⟨i0, hi, hz0, hz1, hz2⟩ := info_parts Try.info3
    have hmk : ∀ W : World, (Instr.makeSlice 22 (.int .i64 (n : Int)) (.int .i64 (n : Int))).run Try.prog W = .ok (.slice (some ⟨W.heap.size, 0, none⟩) n n) (W.alloc (.cells (madeCells #[.int .i64 0] n) 3)) := fun W => by
      have hr := run_make (P := Try.prog) W 22 3 i0 _ (by kernel_rfl) hi hz0 .i64 .i64 (n : Int) (n : Int) (by omega) (Int.le_refl _) (by rw [hz2]; omega) (by omega)
      rw [hr, hz1]
      rw [Int.toNat_natCast, Nat.mul_one]
      rfl
    clear hi hz0 hz1 hz2
    have ct := (cell_of_box_l HT5.out).1
    clear hS0
    go_upto_region 5 with (fail)
    obtain ⟨w6, HW6⟩ : ∃ w6, w6 = (w5.alloc (.cells (madeCells #[.int .i64 0] n) 3)).alloc (.cells #[.slice (some ⟨w5.heap.size, 0, none⟩) n n] 22) := ⟨_, rfl⟩
    have HB6' : Hid (Below w5.heap.size w5 w6) := Lib.hid (by rw [HW6]; exact ((Below.refl _ _).alloc (Nat.le_refl _) _).alloc (by simp) _)
    have HZ6 : Hid (w6.heap.size = w5.heap.size + 2) := Lib.hid (by rw [HW6]; simp)
    have HSB : Hid (w6.heap[w5.heap.size + 1]? = some (.cells #[.slice (some ⟨w5.heap.size, 0, none⟩) n n] 22 (0, 0))) := Lib.hid (by rw [HW6]; have h := World.alloc_heap_new (w5.alloc (.cells (madeCells #[.int .i64 0] n) 3)) (.cells #[.slice (some ⟨w5.heap.size, 0, none⟩) n n] 22); simpa using h)
    have HRB : Hid (w6.rowIs w5.heap.size 3 n (fun _ => .int .i64 ((fun _ => (0 : Int)) 0))) := Lib.hid (by rw [HW6]; exact (World.rowIs_made w5 (.int .i64 0) n 3).alloc _)
    rw [← HW6]
    clear HW6 hmk ct
    have HB6 : Hid (Below w.heap.size w w6) := Lib.hid (HB5.out.trans (HB6'.out.mono HB5.out.size))
    obtain ⟨s1, s2, s3⟩ := HV.out w6 ((HB6'.out.block _ (by omega)).trans HV5.out)
    have HGV : Hid (GV w6 (.agg #[.slice none 0 0, .slice A2 n c2, .slice none 0 0]) ⟨[], rows, []⟩) := Lib.hid ⟨none, 0, A2, c2, none, 0, by rw [HN.out]; rfl, ⟨Nat.le_refl _, Nat.zero_le _, fun h => absurd h (by simp)⟩, ⟨by rw [← HN.out]; exact hc2, hcm, RA.below HA0.out HB6.out⟩, ⟨Nat.le_refl _, Nat.zero_le _, fun h => absurd h (by simp)⟩⟩
    have HLD : Hid ((leadTo rows rows.length).length ≤ 200000) := Lib.hid (by
      have h := lead_most HROW.out rows.length
      have h2 : rows.length * 2000 ≤ 100 * 2000 := Nat.mul_le_mul_right _ (by rw [← HN.out]; exact hnl)
      omega)
    go_wp2_with fail
    refine (turn_f HGV.out (by simp) (by show rows.length ≤ 1000000; rw [← HN.out]; omega) (by have := HLD.out; show (leadTo rows rows.length).length ≤ 1000000; omega) (by simp)).mono ?_
    rintro e w7 ⟨v7, rfl, ⟨E, hE, B1, d1, BT, dT, B3, d3, rfl, _, ⟨hd1, hd2, hRT⟩, _⟩, hb7⟩
    have HLT : Hid ((turnR rows).length = n) := Lib.hid (by rw [turnR_len, ← HN.out])
    have hLT' : (turnG ⟨[], rows, []⟩).rows.length = n := HLT.out
    rw [hLT'] at hd1 ⊢
    have HRT : Hid (RAf w6.heap.size E w7 BT (turnR rows)) := Lib.hid hRT
    have HB7 := Lib.hid hb7
    have HE := Lib.hid hE
    clear hRT hb7 hLT' hE s1 s2 s3
    obtain ⟨m1, HM1⟩ : ∃ m1, Hid ((turnG ⟨[], rows, []⟩).init.length = m1) := ⟨_, Lib.hid rfl⟩
    obtain ⟨m3, HM3⟩ : ∃ m3, Hid ((turnG ⟨[], rows, []⟩).labels.length = m3) := ⟨_, Lib.hid rfl⟩
    rw [HM1.out, HM3.out]
    go_upto_region 6 with (fail)
    obtain ⟨w8, HW8⟩ : ∃ w8, w8 = w7.alloc (.cells #[.slice B1 m1 d1, .slice BT n dT, .slice B3 m3 d3] 26) := ⟨_, rfl⟩
    have HB8' : Hid (Below w7.heap.size w7 w8) := Lib.hid (by rw [HW8]; exact (Below.refl _ _).alloc (Nat.le_refl _) _)
    obtain ⟨g0, g1, g2⟩ := box3 w7 (.slice B1 m1 d1) (.slice BT n dT) (.slice B3 m3 d3) 26
    rw [← HW8] at g0 g1 g2 ⊢
    clear HW8
    have HB68 : Hid (Below w6.heap.size w6 w8) := Lib.hid (HB7.out.trans (HB8'.out.mono HB7.out.size))
    have hz6 := HZ6.out
    have hz68 := HB68.out.size
    have HB8 : Hid (Below w.heap.size w w8) := Lib.hid (HB6.out.trans (HB68.out.mono HB6.out.size))
    have ct := (cell_of_box_l (((HB68.out.block (w.heap.size + 1) (by omega)).trans (HB6'.out.block _ (by omega))).trans HT5.out)).1
    have HRA8 : Hid (∀ W, Turn (fun q => q = w5.heap.size + 1 ∨ q = w5.heap.size) w8 W → RA W BT (turnR rows) ∧ IA W A ((ns L1).reverse.map Int.ofNat)) := Lib.hid (fun W hW => by
      have hz78 := HB8'.out.size
      have hE := HE.out
      refine ⟨(HRT.out.cells (by have := hW.size; omega) (fun p u hp hc => ?_)).ra, ?_⟩
      · exact (World.cell?_of_block (w := w7) (a := p) ((hW.block p.block (by omega) (by omega)).trans (HB8'.out.block p.block (by omega)))).trans hc
      · obtain ⟨A', c', e, hi, hk⟩ := HO5.out.ins
        injection e with e1 e2 e3
        subst e1
        have h8 := hi.ia.below (HB6'.out.trans (HB68.out.mono HB6'.out.size))
        exact h8.turn hW (fun a ea hq => by have := (hk a ea).2; omega))
    have HST : Hid (StI n (w5.heap.size + 1) w5.heap.size [] (fun q => q = w5.heap.size + 1 ∨ q = w5.heap.size) w8) := Lib.hid ⟨rfl, by omega, (HB68.out.block _ (by omega)).trans HSB.out, ⟨fun _ => 0, HRB.out.of_block (HB68.out.block _ (by omega)), fun u s h => absurd h (by simp)⟩, by omega⟩
    have HTR : Hid (∀ i, ((turnR rows).getD i []).length ≤ 1000000) := Lib.hid (fun i => by have := turn_row (rows := rows) i; have := HLD.out; omega)
    obtain ⟨hall, hlen⟩ := walk1_all HR1.out HL1.out
    have HLEN : Hid (n = (ns L1).reverse.length) := Lib.hid (by rw [List.length_reverse, hlen])
    have HRS : Hid (∀ s ∈ (ns L1).reverse, s < n) := Lib.hid (fun s hs => HL1.out s (List.mem_reverse.1 hs))
    clear hall hlen g0 g2
    go_wp2_with fail
    refine (walk_any n (turnR rows) BT dT A n c (ns L1).reverse 71 #[.pointer (some ⟨w5.heap.size + 1, 0, none⟩)] (StI n (w5.heap.size + 1) w5.heap.size) (leaveK2 n (w5.heap.size + 1) w5.heap.size) (enters_of Try.func71 (by kernel_rfl) rfl) _ w8 HLT.out.symm (by omega) HTR.out HLEN.out (by omega) HRS.out HRA8.out HST.out).mono ?_
    rintro e w9 ⟨⟨r9, rfl⟩, L2, O2, hr2, hl2, hi2, ht9, ho9⟩
    have HB9 : Hid (Below w.heap.size w w9) := Lib.hid (HB8.out.trans (ht9.below (fun q hq => by rcases hq with rfl | rfl <;> omega) (by omega)))
    obtain ⟨_, _, hbx, ⟨f, hrf, hf⟩, _⟩ := hi2
    rw [turn_eq HN.out] at hr2
    obtain ⟨hst, hofl⟩ := of_pure HR1.out HL1.out hr2 (f := f) (fun u s h => hf u s h hr2.nd)
    have cb := (cell_of_box_l hbx).1
    have HIA : Hid (IA w9 (some ⟨w5.heap.size, 0, none⟩) (stL n fun u => (f u).toNat)) := Lib.hid (fun h0 => ⟨_, 0, rfl, hrf.lt, fun i hi => by
      have hi' : i < n := by simpa [stL] using hi
      rw [Nat.zero_add, hrf.cell hi', stL_getD hi', (hst i hi').2]
      simp⟩)
    have HOF := Lib.hid hofl
    have HSN : Hid (∀ i, i < n → (f i).toNat < n) := Lib.hid (fun i hi => (hst i hi).1)
    clear hr2 hl2 hbx hrf hf ht9 ho9 hst hofl ct g1
    go_wp2_with fail
    refine (leasts_any (some ⟨w5.heap.size, 0, none⟩) n n (fun u => (f u).toNat) w9 (by omega) HSN.out HIA.out).mono ?_
    rintro e w10 ⟨D, d, rfl, hD, hb10, hnD⟩
    have HND : Hid (∀ a, D = some a → w.heap.size ≤ a.block) := Lib.hid (fun a e => Nat.le_trans HB9.out.size (hnD a e))
    have HD := Lib.hid hD
    have HB10 := Lib.hid (HB9.out.trans (hb10.mono HB9.out.size))
    have HLO : Hid ((outL n fun u => (f u).toNat).length = n) := Lib.hid (by simp [outL])
    clear hD hb10 hnD
    rw [HLO.out]
    go_wp2_with fail
    go_ret
    exact ⟨_, HOF.out, D, d, by rw [HLO.out]; rfl, HD.out, HB10.out, HND.out⟩
theorem of_any {w : World} {v : Value} {G : Gr} (hv : GV w v G) (hnl : G.rows.length ≤ 100) (hrow : ∀ i, (G.rows.getD i []).length ≤ 2000) :
    Calls Try.prog 37 #[v] w fun e w' => ∃ L, OfL G.rows.length (eR G.rows.length G.rows) L ∧ RowN w L e w' := by
  obtain ⟨A1, c1, A2, c2, A3, c3, rfl, _, ⟨a2, b2, d2⟩, _⟩ := hv
  exact of_any' _ _ A2 c2 _ G.rows w rfl hnl a2 b2 hrow d2
end Go.Proofs.Ytnfiohekdbjgoaa.sc
