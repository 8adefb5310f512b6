/- The law GraphDuals: one node is reached from another one just if that one leads back to it, in the graph turned about the other way round. -/
import Derived.Test.YtmlkfdmccimdkaaBack
import Derived.Test.YtmlkfdmccimdkaaDualsPure
namespace Go.Proofs.Ytmlkfdmccimdkaa.graphDuals
open Go.ChangeShapes Go.WideShapes Go.ChangeAt Go.RowKit Go.Shelf

/-- Node y alone is a goal. -/
def oneG (n y : Nat) : List Bool := (List.range n).map fun j => j == y
theorem oneG_len (n y : Nat) : (oneG n y).length = n := by simp [oneG]
theorem oneG_at {n y k : Nat} (h : k < n) : (oneG n y).getD k false = (k == y) := by simp [oneG, List.getD, h]
theorem oneG_iff {n y k : Nat} (hy : y < n) : (oneG n y).getD k false = true ↔ k = y := by
  by_cases h : k < n
  · rw [oneG_at h]; simp
  · simp [oneG, List.getD, h]; omega
theorem goals_one {n y : Nat} : ∀ {k : Nat}, k ≤ n → goalsTo (oneG n y) k = if y < k then [(y : Int)] else []
  | 0, _ => rfl
  | k + 1, h => by
    rw [goalsTo, goals_one (by omega), oneG_at (show k < n by omega)]
    by_cases e : k = y
    · subst e
      rw [if_pos (by simp), if_neg (by omega), if_pos (by omega)]; rfl
    · rw [if_neg (by simpa using e)]
      by_cases h2 : y < k
      · rw [if_pos h2, if_pos (by omega)]
      · rw [if_neg h2, if_neg (by omega)]
theorem bl_one {w : World} {b n y : Nat} {t : TypeId} (h : w.rowIs b t n (fun j => .bool (j == y))) : BL w (some ⟨b, 0, none⟩) (oneG n y) := fun hn => by
  rw [oneG_len] at hn ⊢
  refine ⟨b, 0, rfl, h.lt, fun i hi => ?_⟩
  rw [Nat.zero_add, h.cell hi, oneG_at hi]
theorem duals_path {rows : List (List (Int × Int))} {x y : Nat} (hy : y < rows.length) : decide (0 < (pathL rows [(x : Int)] (oneG rows.length y)).length) = metB (seen rows.length rows [(x : Int)]) y := by
  rw [Bool.eq_iff_iff, decide_eq_true_iff, List.length_pos_iff, path_iff, seen_iff]
  constructor
  · rintro ⟨k, h1, h2⟩
    rw [oneG_iff hy] at h1
    subst h1; exact h2
  · intro h; exact ⟨y, (oneG_iff hy).2 rfl, h⟩
theorem ia_one (w : World) (x : Int) : IA (w.alloc (.cells #[.int .i64 x] 3)) (some ⟨w.heap.size, 0, none⟩) [x] := fun _ => by
  refine ⟨w.heap.size, 0, rfl, by simp, fun i hi => ?_⟩
  have : i = 0 := by simp at hi; omega
  subst this
  exact (cell_new_l w (.int .i64 x) _).1

set_option maxRecDepth 20000 in
set_option maxHeartbeats 8000000 in
theorem walk (v0 : Value) (a b : Int) (w : World) (G : Gr) (g0 : GV w v0 G) : Calls Try.prog 8 #[v0, .int .i64 a, .int .i64 b] w (LawPost w) := by
  obtain ⟨A1, c1, A2, c2, A3, c3, rfl, hGA⟩ := id g0
  obtain ⟨n1, HN1⟩ : ∃ n, Hid (G.init.length = n) := ⟨_, Lib.hid rfl⟩
  obtain ⟨n, HN⟩ : ∃ n, Hid (G.rows.length = n) := ⟨_, Lib.hid rfl⟩
  obtain ⟨n3, HN3⟩ : ∃ n, Hid (G.labels.length = n) := ⟨_, Lib.hid rfl⟩
  have HGV0 := Lib.hid g0
  have HRA := Lib.hid hGA.2.1.2.2
  rw [HN1.out, HN.out, HN3.out] at HGV0 ⊢
  obtain ⟨y0, HY0⟩ : ∃ y, Hid (heavyB G = y) := ⟨_, Lib.hid rfl⟩
  clear g0 hGA
  go_enter Try.func8, Try.ntmps8
  go_wp2_with fail
  have hbx := box3 w (.slice A1 n1 c1) (.slice A2 n c2) (.slice A3 n3 c3) 26
  have hB2 := below1 w (.cells #[.slice A1 n1 c1, .slice A2 n c2, .slice A3 n3 c3] 26)
  generalize (w.alloc (.cells #[.slice A1 n1 c1, .slice A2 n c2, .slice A3 n3 c3] 26)) = w2 at *
  have HB2 := Lib.hid hB2
  have HBX2 : Hid (B3 w2 w.heap.size (.slice A1 n1 c1) (.slice A2 n c2) (.slice A3 n3 c3)) := Lib.hid hbx
  clear hB2 hbx
  refine (heavy_any (HGV0.out.below HB2.out)).mono ?_
  rw [HY0.out]
  rintro e w3 ⟨rfl, hb3⟩
  have HB3 : Hid (Below w.heap.size w w3) := Lib.hid (HB2.out.trans (hb3.mono HB2.out.size))
  have HBX3 := Lib.hid (HBX2.out.below hb3)
  clear hb3 HBX2 HB2
  cases y0 with
  | true =>
    go_wp2_with fail
    refine (awake_any _).mono ?_
    rintro e w4 ⟨rfl, hb4⟩
    go_wp2
    go_ret
    exact ⟨rfl, HB3.out.trans (hb4.mono HB3.out.size)⟩
  | false =>
  obtain ⟨hn200, hi200, hl400, hr50⟩ := heavy_not HY0.out
  have HROW : Hid (∀ i, (G.rows.getD i []).length ≤ 50) := Lib.hid (fun i => by
    by_cases hi : i < G.rows.length
    · have e : G.rows.getD i [] = G.rows[i] := by simp [List.getD, hi]
      rw [e]; exact hr50 _ (List.getElem_mem hi)
    · have e : G.rows.getD i [] = [] := by simp [List.getD, List.getElem?_eq_none (show G.rows.length ≤ i by omega)]
      rw [e]; exact Nat.zero_le _)
  have HI200 := Lib.hid hi200
  have HL400 := Lib.hid hl400
  rw [HN.out] at hn200
  clear hr50 hi200 hl400
  obtain ⟨q0, q1, q2⟩ := HBX3.out
  go_wp2_with fail
  clear q0 q1 q2
  refine (node_any _ _ A2 n c2 _ _).mono ?_
  obtain ⟨na, HNA⟩ : ∃ y, Hid (nodeB n a = y) := ⟨_, Lib.hid rfl⟩
  rw [HNA.out]
  rintro e w4 ⟨rfl, hb4⟩
  have HB4 : Hid (Below w.heap.size w w4) := Lib.hid (HB3.out.trans (hb4.mono HB3.out.size))
  have HBX4 := Lib.hid (HBX3.out.below hb4)
  clear hb4 HBX3 HB3
  cases na with
  | false =>
    go_wp2_with fail
    refine (awake_any _).mono ?_
    rintro e w5 ⟨rfl, hb5⟩
    go_wp2
    go_ret
    exact ⟨rfl, HB4.out.trans (hb5.mono HB4.out.size)⟩
  | true =>
  obtain ⟨q0, q1, q2⟩ := HBX4.out
  go_wp2_with fail
  clear q0 q1 q2
  refine (node_any _ _ A2 n c2 _ _).mono ?_
  obtain ⟨nb, HNB⟩ : ∃ y, Hid (nodeB n b = y) := ⟨_, Lib.hid rfl⟩
  rw [HNB.out]
  rintro e w5 ⟨rfl, hb5⟩
  have HB5 : Hid (Below w.heap.size w w5) := Lib.hid (HB4.out.trans (hb5.mono HB4.out.size))
  have HBX5 := Lib.hid (HBX4.out.below hb5)
  clear hb5 HBX4 HB4
  cases nb with
  | false =>
    go_wp2_with fail
    refine (awake_any _).mono ?_
    rintro e w6 ⟨rfl, hb6⟩
    go_wp2
    go_ret
    exact ⟨rfl, HB5.out.trans (hb6.mono HB5.out.size)⟩
  | true =>
  obtain ⟨x, rfl, hx⟩ : ∃ x : Nat, a = (x : Int) ∧ x < n := by
    have := of_decide_eq_true HNA.out
    exact ⟨a.toNat, by omega, by omega⟩
  obtain ⟨y, rfl, hy⟩ : ∃ y : Nat, b = (y : Int) ∧ y < n := by
    have := of_decide_eq_true HNB.out
    exact ⟨b.toNat, by omega, by omega⟩
  obtain ⟨i0, hi, hz0, hz1, hz2⟩ := info_parts (show (Try.prog.info? 4).map (fun i => (i.zero, i.size, i.bytes)) = some (some (.bool false), 1, 1) by kernel_rfl)
  have hmk : ∀ W : World, (Instr.makeSlice 33 (.int .i64 (n : Int)) (.int .i64 (n : Int))).run Try.prog W = .ok (.slice (some ⟨W.heap.size, 0, none⟩) n n) (W.alloc (.cells (madeCells #[.bool false] n) 4)) := fun W => by
    have hr := run_make (P := Try.prog) W 33 4 i0 _ (by kernel_rfl) hi hz0 .i64 .i64 (n : Int) (n : Int) (by omega) (Int.le_refl _) (by rw [hz2]; omega) (by omega)
    rw [hr, hz1, Int.toNat_natCast, Nat.mul_one]
    rfl
  clear hi hz0 hz1 hz2
  obtain ⟨q0, q1, q2⟩ := HBX5.out
  have HRM := Lib.hid (World.rowIs_made w5 (.bool false) n 4)
  have d1 := HRM.out.cell hy
  have f1 := HRM.out.frozen y
  go_upto_region 5 with (fail)
  clear hmk q0 q1 q2 d1 f1
  have hrow : ((w5.alloc (.cells (madeCells #[.bool false] n) 4)).setCell ⟨w5.heap.size, y, none⟩ (.bool true)).rowIs w5.heap.size 4 n (fun j => .bool (j == y)) := (HRM.out.set y (.bool true)).congr (fun j _ => by
    by_cases h : j = y
    · rw [if_pos h, h]; simp
    · rw [if_neg h]; simp [h])
  have hb6 : Below w5.heap.size w5 ((w5.alloc (.cells (madeCells #[.bool false] n) 4)).setCell ⟨w5.heap.size, y, none⟩ (.bool true)) := (below1 w5 _).setCell (show w5.heap.size ≤ (⟨w5.heap.size, y, none⟩ : Addr).block from Nat.le_refl _) _
  have hz6 : w5.heap.size + 1 ≤ ((w5.alloc (.cells (madeCells #[.bool false] n) 4)).setCell ⟨w5.heap.size, y, none⟩ (.bool true)).heap.size := by simp
  have hEQ : (w5.alloc (.cells (madeCells #[.bool false] n) 4)).setCell ⟨w5.heap.size, y, none⟩ (.bool true) = w5.alloc (.cells ((madeCells #[.bool false] n).setIfInBounds y (.bool true)) 4) := World.setCell_alloc_new _ _ _ _
  rw [hEQ] at hrow hb6 hz6
  clear hEQ
  generalize w5.alloc (.cells ((madeCells #[.bool false] n).setIfInBounds y (.bool true)) 4) = w6 at *
  have HB6 : Hid (Below w.heap.size w w6) := Lib.hid (HB5.out.trans (hb6.mono HB5.out.size))
  have HBX6 := Lib.hid (HBX5.out.below hb6)
  have HBL := Lib.hid (bl_one hrow)
  clear hrow hb6 HRM HBX5 HB5
  obtain ⟨R, HR⟩ : ∃ R, Hid (metB (seen n G.rows [(x : Int)]) y = R) := ⟨_, Lib.hid rfl⟩
  have HR2 : Hid (metB (seen n (turnR G.rows) [(y : Int)]) x = R) := Lib.hid (by
    have := seen_dual (rows := G.rows) (a := x) (b := y) (by rw [HN.out]; exact hx) (by rw [HN.out]; exact hy)
    rw [HN.out] at this
    rw [← this]; exact HR.out)
  have HR3 : Hid (decide (0 < (pathL G.rows [(x : Int)] (oneG n y)).length) = R) := Lib.hid (by
    have := duals_path (rows := G.rows) (x := x) (y := y) (by rw [HN.out]; exact hy)
    rw [HN.out] at this
    rw [this]; exact HR.out)
  have HGO : Hid (goalsTo (oneG n y) n = [(y : Int)]) := Lib.hid (by rw [goals_one (Nat.le_refl n), if_pos hy])
  have HGV : Hid (∀ W, Below w6.heap.size w6 W → GV W (.agg #[.slice A1 n1 c1, .slice A2 n c2, .slice A3 n3 c3]) G) := Lib.hid (fun W h => HGV0.out.below (HB6.out.trans (h.mono HB6.out.size)))
  have HV : Hid (∀ W, Below w6.heap.size w6 W → W.cell? ⟨w.heap.size, 0, none⟩ = some (.slice A1 n1 c1) ∧ W.cell? ⟨w.heap.size, 1, none⟩ = some (.slice A2 n c2) ∧ W.cell? ⟨w.heap.size, 2, none⟩ = some (.slice A3 n3 c3)) := Lib.hid (fun W h => HBX6.out.below h)
  have HKEEP : Hid (Below w6.heap.size w6 w6.drew) := Lib.hid (Below.refl _ _).drew
  refine wp_region_held_drew (S := (fun W => W.cell? ⟨w.heap.size, 0, none⟩ = some (.slice A1 n1 c1) ∧ W.cell? ⟨w.heap.size, 1, none⟩ = some (.slice A2 n c2) ∧ W.cell? ⟨w.heap.size, 2, none⟩ = some (.slice A3 n3 c3))) (by kernel_rfl) (HV.out _ HKEEP.out) ?_
  intro hS0
  have HS0 := Lib.hid hS0
  clear hS0
  simp only [Array.replicate, List.replicate]
  refine wpAnyH_take (i := 0) (oi := ⟨some 35, _, _, _, _, _⟩) (v := .agg #[.slice A1 n1 c1, .slice A2 n c2, .slice A3 n3 c3]) rfl (by kernel_rfl) (by kernel_rfl) (by kernel_rfl) (fun _ _ _ h => h) (Or.inl ⟨by kernel_rfl, fun w9 hS => ?_⟩) HS0.out ?_
  · obtain ⟨s0, s1, s2⟩ := hS
    go_simp
  try simp only [Act.put, List.setIfInBounds_toArray, List.set_cons_zero, List.set_cons_succ]
  refine wpAnyH_take (i := 1) (oi := ⟨some 36, _, _, _, _, _⟩) (v := .int .i64 (x : Int)) rfl (by kernel_rfl) (by kernel_rfl) (by kernel_rfl) (fun _ _ _ h => h) (Or.inl ⟨by kernel_rfl, fun w9 hS => ?_⟩) HS0.out ?_
  · clear hS
    go_simp
  try simp only [Act.put, List.setIfInBounds_toArray, List.set_cons_zero, List.set_cons_succ]
  refine wpAnyH_take (i := 4) (oi := ⟨some 39, _, _, _, _, _⟩) (v := .agg #[.slice A1 n1 c1, .slice A2 n c2, .slice A3 n3 c3]) rfl (by kernel_rfl) (by kernel_rfl) (by kernel_rfl) (fun _ _ _ h => h) (Or.inl ⟨by kernel_rfl, fun w9 hS => ?_⟩) HS0.out ?_
  · obtain ⟨s0, s1, s2⟩ := hS
    go_simp
  try simp only [Act.put, List.setIfInBounds_toArray, List.set_cons_zero, List.set_cons_succ]
  refine wpAnyH_take (i := 5) (oi := ⟨some 40, _, _, _, _, _⟩) (v := .slice (some ⟨w5.heap.size, 0, none⟩) n n) rfl (by kernel_rfl) (by kernel_rfl) (by kernel_rfl) (fun _ _ _ h => h) (Or.inl ⟨by kernel_rfl, fun w9 hS => ?_⟩) HS0.out ?_
  · clear hS
    go_simp
  try simp only [Act.put, List.setIfInBounds_toArray, List.set_cons_zero, List.set_cons_succ]
  refine wpAnyH_ready (rs := [2]) (by kernel_rfl) (by simp) ?_
  refine AllReadyH.cons (o := ⟨some 37, _, _, _, _, _⟩) rfl (fun K hK => ?_) AllReadyH.nil
  rw [if_pos (by kernel_rfl)]
  go_simp
  have HKEEP : Hid (Below w6.heap.size w6 (w6.alloc (.cells #[.int .i64 (x : Int)] 3)).drew) := Lib.hid (below1 w6 _).drew
  have HS1 : Hid _ := Lib.hid (HV.out _ HKEEP.out)
  refine hK.out _ _ HS1.out (fun _ => ?_)
  clear hK K
  try simp only [Act.put, List.setIfInBounds_toArray, List.set_cons_zero, List.set_cons_succ]
  have HIA : Hid (IA (w6.alloc (.cells #[.int .i64 (x : Int)] 3)).drew (some ⟨w6.heap.size, 0, none⟩) [(x : Int)]) := Lib.hid (ia_one w6 _)
  generalize (w6.alloc (.cells #[.int .i64 (x : Int)] 3)).drew = u1 at *
  refine wpAnyH_ready (rs := [3]) (by kernel_rfl) (by simp) ?_
  refine AllReadyH.cons (o := ⟨some 38, _, _, _, _, _⟩) rfl (fun K hK => ?_) AllReadyH.nil
  rw [if_pos (by kernel_rfl)]
  go_simp
  go_at_call 22
  refine (reach_any (HGV.out _ HKEEP.out) (some ⟨w6.heap.size, 0, none⟩) 1 1 [(x : Int)] (by rw [HN.out]; omega) rfl (by decide) HIA.out).mono ?_
  rw [HN.out]
  rintro e u2 ⟨b1, rfl, hb1, hr1, hB⟩
  have HKEEP : Hid (Below w6.heap.size w6 u2) := Lib.hid (HKEEP.out.trans (hB.mono HKEEP.out.size))
  have HF1 := Lib.hid hr1
  skip
  clear hb1 hr1 hB
  have HS2 : Hid _ := Lib.hid (HV.out _ HKEEP.out)
  refine hK.out _ _ HS2.out (fun _ => ?_)
  clear hK K
  try simp only [Act.put, List.setIfInBounds_toArray, List.set_cons_zero, List.set_cons_succ]
  refine wpAnyH_ready (rs := [6]) (by kernel_rfl) (by simp) ?_
  refine AllReadyH.cons (o := ⟨some 41, _, _, _, _, _⟩) rfl (fun K hK => ?_) AllReadyH.nil
  rw [if_pos (by kernel_rfl)]
  go_simp
  go_at_call 24
  refine (back_any (.slice A1 n1 c1) (.slice A3 n3 c3) A2 c2 n G.rows (some ⟨w5.heap.size, 0, none⟩) n n (oneG n y) _ HN.out.symm (by omega) (HRA.out.below (HB6.out.trans (HKEEP.out.mono HB6.out.size))) (fun i => Nat.le_trans (HROW.out i) (by omega)) (oneG_len n y).symm (by rw [oneG_len]; unfold maxLen; omega) (HBL.out.below HKEEP.out)).mono ?_
  rw [HGO.out]
  rintro e u3 ⟨b2, rfl, hb2, hr2, hB⟩
  have HKEEP : Hid (Below w6.heap.size w6 u3) := Lib.hid (HKEEP.out.trans (hB.mono HKEEP.out.size))
  have HF2 := Lib.hid hr2
  have HF1 := Lib.hid (HF1.out.of_block (hB.block _ HF1.out.lt))
  clear hb2 hr2 hB
  have HS3 : Hid _ := Lib.hid (HV.out _ HKEEP.out)
  refine hK.out _ _ HS3.out (fun _ => ?_)
  clear hK K
  try simp only [Act.put, List.setIfInBounds_toArray, List.set_cons_zero, List.set_cons_succ]
  refine wpAnyH_take (i := 7) (oi := ⟨some 8, _, _, _, _, _⟩) (v := .slice (some ⟨b1, 0, none⟩) n n) rfl (by kernel_rfl) (by kernel_rfl) (by kernel_rfl) (fun _ _ _ h => h) (Or.inl ⟨by kernel_rfl, fun w9 hS => ?_⟩) HS3.out ?_
  · clear hS
    go_simp
  try simp only [Act.put, List.setIfInBounds_toArray, List.set_cons_zero, List.set_cons_succ]
  refine wpAnyH_take (i := 8) (oi := ⟨some 9, _, _, _, _, _⟩) (v := .slice (some ⟨b2, 0, none⟩) n n) rfl (by kernel_rfl) (by kernel_rfl) (by kernel_rfl) (fun _ _ _ h => h) (Or.inl ⟨by kernel_rfl, fun w9 hS => ?_⟩) HS3.out ?_
  · clear hS
    go_simp
  try simp only [Act.put, List.setIfInBounds_toArray, List.set_cons_zero, List.set_cons_succ]
  refine wpAnyH_done (by kernel_rfl) ?_ _
  generalize u3 = w9 at *
  have HB9 : Hid (Below w.heap.size w w9) := Lib.hid (HB6.out.trans (HKEEP.out.mono HB6.out.size))
  obtain ⟨q0, q1, q2⟩ := HBX6.out.below HKEEP.out
  have hnn : ((n : Int) != (n : Int)) = false := by simp
  go_wp2_with fail
  clear q0 q1 q2
  refine (turn_any (HGV.out _ HKEEP.out) (by have := HI200.out; omega) (by rw [HN.out]; omega) (by have h1 := leadTo_len HROW.out G.rows.length; rw [HN.out] at h1 ⊢; have h2 : n * 50 ≤ 200 * 50 := Nat.mul_le_mul_right _ hn200; omega) (by have := HL400.out; omega)).mono ?_
  rintro e w10 ⟨v, rfl, hgv, hb10⟩
  have HGT := Lib.hid hgv
  have HF1 : Hid (w10.rowIs b1 4 n (mv (seen n G.rows [(x : Int)]))) := Lib.hid (HF1.out.of_block (hb10.block _ HF1.out.lt))
  have HF2 : Hid (w10.rowIs b2 4 n (mv (seen n (turnR G.rows) [(y : Int)]))) := Lib.hid (HF2.out.of_block (hb10.block _ HF2.out.lt))
  have HKEEP : Hid (Below w6.heap.size w6 w10) := Lib.hid (HKEEP.out.trans (hb10.mono HKEEP.out.size))
  clear hgv hb10
  go_wp2_with fail
  refine (reach_any (HGT.out.below (below1 _ _)) (some ⟨w10.heap.size, 0, none⟩) 1 1 [(y : Int)] (by show (turnR G.rows).length ≤ _; rw [turnR_len, HN.out]; omega) rfl (by decide) (ia_one w10 _)).mono ?_
  rw [show (turnG G).rows = turnR G.rows from rfl, turnR_len, HN.out]
  rintro e w11 ⟨b3, rfl, hb3, hr3, hB11⟩
  have hB : Below w10.heap.size w10 w11 := (below1 w10 _).trans (hB11.mono (by simp))
  have HF1 : Hid (w11.rowIs b1 4 n (mv (seen n G.rows [(x : Int)]))) := Lib.hid (HF1.out.of_block (hB.block _ HF1.out.lt))
  have HF2 : Hid (w11.rowIs b2 4 n (mv (seen n (turnR G.rows) [(y : Int)]))) := Lib.hid (HF2.out.of_block (hB.block _ HF2.out.lt))
  have HF3 := Lib.hid hr3
  have HKEEP : Hid (Below w6.heap.size w6 w11) := Lib.hid (HKEEP.out.trans (hB.mono HKEEP.out.size))
  clear hb3 hr3 hB11 hB
  obtain ⟨q0, q1, q2⟩ := HBX6.out.below HKEEP.out
  go_wp2_with fail
  clear q0 q1 q2
  refine (path_any ((HGV.out _ HKEEP.out).below (below1 _ _)) (some ⟨w11.heap.size, 0, none⟩) 1 1 [(x : Int)] (some ⟨w5.heap.size, 0, none⟩) n n (oneG n y) (by rw [HN.out]; omega) (fun i => Nat.le_trans (HROW.out i) (by omega)) rfl (by decide) (ia_one w11 _) (oneG_len n y).symm (by rw [oneG_len]; unfold maxLen; omega) ((HBL.out.below HKEEP.out).below (below1 _ _))).mono ?_
  rintro e w12 ⟨AL, cL, he, _, _, _, hB12⟩
  rw [HR3.out] at he
  subst he
  have hB : Below w11.heap.size w11 w12 := (below1 w11 _).trans (hB12.mono (by simp))
  have HKEEP : Hid (Below w6.heap.size w6 w12) := Lib.hid (HKEEP.out.trans (hB.mono HKEEP.out.size))
  have HC : Hid (∀ W, Below w12.heap.size w12 W → W.cell? ⟨b1, y, none⟩ = some (.bool R) ∧ W.cell? ⟨b2, x, none⟩ = some (.bool R) ∧ W.cell? ⟨b3, x, none⟩ = some (.bool R)) := Lib.hid (fun W h => by
    have g1 := HF1.out.of_block (hB.block _ HF1.out.lt)
    have g2 := HF2.out.of_block (hB.block _ HF2.out.lt)
    have g3 := HF3.out.of_block (hB.block _ HF3.out.lt)
    have k1 := g1.of_block (h.block _ g1.lt)
    have k2 := g2.of_block (h.block _ g2.lt)
    have k3 := g3.of_block (h.block _ g3.lt)
    exact ⟨(k1.cell hy).trans (congrArg (fun r => some (Value.bool r)) HR.out), (k2.cell hx).trans (congrArg (fun r => some (Value.bool r)) HR2.out), (k3.cell hx).trans (congrArg (fun r => some (Value.bool r)) HR2.out)⟩)
  clear hB hB12
  go_upto_region 10 with (fail)
  have HK2 : Hid (Below w12.heap.size w12 w12.drew) := Lib.hid (Below.refl _ _).drew
  refine wp_region_held_drew (S := (fun W => W.cell? ⟨b1, y, none⟩ = some (.bool R) ∧ W.cell? ⟨b2, x, none⟩ = some (.bool R) ∧ W.cell? ⟨b3, x, none⟩ = some (.bool R))) (by kernel_rfl) (HC.out _ HK2.out) ?_
  intro hT0
  have HT0 := Lib.hid hT0
  clear hT0
  simp only [Array.replicate, List.replicate]
  refine wpAnyH_take (i := 0) (oi := ⟨some 75, _, _, _, _, _⟩) (v := .slice (some ⟨b1, 0, none⟩) n n) rfl (by kernel_rfl) (by kernel_rfl) (by kernel_rfl) (fun _ _ _ h => h) (Or.inl ⟨by kernel_rfl, fun w9 hS => ?_⟩) HT0.out ?_
  · clear hS
    go_simp
  try simp only [Act.put, List.setIfInBounds_toArray, List.set_cons_zero, List.set_cons_succ]
  refine wpAnyH_take (i := 1) (oi := ⟨some 76, _, _, _, _, _⟩) (v := .int .i64 (y : Int)) rfl (by kernel_rfl) (by kernel_rfl) (by kernel_rfl) (fun _ _ _ h => h) (Or.inl ⟨by kernel_rfl, fun w9 hS => ?_⟩) HT0.out ?_
  · clear hS
    go_simp
  try simp only [Act.put, List.setIfInBounds_toArray, List.set_cons_zero, List.set_cons_succ]
  refine wpAnyH_take (i := 2) (oi := ⟨some 77, _, _, _, _, _⟩) (v := .pointer (some ⟨b1, y, none⟩)) rfl (by kernel_rfl) (by kernel_rfl) (by kernel_rfl) (fun _ _ _ h => h) (Or.inl ⟨by kernel_rfl, fun w9 hS => ?_⟩) HT0.out ?_
  · clear hS
    go_simp
  try simp only [Act.put, List.setIfInBounds_toArray, List.set_cons_zero, List.set_cons_succ]
  refine wpAnyH_take (i := 3) (oi := ⟨some 78, _, _, _, _, _⟩) (v := .bool R) rfl (by kernel_rfl) (by kernel_rfl) (by kernel_rfl) (fun _ _ _ h => h) (Or.inl ⟨by kernel_rfl, fun w9 hS => ?_⟩) HT0.out ?_
  · obtain ⟨s0, s1, s2⟩ := hS
    go_simp
  try simp only [Act.put, List.setIfInBounds_toArray, List.set_cons_zero, List.set_cons_succ]
  refine wpAnyH_take (i := 4) (oi := ⟨some 79, _, _, _, _, _⟩) (v := .slice (some ⟨b2, 0, none⟩) n n) rfl (by kernel_rfl) (by kernel_rfl) (by kernel_rfl) (fun _ _ _ h => h) (Or.inl ⟨by kernel_rfl, fun w9 hS => ?_⟩) HT0.out ?_
  · clear hS
    go_simp
  try simp only [Act.put, List.setIfInBounds_toArray, List.set_cons_zero, List.set_cons_succ]
  refine wpAnyH_take (i := 5) (oi := ⟨some 80, _, _, _, _, _⟩) (v := .int .i64 (x : Int)) rfl (by kernel_rfl) (by kernel_rfl) (by kernel_rfl) (fun _ _ _ h => h) (Or.inl ⟨by kernel_rfl, fun w9 hS => ?_⟩) HT0.out ?_
  · clear hS
    go_simp
  try simp only [Act.put, List.setIfInBounds_toArray, List.set_cons_zero, List.set_cons_succ]
  refine wpAnyH_take (i := 6) (oi := ⟨some 81, _, _, _, _, _⟩) (v := .pointer (some ⟨b2, x, none⟩)) rfl (by kernel_rfl) (by kernel_rfl) (by kernel_rfl) (fun _ _ _ h => h) (Or.inl ⟨by kernel_rfl, fun w9 hS => ?_⟩) HT0.out ?_
  · clear hS
    go_simp
  try simp only [Act.put, List.setIfInBounds_toArray, List.set_cons_zero, List.set_cons_succ]
  refine wpAnyH_take (i := 7) (oi := ⟨some 82, _, _, _, _, _⟩) (v := .bool R) rfl (by kernel_rfl) (by kernel_rfl) (by kernel_rfl) (fun _ _ _ h => h) (Or.inl ⟨by kernel_rfl, fun w9 hS => ?_⟩) HT0.out ?_
  · obtain ⟨s0, s1, s2⟩ := hS
    go_simp
  try simp only [Act.put, List.setIfInBounds_toArray, List.set_cons_zero, List.set_cons_succ]
  refine wpAnyH_take (i := 8) (oi := ⟨some 83, _, _, _, _, _⟩) (v := .bool true) rfl (by kernel_rfl) (by kernel_rfl) (by kernel_rfl) (fun _ _ _ h => h) (Or.inl ⟨by kernel_rfl, fun w9 hS => ?_⟩) HT0.out ?_
  · clear hS
    go_simp
  try simp only [Act.put, List.setIfInBounds_toArray, List.set_cons_zero, List.set_cons_succ]
  refine wpAnyH_take (i := 9) (oi := ⟨some 84, _, _, _, _, _⟩) (v := .bool true) rfl (by kernel_rfl) (by kernel_rfl) (by kernel_rfl) (fun _ _ _ h => h) (Or.inl ⟨by kernel_rfl, fun w9 hS => ?_⟩) HT0.out ?_
  · clear hS
    go_simp
  try simp only [Act.put, List.setIfInBounds_toArray, List.set_cons_zero, List.set_cons_succ]
  refine wpAnyH_take (i := 10) (oi := ⟨some 85, _, _, _, _, _⟩) (v := .slice (some ⟨b1, 0, none⟩) n n) rfl (by kernel_rfl) (by kernel_rfl) (by kernel_rfl) (fun _ _ _ h => h) (Or.inl ⟨by kernel_rfl, fun w9 hS => ?_⟩) HT0.out ?_
  · clear hS
    go_simp
  try simp only [Act.put, List.setIfInBounds_toArray, List.set_cons_zero, List.set_cons_succ]
  refine wpAnyH_take (i := 11) (oi := ⟨some 86, _, _, _, _, _⟩) (v := .int .i64 (y : Int)) rfl (by kernel_rfl) (by kernel_rfl) (by kernel_rfl) (fun _ _ _ h => h) (Or.inl ⟨by kernel_rfl, fun w9 hS => ?_⟩) HT0.out ?_
  · clear hS
    go_simp
  try simp only [Act.put, List.setIfInBounds_toArray, List.set_cons_zero, List.set_cons_succ]
  refine wpAnyH_take (i := 12) (oi := ⟨some 87, _, _, _, _, _⟩) (v := .pointer (some ⟨b1, y, none⟩)) rfl (by kernel_rfl) (by kernel_rfl) (by kernel_rfl) (fun _ _ _ h => h) (Or.inl ⟨by kernel_rfl, fun w9 hS => ?_⟩) HT0.out ?_
  · clear hS
    go_simp
  try simp only [Act.put, List.setIfInBounds_toArray, List.set_cons_zero, List.set_cons_succ]
  refine wpAnyH_take (i := 13) (oi := ⟨some 88, _, _, _, _, _⟩) (v := .bool R) rfl (by kernel_rfl) (by kernel_rfl) (by kernel_rfl) (fun _ _ _ h => h) (Or.inl ⟨by kernel_rfl, fun w9 hS => ?_⟩) HT0.out ?_
  · obtain ⟨s0, s1, s2⟩ := hS
    go_simp
  try simp only [Act.put, List.setIfInBounds_toArray, List.set_cons_zero, List.set_cons_succ]
  refine wpAnyH_take (i := 14) (oi := ⟨some 89, _, _, _, _, _⟩) (v := .slice (some ⟨b3, 0, none⟩) n n) rfl (by kernel_rfl) (by kernel_rfl) (by kernel_rfl) (fun _ _ _ h => h) (Or.inl ⟨by kernel_rfl, fun w9 hS => ?_⟩) HT0.out ?_
  · clear hS
    go_simp
  try simp only [Act.put, List.setIfInBounds_toArray, List.set_cons_zero, List.set_cons_succ]
  refine wpAnyH_take (i := 15) (oi := ⟨some 90, _, _, _, _, _⟩) (v := .int .i64 (x : Int)) rfl (by kernel_rfl) (by kernel_rfl) (by kernel_rfl) (fun _ _ _ h => h) (Or.inl ⟨by kernel_rfl, fun w9 hS => ?_⟩) HT0.out ?_
  · clear hS
    go_simp
  try simp only [Act.put, List.setIfInBounds_toArray, List.set_cons_zero, List.set_cons_succ]
  refine wpAnyH_take (i := 16) (oi := ⟨some 91, _, _, _, _, _⟩) (v := .pointer (some ⟨b3, x, none⟩)) rfl (by kernel_rfl) (by kernel_rfl) (by kernel_rfl) (fun _ _ _ h => h) (Or.inl ⟨by kernel_rfl, fun w9 hS => ?_⟩) HT0.out ?_
  · clear hS
    go_simp
  try simp only [Act.put, List.setIfInBounds_toArray, List.set_cons_zero, List.set_cons_succ]
  refine wpAnyH_take (i := 17) (oi := ⟨some 92, _, _, _, _, _⟩) (v := .bool R) rfl (by kernel_rfl) (by kernel_rfl) (by kernel_rfl) (fun _ _ _ h => h) (Or.inl ⟨by kernel_rfl, fun w9 hS => ?_⟩) HT0.out ?_
  · obtain ⟨s0, s1, s2⟩ := hS
    go_simp
  try simp only [Act.put, List.setIfInBounds_toArray, List.set_cons_zero, List.set_cons_succ]
  refine wpAnyH_take (i := 18) (oi := ⟨some 93, _, _, _, _, _⟩) (v := .bool true) rfl (by kernel_rfl) (by kernel_rfl) (by kernel_rfl) (fun _ _ _ h => h) (Or.inl ⟨by kernel_rfl, fun w9 hS => ?_⟩) HT0.out ?_
  · clear hS
    go_simp
  try simp only [Act.put, List.setIfInBounds_toArray, List.set_cons_zero, List.set_cons_succ]
  refine wpAnyH_take (i := 19) (oi := ⟨some 94, _, _, _, _, _⟩) (v := .bool true) rfl (by kernel_rfl) (by kernel_rfl) (by kernel_rfl) (fun _ _ _ h => h) (Or.inl ⟨by kernel_rfl, fun w9 hS => ?_⟩) HT0.out ?_
  · clear hS
    go_simp
  try simp only [Act.put, List.setIfInBounds_toArray, List.set_cons_zero, List.set_cons_succ]
  refine wpAnyH_take (i := 20) (oi := ⟨some 95, _, _, _, _, _⟩) (v := .bool true) rfl (by kernel_rfl) (by kernel_rfl) (by kernel_rfl) (fun _ _ _ h => h) (Or.inl ⟨by kernel_rfl, fun w9 hS => ?_⟩) HT0.out ?_
  · clear hS
    go_simp
  try simp only [Act.put, List.setIfInBounds_toArray, List.set_cons_zero, List.set_cons_succ]
  refine wpAnyH_take (i := 21) (oi := ⟨some 96, _, _, _, _, _⟩) (v := .bool R) rfl (by kernel_rfl) (by kernel_rfl) (by kernel_rfl) (fun _ _ _ h => h) (Or.inl ⟨by kernel_rfl, fun w9 hS => ?_⟩) HT0.out ?_
  · clear hS
    go_simp
  try simp only [Act.put, List.setIfInBounds_toArray, List.set_cons_zero, List.set_cons_succ]
  refine wpAnyH_take (i := 22) (oi := ⟨some 97, _, _, _, _, _⟩) (v := .slice (some ⟨b1, 0, none⟩) n n) rfl (by kernel_rfl) (by kernel_rfl) (by kernel_rfl) (fun _ _ _ h => h) (Or.inl ⟨by kernel_rfl, fun w9 hS => ?_⟩) HT0.out ?_
  · clear hS
    go_simp
  try simp only [Act.put, List.setIfInBounds_toArray, List.set_cons_zero, List.set_cons_succ]
  refine wpAnyH_take (i := 23) (oi := ⟨some 98, _, _, _, _, _⟩) (v := .int .i64 (y : Int)) rfl (by kernel_rfl) (by kernel_rfl) (by kernel_rfl) (fun _ _ _ h => h) (Or.inl ⟨by kernel_rfl, fun w9 hS => ?_⟩) HT0.out ?_
  · clear hS
    go_simp
  try simp only [Act.put, List.setIfInBounds_toArray, List.set_cons_zero, List.set_cons_succ]
  refine wpAnyH_take (i := 24) (oi := ⟨some 99, _, _, _, _, _⟩) (v := .pointer (some ⟨b1, y, none⟩)) rfl (by kernel_rfl) (by kernel_rfl) (by kernel_rfl) (fun _ _ _ h => h) (Or.inl ⟨by kernel_rfl, fun w9 hS => ?_⟩) HT0.out ?_
  · clear hS
    go_simp
  try simp only [Act.put, List.setIfInBounds_toArray, List.set_cons_zero, List.set_cons_succ]
  refine wpAnyH_take (i := 25) (oi := ⟨some 100, _, _, _, _, _⟩) (v := .bool R) rfl (by kernel_rfl) (by kernel_rfl) (by kernel_rfl) (fun _ _ _ h => h) (Or.inl ⟨by kernel_rfl, fun w9 hS => ?_⟩) HT0.out ?_
  · obtain ⟨s0, s1, s2⟩ := hS
    go_simp
  try simp only [Act.put, List.setIfInBounds_toArray, List.set_cons_zero, List.set_cons_succ]
  refine wpAnyH_take (i := 26) (oi := ⟨some 101, _, _, _, _, _⟩) (v := .bool true) rfl (by kernel_rfl) (by kernel_rfl) (by kernel_rfl) (fun _ _ _ h => h) (Or.inl ⟨by kernel_rfl, fun w9 hS => ?_⟩) HT0.out ?_
  · clear hS
    go_simp
  try simp only [Act.put, List.setIfInBounds_toArray, List.set_cons_zero, List.set_cons_succ]
  refine wpAnyH_take (i := 27) (oi := ⟨some 102, _, _, _, _, _⟩) (v := .bool true) rfl (by kernel_rfl) (by kernel_rfl) (by kernel_rfl) (fun _ _ _ h => h) (Or.inl ⟨by kernel_rfl, fun w9 hS => ?_⟩) HT0.out ?_
  · clear hS
    go_simp
  try simp only [Act.put, List.setIfInBounds_toArray, List.set_cons_zero, List.set_cons_succ]
  refine wpAnyH_take (i := 28) (oi := ⟨some 103, _, _, _, _, _⟩) (v := .bool true) rfl (by kernel_rfl) (by kernel_rfl) (by kernel_rfl) (fun _ _ _ h => h) (Or.inl ⟨by kernel_rfl, fun w9 hS => ?_⟩) HT0.out ?_
  · clear hS
    go_simp
  try simp only [Act.put, List.setIfInBounds_toArray, List.set_cons_zero, List.set_cons_succ]
  refine wpAnyH_ready (rs := [29]) (by kernel_rfl) (by simp) ?_
  refine AllReadyH.cons (o := ⟨some 104, _, _, _, _, _⟩) rfl (fun K hK => ?_) AllReadyH.nil
  rw [if_pos (by kernel_rfl)]
  go_simp
  go_at_call 16
  refine (awake_any _).mono ?_
  rintro e w13 ⟨rfl, hb13⟩
  have HK2 : Hid (Below w12.heap.size w12 w13) := Lib.hid (HK2.out.trans (hb13.mono HK2.out.size))
  have HT1 : Hid _ := Lib.hid (HC.out w13 HK2.out)
  refine hK.out _ _ HT1.out (fun _ => ?_)
  clear hK K
  try simp only [Act.put, List.setIfInBounds_toArray, List.set_cons_zero, List.set_cons_succ]
  refine wpAnyH_take (i := 30) (oi := ⟨some 105, _, _, _, _, _⟩) (v := .bool true) rfl (by kernel_rfl) (by kernel_rfl) (by kernel_rfl) (fun _ _ _ h => h) (Or.inl ⟨by kernel_rfl, fun w9 hS => ?_⟩) HT1.out ?_
  · clear hS
    go_simp
  try simp only [Act.put, List.setIfInBounds_toArray, List.set_cons_zero, List.set_cons_succ]
  refine wpAnyH_take (i := 31) (oi := ⟨some 6, _, _, _, _, _⟩) (v := .bool true) rfl (by kernel_rfl) (by kernel_rfl) (by kernel_rfl) (fun _ _ _ h => h) (Or.inl ⟨by kernel_rfl, fun w9 hS => ?_⟩) HT1.out ?_
  · clear hS
    go_simp
  try simp only [Act.put, List.setIfInBounds_toArray, List.set_cons_zero, List.set_cons_succ]
  refine wpAnyH_done (by kernel_rfl) ?_ _
  go_wp2
  go_ret
  exact ⟨rfl, HB6.out.trans ((HKEEP.out.trans (HK2.out.mono HKEEP.out.size)).mono HB6.out.size)⟩
set_option maxRecDepth 100000 in
theorem lifted (os : Os) (started : os.Started) (H : Type) (enc : TypeId × Value → H) :
    ReturnsInHanded {} Try.checked os 8 .any (Rows.graphDualsSpec.pre6 enc Try.prog Try.f8 Rows.graphDualsRow.domain false) (Rows.graphDualsSpec.post enc Try.prog Try.f8 false true false false) := by
  refine law_lifted started [26, 3, 3] rfl (by kernel_rfl) Try.func8 rfl (by decide +kernel) rfl (fun ds hl => by
    match ds, hl with
    | [_, _, _], _ => rfl) (ChangeSpec.witness6 (enc := enc) (C := Try.checked) false ⟨#[], #[.agg #[.slice none 0 0, .slice none 0 0, .slice none 0 0], .int .i64 0, .int .i64 0], []⟩ 8 (by kernel_rfl) (by kernel_rfl) (by kernel_rfl) (by kernel_rfl)) ?_
  intro W base args ds ps hval hA hlt hsz
  obtain ⟨v0, vs0, d0, ds0, p0, q0, hargs, rfl, rfl, h0, r0⟩ := trodAll_cons hA
  obtain ⟨v1, vs1, d1, ds1, p1, q1, rfl, rfl, rfl, h1, r1⟩ := trodAll_cons r0
  obtain ⟨v2, vs2, d2, ds2, p2, q2, rfl, rfl, rfl, h2, r2⟩ := trodAll_cons r1
  obtain ⟨rfl, rfl, rfl⟩ := trodAll_nil r2
  obtain rfl : args = #[v0, v1, v2] := by cases args; simp_all
  obtain ⟨G0, g0, f0⟩ := open_graph_arg (hval 0 26 v0 rfl rfl) h0
  obtain ⟨x1, rfl, rfl, rfl, w1⟩ := open_int Try.underlying3 (hval 1 3 v1 rfl rfl) h1
  obtain ⟨x2, rfl, rfl, rfl, w2⟩ := open_int Try.underlying3 (hval 2 3 v2 rfl rfl) h2
  exact walk v0 x1 x2 W G0 g0

set_option maxRecDepth 100000 in
theorem over : Rows.graphDualsRow.holds Try.pinned (OpenSpec.ofChange Rows.graphDualsSpec) :=
  OpenClaim.holds_of_wide 8 Try.f8 rfl rfl rfl rfl rfl rfl rfl ⟨rfl, rfl, rfl, rfl, rfl⟩ rfl rfl rfl rfl rfl (by kernel_rfl) Try.func8 (by kernel_rfl)
    (of_decide_eq_true (by kernel_rfl)) (by unfold Func.isWrapper; first | (rw [if_pos (by decide +kernel)]; kernel_rfl) | (rw [if_neg (by decide +kernel)]; exact ⟨rfl, rfl⟩))
    (fun os started H enc _ => lifted os started H enc)

theorem proved : Rows.GraphDualsSaid := over
#print axioms proved
end Go.Proofs.Ytmlkfdmccimdkaa.graphDuals
