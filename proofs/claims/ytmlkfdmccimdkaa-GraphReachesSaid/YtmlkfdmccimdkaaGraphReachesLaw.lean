/- The law GraphReaches: which nodes ways lead to, and from which they lead to a goal. -/
import Derived.Test.YtmlkfdmccimdkaaBack
import Derived.Test.YtmlkfdmccimdkaaRefBack
namespace Go.Proofs.Ytmlkfdmccimdkaa.graphReaches
open Go.ChangeShapes Go.WideShapes Go.ChangeAt Go.RowKit Go.Shelf

set_option maxRecDepth 20000 in
set_option maxHeartbeats 8000000 in
theorem walk (v0 : Value) (Af Ag : Option Addr) (cf cg m gn : Nat) (from_ : List Int) (goal : List Bool) (w : World) (G : Gr) (g0 : GV w v0 G) (hm : m = from_.length) (hml : m ≤ 10000000000000000) (hS : IA w Af from_) (hg : gn = goal.length) (hgl : goal.length ≤ maxLen) (hG : BL w Ag goal) :
    Calls Try.prog 5 #[v0, .slice Af m cf, .slice Ag gn cg] w (LawPost w) := by
  obtain ⟨A1, c1, A2, c2, A3, c3, rfl, hGA⟩ := id g0
  have HRA := Lib.hid hGA.2.1.2.2
  clear hGA
  obtain ⟨n1, HN1⟩ : ∃ n, Hid (G.init.length = n) := ⟨_, Lib.hid rfl⟩
  obtain ⟨n, HN⟩ : ∃ n, Hid (G.rows.length = n) := ⟨_, Lib.hid rfl⟩
  obtain ⟨n3, HN3⟩ : ∃ n, Hid (G.labels.length = n) := ⟨_, Lib.hid rfl⟩
  have HGV0 := Lib.hid g0
  rw [HN1.out, HN.out, HN3.out] at HGV0 ⊢
  have HM := Lib.hid hm
  have HS := Lib.hid hS
  have HGN := Lib.hid hg
  have HGL := Lib.hid hgl
  have HG := Lib.hid hG
  have hgn : gn ≤ 9223372036854775807 := by rw [hg]; exact hgl
  obtain ⟨y0, HY0⟩ : ∃ y, Hid (heavyB G = y) := ⟨_, Lib.hid rfl⟩
  clear g0 hm hS hg hgl hG
  go_enter Try.func5, Try.ntmps5
  go_wp2_with fail
  have hbx := box3 w (.slice A1 n1 c1) (.slice A2 n c2) (.slice A3 n3 c3) 26
  have hB2 := below1 w (.cells #[.slice A1 n1 c1, .slice A2 n c2, .slice A3 n3 c3] 26)
  generalize (w.alloc (.cells #[.slice A1 n1 c1, .slice A2 n c2, .slice A3 n3 c3] 26)) = w2 at *
  have hbx : B3 w2 w.heap.size (.slice A1 n1 c1) (.slice A2 n c2) (.slice A3 n3 c3) := hbx
  have HB2 := Lib.hid hB2
  have HBX2 := Lib.hid hbx
  clear hB2 hbx
  refine (heavy_any (HGV0.out.below HB2.out)).mono ?_
  rw [HY0.out]
  rintro e w3 ⟨rfl, hb3⟩
  have HB3 : Hid (Below w.heap.size w w3) := Lib.hid (HB2.out.trans (hb3.mono HB2.out.size))
  have HBX3 := Lib.hid (HBX2.out.below hb3)
  clear hb3 HBX2 HB2
  by_cases hy : y0 = true ∨ 100 < m ∨ 400 < gn
  · have hgo : ∀ W, Below w3.heap.size w3 W → Calls Try.prog 16 #[] W (BoolP true W) := fun W _ => awake_any W
    have HGO := Lib.hid hgo
    clear hgo
    cases y0 with
    | true =>
      clear hy
      go_wp2_with fail
      refine (HGO.out _ (Below.refl _ _)).mono ?_
      rintro e w4 ⟨rfl, hb4⟩
      go_wp2
      go_ret
      exact ⟨rfl, HB3.out.trans (hb4.mono HB3.out.size)⟩
    | false =>
      by_cases h1 : 100 < m
      · have hd : decide ((100 : Int) < (m : Int)) = true := decide_eq_true (by omega)
        clear hy
        go_wp2_with fail
        refine (HGO.out _ (Below.refl _ _)).mono ?_
        rintro e w4 ⟨rfl, hb4⟩
        go_wp2
        go_ret
        exact ⟨rfl, HB3.out.trans (hb4.mono HB3.out.size)⟩
      · have hd : decide ((100 : Int) < (m : Int)) = false := decide_eq_false (by omega)
        have h2 : 400 < gn := by rcases hy with h | h | h; cases h; exact absurd h h1; exact h
        have hd2 : decide ((400 : Int) < (gn : Int)) = true := decide_eq_true (by omega)
        clear hy
        go_wp2_with fail
        refine (HGO.out _ (Below.refl _ _)).mono ?_
        rintro e w4 ⟨rfl, hb4⟩
        go_wp2
        go_ret
        exact ⟨rfl, HB3.out.trans (hb4.mono HB3.out.size)⟩
  · obtain rfl : y0 = false := by cases y0; rfl; exact absurd (.inl rfl) hy
    have hm100 : m ≤ 100 := by omega
    have h2 : gn ≤ 400 := by omega
    have hd : decide ((100 : Int) < (m : Int)) = false := decide_eq_false (by omega)
    have hd2 : decide ((400 : Int) < (gn : Int)) = false := decide_eq_false (by omega)
    obtain ⟨hn200, hi200, hl400, hr50⟩ := heavy_not HY0.out
    have HI200 := Lib.hid hi200
    have HL400 := Lib.hid hl400
    clear hi200 hl400
    rw [HN.out] at hn200
    have HROW : Hid (∀ i, (G.rows.getD i []).length ≤ 50) := Lib.hid (fun i => by
      by_cases hi : i < G.rows.length
      · have e : G.rows.getD i [] = G.rows[i] := by simp [List.getD, hi]
        rw [e]; exact hr50 _ (List.getElem_mem hi)
      · have e : G.rows.getD i [] = [] := by simp [List.getD, List.getElem?_eq_none (show G.rows.length ≤ i by omega)]
        rw [e]; exact Nat.zero_le _)
    clear hy hr50
    obtain ⟨q0, q1, q2⟩ := HBX3.out
    go_upto_region 3 with (fail)
    clear q0 q1 q2
    generalize hw9 : w3 = w2 at *
    clear hw9
    have HB2 := HB3
    have HGV : Hid (∀ W, Below w2.heap.size w2 W → GV W (.agg #[.slice A1 n1 c1, .slice A2 n c2, .slice A3 n3 c3]) G) := Lib.hid (fun W h => HGV0.out.below (HB2.out.trans (h.mono HB2.out.size)))
    have HV : Hid (∀ W, Below w2.heap.size w2 W → W.cell? ⟨w.heap.size, 0, none⟩ = some (.slice A1 n1 c1) ∧ W.cell? ⟨w.heap.size, 1, none⟩ = some (.slice A2 n c2) ∧ W.cell? ⟨w.heap.size, 2, none⟩ = some (.slice A3 n3 c3)) := Lib.hid (fun W h => HBX3.out.below h)
    have HKEEP : Hid (Below w2.heap.size w2 w2.drew) := Lib.hid (Below.refl _ _).drew
    refine wp_region_held_drew (S := (fun W => W.cell? ⟨w.heap.size, 0, none⟩ = some (.slice A1 n1 c1) ∧ W.cell? ⟨w.heap.size, 1, none⟩ = some (.slice A2 n c2) ∧ W.cell? ⟨w.heap.size, 2, none⟩ = some (.slice A3 n3 c3))) (by kernel_rfl) (HV.out _ HKEEP.out) ?_
    intro hS0
    have HS0 := Lib.hid hS0
    clear hS0
    simp only [Array.replicate, List.replicate]
    refine wpAnyH_take (i := 0) (oi := ⟨some 20, _, _, _, _, _⟩) (v := .agg #[.slice A1 n1 c1, .slice A2 n c2, .slice A3 n3 c3]) rfl (by kernel_rfl) (by kernel_rfl) (by kernel_rfl) (fun _ _ _ h => h) (Or.inl ⟨by kernel_rfl, fun w9 hS => ?_⟩) HS0.out ?_
    · obtain ⟨s0, s1, s2⟩ := hS
      go_simp
    try simp only [Act.put, List.setIfInBounds_toArray, List.set_cons_zero, List.set_cons_succ]
    refine wpAnyH_take (i := 1) (oi := ⟨some 21, _, _, _, _, _⟩) (v := .slice Af m cf) rfl (by kernel_rfl) (by kernel_rfl) (by kernel_rfl) (fun _ _ _ h => h) (Or.inl ⟨by kernel_rfl, fun w9 hS => ?_⟩) HS0.out ?_
    · clear hS
      go_simp
    try simp only [Act.put, List.setIfInBounds_toArray, List.set_cons_zero, List.set_cons_succ]
    refine wpAnyH_take (i := 3) (oi := ⟨some 23, _, _, _, _, _⟩) (v := .agg #[.slice A1 n1 c1, .slice A2 n c2, .slice A3 n3 c3]) rfl (by kernel_rfl) (by kernel_rfl) (by kernel_rfl) (fun _ _ _ h => h) (Or.inl ⟨by kernel_rfl, fun w9 hS => ?_⟩) HS0.out ?_
    · obtain ⟨s0, s1, s2⟩ := hS
      go_simp
    try simp only [Act.put, List.setIfInBounds_toArray, List.set_cons_zero, List.set_cons_succ]
    refine wpAnyH_take (i := 4) (oi := ⟨some 24, _, _, _, _, _⟩) (v := .slice Af m cf) rfl (by kernel_rfl) (by kernel_rfl) (by kernel_rfl) (fun _ _ _ h => h) (Or.inl ⟨by kernel_rfl, fun w9 hS => ?_⟩) HS0.out ?_
    · clear hS
      go_simp
    try simp only [Act.put, List.setIfInBounds_toArray, List.set_cons_zero, List.set_cons_succ]
    refine wpAnyH_ready (rs := [2]) (by kernel_rfl) (by simp) ?_
    refine AllReadyH.cons (o := ⟨some 22, _, _, _, _, _⟩) rfl (fun K hK => ?_) AllReadyH.nil
    rw [if_pos (by kernel_rfl)]
    go_simp
    go_at_call 22
    refine (reach_any (HGV.out _ HKEEP.out) Af m cf from_ (by rw [HN.out]; omega) HM.out (by omega) (HS.out.below (HB2.out.trans (HKEEP.out.mono HB2.out.size)))).mono ?_
    rw [HN.out]
    refine fun e v3 hM => ?_
    obtain ⟨B1, rfl, hbl, hb3⟩ := hM.bl
    clear hM
    have HKEEP : Hid (Below w2.heap.size w2 v3) := Lib.hid (HKEEP.out.trans (hb3.mono HKEEP.out.size))
    have HS1 : Hid _ := Lib.hid (HV.out v3 HKEEP.out)
    refine hK.out _ _ HS1.out (fun _ => ?_)
    clear hK K
    try simp only [Act.put, List.setIfInBounds_toArray, List.set_cons_zero, List.set_cons_succ]
    have HL1 := Lib.hid hbl
    clear hbl
    refine wpAnyH_ready (rs := [5]) (by kernel_rfl) (by simp) ?_
    refine AllReadyH.cons (o := ⟨some 25, _, _, _, _, _⟩) rfl (fun K hK => ?_) AllReadyH.nil
    rw [if_pos (by kernel_rfl)]
    go_simp
    go_at_call 23
    refine (refReach_of A1 A2 A3 n1 c1 n c2 n3 c3 Af m cf from_ G.rows _ HN.out.symm (by omega) (HRA.out.below (HB2.out.trans (HKEEP.out.mono HB2.out.size))) HM.out (by omega) (HS.out.below (HB2.out.trans (HKEEP.out.mono HB2.out.size)))).mono ?_
    refine fun e v4 hM => ?_
    obtain ⟨B2, rfl, hbl, hb4⟩ := hM.bl
    clear hM
    have HL1 := Lib.hid (HL1.out.below hb4)
    have HKEEP : Hid (Below w2.heap.size w2 v4) := Lib.hid (HKEEP.out.trans (hb4.mono HKEEP.out.size))
    have HS2 : Hid _ := Lib.hid (HV.out v4 HKEEP.out)
    refine hK.out _ _ HS2.out (fun _ => ?_)
    clear hK K
    try simp only [Act.put, List.setIfInBounds_toArray, List.set_cons_zero, List.set_cons_succ]
    have HL2 := Lib.hid hbl
    clear hbl
    refine wpAnyH_ready (rs := [6]) (by kernel_rfl) (by simp) ?_
    refine AllReadyH.cons (o := ⟨some 26, _, _, _, _, _⟩) rfl (fun K hK => ?_) AllReadyH.nil
    rw [if_pos (by kernel_rfl)]
    go_simp
    go_at_call 21
    refine (lawBools_any B1 B2 n n n n (marksL n (seen n G.rows from_)) (marksL n (seen n G.rows from_)) _ (marksL_len _ _).symm (marksL_len _ _).symm HL1.out HL2.out (by rw [marksL_len]; unfold maxLen; omega) (by rw [marksL_len]; unfold maxLen; omega)).mono ?_
    rw [show eqM (marksL n (seen n G.rows from_)) (marksL n (seen n G.rows from_)) = true from decide_eq_true rfl]
    refine fun e v5 hq => ?_
    obtain ⟨rfl, nq, hq⟩ := hq
    have hb5 : Below v4.heap.size v4 v5 := by rw [hq]; exact below_drewN (Below.refl _ _) _
    clear hq
    have HKEEP : Hid (Below w2.heap.size w2 v5) := Lib.hid (HKEEP.out.trans (hb5.mono HKEEP.out.size))
    have HS3 : Hid _ := Lib.hid (HV.out v5 HKEEP.out)
    refine hK.out _ _ HS3.out (fun _ => ?_)
    clear hK K
    try simp only [Act.put, List.setIfInBounds_toArray, List.set_cons_zero, List.set_cons_succ]
    refine wpAnyH_take (i := 7) (oi := ⟨some 27, _, _, _, _, _⟩) (v := .bool true) rfl (by kernel_rfl) (by kernel_rfl) (by kernel_rfl) (fun _ _ _ h => h) (Or.inl ⟨by kernel_rfl, fun w9 hS => ?_⟩) HS3.out ?_
    · clear hS
      go_simp
    try simp only [Act.put, List.setIfInBounds_toArray, List.set_cons_zero, List.set_cons_succ]
    refine wpAnyH_take (i := 8) (oi := ⟨some 28, _, _, _, _, _⟩) (v := .agg #[.slice A1 n1 c1, .slice A2 n c2, .slice A3 n3 c3]) rfl (by kernel_rfl) (by kernel_rfl) (by kernel_rfl) (fun _ _ _ h => h) (Or.inl ⟨by kernel_rfl, fun w9 hS => ?_⟩) HS3.out ?_
    · obtain ⟨s0, s1, s2⟩ := hS
      go_simp
    try simp only [Act.put, List.setIfInBounds_toArray, List.set_cons_zero, List.set_cons_succ]
    refine wpAnyH_take (i := 9) (oi := ⟨some 29, _, _, _, _, _⟩) (v := .slice Ag gn cg) rfl (by kernel_rfl) (by kernel_rfl) (by kernel_rfl) (fun _ _ _ h => h) (Or.inl ⟨by kernel_rfl, fun w9 hS => ?_⟩) HS3.out ?_
    · clear hS
      go_simp
    try simp only [Act.put, List.setIfInBounds_toArray, List.set_cons_zero, List.set_cons_succ]
    refine wpAnyH_take (i := 11) (oi := ⟨some 31, _, _, _, _, _⟩) (v := .agg #[.slice A1 n1 c1, .slice A2 n c2, .slice A3 n3 c3]) rfl (by kernel_rfl) (by kernel_rfl) (by kernel_rfl) (fun _ _ _ h => h) (Or.inl ⟨by kernel_rfl, fun w9 hS => ?_⟩) HS3.out ?_
    · obtain ⟨s0, s1, s2⟩ := hS
      go_simp
    try simp only [Act.put, List.setIfInBounds_toArray, List.set_cons_zero, List.set_cons_succ]
    refine wpAnyH_take (i := 12) (oi := ⟨some 32, _, _, _, _, _⟩) (v := .slice Ag gn cg) rfl (by kernel_rfl) (by kernel_rfl) (by kernel_rfl) (fun _ _ _ h => h) (Or.inl ⟨by kernel_rfl, fun w9 hS => ?_⟩) HS3.out ?_
    · clear hS
      go_simp
    try simp only [Act.put, List.setIfInBounds_toArray, List.set_cons_zero, List.set_cons_succ]
    refine wpAnyH_ready (rs := [10]) (by kernel_rfl) (by simp) ?_
    refine AllReadyH.cons (o := ⟨some 30, _, _, _, _, _⟩) rfl (fun K hK => ?_) AllReadyH.nil
    rw [if_pos (by kernel_rfl)]
    go_simp
    go_at_call 24
    refine (back_any (.slice A1 n1 c1) (.slice A3 n3 c3) A2 c2 n G.rows Ag gn cg goal _ HN.out.symm (by omega) (HRA.out.below (HB2.out.trans (HKEEP.out.mono HB2.out.size))) (fun i => Nat.le_trans (HROW.out i) (by omega)) HGN.out HGL.out (HG.out.below (HB2.out.trans (HKEEP.out.mono HB2.out.size)))).mono ?_
    refine fun e v6 hM => ?_
    obtain ⟨B3, rfl, hbl, hb6⟩ := hM.bl
    clear hM
    have HKEEP : Hid (Below w2.heap.size w2 v6) := Lib.hid (HKEEP.out.trans (hb6.mono HKEEP.out.size))
    have HS4 : Hid _ := Lib.hid (HV.out v6 HKEEP.out)
    refine hK.out _ _ HS4.out (fun _ => ?_)
    clear hK K
    try simp only [Act.put, List.setIfInBounds_toArray, List.set_cons_zero, List.set_cons_succ]
    have HL1 := Lib.hid hbl
    clear hbl
    refine wpAnyH_ready (rs := [13]) (by kernel_rfl) (by simp) ?_
    refine AllReadyH.cons (o := ⟨some 33, _, _, _, _, _⟩) rfl (fun K hK => ?_) AllReadyH.nil
    rw [if_pos (by kernel_rfl)]
    go_simp
    go_at_call 25
    refine (refBack_any A1 A2 A3 n1 n n3 c1 c2 c3 G Ag gn cg goal _ (HGV.out _ HKEEP.out) HN.out.symm (by omega) (fun i => Nat.le_trans (HROW.out i) (by omega)) (by have := HI200.out; omega) (by have := HL400.out; omega) HGN.out HGL.out (HG.out.below (HB2.out.trans (HKEEP.out.mono HB2.out.size)))).mono ?_
    refine fun e v7 hM => ?_
    obtain ⟨B4, rfl, hbl, hb7⟩ := hM.bl
    clear hM
    have HL1 := Lib.hid (HL1.out.below hb7)
    have HKEEP : Hid (Below w2.heap.size w2 v7) := Lib.hid (HKEEP.out.trans (hb7.mono HKEEP.out.size))
    have HS5 : Hid _ := Lib.hid (HV.out v7 HKEEP.out)
    refine hK.out _ _ HS5.out (fun _ => ?_)
    clear hK K
    try simp only [Act.put, List.setIfInBounds_toArray, List.set_cons_zero, List.set_cons_succ]
    have HL2 := Lib.hid hbl
    clear hbl
    refine wpAnyH_ready (rs := [14]) (by kernel_rfl) (by simp) ?_
    refine AllReadyH.cons (o := ⟨some 34, _, _, _, _, _⟩) rfl (fun K hK => ?_) AllReadyH.nil
    rw [if_pos (by kernel_rfl)]
    go_simp
    go_at_call 21
    refine (lawBools_any B3 B4 n n n n (marksL n (seen n (turnR G.rows) (goalsTo goal n))) (marksL n (seen n (turnR G.rows) (goalsTo goal n))) _ (marksL_len _ _).symm (marksL_len _ _).symm HL1.out HL2.out (by rw [marksL_len]; unfold maxLen; omega) (by rw [marksL_len]; unfold maxLen; omega)).mono ?_
    rw [show eqM (marksL n (seen n (turnR G.rows) (goalsTo goal n))) (marksL n (seen n (turnR G.rows) (goalsTo goal n))) = true from decide_eq_true rfl]
    refine fun e v8 hq => ?_
    obtain ⟨rfl, nq, hq⟩ := hq
    have hb8 : Below v7.heap.size v7 v8 := by rw [hq]; exact below_drewN (Below.refl _ _) _
    clear hq
    have HKEEP : Hid (Below w2.heap.size w2 v8) := Lib.hid (HKEEP.out.trans (hb8.mono HKEEP.out.size))
    have HS6 : Hid _ := Lib.hid (HV.out v8 HKEEP.out)
    refine hK.out _ _ HS6.out (fun _ => ?_)
    clear hK K
    try simp only [Act.put, List.setIfInBounds_toArray, List.set_cons_zero, List.set_cons_succ]
    refine wpAnyH_take (i := 15) (oi := ⟨some 35, _, _, _, _, _⟩) (v := .bool true) rfl (by kernel_rfl) (by kernel_rfl) (by kernel_rfl) (fun _ _ _ h => h) (Or.inl ⟨by kernel_rfl, fun w9 hS => ?_⟩) HS6.out ?_
    · clear hS
      go_simp
    try simp only [Act.put, List.setIfInBounds_toArray, List.set_cons_zero, List.set_cons_succ]
    refine wpAnyH_take (i := 16) (oi := ⟨some 36, _, _, _, _, _⟩) (v := .bool true) rfl (by kernel_rfl) (by kernel_rfl) (by kernel_rfl) (fun _ _ _ h => h) (Or.inl ⟨by kernel_rfl, fun w9 hS => ?_⟩) HS6.out ?_
    · clear hS
      go_simp
    try simp only [Act.put, List.setIfInBounds_toArray, List.set_cons_zero, List.set_cons_succ]
    refine wpAnyH_ready (rs := [17]) (by kernel_rfl) (by simp) ?_
    refine AllReadyH.cons (o := ⟨some 37, _, _, _, _, _⟩) rfl (fun K hK => ?_) AllReadyH.nil
    rw [if_pos (by kernel_rfl)]
    go_simp
    go_at_call 16
    refine (awake_any _).mono ?_
    rintro e v9 ⟨rfl, hb9⟩
    have HKEEP : Hid (Below w2.heap.size w2 v9) := Lib.hid (HKEEP.out.trans (hb9.mono HKEEP.out.size))
    have HS7 : Hid _ := Lib.hid (HV.out v9 HKEEP.out)
    refine hK.out _ _ HS7.out (fun _ => ?_)
    clear hK K
    try simp only [Act.put, List.setIfInBounds_toArray, List.set_cons_zero, List.set_cons_succ]
    refine wpAnyH_take (i := 18) (oi := ⟨some 38, _, _, _, _, _⟩) (v := .bool true) rfl (by kernel_rfl) (by kernel_rfl) (by kernel_rfl) (fun _ _ _ h => h) (Or.inl ⟨by kernel_rfl, fun w9 hS => ?_⟩) HS7.out ?_
    · clear hS
      go_simp
    try simp only [Act.put, List.setIfInBounds_toArray, List.set_cons_zero, List.set_cons_succ]
    refine wpAnyH_take (i := 19) (oi := ⟨some 6, _, _, _, _, _⟩) (v := .bool true) rfl (by kernel_rfl) (by kernel_rfl) (by kernel_rfl) (fun _ _ _ h => h) (Or.inl ⟨by kernel_rfl, fun w9 hS => ?_⟩) HS7.out ?_
    · clear hS
      go_simp
    try simp only [Act.put, List.setIfInBounds_toArray, List.set_cons_zero, List.set_cons_succ]
    refine wpAnyH_done (by kernel_rfl) ?_ _
    go_wp2
    go_ret
    exact ⟨rfl, HB2.out.trans (HKEEP.out.mono HB2.out.size)⟩

set_option maxRecDepth 100000 in
theorem lifted (os : Os) (started : os.Started) (H : Type) (enc : TypeId × Value → H) :
    ReturnsInHanded {} Try.checked os 5 .any (Rows.graphReachesSpec.pre6 enc Try.prog Try.f5 Rows.graphReachesRow.domain false) (Rows.graphReachesSpec.post enc Try.prog Try.f5 false true false false) := by
  refine law_lifted started [26, 22, 33] rfl (by kernel_rfl) Try.func5 rfl (by decide +kernel) rfl (fun ds hl => by
    match ds, hl with
    | [_, _, _], _ => rfl) (ChangeSpec.witness6 (enc := enc) (C := Try.checked) false ⟨#[], #[.agg #[.slice none 0 0, .slice none 0 0, .slice none 0 0], .slice none 0 0, .slice none 0 0], []⟩ 8 (by kernel_rfl) (by kernel_rfl) (by kernel_rfl) (by kernel_rfl)) ?_
  intro W base args ds ps hval hA hlt hsz
  obtain ⟨v0, vs0, d0, ds0, p0, q0, hargs, rfl, rfl, h0, r0⟩ := trodAll_cons hA
  obtain ⟨v1, vs1, d1, ds1, p1, q1, rfl, rfl, rfl, h1, r1⟩ := trodAll_cons r0
  obtain ⟨v2, vs2, d2, ds2, p2, q2, rfl, rfl, rfl, h2, r2⟩ := trodAll_cons r1
  obtain ⟨rfl, rfl, rfl⟩ := trodAll_nil r2
  obtain rfl : args = #[v0, v1, v2] := by cases args; simp_all
  obtain ⟨G0, g0, f0⟩ := open_graph_arg (hval 0 26 v0 rfl rfl) h0
  obtain ⟨A1, c1, x1, rfl, b1, i1, z1⟩ := open_ints_arg (hval 1 22 v1 rfl rfl) h1 hsz 1 rfl rfl
  obtain ⟨A2, c2, l2, rfl, q2, m2, i2⟩ := open_bools_arg (hval 2 33 v2 rfl rfl) h2
  exact walk v0 A1 A2 c1 c2 _ _ x1 l2 W G0 g0 rfl (by omega) i1 rfl (by omega) i2

set_option maxRecDepth 100000 in
theorem over : Rows.graphReachesRow.holds Try.pinned (OpenSpec.ofChange Rows.graphReachesSpec) :=
  OpenClaim.holds_of_wide 5 Try.f5 rfl rfl rfl rfl rfl rfl rfl ⟨rfl, rfl, rfl, rfl, rfl⟩ rfl rfl rfl rfl rfl (by kernel_rfl) Try.func5 (by kernel_rfl)
    (of_decide_eq_true (by kernel_rfl)) (by unfold Func.isWrapper; first | (rw [if_pos (by decide +kernel)]; kernel_rfl) | (rw [if_neg (by decide +kernel)]; exact ⟨rfl, rfl⟩))
    (fun os started H enc _ => lifted os started H enc)

theorem proved : Rows.GraphReachesSaid := over
#print axioms proved
end Go.Proofs.Ytmlkfdmccimdkaa.graphReaches
