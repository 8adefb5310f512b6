/- The law GraphChecks: what is wrong with any graph, and whether any two are the same, is what the document says; a graph is the same as itself. -/
import Derived.Test.YtmlkfdmccimdkaaAwake
import Derived.Test.YtmlkfdmccimdkaaGraphRefCheck
namespace Go.Proofs.Ytmlkfdmccimdkaa.graphChecks
open Go.ChangeShapes Go.WideShapes Go.ChangeAt Go.RowKit Go.Shelf

theorem sameB_self (G : Gr) : sameB G G = true := by unfold sameB; simp [eqB, eqR]
set_option maxRecDepth 20000 in
set_option maxHeartbeats 4000000 in
theorem walk (v0 v1 : Value) (w : World) (G H : Gr) (g0 : GV w v0 G) (g1 : GV w v1 H) : Calls Try.prog 3 #[v0, v1] w (LawPost w) := by
  obtain ⟨A1, c1, A2, c2, A3, c3, rfl, _⟩ := id g0
  obtain ⟨A4, c4, A5, c5, A6, c6, rfl, _⟩ := id g1
  have hB2 : Below w.heap.size w ((w.alloc (.cells #[.slice A1 G.init.length c1, .slice A2 G.rows.length c2, .slice A3 G.labels.length c3] 26)).alloc (.cells #[.slice A4 H.init.length c4, .slice A5 H.rows.length c5, .slice A6 H.labels.length c6] 26)) := below2 w _ _
  have hx0 := (B3.below (box3 w (.slice A1 G.init.length c1) (.slice A2 G.rows.length c2) (.slice A3 G.labels.length c3) 26) (below1 _ (.cells #[.slice A4 H.init.length c4, .slice A5 H.rows.length c5, .slice A6 H.labels.length c6] 26)))
  have hx1 : B3 _ _ _ _ _ := box3 (w.alloc (.cells #[.slice A1 G.init.length c1, .slice A2 G.rows.length c2, .slice A3 G.labels.length c3] 26)) (.slice A4 H.init.length c4) (.slice A5 H.rows.length c5) (.slice A6 H.labels.length c6) 26
  rw [World.size_alloc] at hx1
  have HG0 := Lib.hid g0
  have HG1 := Lib.hid g1
  have HX0 := Lib.hid hx0
  have HX1 := Lib.hid hx1
  have HB := Lib.hid hB2
  clear g0 g1 hx0 hx1 hB2
  obtain ⟨y0, HY0⟩ : ∃ y, Hid (heavyB G = y) := ⟨_, Lib.hid rfl⟩
  obtain ⟨y1, HY1⟩ : ∃ y, Hid (heavyB H = y) := ⟨_, Lib.hid rfl⟩
  go_enter Try.func3, Try.ntmps3
  go_wp2_with fail
  have HGV0 : Hid (∀ W, Below w.heap.size w W → GV W (.agg #[.slice A1 G.init.length c1, .slice A2 G.rows.length c2, .slice A3 G.labels.length c3]) G ∧ GV W (.agg #[.slice A4 H.init.length c4, .slice A5 H.rows.length c5, .slice A6 H.labels.length c6]) H) := Lib.hid (fun W h => ⟨HG0.out.below h, HG1.out.below h⟩)
  refine (heavy_any (HGV0.out _ HB.out).1).mono ?_
  rw [HY0.out]
  rintro e w3 ⟨rfl, hb3⟩
  generalize ((w.alloc (.cells #[.slice A1 G.init.length c1, .slice A2 G.rows.length c2, .slice A3 G.labels.length c3] 26)).alloc (.cells #[.slice A4 H.init.length c4, .slice A5 H.rows.length c5, .slice A6 H.labels.length c6] 26)) = wa at *
  have HB3 : Hid (Below w.heap.size w w3) := Lib.hid (HB.out.trans (hb3.mono HB.out.size))
  have HX03 := Lib.hid (HX0.out.below hb3)
  have HX13 := Lib.hid (HX1.out.below hb3)
  clear hb3
  cases y0 with
  | true =>
    go_wp2_with fail
    refine (awake_any _).mono ?_
    rintro e w4 ⟨rfl, hb4⟩
    go_wp2
    go_ret
    exact ⟨rfl, HB3.out.trans (hb4.mono HB3.out.size)⟩
  | false =>
  obtain ⟨p0, p1, p2⟩ := HX13.out
  go_wp2_with fail
  clear p0 p1 p2
  refine (heavy_any (HGV0.out _ HB3.out).2).mono ?_
  rw [HY1.out]
  rintro e w2 ⟨rfl, hb4⟩
  have HB2 : Hid (Below w.heap.size w w2) := Lib.hid (HB3.out.trans (hb4.mono HB3.out.size))
  have HX0 := Lib.hid (HX03.out.below hb4)
  have HX1 := Lib.hid (HX13.out.below hb4)
  clear hb4 HX03 HX13
  cases y1 with
  | true =>
    go_wp2_with fail
    refine (awake_any _).mono ?_
    rintro e w5 ⟨rfl, hb5⟩
    go_wp2
    go_ret
    exact ⟨rfl, HB2.out.trans (hb5.mono HB2.out.size)⟩
  | false =>
  obtain ⟨z, HZ⟩ : ∃ z, Hid (chk G = z) := ⟨_, Lib.hid rfl⟩
  obtain ⟨q, HQ⟩ : ∃ q, Hid (sameB G H = q) := ⟨_, Lib.hid rfl⟩
  have HQS := Lib.hid (sameB_self G)
  have HGV : Hid (∀ W, Below w2.heap.size w2 W → GV W (.agg #[.slice A1 G.init.length c1, .slice A2 G.rows.length c2, .slice A3 G.labels.length c3]) G ∧ GV W (.agg #[.slice A4 H.init.length c4, .slice A5 H.rows.length c5, .slice A6 H.labels.length c6]) H) := Lib.hid (fun W h => HGV0.out W (HB2.out.trans (h.mono HB2.out.size)))
  have HV : Hid (∀ W, Below w2.heap.size w2 W → (W.cell? ⟨w.heap.size, 0, none⟩ = some (.slice A1 G.init.length c1) ∧ W.cell? ⟨w.heap.size, 1, none⟩ = some (.slice A2 G.rows.length c2) ∧ W.cell? ⟨w.heap.size, 2, none⟩ = some (.slice A3 G.labels.length c3)) ∧ (W.cell? ⟨w.heap.size + 1, 0, none⟩ = some (.slice A4 H.init.length c4) ∧ W.cell? ⟨w.heap.size + 1, 1, none⟩ = some (.slice A5 H.rows.length c5) ∧ W.cell? ⟨w.heap.size + 1, 2, none⟩ = some (.slice A6 H.labels.length c6))) := Lib.hid (fun W h => ⟨HX0.out.below h, HX1.out.below h⟩)
  have HKEEP : Hid (Below w2.heap.size w2 w2.drew) := Lib.hid (Below.refl _ _).drew
  go_upto_region 3 with (fail)
  refine wp_region_held_drew (S := (fun W => (W.cell? ⟨w.heap.size, 0, none⟩ = some (.slice A1 G.init.length c1) ∧ W.cell? ⟨w.heap.size, 1, none⟩ = some (.slice A2 G.rows.length c2) ∧ W.cell? ⟨w.heap.size, 2, none⟩ = some (.slice A3 G.labels.length c3)) ∧ (W.cell? ⟨w.heap.size + 1, 0, none⟩ = some (.slice A4 H.init.length c4) ∧ W.cell? ⟨w.heap.size + 1, 1, none⟩ = some (.slice A5 H.rows.length c5) ∧ W.cell? ⟨w.heap.size + 1, 2, none⟩ = some (.slice A6 H.labels.length c6)))) (by kernel_rfl) (HV.out _ HKEEP.out) ?_
  intro hS0
  have HS0 := Lib.hid hS0
  clear hS0
  simp only [Array.replicate, List.replicate]
  refine wpAnyH_take (i := 0) (oi := ⟨some 12, _, _, _, _, _⟩) (v := .agg #[.slice A1 G.init.length c1, .slice A2 G.rows.length c2, .slice A3 G.labels.length c3]) rfl (by kernel_rfl) (by kernel_rfl) (by kernel_rfl) (fun _ _ _ h => h) (Or.inl ⟨by kernel_rfl, fun w9 hS => ?_⟩) HS0.out ?_
  · obtain ⟨⟨s0, s1, s2⟩, ⟨s3, s4, s5⟩⟩ := hS
    go_simp
  try simp only [Act.put, List.setIfInBounds_toArray, List.set_cons_zero, List.set_cons_succ]
  refine wpAnyH_take (i := 2) (oi := ⟨some 14, _, _, _, _, _⟩) (v := .agg #[.slice A1 G.init.length c1, .slice A2 G.rows.length c2, .slice A3 G.labels.length c3]) rfl (by kernel_rfl) (by kernel_rfl) (by kernel_rfl) (fun _ _ _ h => h) (Or.inl ⟨by kernel_rfl, fun w9 hS => ?_⟩) HS0.out ?_
  · obtain ⟨⟨s0, s1, s2⟩, ⟨s3, s4, s5⟩⟩ := hS
    go_simp
  try simp only [Act.put, List.setIfInBounds_toArray, List.set_cons_zero, List.set_cons_succ]
  refine wpAnyH_ready (rs := [1]) (by kernel_rfl) (by simp) ?_
  refine AllReadyH.cons (o := ⟨some 13, _, _, _, _, _⟩) rfl (fun K hK => ?_) AllReadyH.nil
  rw [if_pos (by kernel_rfl)]
  go_simp
  go_at_call 17
  refine (check_any (HGV.out _ HKEEP.out).1).mono ?_
  rw [HZ.out]
  rintro e v3 ⟨rfl, hb3⟩
  have HKEEP : Hid (Below w2.heap.size w2 v3) := Lib.hid (HKEEP.out.trans (hb3.mono HKEEP.out.size))
  have HS1 : Hid _ := Lib.hid (HV.out v3 HKEEP.out)
  refine hK.out _ _ HS1.out (fun _ => ?_)
  clear hK K
  try simp only [Act.put, List.setIfInBounds_toArray, List.set_cons_zero, List.set_cons_succ]
  refine wpAnyH_ready (rs := [3]) (by kernel_rfl) (by simp) ?_
  refine AllReadyH.cons (o := ⟨some 15, _, _, _, _, _⟩) rfl (fun K hK => ?_) AllReadyH.nil
  rw [if_pos (by kernel_rfl)]
  go_simp
  go_at_call 18
  refine (refCheck_any (HGV.out _ HKEEP.out).1).mono ?_
  rw [HZ.out]
  rintro e v4 ⟨rfl, hb4⟩
  have HKEEP : Hid (Below w2.heap.size w2 v4) := Lib.hid (HKEEP.out.trans (hb4.mono HKEEP.out.size))
  have HS2 : Hid _ := Lib.hid (HV.out v4 HKEEP.out)
  refine hK.out _ _ HS2.out (fun _ => ?_)
  clear hK K
  try simp only [Act.put, List.setIfInBounds_toArray, List.set_cons_zero, List.set_cons_succ]
  refine wpAnyH_take (i := 4) (oi := ⟨some 16, _, _, _, _, _⟩) (v := .bool true) rfl (by kernel_rfl) (by kernel_rfl) (by kernel_rfl) (fun _ _ _ h => h) (Or.inl ⟨by kernel_rfl, fun w9 hS => ?_⟩) HS2.out ?_
  · clear hS
    go_simp
  try simp only [Act.put, List.setIfInBounds_toArray, List.set_cons_zero, List.set_cons_succ]
  refine wpAnyH_take (i := 5) (oi := ⟨some 17, _, _, _, _, _⟩) (v := .bool true) rfl (by kernel_rfl) (by kernel_rfl) (by kernel_rfl) (fun _ _ _ h => h) (Or.inl ⟨by kernel_rfl, fun w9 hS => ?_⟩) HS2.out ?_
  · clear hS
    go_simp
  try simp only [Act.put, List.setIfInBounds_toArray, List.set_cons_zero, List.set_cons_succ]
  refine wpAnyH_take (i := 6) (oi := ⟨some 18, _, _, _, _, _⟩) (v := .agg #[.slice A1 G.init.length c1, .slice A2 G.rows.length c2, .slice A3 G.labels.length c3]) rfl (by kernel_rfl) (by kernel_rfl) (by kernel_rfl) (fun _ _ _ h => h) (Or.inl ⟨by kernel_rfl, fun w9 hS => ?_⟩) HS2.out ?_
  · obtain ⟨⟨s0, s1, s2⟩, ⟨s3, s4, s5⟩⟩ := hS
    go_simp
  try simp only [Act.put, List.setIfInBounds_toArray, List.set_cons_zero, List.set_cons_succ]
  refine wpAnyH_take (i := 7) (oi := ⟨some 19, _, _, _, _, _⟩) (v := .agg #[.slice A4 H.init.length c4, .slice A5 H.rows.length c5, .slice A6 H.labels.length c6]) rfl (by kernel_rfl) (by kernel_rfl) (by kernel_rfl) (fun _ _ _ h => h) (Or.inl ⟨by kernel_rfl, fun w9 hS => ?_⟩) HS2.out ?_
  · obtain ⟨⟨s0, s1, s2⟩, ⟨s3, s4, s5⟩⟩ := hS
    go_simp
  try simp only [Act.put, List.setIfInBounds_toArray, List.set_cons_zero, List.set_cons_succ]
  refine wpAnyH_take (i := 9) (oi := ⟨some 21, _, _, _, _, _⟩) (v := .agg #[.slice A1 G.init.length c1, .slice A2 G.rows.length c2, .slice A3 G.labels.length c3]) rfl (by kernel_rfl) (by kernel_rfl) (by kernel_rfl) (fun _ _ _ h => h) (Or.inl ⟨by kernel_rfl, fun w9 hS => ?_⟩) HS2.out ?_
  · obtain ⟨⟨s0, s1, s2⟩, ⟨s3, s4, s5⟩⟩ := hS
    go_simp
  try simp only [Act.put, List.setIfInBounds_toArray, List.set_cons_zero, List.set_cons_succ]
  refine wpAnyH_take (i := 10) (oi := ⟨some 22, _, _, _, _, _⟩) (v := .agg #[.slice A4 H.init.length c4, .slice A5 H.rows.length c5, .slice A6 H.labels.length c6]) rfl (by kernel_rfl) (by kernel_rfl) (by kernel_rfl) (fun _ _ _ h => h) (Or.inl ⟨by kernel_rfl, fun w9 hS => ?_⟩) HS2.out ?_
  · obtain ⟨⟨s0, s1, s2⟩, ⟨s3, s4, s5⟩⟩ := hS
    go_simp
  try simp only [Act.put, List.setIfInBounds_toArray, List.set_cons_zero, List.set_cons_succ]
  refine wpAnyH_ready (rs := [8]) (by kernel_rfl) (by simp) ?_
  refine AllReadyH.cons (o := ⟨some 20, _, _, _, _, _⟩) rfl (fun K hK => ?_) AllReadyH.nil
  rw [if_pos (by kernel_rfl)]
  go_simp
  go_at_call 19
  refine (same_any (HGV.out _ HKEEP.out).1 (HGV.out _ HKEEP.out).2).mono ?_
  rw [HQ.out]
  rintro e v5 ⟨rfl, hb5⟩
  have HKEEP : Hid (Below w2.heap.size w2 v5) := Lib.hid (HKEEP.out.trans (hb5.mono HKEEP.out.size))
  have HS3 : Hid _ := Lib.hid (HV.out v5 HKEEP.out)
  refine hK.out _ _ HS3.out (fun _ => ?_)
  clear hK K
  try simp only [Act.put, List.setIfInBounds_toArray, List.set_cons_zero, List.set_cons_succ]
  refine wpAnyH_ready (rs := [11]) (by kernel_rfl) (by simp) ?_
  refine AllReadyH.cons (o := ⟨some 23, _, _, _, _, _⟩) rfl (fun K hK => ?_) AllReadyH.nil
  rw [if_pos (by kernel_rfl)]
  go_simp
  go_at_call 20
  refine (refSame_any (HGV.out _ HKEEP.out).1 (HGV.out _ HKEEP.out).2).mono ?_
  rw [HQ.out]
  rintro e v6 ⟨rfl, hb6⟩
  have HKEEP : Hid (Below w2.heap.size w2 v6) := Lib.hid (HKEEP.out.trans (hb6.mono HKEEP.out.size))
  have HS4 : Hid _ := Lib.hid (HV.out v6 HKEEP.out)
  refine hK.out _ _ HS4.out (fun _ => ?_)
  clear hK K
  try simp only [Act.put, List.setIfInBounds_toArray, List.set_cons_zero, List.set_cons_succ]
  refine wpAnyH_take (i := 12) (oi := ⟨some 24, _, _, _, _, _⟩) (v := .bool true) rfl (by kernel_rfl) (by kernel_rfl) (by kernel_rfl) (fun _ _ _ h => h) (Or.inl ⟨by kernel_rfl, fun w9 hS => ?_⟩) HS4.out ?_
  · clear hS
    go_simp
  try simp only [Act.put, List.setIfInBounds_toArray, List.set_cons_zero, List.set_cons_succ]
  refine wpAnyH_take (i := 13) (oi := ⟨some 25, _, _, _, _, _⟩) (v := .bool true) rfl (by kernel_rfl) (by kernel_rfl) (by kernel_rfl) (fun _ _ _ h => h) (Or.inl ⟨by kernel_rfl, fun w9 hS => ?_⟩) HS4.out ?_
  · clear hS
    go_simp
  try simp only [Act.put, List.setIfInBounds_toArray, List.set_cons_zero, List.set_cons_succ]
  refine wpAnyH_take (i := 14) (oi := ⟨some 26, _, _, _, _, _⟩) (v := .bool true) rfl (by kernel_rfl) (by kernel_rfl) (by kernel_rfl) (fun _ _ _ h => h) (Or.inl ⟨by kernel_rfl, fun w9 hS => ?_⟩) HS4.out ?_
  · clear hS
    go_simp
  try simp only [Act.put, List.setIfInBounds_toArray, List.set_cons_zero, List.set_cons_succ]
  refine wpAnyH_take (i := 15) (oi := ⟨some 27, _, _, _, _, _⟩) (v := .agg #[.slice A1 G.init.length c1, .slice A2 G.rows.length c2, .slice A3 G.labels.length c3]) rfl (by kernel_rfl) (by kernel_rfl) (by kernel_rfl) (fun _ _ _ h => h) (Or.inl ⟨by kernel_rfl, fun w9 hS => ?_⟩) HS4.out ?_
  · obtain ⟨⟨s0, s1, s2⟩, ⟨s3, s4, s5⟩⟩ := hS
    go_simp
  try simp only [Act.put, List.setIfInBounds_toArray, List.set_cons_zero, List.set_cons_succ]
  refine wpAnyH_take (i := 16) (oi := ⟨some 28, _, _, _, _, _⟩) (v := .agg #[.slice A1 G.init.length c1, .slice A2 G.rows.length c2, .slice A3 G.labels.length c3]) rfl (by kernel_rfl) (by kernel_rfl) (by kernel_rfl) (fun _ _ _ h => h) (Or.inl ⟨by kernel_rfl, fun w9 hS => ?_⟩) HS4.out ?_
  · obtain ⟨⟨s0, s1, s2⟩, ⟨s3, s4, s5⟩⟩ := hS
    go_simp
  try simp only [Act.put, List.setIfInBounds_toArray, List.set_cons_zero, List.set_cons_succ]
  refine wpAnyH_ready (rs := [17]) (by kernel_rfl) (by simp) ?_
  refine AllReadyH.cons (o := ⟨some 29, _, _, _, _, _⟩) rfl (fun K hK => ?_) AllReadyH.nil
  rw [if_pos (by kernel_rfl)]
  go_simp
  go_at_call 19
  refine (same_any (HGV.out _ HKEEP.out).1 (HGV.out _ HKEEP.out).1).mono ?_
  rw [HQS.out]
  rintro e v7 ⟨rfl, hb7⟩
  have HKEEP : Hid (Below w2.heap.size w2 v7) := Lib.hid (HKEEP.out.trans (hb7.mono HKEEP.out.size))
  have HS5 : Hid _ := Lib.hid (HV.out v7 HKEEP.out)
  refine hK.out _ _ HS5.out (fun _ => ?_)
  clear hK K
  try simp only [Act.put, List.setIfInBounds_toArray, List.set_cons_zero, List.set_cons_succ]
  refine wpAnyH_take (i := 18) (oi := ⟨some 30, _, _, _, _, _⟩) (v := .bool true) rfl (by kernel_rfl) (by kernel_rfl) (by kernel_rfl) (fun _ _ _ h => h) (Or.inl ⟨by kernel_rfl, fun w9 hS => ?_⟩) HS5.out ?_
  · clear hS
    go_simp
  try simp only [Act.put, List.setIfInBounds_toArray, List.set_cons_zero, List.set_cons_succ]
  refine wpAnyH_take (i := 19) (oi := ⟨some 31, _, _, _, _, _⟩) (v := .bool true) rfl (by kernel_rfl) (by kernel_rfl) (by kernel_rfl) (fun _ _ _ h => h) (Or.inl ⟨by kernel_rfl, fun w9 hS => ?_⟩) HS5.out ?_
  · clear hS
    go_simp
  try simp only [Act.put, List.setIfInBounds_toArray, List.set_cons_zero, List.set_cons_succ]
  refine wpAnyH_ready (rs := [20]) (by kernel_rfl) (by simp) ?_
  refine AllReadyH.cons (o := ⟨some 32, _, _, _, _, _⟩) rfl (fun K hK => ?_) AllReadyH.nil
  rw [if_pos (by kernel_rfl)]
  go_simp
  go_at_call 16
  refine (awake_any _).mono ?_
  rintro e v8 ⟨rfl, hb8⟩
  have HKEEP : Hid (Below w2.heap.size w2 v8) := Lib.hid (HKEEP.out.trans (hb8.mono HKEEP.out.size))
  have HS6 : Hid _ := Lib.hid (HV.out v8 HKEEP.out)
  refine hK.out _ _ HS6.out (fun _ => ?_)
  clear hK K
  try simp only [Act.put, List.setIfInBounds_toArray, List.set_cons_zero, List.set_cons_succ]
  refine wpAnyH_take (i := 21) (oi := ⟨some 33, _, _, _, _, _⟩) (v := .bool true) rfl (by kernel_rfl) (by kernel_rfl) (by kernel_rfl) (fun _ _ _ h => h) (Or.inl ⟨by kernel_rfl, fun w9 hS => ?_⟩) HS6.out ?_
  · clear hS
    go_simp
  try simp only [Act.put, List.setIfInBounds_toArray, List.set_cons_zero, List.set_cons_succ]
  refine wpAnyH_take (i := 22) (oi := ⟨some 4, _, _, _, _, _⟩) (v := .bool true) rfl (by kernel_rfl) (by kernel_rfl) (by kernel_rfl) (fun _ _ _ h => h) (Or.inl ⟨by kernel_rfl, fun w9 hS => ?_⟩) HS6.out ?_
  · clear hS
    go_simp
  try simp only [Act.put, List.setIfInBounds_toArray, List.set_cons_zero, List.set_cons_succ]
  refine wpAnyH_done (by kernel_rfl) ?_ _
  go_wp2
  go_ret
  exact ⟨rfl, HB2.out.trans (HKEEP.out.mono HB2.out.size)⟩

set_option maxRecDepth 100000 in
theorem lifted (os : Os) (started : os.Started) (H : Type) (enc : TypeId × Value → H) :
    ReturnsInHanded {} Try.checked os 3 .any (Rows.graphChecksSpec.pre6 enc Try.prog Try.f3 Rows.graphChecksRow.domain false) (Rows.graphChecksSpec.post enc Try.prog Try.f3 false true false false) := by
  refine law_lifted started [26, 26] rfl (by kernel_rfl) Try.func3 rfl (by decide +kernel) rfl (fun ds hl => by
    match ds, hl with
    | [_, _], _ => rfl) (ChangeSpec.witness6 (enc := enc) (C := Try.checked) false ⟨#[], #[.agg #[.slice none 0 0, .slice none 0 0, .slice none 0 0], .agg #[.slice none 0 0, .slice none 0 0, .slice none 0 0]], []⟩ 8 (by kernel_rfl) (by kernel_rfl) (by kernel_rfl) (by kernel_rfl)) ?_
  intro W base args ds ps hval hA hlt hsz
  obtain ⟨v0, vs0, d0, ds0, p0, q0, hargs, rfl, rfl, h0, r0⟩ := trodAll_cons hA
  obtain ⟨v1, vs1, d1, ds1, p1, q1, rfl, rfl, rfl, h1, r1⟩ := trodAll_cons r0
  obtain ⟨rfl, rfl, rfl⟩ := trodAll_nil r1
  obtain rfl : args = #[v0, v1] := by cases args; simp_all
  obtain ⟨G0, g0, f0⟩ := open_graph_arg (hval 0 26 v0 rfl rfl) h0
  obtain ⟨G1, g1, f1⟩ := open_graph_arg (hval 1 26 v1 rfl rfl) h1
  exact walk v0 v1 W G0 G1 g0 g1

set_option maxRecDepth 100000 in
theorem over : Rows.graphChecksRow.holds Try.pinned (OpenSpec.ofChange Rows.graphChecksSpec) :=
  OpenClaim.holds_of_wide 3 Try.f3 rfl rfl rfl rfl rfl rfl rfl ⟨rfl, rfl, rfl, rfl, rfl⟩ rfl rfl rfl rfl rfl (by kernel_rfl) Try.func3 (by kernel_rfl)
    (of_decide_eq_true (by kernel_rfl)) (by unfold Func.isWrapper; first | (rw [if_pos (by decide +kernel)]; kernel_rfl) | (rw [if_neg (by decide +kernel)]; exact ⟨rfl, rfl⟩))
    (fun os started H enc _ => lifted os started H enc)

theorem proved : Rows.GraphChecksSaid := over
#print axioms proved
end Go.Proofs.Ytmlkfdmccimdkaa.graphChecks
