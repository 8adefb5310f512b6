/- Contracts of the document's graphs: Back. -/
import Derived.Test.YtjgifbcjokeigaaRefTurn1
import Derived.Test.YtjgifbcjokeigaaRefGoals
import Derived.Test.YtjgifbcjokeigaaRefReach
namespace Go.Proofs.Ytjgifbcjokeigaa
open Go.ChangeShapes Go.WideShapes Go.ChangeAt Go.RowKit Go.Shelf

theorem refTurn_of {w : World} {v : Value} {G : Gr} (hv : GV w v G) (hn : G.rows.length ≤ 1000) (hrow : ∀ i, (G.rows.getD i []).length ≤ 1000) (hl1 : G.init.length ≤ 1000000) (hl3 : G.labels.length ≤ 1000000) : Calls Try.prog 28 #[v] w (GP w (turnG G)) := by
  obtain ⟨A1, c1, A2, c2, A3, c3, rfl, ⟨a1, b1, d1⟩, ⟨a2, b2, d2⟩, ⟨a3, b3, d3⟩⟩ := hv
  exact refTurn_any A1 A2 A3 _ _ _ c1 c2 c3 G.init G.labels G.rows w rfl rfl rfl d1 d2 d3 hl1 hn hrow hl3

set_option maxRecDepth 20000 in
set_option maxHeartbeats 4000000 in
theorem refBack_any (A1 A2 A3 : Option Addr) (n1 n n3 c1 c2 c3 : Nat) (G : Gr) (GA : Option Addr) (gn gc : Nat) (goal : List Bool) (w : World) (hg : GV w (.agg #[.slice A1 n1 c1, .slice A2 n c2, .slice A3 n3 c3]) G) (hn : n = G.rows.length) (hnl : n ≤ 1000) (hrow : ∀ i, (G.rows.getD i []).length ≤ 1000) (hl1 : G.init.length ≤ 1000000) (hl3 : G.labels.length ≤ 1000000)
    (hgn : gn = goal.length) (hgl : goal.length ≤ maxLen) (hG : BL w GA goal) :
    Calls Try.prog 25 #[.agg #[.slice A1 n1 c1, .slice A2 n c2, .slice A3 n3 c3], .slice GA gn gc] w (Marks w n (seen n (turnR G.rows) (goalsTo goal n))) := by
  have HN := Lib.hid hn
  have HROW := Lib.hid hrow
  have HI := Lib.hid hl1
  have HL := Lib.hid hl3
  have HGN := Lib.hid hgn
  have HGL := Lib.hid hgl
  have HG := Lib.hid hG
  have HGV0 := Lib.hid hg
  have HGLN : Hid ((goalsTo goal n).length ≤ 1000000) := Lib.hid (by have := goalsTo_len goal n; omega)
  clear hg hn hrow hl1 hl3 hgn hgl hG
  go_enter Try.func25, Try.ntmps25
  go_upto_region 1 with (fail)
  have hbx := box3 w (.slice A1 n1 c1) (.slice A2 n c2) (.slice A3 n3 c3) 26
  have hb2 := below1 w (.cells #[.slice A1 n1 c1, .slice A2 n c2, .slice A3 n3 c3] 26)
  generalize w.alloc (.cells #[.slice A1 n1 c1, .slice A2 n c2, .slice A3 n3 c3] 26) = w2 at *
  have HB2 := Lib.hid hb2
  have HBX : Hid (B3 w2 w.heap.size (.slice A1 n1 c1) (.slice A2 n c2) (.slice A3 n3 c3)) := Lib.hid hbx
  clear hb2 hbx
  have HGV : Hid (∀ W, Below w2.heap.size w2 W → GV W (.agg #[.slice A1 n1 c1, .slice A2 n c2, .slice A3 n3 c3]) G) := Lib.hid (fun W h => HGV0.out.below (HB2.out.trans (h.mono HB2.out.size)))
  have HV : Hid (∀ W, Below w2.heap.size w2 W → W.cell? ⟨w.heap.size, 0, none⟩ = some (.slice A1 n1 c1) ∧ W.cell? ⟨w.heap.size, 1, none⟩ = some (.slice A2 n c2) ∧ W.cell? ⟨w.heap.size, 2, none⟩ = some (.slice A3 n3 c3)) := Lib.hid (fun W h => HBX.out.below h)
  have HKEEP : Hid (Below w2.heap.size w2 w2.drew) := Lib.hid (Below.refl _ _).drew
  refine wp_region_held_drew (S := (fun W => W.cell? ⟨w.heap.size, 0, none⟩ = some (.slice A1 n1 c1) ∧ W.cell? ⟨w.heap.size, 1, none⟩ = some (.slice A2 n c2) ∧ W.cell? ⟨w.heap.size, 2, none⟩ = some (.slice A3 n3 c3))) (by kernel_rfl) (HV.out _ HKEEP.out) ?_
  intro hS0
  have HS0 := Lib.hid hS0
  clear hS0
  simp only [Array.replicate, List.replicate]
  refine wpAnyH_take (i := 0) (oi := ⟨some 5, _, _, _, _, _⟩) (v := .agg #[.slice A1 n1 c1, .slice A2 n c2, .slice A3 n3 c3]) rfl (by kernel_rfl) (by kernel_rfl) (by kernel_rfl) (fun _ _ _ h => h) (Or.inl ⟨by kernel_rfl, fun w9 hS => ?_⟩) HS0.out ?_
  · obtain ⟨s0, s1, s2⟩ := hS
    go_simp
  try simp only [Act.put, List.setIfInBounds_toArray, List.set_cons_zero, List.set_cons_succ]
  refine wpAnyH_take (i := 2) (oi := ⟨some 7, _, _, _, _, _⟩) (v := .agg #[.slice A1 n1 c1, .slice A2 n c2, .slice A3 n3 c3]) rfl (by kernel_rfl) (by kernel_rfl) (by kernel_rfl) (fun _ _ _ h => h) (Or.inl ⟨by kernel_rfl, fun w9 hS => ?_⟩) HS0.out ?_
  · obtain ⟨s0, s1, s2⟩ := hS
    go_simp
  try simp only [Act.put, List.setIfInBounds_toArray, List.set_cons_zero, List.set_cons_succ]
  refine wpAnyH_take (i := 3) (oi := ⟨some 8, _, _, _, _, _⟩) (v := .slice GA gn gc) rfl (by kernel_rfl) (by kernel_rfl) (by kernel_rfl) (fun _ _ _ h => h) (Or.inl ⟨by kernel_rfl, fun w9 hS => ?_⟩) HS0.out ?_
  · clear hS
    go_simp
  try simp only [Act.put, List.setIfInBounds_toArray, List.set_cons_zero, List.set_cons_succ]
  refine wpAnyH_ready (rs := [1]) (by kernel_rfl) (by simp) ?_
  refine AllReadyH.cons (o := ⟨some 6, _, _, _, _, _⟩) rfl (fun K hK => ?_) AllReadyH.nil
  rw [if_pos (by kernel_rfl)]
  go_simp
  go_at_call 28
  refine (refTurn_of (HGV.out _ HKEEP.out) (by rw [← HN.out]; omega) HROW.out HI.out HL.out).mono ?_
  rintro e v3 ⟨v, rfl, hgt, hb3⟩
  have HKEEP : Hid (Below w2.heap.size w2 v3) := Lib.hid (HKEEP.out.trans (hb3.mono HKEEP.out.size))
  have HS1 : Hid _ := Lib.hid (HV.out v3 HKEEP.out)
  refine hK.out _ _ HS1.out (fun _ => ?_)
  clear hK K
  try simp only [Act.put, List.setIfInBounds_toArray, List.set_cons_zero, List.set_cons_succ]
  obtain ⟨B1, d1, B2, d2, B3, d3, rfl, _, ⟨_, _, hra⟩, _⟩ := hgt
  have HRT := Lib.hid hra
  clear hra hb3
  refine wpAnyH_ready (rs := [4]) (by kernel_rfl) (by simp) ?_
  refine AllReadyH.cons (o := ⟨some 9, _, _, _, _, _⟩) rfl (fun K hK => ?_) AllReadyH.nil
  rw [if_pos (by kernel_rfl)]
  go_simp
  go_at_call 59
  refine (refGoals_any (.slice A1 n1 c1) (.slice A3 n3 c3) A2 c2 n GA gn gc goal _ (by omega) HGN.out HGL.out (HG.out.below (HB2.out.trans (HKEEP.out.mono HB2.out.size)))).mono ?_
  rintro e v4 ⟨C1, e1, rfl, hia, hb4⟩
  have HKEEP : Hid (Below w2.heap.size w2 v4) := Lib.hid (HKEEP.out.trans (hb4.mono HKEEP.out.size))
  have HS2 : Hid _ := Lib.hid (HV.out v4 HKEEP.out)
  refine hK.out _ _ HS2.out (fun _ => ?_)
  clear hK K
  try simp only [Act.put, List.setIfInBounds_toArray, List.set_cons_zero, List.set_cons_succ]
  have HIA := Lib.hid hia
  have HRT := Lib.hid (HRT.out.below hb4)
  clear hia hb4
  refine wpAnyH_ready (rs := [5]) (by kernel_rfl) (by simp) ?_
  refine AllReadyH.cons (o := ⟨some 10, _, _, _, _, _⟩) rfl (fun K hK => ?_) AllReadyH.nil
  rw [if_pos (by kernel_rfl)]
  go_simp
  go_at_call 23
  refine (refReach_of B1 B2 B3 _ d1 _ d2 _ d3 C1 _ e1 (goalsTo goal n) (turnR G.rows) _ rfl (by show (turnR G.rows).length ≤ _; rw [turnR_len, ← HN.out]; omega) HRT.out rfl HGLN.out HIA.out).mono ?_
  try rw [show (turnG G).rows.length = n from (turnR_len G.rows).trans HN.out.symm]
  try rw [show (turnR G.rows).length = n from (turnR_len G.rows).trans HN.out.symm]
  rintro e v5 ⟨bb, rfl, hbb, hr5, hb5⟩
  have HKOLD := HKEEP
  have HKEEP : Hid (Below w2.heap.size w2 v5) := Lib.hid (HKEEP.out.trans (hb5.mono HKEEP.out.size))
  have HS3 : Hid _ := Lib.hid (HV.out v5 HKEEP.out)
  refine hK.out _ _ HS3.out (fun _ => ?_)
  clear hK K
  try simp only [Act.put, List.setIfInBounds_toArray, List.set_cons_zero, List.set_cons_succ]
  have HR5 := Lib.hid hr5
  have HBB : Hid (w.heap.size ≤ bb) := Lib.hid (by have := HKOLD.out.size; have := HB2.out.size; omega)
  clear hr5 hbb hb5
  refine wpAnyH_take (i := 6) (oi := ⟨some 4, _, _, _, _, _⟩) (v := .slice (some ⟨bb, 0, none⟩) n n) rfl (by kernel_rfl) (by kernel_rfl) (by kernel_rfl) (fun _ _ _ h => h) (Or.inl ⟨by kernel_rfl, fun w9 hS => ?_⟩) HS3.out ?_
  · clear hS
    go_simp
  try simp only [Act.put, List.setIfInBounds_toArray, List.set_cons_zero, List.set_cons_succ]
  refine wpAnyH_done (by kernel_rfl) ?_ _
  go_wp2
  go_ret
  exact ⟨bb, rfl, HBB.out, HR5.out, HB2.out.trans (HKEEP.out.mono HB2.out.size)⟩
end Go.Proofs.Ytjgifbcjokeigaa
