/- The program's Turn hands back a graph of new blocks. -/
import Derived.Test.YtnfiohekdbjgoaaGvf
namespace Go.Proofs.Ytnfiohekdbjgoaa
open Go.ChangeShapes Go.WideShapes Go.ChangeAt Go.RowKit

set_option maxRecDepth 20000 in
set_option maxHeartbeats 4000000 in
theorem turn_f' (A1 A2 A3 : Option Addr) (n1 n2 n3 c1 c2 c3 : Nat) (init labels : List Int) (rows : List (List (Int × Int))) (w : World) (h1 : n1 = init.length) (h2 : n2 = rows.length) (h3 : n3 = labels.length) (ha1 : LA .i64 w A1 init) (ha2 : RA w A2 rows) (ha3 : LA .u64 w A3 labels) (hl1 : init.length ≤ 1000000) (hl2 : n2 * 24 ≤ 140737488355328) (hlt : (leadTo rows n2).length * 16 ≤ 140737488355328) (hl3 : labels.length ≤ 1000000) :
    Calls Try.prog 26 #[.agg #[.slice A1 n1 c1, .slice A2 n2 c2, .slice A3 n3 c3]] w (GPF w ⟨init, turnR rows, labels⟩) := by
  have HM1 := Lib.hid h1
  have HM2 := Lib.hid h2
  have HM3 := Lib.hid h3
  have HL1 := Lib.hid hl1
  have HL2 := Lib.hid hl2
  have HLT2 := Lib.hid hlt
  have HL3 := Lib.hid hl3
  have HI1 := Lib.hid ha1
  have HI2 := Lib.hid ha2
  have HI3 := Lib.hid ha3
  have HN2 : Hid (n2 ≤ maxLen) := Lib.hid (by unfold maxLen; omega)
  clear h1 h2 h3 ha1 ha2 ha3 hl1 hl2 hlt hl3
  go_enter Try.func26, Try.ntmps26
  go_upto_region 1 with (fail)
  obtain ⟨w2, HW2⟩ : ∃ w2, w2 = (w.alloc (.cells #[.slice A1 n1 c1, .slice A2 n2 c2, .slice A3 n3 c3] 26)).alloc (.cells #[.slice none 0 0, .slice none 0 0, .slice none 0 0] 26) := ⟨_, rfl⟩
  have HB2 : Hid (Below w.heap.size w w2) := Lib.hid (by rw [HW2]; exact ((Below.refl _ _).alloc (Nat.le_refl _) _).alloc (by simp) _)
  have HLT : Hid (w.heap.size < w2.heap.size) := Lib.hid (by rw [HW2]; simp; omega)
  have HV : Hid (∀ W : World, W.heap[w.heap.size]? = w2.heap[w.heap.size]? → W.cell? ⟨w.heap.size, 0, none⟩ = some (.slice A1 n1 c1) ∧ W.cell? ⟨w.heap.size, 1, none⟩ = some (.slice A2 n2 c2) ∧ W.cell? ⟨w.heap.size, 2, none⟩ = some (.slice A3 n3 c3)) := Lib.hid (fun W hW => by
    obtain ⟨q0, q1, q2⟩ := box3 w (.slice A1 n1 c1) (.slice A2 n2 c2) (.slice A3 n3 c3) 26
    have e : W.heap[w.heap.size]? = (w.alloc (.cells #[.slice A1 n1 c1, .slice A2 n2 c2, .slice A3 n3 c3] 26)).heap[w.heap.size]? := hW.trans (by rw [HW2]; exact Below.heap_alloc _ _ _ (by simp))
    exact ⟨(World.cell?_of_block (a := ⟨w.heap.size, 0, none⟩) e).trans q0, (World.cell?_of_block (a := ⟨w.heap.size, 1, none⟩) e).trans q1, (World.cell?_of_block (a := ⟨w.heap.size, 2, none⟩) e).trans q2⟩)
  have HRZ : Hid (RZ3 w2 (w.heap.size + 1)) := Lib.hid (by rw [HW2]; exact ⟨World.cell?_alloc_at _ _ _ _ (by simp), World.cell?_alloc_at _ _ _ _ (by simp), World.cell?_alloc_at _ _ _ _ (by simp), by simp, fun i => World.frozen?_alloc_at _ _ _ _ (by simp)⟩)
  rw [← HW2]
  have HKEEP : Hid (Below w2.heap.size w2 w2.drew) := Lib.hid (Below.refl _ _).drew
  have HA1 : Hid (∀ W, Below w2.heap.size w2 W → LA .i64 W A1 init) := Lib.hid (fun W h => LA.below HI1.out (HB2.out.trans (h.mono HB2.out.size)))
  have HA2 : Hid (∀ W, Below w2.heap.size w2 W → RA W A2 rows) := Lib.hid (fun W h => RA.below HI2.out (HB2.out.trans (h.mono HB2.out.size)))
  have HA3 : Hid (∀ W, Below w2.heap.size w2 W → LA .u64 W A3 labels) := Lib.hid (fun W h => LA.below HI3.out (HB2.out.trans (h.mono HB2.out.size)))
  clear HW2
  refine wp_region_held_drew (S := (fun w' => w'.cell? ⟨w.heap.size, 0, none⟩ = some (.slice A1 n1 c1) ∧ w'.cell? ⟨w.heap.size, 1, none⟩ = some (.slice A2 n2 c2) ∧ w'.cell? ⟨w.heap.size, 2, none⟩ = some (.slice A3 n3 c3))) (by kernel_rfl) (HV.out _ rfl) ?_
  intro hS0
  have HS0 := Lib.hid hS0
  clear hS0
  simp only [Array.replicate, List.replicate]
  refine wpAnyH_take (i := 0) (oi := ⟨some 3, _, _, _, _, _⟩) (v := .agg #[.slice A1 n1 c1, .slice A2 n2 c2, .slice A3 n3 c3]) rfl (by kernel_rfl) (by kernel_rfl) (by kernel_rfl) (fun _ _ _ h => h) (Or.inl ⟨by kernel_rfl, fun w9 hS => ?_⟩) HS0.out ?_
  · obtain ⟨s1, s2, s3⟩ := hS
    go_simp
  try simp only [Act.put, List.setIfInBounds_toArray, List.set_cons_zero, List.set_cons_succ]
  refine wpAnyH_take (i := 1) (oi := ⟨some 4, _, _, _, _, _⟩) (v := .pointer (some ⟨w.heap.size, 1, none⟩)) rfl (by kernel_rfl) (by kernel_rfl) (by kernel_rfl) (fun _ _ _ h => h) (Or.inl ⟨by kernel_rfl, fun w9 hS => ?_⟩) HS0.out ?_
  · obtain ⟨s1, s2, s3⟩ := hS
    go_simp
  try simp only [Act.put, List.setIfInBounds_toArray, List.set_cons_zero, List.set_cons_succ]
  refine wpAnyH_take (i := 2) (oi := ⟨some 5, _, _, _, _, _⟩) (v := .slice A2 n2 c2) rfl (by kernel_rfl) (by kernel_rfl) (by kernel_rfl) (fun _ _ _ h => h) (Or.inl ⟨by kernel_rfl, fun w9 hS => ?_⟩) HS0.out ?_
  · obtain ⟨s1, s2, s3⟩ := hS
    go_simp
  try simp only [Act.put, List.setIfInBounds_toArray, List.set_cons_zero, List.set_cons_succ]
  refine wpAnyH_ready (rs := [3]) (by kernel_rfl) (by simp) ?_
  refine AllReadyH.cons (o := ⟨some 6, _, _, _, _, _⟩) rfl (fun K hK => ?_) AllReadyH.nil
  rw [if_pos (by kernel_rfl)]
  go_simp
  go_at_call 58
  refine (turned_any A2 n2 c2 rows _ HM2.out (HA2.out _ HKEEP.out) HL2.out HLT2.out).mono ?_
  rintro e v3 ⟨rfl, ⟨vs, hor⟩, hb3⟩
  have HOR3 := Lib.hid hor
  have hbd := HKEEP.out.size
  have HKEEP : Hid (Below w2.heap.size w2 v3) := Lib.hid (HKEEP.out.trans (hb3.mono HKEEP.out.size))
  clear hb3 hor
  have HS1 : Hid _ := Lib.hid (HV.out v3 (HKEEP.out.block _ HLT.out))
  refine hK.out _ _ HS1.out (fun _ => ?_)
  clear hK K
  try simp only [Act.put, List.setIfInBounds_toArray, List.set_cons_zero, List.set_cons_succ]
  refine wpAnyH_ready (rs := [4]) (by kernel_rfl) (by simp) ?_
  refine AllReadyH.cons (o := ⟨some 7, _, _, _, _, _⟩) rfl (fun K hK => ?_) AllReadyH.nil
  rw [if_pos (by kernel_rfl)]
  go_simp
  go_at_call 60
  refine (with_any A1 A2 A3 c1 n2 c2 c3 n1 n3 init labels _ n2 n2 v3 HM1.out HM3.out (HA1.out _ HKEEP.out) (HA3.out _ HKEEP.out) HL1.out HL3.out).mono ?_
  rintro e v4 ⟨D1, d1, D3, d3, rfl, h41, h43, hb4, hg1, hg3⟩
  rw [← HM1.out, ← HM3.out]
  rw [← HM1.out] at h41
  rw [← HM3.out] at h43
  have hb3z := HKEEP.out.size
  have H41 := Lib.hid h41
  have H43 := Lib.hid h43
  have HG1 : Hid (∀ a, D1 = some a → a.block ≠ w.heap.size + 1) := Lib.hid (fun a e => by have := hg1 a e; have := HRZ.out.2.2.2.1; omega)
  have HG3 : Hid (∀ a, D3 = some a → a.block ≠ w.heap.size + 1) := Lib.hid (fun a e => by have := hg3 a e; have := HRZ.out.2.2.2.1; omega)
  have HN1 : Hid (∀ a, D1 = some a → w.heap.size ≤ a.block) := Lib.hid (fun a e => by have := hg1 a e; have := HRZ.out.2.2.2.1; omega)
  have HN3 : Hid (∀ a, D3 = some a → w.heap.size ≤ a.block) := Lib.hid (fun a e => by have := hg3 a e; have := HRZ.out.2.2.2.1; omega)
  have HOR4 := Lib.hid (HOR3.out.below hb4)
  have HKEEP : Hid (Below w2.heap.size w2 v4) := Lib.hid (HKEEP.out.trans (hb4.mono HKEEP.out.size))
  clear hb4 hg1 hg3 h41 h43
  have HS2 : Hid _ := Lib.hid (HV.out v4 (HKEEP.out.block _ HLT.out))
  refine hK.out _ _ HS2.out (fun _ => ?_)
  clear hK K
  try simp only [Act.put, List.setIfInBounds_toArray, List.set_cons_zero, List.set_cons_succ]
  have HZZ := Lib.hid (HRZ.out.below HKEEP.out)
  have z0 := HZZ.out.1
  have z1 := HZZ.out.2.1
  have z2 := HZZ.out.2.2.1
  have f0 := HZZ.out.2.2.2.2 0
  have f1 := HZZ.out.2.2.2.2 1
  have f2 := HZZ.out.2.2.2.2 2
  have HFIN : Hid (Below w.heap.size w v4) := Lib.hid (HB2.out.trans (HKEEP.out.mono HB2.out.size))
  refine wpAnyH_ready (rs := [5]) (by kernel_rfl) (by simp) ?_
  refine AllReadyH.cons (o := ⟨none, _, _, _, _, _⟩) rfl (fun K hK => ?_) AllReadyH.nil
  go_simp
  refine hK.out _ _ (HV.out _ ((Below.heap_setCell _ ⟨w.heap.size + 1, 2, none⟩ _ _ (by simp)).trans ((Below.heap_setCell _ ⟨w.heap.size + 1, 1, none⟩ _ _ (by simp)).trans ((Below.heap_setCell _ ⟨w.heap.size + 1, 0, none⟩ _ _ (by simp)).trans (HKEEP.out.block _ HLT.out))))) (fun _ => ?_)
  clear hK K
  try simp only [Act.put, List.setIfInBounds_toArray, List.set_cons_zero, List.set_cons_succ]
  refine wpAnyH_done (by kernel_rfl) ?_ _
  go_wp2
  (try simp only [Exit.inBlock, Exit.then])
  refine bodyPost_ret (v := .agg #[.slice D1 n1 d1, .slice (some ⟨w2.heap.size, 0, none⟩) n2 n2, .slice D3 n3 d3]) ?_ rfl ⟨_, rfl, ⟨_, Nat.le_refl _, D1, d1, some ⟨w2.heap.size, 0, none⟩, n2, D3, d3, ?_, ⟨by rw [← HM1.out]; exact H41.out.1, H41.out.2.1, laf_of (LA.set3 H41.out.2.2 (fun _ => HG1.out) _ _ _) HN1.out⟩, ?_, ⟨by rw [← HM3.out]; exact H43.out.1, H43.out.2.1, laf_of (LA.set3 H43.out.2.2 (fun _ => HG3.out) _ _ _) HN3.out⟩⟩, ?_⟩
  · rw [results_cell rfl]; go_simp
  · show _ = Value.agg #[.slice D1 init.length d1, .slice _ (turnR rows).length n2, .slice D3 labels.length d3]
    rw [← HM1.out, ← HM3.out, turnR_len, ← HM2.out]
  · refine ⟨by show (turnR rows).length ≤ n2; rw [turnR_len, ← HM2.out]; exact Nat.le_refl _, HN2.out, ?_⟩
    have h : OR _ _ _ _ _ _ := ((HOR4.out.set ⟨w.heap.size + 1, 0, none⟩ (.slice D1 n1 d1) (by have := HRZ.out.2.2.2.1; show w.heap.size + 1 < w2.heap.size + 3; omega) (by have := HRZ.out.2.2.2.1; show w.heap.size + 1 ≠ w2.heap.size; omega)).set ⟨w.heap.size + 1, 1, none⟩ (.slice (some ⟨w2.heap.size, 0, none⟩) n2 n2) (by have := HRZ.out.2.2.2.1; show w.heap.size + 1 < w2.heap.size + 3; omega) (by have := HRZ.out.2.2.2.1; show w.heap.size + 1 ≠ w2.heap.size; omega)).set ⟨w.heap.size + 1, 2, none⟩ (.slice D3 n3 d3) (by have := HRZ.out.2.2.2.1; show w.heap.size + 1 < w2.heap.size + 3; omega) (by have := HRZ.out.2.2.2.1; show w.heap.size + 1 ≠ w2.heap.size; omega)
    have e : turnR rows = (List.range n2).map (turnL (leadTo rows n2)) := by unfold turnR; rw [← HM2.out]
    show RAf _ _ _ _ (turnR rows)
    rw [e]
    exact h.raf (by have := HLT.out; omega) (by have := HLT.out; omega)
  · exact ((HFIN.out.setCell (show w.heap.size ≤ (⟨w.heap.size + 1, 0, none⟩ : Addr).block from Nat.le_succ _) _).setCell (show w.heap.size ≤ (⟨w.heap.size + 1, 1, none⟩ : Addr).block from Nat.le_succ _) _).setCell (show w.heap.size ≤ (⟨w.heap.size + 1, 2, none⟩ : Addr).block from Nat.le_succ _) _

theorem turn_f {w : World} {v : Value} {G : Gr} (hv : GV w v G) (hl1 : G.init.length ≤ 1000000) (hl2 : G.rows.length ≤ 1000000) (hlt : (leadTo G.rows G.rows.length).length ≤ 1000000) (hl3 : G.labels.length ≤ 1000000) : Calls Try.prog 26 #[v] w (GPF w (turnG G)) := by
  obtain ⟨A1, c1, A2, c2, A3, c3, rfl, ⟨a1, b1, d1⟩, ⟨a2, b2, d2⟩, ⟨a3, b3, d3⟩⟩ := hv
  exact turn_f' A1 A2 A3 _ _ _ c1 c2 c3 G.init G.labels G.rows w rfl rfl rfl d1 d2 d3 hl1 (by omega) (by omega) hl3
end Go.Proofs.Ytnfiohekdbjgoaa
