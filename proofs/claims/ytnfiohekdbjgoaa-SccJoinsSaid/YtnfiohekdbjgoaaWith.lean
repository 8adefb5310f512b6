/- Contracts of package graph: with. -/
import Derived.Test.YtnfiohekdbjgoaaClone
import Derived.Laws.ResultCell
import Derived.Laws.Rows
import Derived.Deep.RegionHeld3
namespace Go.Proofs.Ytnfiohekdbjgoaa
open Go.ChangeShapes Go.WideShapes Go.ChangeAt Go.RowKit

theorem results_cell {fn : Func} {p : Tmp} {ty : TypeId} (h : fn.results = #[.cell p ty]) (tmps : Array Value) (P : Program) (w : World) :
    (results fn tmps).run P w = ((asAddr (tmps.getD p undef)).run P w).andThen fun a w₁ => (loadVar ty a).run P w₁ := by
  simp only [results, h]
  simp [Sem.run_bind, Result.andThen]

/-- A result's cell, a graph, as it was made. -/
def RZ3 (W : World) (z : Nat) : Prop := W.cell? ⟨z, 0, none⟩ = some (.slice none 0 0) ∧ W.cell? ⟨z, 1, none⟩ = some (.slice none 0 0) ∧ W.cell? ⟨z, 2, none⟩ = some (.slice none 0 0) ∧ z < W.heap.size ∧ ∀ i, W.frozen? ⟨z, i, none⟩ = false
theorem RZ3.below {w w' : World} {b : Nat} (h : RZ3 w b) (k : Below w.heap.size w w') : RZ3 w' b := by
  obtain ⟨h0, h1, h2, h3, h4⟩ := h
  exact ⟨(k.cell (p := ⟨b, 0, none⟩) h3).trans h0, (k.cell (p := ⟨b, 1, none⟩) h3).trans h1, (k.cell (p := ⟨b, 2, none⟩) h3).trans h2, Nat.lt_of_lt_of_le h3 k.size, fun i => (k.frozen (p := ⟨b, i, none⟩) h3).trans (h4 i)⟩
/-- What is read lies in no cell of the result. -/
theorem LA.set3 {k : IntKind} {w : World} {A : Option Addr} {l : List Int} {z : Nat} (h : LA k w A l) (hA : 0 < l.length → ∀ a, A = some a → a.block ≠ z) (u0 u1 u2 : Value) :
    LA k (((w.setCell ⟨z, 0, none⟩ u0).setCell ⟨z, 1, none⟩ u1).setCell ⟨z, 2, none⟩ u2) A l := fun hn => by
  obtain ⟨b, off, rfl, hb, hc⟩ := h hn
  have hne : b ≠ z := hA hn _ rfl
  refine ⟨b, off, rfl, by simpa using hb, fun i hi => ?_⟩
  rw [World.cell?_setCell_other _ _ _ _ (by intro h1; injection h1 with h2 _; exact hne h2.symm), World.cell?_setCell_other _ _ _ _ (by intro h1; injection h1 with h2 _; exact hne h2.symm), World.cell?_setCell_other _ _ _ _ (by intro h1; injection h1 with h2 _; exact hne h2.symm)]
  exact hc i hi
/-- What with leaves. -/
def WithP (w : World) (init labels : List Int) (R : Value) (e : Ending) (w' : World) : Prop := ∃ A1 c1 A3 c3, e = .returned (.agg #[.slice A1 init.length c1, R, .slice A3 labels.length c3]) ∧ (init.length ≤ c1 ∧ c1 ≤ maxLen ∧ LA .i64 w' A1 init) ∧ (labels.length ≤ c3 ∧ c3 ≤ maxLen ∧ LA .u64 w' A3 labels) ∧ Below w.heap.size w w' ∧ (∀ a, A1 = some a → w.heap.size ≤ a.block) ∧ ∀ a, A3 = some a → w.heap.size ≤ a.block

set_option maxRecDepth 20000 in
set_option maxHeartbeats 4000000 in
theorem with_any (A1 A2 A3 : Option Addr) (c1 n2 c2 c3 n1 n3 : Nat) (init labels : List Int) (AR : Option Addr) (nR cR : Nat) (w : World) (h1 : n1 = init.length) (h3 : n3 = labels.length) (ha1 : LA .i64 w A1 init) (ha3 : LA .u64 w A3 labels) (hl1 : init.length ≤ 1000000) (hl3 : labels.length ≤ 1000000) :
    Calls Try.prog 60 #[.agg #[.slice A1 n1 c1, .slice A2 n2 c2, .slice A3 n3 c3], .slice AR nR cR] w (WithP w init labels (.slice AR nR cR)) := by
  have HM1 := Lib.hid h1
  have HM3 := Lib.hid h3
  have HL1 := Lib.hid hl1
  have HL3 := Lib.hid hl3
  have HI1 := Lib.hid ha1
  have HI3 := Lib.hid ha3
  clear h1 h3 ha1 ha3 hl1 hl3
  go_enter Try.func60, Try.ntmps60
  go_upto_region 1 with (fail)
  obtain ⟨w2, HW2⟩ : ∃ w2, w2 = (w.alloc (.cells #[.slice A1 n1 c1, .slice A2 n2 c2, .slice A3 n3 c3] 26)).alloc (.cells #[.slice none 0 0, .slice none 0 0, .slice none 0 0] 26) := ⟨_, rfl⟩
  have HB2 : Hid (Below w.heap.size w w2) := Lib.hid (by rw [HW2]; exact ((Below.refl _ _).alloc (Nat.le_refl _) _).alloc (by simp) _)
  have HLT : Hid (w.heap.size < w2.heap.size) := Lib.hid (by rw [HW2]; simp; omega)
  have HV : Hid (∀ W : World, W.heap[w.heap.size]? = w2.heap[w.heap.size]? → W.cell? ⟨w.heap.size, 0, none⟩ = some (.slice A1 n1 c1) ∧ W.cell? ⟨w.heap.size, 2, none⟩ = some (.slice A3 n3 c3)) := Lib.hid (fun W hW => by
    obtain ⟨q0, _, q2⟩ := box3 w (.slice A1 n1 c1) (.slice A2 n2 c2) (.slice A3 n3 c3) 26
    have e : W.heap[w.heap.size]? = (w.alloc (.cells #[.slice A1 n1 c1, .slice A2 n2 c2, .slice A3 n3 c3] 26)).heap[w.heap.size]? := hW.trans (by rw [HW2]; exact Below.heap_alloc _ _ _ (by simp))
    exact ⟨(World.cell?_of_block (a := ⟨w.heap.size, 0, none⟩) e).trans q0, (World.cell?_of_block (a := ⟨w.heap.size, 2, none⟩) e).trans q2⟩)
  have HRZ : Hid (RZ3 w2 (w.heap.size + 1)) := Lib.hid (by rw [HW2]; exact ⟨World.cell?_alloc_at _ _ _ _ (by simp), World.cell?_alloc_at _ _ _ _ (by simp), World.cell?_alloc_at _ _ _ _ (by simp), by simp, fun i => World.frozen?_alloc_at _ _ _ _ (by simp)⟩)
  rw [← HW2]
  have HKEEP : Hid (Below w2.heap.size w2 w2.drew) := Lib.hid (Below.refl _ _).drew
  have HA1 : Hid (∀ W, Below w2.heap.size w2 W → LA .i64 W A1 init) := Lib.hid (fun W h => LA.below HI1.out (HB2.out.trans (h.mono HB2.out.size)))
  have HA3 : Hid (∀ W, Below w2.heap.size w2 W → LA .u64 W A3 labels) := Lib.hid (fun W h => LA.below HI3.out (HB2.out.trans (h.mono HB2.out.size)))
  clear HW2
  refine wp_region_held_drew (S := (fun w' => w'.cell? ⟨w.heap.size, 0, none⟩ = some (.slice A1 n1 c1) ∧ w'.cell? ⟨w.heap.size, 2, none⟩ = some (.slice A3 n3 c3))) (by kernel_rfl) (HV.out _ rfl) ?_
  intro hS0
  have HS0 := Lib.hid hS0
  clear hS0
  simp only [Array.replicate, List.replicate]
  refine wpAnyH_take (i := 0) (oi := ⟨some 5, _, _, _, _, _⟩) (v := .pointer (some ⟨w.heap.size, 0, none⟩)) rfl (by kernel_rfl) (by kernel_rfl) (by kernel_rfl) (fun _ _ _ h => h) (Or.inl ⟨by kernel_rfl, fun w9 hS => ?_⟩) HS0.out ?_
  · obtain ⟨s1, s2⟩ := hS
    go_simp
  try simp only [Act.put, List.setIfInBounds_toArray, List.set_cons_zero, List.set_cons_succ]
  refine wpAnyH_take (i := 1) (oi := ⟨some 6, _, _, _, _, _⟩) (v := .slice A1 n1 c1) rfl (by kernel_rfl) (by kernel_rfl) (by kernel_rfl) (fun _ _ _ h => h) (Or.inl ⟨by kernel_rfl, fun w9 hS => ?_⟩) HS0.out ?_
  · obtain ⟨s1, s2⟩ := hS
    go_simp
  try simp only [Act.put, List.setIfInBounds_toArray, List.set_cons_zero, List.set_cons_succ]
  refine wpAnyH_take (i := 3) (oi := ⟨some 8, _, _, _, _, _⟩) (v := .slice AR nR cR) rfl (by kernel_rfl) (by kernel_rfl) (by kernel_rfl) (fun _ _ _ h => h) (Or.inl ⟨by kernel_rfl, fun w9 hS => ?_⟩) HS0.out ?_
  · obtain ⟨s1, s2⟩ := hS
    go_simp
  try simp only [Act.put, List.setIfInBounds_toArray, List.set_cons_zero, List.set_cons_succ]
  refine wpAnyH_take (i := 4) (oi := ⟨some 9, _, _, _, _, _⟩) (v := .pointer (some ⟨w.heap.size, 2, none⟩)) rfl (by kernel_rfl) (by kernel_rfl) (by kernel_rfl) (fun _ _ _ h => h) (Or.inl ⟨by kernel_rfl, fun w9 hS => ?_⟩) HS0.out ?_
  · obtain ⟨s1, s2⟩ := hS
    go_simp
  try simp only [Act.put, List.setIfInBounds_toArray, List.set_cons_zero, List.set_cons_succ]
  refine wpAnyH_take (i := 5) (oi := ⟨some 10, _, _, _, _, _⟩) (v := .slice A3 n3 c3) rfl (by kernel_rfl) (by kernel_rfl) (by kernel_rfl) (fun _ _ _ h => h) (Or.inl ⟨by kernel_rfl, fun w9 hS => ?_⟩) HS0.out ?_
  · obtain ⟨s1, s2⟩ := hS
    go_simp
  try simp only [Act.put, List.setIfInBounds_toArray, List.set_cons_zero, List.set_cons_succ]
  refine wpAnyH_ready (rs := [2]) (by kernel_rfl) (by simp) ?_
  refine AllReadyH.cons (o := ⟨some 7, _, _, _, _, _⟩) rfl (fun K hK => ?_) AllReadyH.nil
  rw [if_pos (by kernel_rfl)]
  go_simp
  go_at_call 79
  refine (cloneInts_any A1 c1 n1 init _ HM1.out (HA1.out _ HKEEP.out) HL1.out).mono ?_
  rintro e v3 ⟨D1, d1, rfl, hd1, he1, hf1, hb3, hg1⟩
  rw [← HM1.out]
  rw [← HM1.out] at hd1
  have HN1 : Hid (∀ a, D1 = some a → w.heap.size ≤ a.block) := Lib.hid (fun a e => by have := hg1 a e; have := HKEEP.out.size; have := HB2.out.size; omega)
  have HG1 : Hid (∀ a, D1 = some a → a.block ≠ w.heap.size + 1) := Lib.hid (fun a e => by have := hg1 a e; have := HKEEP.out.size; have := HRZ.out.2.2.2.1; omega)
  have HKEEP : Hid (Below w2.heap.size w2 v3) := Lib.hid (HKEEP.out.trans (hb3.mono HKEEP.out.size))
  have HF1 := Lib.hid hf1
  have HD1 := Lib.hid (And.intro hd1 he1)
  clear hb3 hf1 hd1 he1 hg1
  have HS1 : Hid _ := Lib.hid (HV.out v3 (HKEEP.out.block _ HLT.out))
  refine hK.out _ _ HS1.out (fun _ => ?_)
  clear hK K
  try simp only [Act.put, List.setIfInBounds_toArray, List.set_cons_zero, List.set_cons_succ]
  refine wpAnyH_ready (rs := [6]) (by kernel_rfl) (by simp) ?_
  refine AllReadyH.cons (o := ⟨some 11, _, _, _, _, _⟩) rfl (fun K hK => ?_) AllReadyH.nil
  rw [if_pos (by kernel_rfl)]
  go_simp
  go_at_call 80
  refine (cloneWords_any A3 c3 n3 labels _ HM3.out (HA3.out _ HKEEP.out) HL3.out).mono ?_
  rintro e v4 ⟨D3, d3, rfl, hd3, he3, hf3, hb4, hg3⟩
  rw [← HM3.out]
  rw [← HM3.out] at hd3
  have HN3 : Hid (∀ a, D3 = some a → w.heap.size ≤ a.block) := Lib.hid (fun a e => by have := hg3 a e; have := HKEEP.out.size; have := HB2.out.size; omega)
  have HG3 : Hid (∀ a, D3 = some a → a.block ≠ w.heap.size + 1) := Lib.hid (fun a e => by have := hg3 a e; have := HKEEP.out.size; have := HRZ.out.2.2.2.1; omega)
  have HKEEP : Hid (Below w2.heap.size w2 v4) := Lib.hid (HKEEP.out.trans (hb4.mono HKEEP.out.size))
  have HF3 := Lib.hid hf3
  have HD3 := Lib.hid (And.intro hd3 he3)
  have HF1 := Lib.hid (LA.below HF1.out hb4)
  clear hb4 hf3 hd3 he3 hg3
  have HS2 : Hid _ := Lib.hid (HV.out v4 (HKEEP.out.block _ HLT.out))
  refine hK.out _ _ HS2.out (fun _ => ?_)
  clear hK K
  try simp only [Act.put, List.setIfInBounds_toArray, List.set_cons_zero, List.set_cons_succ]
  have HZZ := Lib.hid (HRZ.out.below HKEEP.out)
  have z0 := HZZ.out.1
  have z1 := HZZ.out.2.1
  have z2 := HZZ.out.2.2.1
  have f0 := HZZ.out.2.2.2.2 0
  have f1 := HZZ.out.2.2.2.2 1
  have f2 := HZZ.out.2.2.2.2 2
  have HFIN : Hid (Below w.heap.size w v4) := Lib.hid (HB2.out.trans (HKEEP.out.mono HB2.out.size))
  refine wpAnyH_take (i := 7) (oi := ⟨some 12, _, _, _, _, _⟩) (v := .agg #[.slice D1 n1 d1, (.slice AR nR cR), .slice D3 n3 d3]) rfl (by kernel_rfl) (by kernel_rfl) (by kernel_rfl) (fun _ _ _ h => h) (Or.inl ⟨by kernel_rfl, fun w9 hS => ?_⟩) HS2.out ?_
  · obtain ⟨s1, s2⟩ := hS
    go_simp
  try simp only [Act.put, List.setIfInBounds_toArray, List.set_cons_zero, List.set_cons_succ]
  refine wpAnyH_ready (rs := [8]) (by kernel_rfl) (by simp) ?_
  refine AllReadyH.cons (o := ⟨none, _, _, _, _, _⟩) rfl (fun K hK => ?_) AllReadyH.nil
  go_simp
  refine hK.out _ _ (HV.out _ ((Below.heap_setCell _ ⟨w.heap.size + 1, 2, none⟩ _ _ (by simp)).trans ((Below.heap_setCell _ ⟨w.heap.size + 1, 1, none⟩ _ _ (by simp)).trans ((Below.heap_setCell _ ⟨w.heap.size + 1, 0, none⟩ _ _ (by simp)).trans (HKEEP.out.block _ HLT.out))))) (fun _ => ?_)
  clear hK K
  try simp only [Act.put, List.setIfInBounds_toArray, List.set_cons_zero, List.set_cons_succ]
  refine wpAnyH_done (by kernel_rfl) ?_ _
  have HX1 : Hid (LA .i64 v4 D1 init) := HF1
  have HX3 : Hid (LA .u64 v4 D3 labels) := HF3
  have q1 : Hid (D1 = D1) := Lib.hid rfl
  go_wp2
  (try simp only [Exit.inBlock, Exit.then])
  refine bodyPost_ret (v := .agg #[.slice D1 n1 d1, (.slice AR nR cR), .slice D3 n3 d3]) ?_ rfl ⟨D1, d1, D3, d3, by rw [← HM1.out, ← HM3.out], ⟨by rw [← HM1.out]; exact HD1.out.1, HD1.out.2, LA.set3 HX1.out (fun _ => HG1.out) _ _ _⟩, ⟨by rw [← HM3.out]; exact HD3.out.1, HD3.out.2, LA.set3 HX3.out (fun _ => HG3.out) _ _ _⟩, ?_, HN1.out, HN3.out⟩
  · rw [results_cell rfl]; go_simp
  · exact ((HFIN.out.setCell (show w.heap.size ≤ (⟨w.heap.size + 1, 0, none⟩ : Addr).block from Nat.le_succ _) _).setCell (show w.heap.size ≤ (⟨w.heap.size + 1, 1, none⟩ : Addr).block from Nat.le_succ _) _).setCell (show w.heap.size ≤ (⟨w.heap.size + 1, 2, none⟩ : Addr).block from Nat.le_succ _) _
end Go.Proofs.Ytnfiohekdbjgoaa
