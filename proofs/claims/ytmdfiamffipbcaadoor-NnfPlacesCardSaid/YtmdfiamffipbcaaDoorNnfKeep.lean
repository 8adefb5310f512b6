/- The program's writer: keep. -/
import Derived.Test.YtmdfiamffipbcaaDoorNnfLead
namespace Go.Proofs.YtmdfiamffipbcaaDoor.nf
open Go.ChangeShapes Go.WideShapes Go.ChangeAt Go.RowKit Go.Deep sr lt

theorem cell_al {W : World} {b i : Nat} {v : Value} {o : Obj} (h : W.cell? ⟨b, i, none⟩ = some v) (hb : b < W.heap.size) : (W.alloc o).cell? ⟨b, i, none⟩ = some v := ((below_one W o).cell (p := ⟨b, i, none⟩) hb).trans h
theorem cell_st {W : World} {b i : Nat} {a : Addr} {v u : Value} (h : W.cell? ⟨b, i, none⟩ = some v) (hne : a ≠ ⟨b, i, none⟩) : (W.setCell a u).cell? ⟨b, i, none⟩ = some v := (World.cell?_setCell_other _ _ _ _ hne).trans h
theorem blk_ne {b b2 : Nat} (i j : Nat) (h : b ≠ b2) : (⟨b, i, none⟩ : Addr) ≠ ⟨b2, j, none⟩ := fun e => by
  injection e with e _ _
  exact h e
theorem fiF_range (op : Int) (h : 0 ≤ op ∧ op < 13) : 0 ≤ fiF op ∧ fiF op < 13 := by
  obtain ⟨k, rfl⟩ : ∃ k : Nat, op = (k : Int) := ⟨op.toNat, by omega⟩
  have hk : k = 0 ∨ k = 1 ∨ k = 2 ∨ k = 3 ∨ k = 4 ∨ k = 5 ∨ k = 6 ∨ k = 7 ∨ k = 8 ∨ k = 9 ∨ k = 10 ∨ k = 11 ∨ k = 12 := by omega
  rcases hk with rfl | rfl | rfl | rfl | rfl | rfl | rfl | rfl | rfl | rfl | rfl | rfl | rfl <;> decide
set_option maxRecDepth 20000 in
set_option maxHeartbeats 8000000 in
theorem keep_any (F : Fx) (S : St) (vw vo : Value) (j : Nat) (w : World) (h : WrW F w S vw vo) (hj : j < F.m) (hop : 0 ≤ (F.e.getD j (0, 0)).1 ∧ (F.e.getD j (0, 0)).1 < 13) (hl : S.wt.length ≤ 80000) :
    Calls Tryd.prog 31 #[.pointer (some ⟨F.rb, 0, none⟩), .int .i64 (j : Int)] w (StepP F w (keepF F.e F.B S j)) := by
  have H := Lib.hid h
  have HL := Lib.hid hl
  have hm9 := h.mx
  obtain ⟨rb, HRB⟩ : ∃ rb, Hid (F.rb = rb) := ⟨_, Lib.hid rfl⟩
  rw [HRB.out]
  obtain ⟨ab, ao, hA, hab, hca⟩ := h.a (by have := h.ml; omega)
  obtain ⟨bb, bo, hB, hbb, hcb⟩ := h.b.at_ (i := j) (by have := h.bl; omega)
  have c0 := h.c.c0
  have c1 := h.c.c1
  have c2 := h.c.c2
  have c3 := h.c.c3
  have f3 := h.c.f 3
  rw [HRB.out] at c0 c1 c2 c3 f3
  rw [hA] at c0
  have a0 := (hca j (by have := h.ml; omega)).1
  obtain ⟨x, HX⟩ : ∃ x, Hid (F.e.getD j (0, 0) = x) := ⟨_, Lib.hid rfl⟩
  rw [HX.out] at a0 hop
  obtain ⟨k, hk⟩ : ∃ k : Nat, x.1 = (k : Int) := ⟨x.1.toNat, by omega⟩
  have HK := Lib.hid hk
  rw [hk] at a0
  have hk13 : k < 13 := by omega
  have t2 := (h.fm k hk13).2.2
  obtain ⟨fi, HFI⟩ : ∃ fi, Hid (fiF x.1 = fi) := ⟨_, Lib.hid rfl⟩
  have HFR : Hid (0 ≤ fi ∧ fi < 13) := Lib.hid (by rw [← HFI.out]; exact fiF_range _ hop)
  have hfi : (tabF.getD k (0, 0, 0)).2.2 = fi := by rw [← HFI.out, HK.out]; rfl
  rw [hfi] at t2
  have g2 := h.n.cell hj
  obtain ⟨ng, HNG⟩ : ∃ ng, Hid (S.ng.getD j false = ng) := ⟨_, Lib.hid rfl⟩
  rw [HNG.out] at g2
  obtain ⟨by_, HBY⟩ : ∃ b, Hid (F.B.getD j 0 = b) := ⟨_, Lib.hid rfl⟩
  rw [HBY.out] at hcb
  obtain ⟨A, c, q, rfl⟩ := or_form encC_len h.wt
  have hbbl : bb < F.B0 := by
    have h2 : ¬ (bb = F.rb ∨ bb = F.nb ∨ F.B0 ≤ bb) := h.nbb _ hB
    omega
  have HBBL := Lib.hid hbbl
  have HRBB : Hid (rb ≠ bb) := Lib.hid (by
    have h2 : ¬ (bb = F.rb ∨ bb = F.nb ∨ F.B0 ≤ bb) := h.nbb _ hB
    rw [← HRB.out]
    omega)
  obtain ⟨nb, HNB⟩ : ∃ nb, Hid (F.nb = nb) := ⟨_, Lib.hid rfl⟩
  have HNBL : Hid (nb < F.B0) := Lib.hid (by rw [← HNB.out]; exact h.nlt)
  have HRNB : Hid (rb ≠ nb) := Lib.hid (by rw [← HRB.out, ← HNB.out]; exact h.rn)
  rw [HNB.out] at c2 g2
  generalize F.m = m at *
  generalize F.d = d at *
  generalize F.c = cc at *
  have hjm : (j : Int) < (m : Int) := by omega
  rw [hB] at c1
  clear h hl hA hB hca hop hk hfi hbbl
  go_enter Tryd.func31, Tryd.ntmps31
  by_cases h0 : fi = 0
  · have HE : Hid (keepF F.e F.B S j = S) := Lib.hid (by unfold keepF; rw [HX.out, HFI.out, if_neg (fun q => q h0)])
    subst h0
    go_wp2
    go_end0
    exact ⟨rfl, by rw [HE.out]; exact ⟨_, _, H.out⟩, Wt.refl _ _ _ _⟩
  · have h0b : (fi != 0) = true := by simpa using h0
    have HE : Hid (keepF F.e F.B S j = ⟨S.ng, S.wt ++ [(sgF fi ng, by_)], S.w⟩) := Lib.hid (by unfold keepF; rw [HX.out, HFI.out, if_pos h0, HNG.out, HBY.out])
    have h0n : ¬ fi = 0 := h0
    go_upto_region 2 with (fail)
    have hrl : rb < w.heap.size := by rw [← HRB.out]; exact H.out.c.lt
    have hnl : nb < w.heap.size := by rw [← HNB.out]; exact H.out.n.lt
    have HRL : Hid (rb < F.B0) := Lib.hid (by rw [← HRB.out]; exact H.out.rl)
    refine wp_region_held_drew (S := (fun w' => w'.cell? ⟨rb, 1, none⟩ = some (.slice (some ⟨bb, bo, none⟩) m d) ∧ w'.cell? ⟨bb, bo + j, none⟩ = some (.int .i64 by_) ∧ w'.cell? ⟨rb, 2, none⟩ = some (.slice (some ⟨nb, 0, none⟩) m m) ∧ w'.cell? ⟨nb, j, none⟩ = some (.bool ng))) (by kernel_rfl) ⟨c1, hcb, c2, g2⟩ (fun hS0 => ?_)
    have HS0 := Lib.hid hS0
    clear hS0
    simp only [Array.replicate, List.replicate]
    refine wpAnyH_take (i := 0) (oi := ⟨some 18, _, _, _, _, _⟩) (v := .pointer (some ⟨rb, 0, none⟩)) rfl (by kernel_rfl) (by kernel_rfl) (by kernel_rfl) (fun _ _ _ h => h) (Or.inl ⟨by kernel_rfl, fun w9 hS => ?_⟩) HS0.out ?_
    · clear hS
      go_simp
    try simp only [Act.put, List.setIfInBounds_toArray, List.set_cons_zero, List.set_cons_succ]
    refine wpAnyH_take (i := 1) (oi := ⟨some 19, _, _, _, _, _⟩) (v := .pointer (some ⟨rb, 0, none⟩)) rfl (by kernel_rfl) (by kernel_rfl) (by kernel_rfl) (fun _ _ _ h => h) (Or.inl ⟨by kernel_rfl, fun w9 hS => ?_⟩) HS0.out ?_
    · clear hS
      go_simp
    try simp only [Act.put, List.setIfInBounds_toArray, List.set_cons_zero, List.set_cons_succ]
    refine wpAnyH_take (i := 2) (oi := ⟨some 20, _, _, _, _, _⟩) (v := .pointer (some ⟨rb, 0, none⟩)) rfl (by kernel_rfl) (by kernel_rfl) (by kernel_rfl) (fun _ _ _ h => h) (Or.inl ⟨by kernel_rfl, fun w9 hS => ?_⟩) HS0.out ?_
    · clear hS
      go_simp
    try simp only [Act.put, List.setIfInBounds_toArray, List.set_cons_zero, List.set_cons_succ]
    refine wpAnyH_take (i := 3) (oi := ⟨some 21, _, _, _, _, _⟩) (v := .pointer (some ⟨rb, 3, none⟩)) rfl (by kernel_rfl) (by kernel_rfl) (by kernel_rfl) (fun _ _ _ h => h) (Or.inl ⟨by kernel_rfl, fun w9 hS => ?_⟩) HS0.out ?_
    · clear hS
      go_simp
    try simp only [Act.put, List.setIfInBounds_toArray, List.set_cons_zero, List.set_cons_succ]
    refine wpAnyH_take (i := 5) (oi := ⟨some 23, _, _, _, _, _⟩) (v := .int .i64 fi) rfl (by kernel_rfl) (by kernel_rfl) (by kernel_rfl) (fun _ _ _ h => h) (Or.inl ⟨by kernel_rfl, fun w9 hS => ?_⟩) HS0.out ?_
    · clear hS
      go_simp
    try simp only [Act.put, List.setIfInBounds_toArray, List.set_cons_zero, List.set_cons_succ]
    refine wpAnyH_take (i := 6) (oi := ⟨some 24, _, _, _, _, _⟩) (v := .pointer (some ⟨rb, 0, none⟩)) rfl (by kernel_rfl) (by kernel_rfl) (by kernel_rfl) (fun _ _ _ h => h) (Or.inl ⟨by kernel_rfl, fun w9 hS => ?_⟩) HS0.out ?_
    · clear hS
      go_simp
    try simp only [Act.put, List.setIfInBounds_toArray, List.set_cons_zero, List.set_cons_succ]
    refine wpAnyH_take (i := 7) (oi := ⟨some 25, _, _, _, _, _⟩) (v := .pointer (some ⟨rb, 0, none⟩)) rfl (by kernel_rfl) (by kernel_rfl) (by kernel_rfl) (fun _ _ _ h => h) (Or.inl ⟨by kernel_rfl, fun w9 hS => ?_⟩) HS0.out ?_
    · clear hS
      go_simp
    try simp only [Act.put, List.setIfInBounds_toArray, List.set_cons_zero, List.set_cons_succ]
    refine wpAnyH_take (i := 8) (oi := ⟨some 26, _, _, _, _, _⟩) (v := .pointer (some ⟨rb, 2, none⟩)) rfl (by kernel_rfl) (by kernel_rfl) (by kernel_rfl) (fun _ _ _ h => h) (Or.inl ⟨by kernel_rfl, fun w9 hS => ?_⟩) HS0.out ?_
    · clear hS
      go_simp
    try simp only [Act.put, List.setIfInBounds_toArray, List.set_cons_zero, List.set_cons_succ]
    refine wpAnyH_take (i := 9) (oi := ⟨some 27, _, _, _, _, _⟩) (v := .slice (some ⟨nb, 0, none⟩) m m) rfl (by kernel_rfl) (by kernel_rfl) (by kernel_rfl) (fun _ _ _ h => h) (Or.inl ⟨by kernel_rfl, fun w9 hS => ?_⟩) HS0.out ?_
    · obtain ⟨s0, s1, s2, s3⟩ := hS
      go_simp
    try simp only [Act.put, List.setIfInBounds_toArray, List.set_cons_zero, List.set_cons_succ]
    refine wpAnyH_take (i := 10) (oi := ⟨some 28, _, _, _, _, _⟩) (v := .int .i64 (j : Int)) rfl (by kernel_rfl) (by kernel_rfl) (by kernel_rfl) (fun _ _ _ h => h) (Or.inl ⟨by kernel_rfl, fun w9 hS => ?_⟩) HS0.out ?_
    · clear hS
      go_simp
    try simp only [Act.put, List.setIfInBounds_toArray, List.set_cons_zero, List.set_cons_succ]
    refine wpAnyH_take (i := 11) (oi := ⟨some 29, _, _, _, _, _⟩) (v := .pointer (some ⟨nb, j, none⟩)) rfl (by kernel_rfl) (by kernel_rfl) (by kernel_rfl) (fun _ _ _ h => h) (Or.inl ⟨by kernel_rfl, fun w9 hS => ?_⟩) HS0.out ?_
    · clear hS
      go_simp
    try simp only [Act.put, List.setIfInBounds_toArray, List.set_cons_zero, List.set_cons_succ]
    refine wpAnyH_take (i := 12) (oi := ⟨some 30, _, _, _, _, _⟩) (v := .bool ng) rfl (by kernel_rfl) (by kernel_rfl) (by kernel_rfl) (fun _ _ _ h => h) (Or.inl ⟨by kernel_rfl, fun w9 hS => ?_⟩) HS0.out ?_
    · obtain ⟨s0, s1, s2, s3⟩ := hS
      go_simp
    try simp only [Act.put, List.setIfInBounds_toArray, List.set_cons_zero, List.set_cons_succ]
    refine wpAnyH_take (i := 14) (oi := ⟨some 32, _, _, _, _, _⟩) (v := .pointer (some ⟨rb, 0, none⟩)) rfl (by kernel_rfl) (by kernel_rfl) (by kernel_rfl) (fun _ _ _ h => h) (Or.inl ⟨by kernel_rfl, fun w9 hS => ?_⟩) HS0.out ?_
    · clear hS
      go_simp
    try simp only [Act.put, List.setIfInBounds_toArray, List.set_cons_zero, List.set_cons_succ]
    refine wpAnyH_take (i := 15) (oi := ⟨some 33, _, _, _, _, _⟩) (v := .pointer (some ⟨rb, 0, none⟩)) rfl (by kernel_rfl) (by kernel_rfl) (by kernel_rfl) (fun _ _ _ h => h) (Or.inl ⟨by kernel_rfl, fun w9 hS => ?_⟩) HS0.out ?_
    · clear hS
      go_simp
    try simp only [Act.put, List.setIfInBounds_toArray, List.set_cons_zero, List.set_cons_succ]
    refine wpAnyH_take (i := 16) (oi := ⟨some 34, _, _, _, _, _⟩) (v := .pointer (some ⟨rb, 1, none⟩)) rfl (by kernel_rfl) (by kernel_rfl) (by kernel_rfl) (fun _ _ _ h => h) (Or.inl ⟨by kernel_rfl, fun w9 hS => ?_⟩) HS0.out ?_
    · clear hS
      go_simp
    try simp only [Act.put, List.setIfInBounds_toArray, List.set_cons_zero, List.set_cons_succ]
    refine wpAnyH_take (i := 17) (oi := ⟨some 35, _, _, _, _, _⟩) (v := .slice (some ⟨bb, bo, none⟩) m d) rfl (by kernel_rfl) (by kernel_rfl) (by kernel_rfl) (fun _ _ _ h => h) (Or.inl ⟨by kernel_rfl, fun w9 hS => ?_⟩) HS0.out ?_
    · obtain ⟨s0, s1, s2, s3⟩ := hS
      go_simp
    try simp only [Act.put, List.setIfInBounds_toArray, List.set_cons_zero, List.set_cons_succ]
    refine wpAnyH_take (i := 18) (oi := ⟨some 36, _, _, _, _, _⟩) (v := .int .i64 (j : Int)) rfl (by kernel_rfl) (by kernel_rfl) (by kernel_rfl) (fun _ _ _ h => h) (Or.inl ⟨by kernel_rfl, fun w9 hS => ?_⟩) HS0.out ?_
    · clear hS
      go_simp
    try simp only [Act.put, List.setIfInBounds_toArray, List.set_cons_zero, List.set_cons_succ]
    refine wpAnyH_take (i := 19) (oi := ⟨some 37, _, _, _, _, _⟩) (v := .pointer (some ⟨bb, bo + j, none⟩)) rfl (by kernel_rfl) (by kernel_rfl) (by kernel_rfl) (fun _ _ _ h => h) (Or.inl ⟨by kernel_rfl, fun w9 hS => ?_⟩) HS0.out ?_
    · clear hS
      go_simp
    try simp only [Act.put, List.setIfInBounds_toArray, List.set_cons_zero, List.set_cons_succ]
    refine wpAnyH_take (i := 20) (oi := ⟨some 38, _, _, _, _, _⟩) (v := .int .i64 by_) rfl (by kernel_rfl) (by kernel_rfl) (by kernel_rfl) (fun _ _ _ h => h) (Or.inl ⟨by kernel_rfl, fun w9 hS => ?_⟩) HS0.out ?_
    · obtain ⟨s0, s1, s2, s3⟩ := hS
      go_simp
    try simp only [Act.put, List.setIfInBounds_toArray, List.set_cons_zero, List.set_cons_succ]
    refine wpAnyH_ready (rs := [4, 13]) (by kernel_rfl) (by simp) ?_
    refine AllReadyH.cons (o := ⟨some 22, _, _, _, _, _⟩) rfl (fun K hK => ?_) (AllReadyH.cons (o := ⟨some 31, _, _, _, _, _⟩) rfl (fun K hK => ?_) AllReadyH.nil)
    · rw [if_pos (by kernel_rfl)]
      go_simp
      refine hK.out _ _ HS0.out (fun _ => ?_)
      clear hK K
      try simp only [Act.put, List.setIfInBounds_toArray, List.set_cons_zero, List.set_cons_succ]
      refine wpAnyH_ready (rs := [13]) (by kernel_rfl) (by simp) ?_
      refine AllReadyH.cons (o := ⟨some 31, _, _, _, _, _⟩) rfl (fun K hK => ?_) AllReadyH.nil
      rw [if_pos (by kernel_rfl)]
      go_simp
      go_at_call 44
      refine (sign_any fi ng _ HFR.out (by exact H.out.fm)).mono ?_
      rintro e w5 ⟨rfl, hb5⟩
      have HB5 : Hid (Below w.heap.size w w5) := Lib.hid (((Below.refl _ w).drew).trans hb5)
      have HW5 := Lib.hid (H.out.below HB5.out)
      have hrl5 := Nat.lt_of_lt_of_le hrl HB5.out.size
      have hnl5 := Nat.lt_of_lt_of_le hnl HB5.out.size
      have hbb5 := Nat.lt_of_lt_of_le hbb HB5.out.size
      have HS5 := Lib.hid (And.intro ((HB5.out.cell (p := ⟨rb, 1, none⟩) hrl).trans c1) (And.intro ((HB5.out.cell (p := ⟨bb, bo + j, none⟩) hbb).trans hcb) (And.intro ((HB5.out.cell (p := ⟨rb, 2, none⟩) hrl).trans c2) ((HB5.out.cell (p := ⟨nb, j, none⟩) hnl).trans g2))))
      have c3b := (HB5.out.cell (p := ⟨rb, 3, none⟩) hrl).trans c3
      refine hK.out _ _ HS5.out (fun _ => ?_)
      clear hK K
      try simp only [Act.put, List.setIfInBounds_toArray, List.set_cons_zero, List.set_cons_succ]
      refine wpAnyH_take (i := 21) (oi := ⟨some 39, _, _, _, _, _⟩) (v := .agg #[.int .i64 (sgF fi ng), .int .i64 0, .int .i64 by_]) rfl (by kernel_rfl) (by kernel_rfl) (by kernel_rfl) (fun _ _ _ h => h) (Or.inl ⟨by kernel_rfl, fun w9 hS => ?_⟩) HS5.out ?_
      · clear hS
        go_simp
      try simp only [Act.put, List.setIfInBounds_toArray, List.set_cons_zero, List.set_cons_succ]
      refine wpAnyH_ready (rs := [22]) (by kernel_rfl) (by simp) ?_
      refine AllReadyH.cons (o := ⟨some 40, _, _, _, _, _⟩) rfl (fun K hK => ?_) AllReadyH.nil
      rw [if_pos (by kernel_rfl)]
      go_simp
      have HSA := Lib.hid (And.intro (cell_al (o := .cells #[.int .i64 (sgF fi ng), .int .i64 0, .int .i64 by_] 75) HS5.out.1 hrl5) (And.intro (cell_al (o := .cells #[.int .i64 (sgF fi ng), .int .i64 0, .int .i64 by_] 75) HS5.out.2.1 hbb5) (And.intro (cell_al (o := .cells #[.int .i64 (sgF fi ng), .int .i64 0, .int .i64 by_] 75) HS5.out.2.2.1 hrl5) (cell_al (o := .cells #[.int .i64 (sgF fi ng), .int .i64 0, .int .i64 by_] 75) HS5.out.2.2.2 hnl5))))
      have c3a := cell_al (o := .cells #[.int .i64 (sgF fi ng), .int .i64 0, .int .i64 by_] 75) c3b hrl5
      refine hK.out _ _ HSA.out (fun _ => ?_)
      clear hK K
      try simp only [Act.put, List.setIfInBounds_toArray, List.set_cons_zero, List.set_cons_succ]
      refine wpAnyH_ready (rs := [23]) (by kernel_rfl) (by simp) ?_
      refine AllReadyH.cons (o := ⟨some 41, _, _, _, _, _⟩) rfl (fun K hK => ?_) AllReadyH.nil
      refine step_append_own encC_len encC_one Tryd.underlying48 infoC rfl (by decide) (by decide) F.B0 _ (by rfl) (.tmp 22) (.tmp 40) (by rfl) (by rfl) _ S.wt (by rfl) (OR.below HW5.out.wt (below_one _ _)) (sgF fi ng, by_) _ (by rfl) (by rfl) (by have := HL.out; omega) (by have := HW5.out.sz; simp; omega) _ (World.alloc_heap_new _ _) ?_
      intro v6 w6 ho6 hb6 hg6
      obtain ⟨A6, c6, q6, rfl⟩ := or_form encC_len ho6
      have HR6 := Lib.hid (WrW.grownW HW5.out (below_one _ _) hg6 ho6)
      have HBL : Hid (∀ b, b < F.B0 → w6.heap[b]? = (w5.alloc (.cells #[.int .i64 (sgF fi ng), .int .i64 0, .int .i64 by_] 75)).heap[b]?) := Lib.hid (fun b hb => hg6.block b (Nat.lt_of_lt_of_le hb (by have := HW5.out.sz; simp; omega)) (fun e => by have h9 := (World.ownsRow.lt HW5.out.wt _ e.symm).1; omega))
      have HC6 : Hid (R5 w6 rb _ _ _ _ _) := Lib.hid (by rw [← HRB.out]; exact (HW5.out.below (below_one _ _)).c.block (HBL.out _ H.out.rl) hg6.size)
      have k4 := HC6.out.c3
      have k5 := HC6.out.f 3
      have HS6 := Lib.hid (And.intro ((World.cell?_of_block (a := ⟨rb, 1, none⟩) (HBL.out rb HRL.out)).trans HSA.out.1) (And.intro ((World.cell?_of_block (a := ⟨bb, bo + j, none⟩) (HBL.out bb HBBL.out)).trans HSA.out.2.1) (And.intro ((World.cell?_of_block (a := ⟨rb, 2, none⟩) (HBL.out rb HRL.out)).trans HSA.out.2.2.1) ((World.cell?_of_block (a := ⟨nb, j, none⟩) (HBL.out nb HNBL.out)).trans HSA.out.2.2.2))))
      refine hK.out _ _ HS6.out (fun _ => ?_)
      clear hK K ho6 hb6 hg6
      try simp only [Act.put, List.setIfInBounds_toArray, List.set_cons_zero, List.set_cons_succ]
      refine wpAnyH_take (i := 24) (oi := ⟨some 42, _, _, _, _, _⟩) (v := .pointer (some ⟨rb, 0, none⟩)) rfl (by kernel_rfl) (by kernel_rfl) (by kernel_rfl) (fun _ _ _ h => h) (Or.inl ⟨by kernel_rfl, fun w9 hS => ?_⟩) HS6.out ?_
      · clear hS
        go_simp
      try simp only [Act.put, List.setIfInBounds_toArray, List.set_cons_zero, List.set_cons_succ]
      refine wpAnyH_take (i := 25) (oi := ⟨some 43, _, _, _, _, _⟩) (v := .pointer (some ⟨rb, 3, none⟩)) rfl (by kernel_rfl) (by kernel_rfl) (by kernel_rfl) (fun _ _ _ h => h) (Or.inl ⟨by kernel_rfl, fun w9 hS => ?_⟩) HS6.out ?_
      · clear hS
        go_simp
      try simp only [Act.put, List.setIfInBounds_toArray, List.set_cons_zero, List.set_cons_succ]
      refine wpAnyH_ready (rs := [26]) (by kernel_rfl) (by simp) ?_
      refine AllReadyH.cons (o := ⟨none, _, _, _, _, _⟩) rfl (fun K hK => ?_) AllReadyH.nil
      rw [if_pos (by kernel_rfl)]
      go_simp
      have HS7 := Lib.hid (And.intro (cell_st (u := .slice A6 q6 c6) HS6.out.1 (r5_ne rb 3 1 (by decide))) (And.intro (cell_st (u := .slice A6 q6 c6) HS6.out.2.1 (blk_ne 3 (bo + j) HRBB.out)) (And.intro (cell_st (u := .slice A6 q6 c6) HS6.out.2.2.1 (r5_ne rb 3 2 (by decide))) (cell_st (u := .slice A6 q6 c6) HS6.out.2.2.2 (blk_ne 3 j HRNB.out)))))
      refine hK.out _ _ HS7.out (fun _ => ?_)
      clear hK K
      try simp only [Act.put, List.setIfInBounds_toArray, List.set_cons_zero, List.set_cons_succ]
      refine wpAnyH_done (by kernel_rfl) ?_ _
      go_wp2
      go_end0
      rw [HE.out, ← HRB.out]
      exact ⟨rfl, ⟨_, _, HR6.out.1⟩, (Wt.below HB5.out).trans HR6.out.2⟩
    · rw [if_pos (by kernel_rfl)]
      go_simp
      go_at_call 44
      refine (sign_any fi ng _ HFR.out (by exact H.out.fm)).mono ?_
      rintro e w5 ⟨rfl, hb5⟩
      have HB5 : Hid (Below w.heap.size w w5) := Lib.hid (((Below.refl _ w).drew).trans hb5)
      have HW5 := Lib.hid (H.out.below HB5.out)
      have hrl5 := Nat.lt_of_lt_of_le hrl HB5.out.size
      have hnl5 := Nat.lt_of_lt_of_le hnl HB5.out.size
      have hbb5 := Nat.lt_of_lt_of_le hbb HB5.out.size
      have HS5 := Lib.hid (And.intro ((HB5.out.cell (p := ⟨rb, 1, none⟩) hrl).trans c1) (And.intro ((HB5.out.cell (p := ⟨bb, bo + j, none⟩) hbb).trans hcb) (And.intro ((HB5.out.cell (p := ⟨rb, 2, none⟩) hrl).trans c2) ((HB5.out.cell (p := ⟨nb, j, none⟩) hnl).trans g2))))
      have c3b := (HB5.out.cell (p := ⟨rb, 3, none⟩) hrl).trans c3
      refine hK.out _ _ HS5.out (fun _ => ?_)
      clear hK K
      try simp only [Act.put, List.setIfInBounds_toArray, List.set_cons_zero, List.set_cons_succ]
      refine wpAnyH_take (i := 21) (oi := ⟨some 39, _, _, _, _, _⟩) (v := .agg #[.int .i64 (sgF fi ng), .int .i64 0, .int .i64 by_]) rfl (by kernel_rfl) (by kernel_rfl) (by kernel_rfl) (fun _ _ _ h => h) (Or.inl ⟨by kernel_rfl, fun w9 hS => ?_⟩) HS5.out ?_
      · clear hS
        go_simp
      try simp only [Act.put, List.setIfInBounds_toArray, List.set_cons_zero, List.set_cons_succ]
      refine wpAnyH_ready (rs := [4, 22]) (by kernel_rfl) (by simp) ?_
      refine AllReadyH.cons (o := ⟨some 22, _, _, _, _, _⟩) rfl (fun K hK => ?_) (AllReadyH.cons (o := ⟨some 40, _, _, _, _, _⟩) rfl (fun K hK => ?_) AllReadyH.nil)
      · rw [if_pos (by kernel_rfl)]
        go_simp
        refine hK.out _ _ HS5.out (fun _ => ?_)
        clear hK K
        try simp only [Act.put, List.setIfInBounds_toArray, List.set_cons_zero, List.set_cons_succ]
        refine wpAnyH_ready (rs := [22]) (by kernel_rfl) (by simp) ?_
        refine AllReadyH.cons (o := ⟨some 40, _, _, _, _, _⟩) rfl (fun K hK => ?_) AllReadyH.nil
        rw [if_pos (by kernel_rfl)]
        go_simp
        have HSA := Lib.hid (And.intro (cell_al (o := .cells #[.int .i64 (sgF fi ng), .int .i64 0, .int .i64 by_] 75) HS5.out.1 hrl5) (And.intro (cell_al (o := .cells #[.int .i64 (sgF fi ng), .int .i64 0, .int .i64 by_] 75) HS5.out.2.1 hbb5) (And.intro (cell_al (o := .cells #[.int .i64 (sgF fi ng), .int .i64 0, .int .i64 by_] 75) HS5.out.2.2.1 hrl5) (cell_al (o := .cells #[.int .i64 (sgF fi ng), .int .i64 0, .int .i64 by_] 75) HS5.out.2.2.2 hnl5))))
        have c3a := cell_al (o := .cells #[.int .i64 (sgF fi ng), .int .i64 0, .int .i64 by_] 75) c3b hrl5
        refine hK.out _ _ HSA.out (fun _ => ?_)
        clear hK K
        try simp only [Act.put, List.setIfInBounds_toArray, List.set_cons_zero, List.set_cons_succ]
        refine wpAnyH_ready (rs := [23]) (by kernel_rfl) (by simp) ?_
        refine AllReadyH.cons (o := ⟨some 41, _, _, _, _, _⟩) rfl (fun K hK => ?_) AllReadyH.nil
        refine step_append_own encC_len encC_one Tryd.underlying48 infoC rfl (by decide) (by decide) F.B0 _ (by rfl) (.tmp 22) (.tmp 40) (by rfl) (by rfl) _ S.wt (by rfl) (OR.below HW5.out.wt (below_one _ _)) (sgF fi ng, by_) _ (by rfl) (by rfl) (by have := HL.out; omega) (by have := HW5.out.sz; simp; omega) _ (World.alloc_heap_new _ _) ?_
        intro v6 w6 ho6 hb6 hg6
        obtain ⟨A6, c6, q6, rfl⟩ := or_form encC_len ho6
        have HR6 := Lib.hid (WrW.grownW HW5.out (below_one _ _) hg6 ho6)
        have HBL : Hid (∀ b, b < F.B0 → w6.heap[b]? = (w5.alloc (.cells #[.int .i64 (sgF fi ng), .int .i64 0, .int .i64 by_] 75)).heap[b]?) := Lib.hid (fun b hb => hg6.block b (Nat.lt_of_lt_of_le hb (by have := HW5.out.sz; simp; omega)) (fun e => by have h9 := (World.ownsRow.lt HW5.out.wt _ e.symm).1; omega))
        have HC6 : Hid (R5 w6 rb _ _ _ _ _) := Lib.hid (by rw [← HRB.out]; exact (HW5.out.below (below_one _ _)).c.block (HBL.out _ H.out.rl) hg6.size)
        have k4 := HC6.out.c3
        have k5 := HC6.out.f 3
        have HS6 := Lib.hid (And.intro ((World.cell?_of_block (a := ⟨rb, 1, none⟩) (HBL.out rb HRL.out)).trans HSA.out.1) (And.intro ((World.cell?_of_block (a := ⟨bb, bo + j, none⟩) (HBL.out bb HBBL.out)).trans HSA.out.2.1) (And.intro ((World.cell?_of_block (a := ⟨rb, 2, none⟩) (HBL.out rb HRL.out)).trans HSA.out.2.2.1) ((World.cell?_of_block (a := ⟨nb, j, none⟩) (HBL.out nb HNBL.out)).trans HSA.out.2.2.2))))
        refine hK.out _ _ HS6.out (fun _ => ?_)
        clear hK K ho6 hb6 hg6
        try simp only [Act.put, List.setIfInBounds_toArray, List.set_cons_zero, List.set_cons_succ]
        refine wpAnyH_take (i := 24) (oi := ⟨some 42, _, _, _, _, _⟩) (v := .pointer (some ⟨rb, 0, none⟩)) rfl (by kernel_rfl) (by kernel_rfl) (by kernel_rfl) (fun _ _ _ h => h) (Or.inl ⟨by kernel_rfl, fun w9 hS => ?_⟩) HS6.out ?_
        · clear hS
          go_simp
        try simp only [Act.put, List.setIfInBounds_toArray, List.set_cons_zero, List.set_cons_succ]
        refine wpAnyH_take (i := 25) (oi := ⟨some 43, _, _, _, _, _⟩) (v := .pointer (some ⟨rb, 3, none⟩)) rfl (by kernel_rfl) (by kernel_rfl) (by kernel_rfl) (fun _ _ _ h => h) (Or.inl ⟨by kernel_rfl, fun w9 hS => ?_⟩) HS6.out ?_
        · clear hS
          go_simp
        try simp only [Act.put, List.setIfInBounds_toArray, List.set_cons_zero, List.set_cons_succ]
        refine wpAnyH_ready (rs := [26]) (by kernel_rfl) (by simp) ?_
        refine AllReadyH.cons (o := ⟨none, _, _, _, _, _⟩) rfl (fun K hK => ?_) AllReadyH.nil
        rw [if_pos (by kernel_rfl)]
        go_simp
        have HS7 := Lib.hid (And.intro (cell_st (u := .slice A6 q6 c6) HS6.out.1 (r5_ne rb 3 1 (by decide))) (And.intro (cell_st (u := .slice A6 q6 c6) HS6.out.2.1 (blk_ne 3 (bo + j) HRBB.out)) (And.intro (cell_st (u := .slice A6 q6 c6) HS6.out.2.2.1 (r5_ne rb 3 2 (by decide))) (cell_st (u := .slice A6 q6 c6) HS6.out.2.2.2 (blk_ne 3 j HRNB.out)))))
        refine hK.out _ _ HS7.out (fun _ => ?_)
        clear hK K
        try simp only [Act.put, List.setIfInBounds_toArray, List.set_cons_zero, List.set_cons_succ]
        refine wpAnyH_done (by kernel_rfl) ?_ _
        go_wp2
        go_end0
        rw [HE.out, ← HRB.out]
        exact ⟨rfl, ⟨_, _, HR6.out.1⟩, (Wt.below HB5.out).trans HR6.out.2⟩
      · rw [if_pos (by kernel_rfl)]
        go_simp
        have HSA := Lib.hid (And.intro (cell_al (o := .cells #[.int .i64 (sgF fi ng), .int .i64 0, .int .i64 by_] 75) HS5.out.1 hrl5) (And.intro (cell_al (o := .cells #[.int .i64 (sgF fi ng), .int .i64 0, .int .i64 by_] 75) HS5.out.2.1 hbb5) (And.intro (cell_al (o := .cells #[.int .i64 (sgF fi ng), .int .i64 0, .int .i64 by_] 75) HS5.out.2.2.1 hrl5) (cell_al (o := .cells #[.int .i64 (sgF fi ng), .int .i64 0, .int .i64 by_] 75) HS5.out.2.2.2 hnl5))))
        have c3a := cell_al (o := .cells #[.int .i64 (sgF fi ng), .int .i64 0, .int .i64 by_] 75) c3b hrl5
        refine hK.out _ _ HSA.out (fun _ => ?_)
        clear hK K
        try simp only [Act.put, List.setIfInBounds_toArray, List.set_cons_zero, List.set_cons_succ]
        refine wpAnyH_ready (rs := [4]) (by kernel_rfl) (by simp) ?_
        refine AllReadyH.cons (o := ⟨some 22, _, _, _, _, _⟩) rfl (fun K hK => ?_) AllReadyH.nil
        rw [if_pos (by kernel_rfl)]
        go_simp
        refine hK.out _ _ HSA.out (fun _ => ?_)
        clear hK K
        try simp only [Act.put, List.setIfInBounds_toArray, List.set_cons_zero, List.set_cons_succ]
        refine wpAnyH_ready (rs := [23]) (by kernel_rfl) (by simp) ?_
        refine AllReadyH.cons (o := ⟨some 41, _, _, _, _, _⟩) rfl (fun K hK => ?_) AllReadyH.nil
        refine step_append_own encC_len encC_one Tryd.underlying48 infoC rfl (by decide) (by decide) F.B0 _ (by rfl) (.tmp 22) (.tmp 40) (by rfl) (by rfl) _ S.wt (by rfl) (OR.below HW5.out.wt (below_one _ _)) (sgF fi ng, by_) _ (by rfl) (by rfl) (by have := HL.out; omega) (by have := HW5.out.sz; simp; omega) _ (World.alloc_heap_new _ _) ?_
        intro v6 w6 ho6 hb6 hg6
        obtain ⟨A6, c6, q6, rfl⟩ := or_form encC_len ho6
        have HR6 := Lib.hid (WrW.grownW HW5.out (below_one _ _) hg6 ho6)
        have HBL : Hid (∀ b, b < F.B0 → w6.heap[b]? = (w5.alloc (.cells #[.int .i64 (sgF fi ng), .int .i64 0, .int .i64 by_] 75)).heap[b]?) := Lib.hid (fun b hb => hg6.block b (Nat.lt_of_lt_of_le hb (by have := HW5.out.sz; simp; omega)) (fun e => by have h9 := (World.ownsRow.lt HW5.out.wt _ e.symm).1; omega))
        have HC6 : Hid (R5 w6 rb _ _ _ _ _) := Lib.hid (by rw [← HRB.out]; exact (HW5.out.below (below_one _ _)).c.block (HBL.out _ H.out.rl) hg6.size)
        have k4 := HC6.out.c3
        have k5 := HC6.out.f 3
        have HS6 := Lib.hid (And.intro ((World.cell?_of_block (a := ⟨rb, 1, none⟩) (HBL.out rb HRL.out)).trans HSA.out.1) (And.intro ((World.cell?_of_block (a := ⟨bb, bo + j, none⟩) (HBL.out bb HBBL.out)).trans HSA.out.2.1) (And.intro ((World.cell?_of_block (a := ⟨rb, 2, none⟩) (HBL.out rb HRL.out)).trans HSA.out.2.2.1) ((World.cell?_of_block (a := ⟨nb, j, none⟩) (HBL.out nb HNBL.out)).trans HSA.out.2.2.2))))
        refine hK.out _ _ HS6.out (fun _ => ?_)
        clear hK K ho6 hb6 hg6
        try simp only [Act.put, List.setIfInBounds_toArray, List.set_cons_zero, List.set_cons_succ]
        refine wpAnyH_take (i := 24) (oi := ⟨some 42, _, _, _, _, _⟩) (v := .pointer (some ⟨rb, 0, none⟩)) rfl (by kernel_rfl) (by kernel_rfl) (by kernel_rfl) (fun _ _ _ h => h) (Or.inl ⟨by kernel_rfl, fun w9 hS => ?_⟩) HS6.out ?_
        · clear hS
          go_simp
        try simp only [Act.put, List.setIfInBounds_toArray, List.set_cons_zero, List.set_cons_succ]
        refine wpAnyH_take (i := 25) (oi := ⟨some 43, _, _, _, _, _⟩) (v := .pointer (some ⟨rb, 3, none⟩)) rfl (by kernel_rfl) (by kernel_rfl) (by kernel_rfl) (fun _ _ _ h => h) (Or.inl ⟨by kernel_rfl, fun w9 hS => ?_⟩) HS6.out ?_
        · clear hS
          go_simp
        try simp only [Act.put, List.setIfInBounds_toArray, List.set_cons_zero, List.set_cons_succ]
        refine wpAnyH_ready (rs := [26]) (by kernel_rfl) (by simp) ?_
        refine AllReadyH.cons (o := ⟨none, _, _, _, _, _⟩) rfl (fun K hK => ?_) AllReadyH.nil
        rw [if_pos (by kernel_rfl)]
        go_simp
        have HS7 := Lib.hid (And.intro (cell_st (u := .slice A6 q6 c6) HS6.out.1 (r5_ne rb 3 1 (by decide))) (And.intro (cell_st (u := .slice A6 q6 c6) HS6.out.2.1 (blk_ne 3 (bo + j) HRBB.out)) (And.intro (cell_st (u := .slice A6 q6 c6) HS6.out.2.2.1 (r5_ne rb 3 2 (by decide))) (cell_st (u := .slice A6 q6 c6) HS6.out.2.2.2 (blk_ne 3 j HRNB.out)))))
        refine hK.out _ _ HS7.out (fun _ => ?_)
        clear hK K
        try simp only [Act.put, List.setIfInBounds_toArray, List.set_cons_zero, List.set_cons_succ]
        refine wpAnyH_done (by kernel_rfl) ?_ _
        go_wp2
        go_end0
        rw [HE.out, ← HRB.out]
        exact ⟨rfl, ⟨_, _, HR6.out.1⟩, (Wt.below HB5.out).trans HR6.out.2⟩
end Go.Proofs.YtmdfiamffipbcaaDoor.nf
