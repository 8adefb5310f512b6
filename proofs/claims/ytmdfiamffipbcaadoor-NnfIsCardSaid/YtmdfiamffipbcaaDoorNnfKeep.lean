/- The program's writer: keep. -/
import Derived.Test.YtmdfiamffipbcaaDoorNnfLead
namespace Go.Proofs.YtmdfiamffipbcaaDoor.nf
open Go.ChangeShapes Go.WideShapes Go.ChangeAt Go.RowKit Go.Deep sr lt

theorem cell_al {W : World} {b i : Nat} {v : Value} {o : Obj} (h : W.cell? ⟨b, i, none⟩ = some v) (hb : b < W.heap.size) : (W.alloc o).cell? ⟨b, i, none⟩ = some v := ((below_one W o).cell (p := ⟨b, i, none⟩) hb).trans h
theorem cell_st {W : World} {b i : Nat} {a : Addr} {v u : Value} (h : W.cell? ⟨b, i, none⟩ = some v) (hne : a ≠ ⟨b, i, none⟩) : (W.setCell a u).cell? ⟨b, i, none⟩ = some v := (World.cell?_setCell_other _ _ _ _ hne).trans h
theorem blk_ne {b b2 : Nat} (i j : Nat) (h : b ≠ b2) : (⟨b, i, none⟩ : Addr) ≠ ⟨b2, j, none⟩ := fun e => by
  injection e with e _ _
  exact h e
theorem fiF_range (op : Int) (h : 0 ≤ op ∧ op < 13) : 0 ≤ fiF op ∧ fiF op < 13 := by
  obtain ⟨k, rfl⟩ : ∃ k : Nat, op = (k : Int) := ⟨op.toNat, by omega⟩
  have hk : k = 0 ∨ k = 1 ∨ k = 2 ∨ k = 3 ∨ k = 4 ∨ k = 5 ∨ k = 6 ∨ k = 7 ∨ k = 8 ∨ k = 9 ∨ k = 10 ∨ k = 11 ∨ k = 12 := by omega
  rcases hk with rfl | rfl | rfl | rfl | rfl | rfl | rfl | rfl | rfl | rfl | rfl | rfl | rfl <;> decide
set_option maxRecDepth 20000 in
set_option maxHeartbeats 8000000 in
theorem keep_any (F : Fx) (S : St) (vw vo : Value) (j : Nat) (w : World) (h : WrW F w S vw vo) (hj : j < F.m) (hop : 0 ≤ (F.e.getD j (0, 0)).1 ∧ (F.e.getD j (0, 0)).1 < 13) (hl : S.wt.length ≤ 80000) :
    Calls Tryd.prog 31 #[.pointer (some ⟨F.rb, 0, none⟩), .int .i64 (j : Int)] w (StepP F w (keepF F.e F.B S j)) := by
  have H := Lib.hid h
  have HL := Lib.hid hl
  have hm9 := h.mx
  obtain ⟨rb, HRB⟩ : ∃ rb, Hid (F.rb = rb) := ⟨_, Lib.hid rfl⟩
  rw [HRB.out]
  obtain ⟨ab, ao, hA, hab, hca⟩ := h.a (by have := h.ml; omega)
  obtain ⟨bb, bo, hB, hbb, hcb⟩ := h.b.at_ (i := j) (by have := h.bl; omega)
  have c0 := h.c.c0
  have c1 := h.c.c1
  have c2 := h.c.c2
  have c3 := h.c.c3
  have f3 := h.c.f 3
  rw [HRB.out] at c0 c1 c2 c3 f3
  rw [hA] at c0
  have a0 := (hca j (by have := h.ml; omega)).1
  obtain ⟨x, HX⟩ : ∃ x, Hid (F.e.getD j (0, 0) = x) := ⟨_, Lib.hid rfl⟩
  rw [HX.out] at a0 hop
  obtain ⟨k, hk⟩ : ∃ k : Nat, x.1 = (k : Int) := ⟨x.1.toNat, by omega⟩
  have HK := Lib.hid hk
  rw [hk] at a0
  have hk13 : k < 13 := by omega
  have t2 := (h.fm k hk13).2.2
  obtain ⟨fi, HFI⟩ : ∃ fi, Hid (fiF x.1 = fi) := ⟨_, Lib.hid rfl⟩
  have HFR : Hid (0 ≤ fi ∧ fi < 13) := Lib.hid (by rw [← HFI.out]; exact fiF_range _ hop)
  have hfi : (tabF.getD k (0, 0, 0)).2.2 = fi := by rw [← HFI.out, HK.out]; rfl
  rw [hfi] at t2
  have g2 := h.n.cell hj
  obtain ⟨ng, HNG⟩ : ∃ ng, Hid (S.ng.getD j false = ng) := ⟨_, Lib.hid rfl⟩
  rw [HNG.out] at g2
  obtain ⟨by_, HBY⟩ : ∃ b, Hid (F.B.getD j 0 = b) := ⟨_, Lib.hid rfl⟩
  rw [HBY.out] at hcb
  obtain ⟨A, c, q, rfl⟩ := or_form encC_len h.wt
  have hbbl : bb < F.B0 := by
    have h2 : ¬ (bb = F.rb ∨ bb = F.nb ∨ F.B0 ≤ bb) := h.nbb _ hB
    omega
  have HBBL := Lib.hid hbbl
  have HRBB : Hid (rb ≠ bb) := Lib.hid (by
    have h2 : ¬ (bb = F.rb ∨ bb = F.nb ∨ F.B0 ≤ bb) := h.nbb _ hB
    rw [← HRB.out]
    omega)
  obtain ⟨nb, HNB⟩ : ∃ nb, Hid (F.nb = nb) := ⟨_, Lib.hid rfl⟩
  have HNBL : Hid (nb < F.B0) := Lib.hid (by rw [← HNB.out]; exact h.nlt)
  have HRNB : Hid (rb ≠ nb) := Lib.hid (by rw [← HRB.out, ← HNB.out]; exact h.rn)
  rw [HNB.out] at c2 g2
  generalize F.m = m at *
  generalize F.d = d at *
  generalize F.c = cc at *
  have hjm : (j : Int) < (m : Int) := by omega
  rw [hB] at c1
  clear h hl hA hB hca hop hk hfi hbbl
  go_enter Tryd.func31, Tryd.ntmps31
  by_cases h0 : fi = 0
  · have HE : Hid (keepF F.e F.B S j = S) := Lib.hid (by unfold keepF; rw [HX.out, HFI.out, if_neg (fun q => q h0)])
    subst h0
    go_wp2
    go_end0
    exact ⟨rfl, by rw [HE.out]; exact ⟨_, _, H.out⟩, Wt.refl _ _ _ _⟩
  · have h0b : (fi != 0) = true := by simpa using h0
    have HE : Hid (keepF F.e F.B S j = ⟨S.ng, S.wt ++ [(sgF fi ng, by_)], S.w⟩) := Lib.hid (by unfold keepF; rw [HX.out, HFI.out, if_pos h0, HNG.out, HBY.out])
    have h0n : ¬ fi = 0 := h0
    go_upto_region 2 with (fail)
    have hrl : rb < w.heap.size := by rw [← HRB.out]; exact H.out.c.lt
    have hnl : nb < w.heap.size := by rw [← HNB.out]; exact H.out.n.lt
    have HRL : Hid (rb < F.B0) := Lib.hid (by rw [← HRB.out]; exact H.out.rl)
    go_region_held3 (fun w' => w'.cell? ⟨rb, 1, none⟩ = some (.slice (some ⟨bb, bo, none⟩) m d) ∧ w'.cell? ⟨bb, bo + j, none⟩ = some (.int .i64 by_) ∧ w'.cell? ⟨rb, 2, none⟩ = some (.slice (some ⟨nb, 0, none⟩) m m) ∧ w'.cell? ⟨nb, j, none⟩ = some (.bool ng))
      (first | exact ⟨c1, hcb, c2, g2⟩ | exact ⟨c1b, hcbb, c2b, g2b⟩ | exact ⟨cell_al c1b hrl5, cell_al hcbb hbb5, cell_al c2b hrl5, cell_al g2b hnl5⟩ | exact ⟨c1c, hcbc, c2c, g2c⟩ | exact ⟨cell_st c1c (r5_ne rb 3 1 (by decide)), cell_st hcbc (blk_ne _ _ HRBB.out), cell_st c2c (r5_ne rb 3 2 (by decide)), cell_st g2c (blk_ne _ _ HRNB.out)⟩ | go_keep)
      (first
        | (go_at_call 44; refine (sign_any fi ng _ HFR.out (by exact H.out.fm)).mono ?_; rintro e w5 ⟨rfl, hb5⟩; have HB5 : Hid (Below w.heap.size w w5) := Lib.hid (((Below.refl _ w).drew).trans hb5); have HW5 := Lib.hid (H.out.below HB5.out); have c1b := (HB5.out.cell (p := ⟨rb, 1, none⟩) hrl).trans c1; have c2b := (HB5.out.cell (p := ⟨rb, 2, none⟩) hrl).trans c2; have hcbb := (HB5.out.cell (p := ⟨bb, bo + j, none⟩) hbb).trans hcb; have g2b := (HB5.out.cell (p := ⟨nb, j, none⟩) hnl).trans g2; have c3b := (HB5.out.cell (p := ⟨rb, 3, none⟩) hrl).trans c3; have f3b : w5.frozen? ⟨rb, 3, none⟩ = false := by rw [← HRB.out]; exact HW5.out.c.f 3
           have hrl5 := Nat.lt_of_lt_of_le hrl HB5.out.size; have hnl5 := Nat.lt_of_lt_of_le hnl HB5.out.size; have hbb5 := Nat.lt_of_lt_of_le hbb HB5.out.size; have c3a := cell_al (o := .cells #[.int .i64 (sgF fi ng), .int .i64 0, .int .i64 by_] 75) c3b hrl5)
        | (refine step_append_own encC_len encC_one Tryd.underlying48 infoC rfl (by decide) (by decide) F.B0 _ (by rfl) (.tmp 22) (.tmp 40) (by rfl) (by rfl) _ S.wt (by rfl) (OR.below HW5.out.wt (below_one _ _)) (sgF fi ng, by_) _ (by rfl) (by rfl) (by have := HL.out; omega) (by have := HW5.out.sz; simp; omega) _ (World.alloc_heap_new _ _) ?_; intro v6 w6 ho6 hb6 hg6; obtain ⟨A6, c6, q6, rfl⟩ := or_form encC_len ho6; have HR6 := Lib.hid (WrW.grownW HW5.out (below_one _ _) hg6 ho6); have HBL : Hid (∀ b, b < F.B0 → w6.heap[b]? = (w5.alloc (.cells #[.int .i64 (sgF fi ng), .int .i64 0, .int .i64 by_] 75)).heap[b]?) := Lib.hid (fun b hb => hg6.block b (Nat.lt_of_lt_of_le hb (by have := HW5.out.sz; simp; omega)) (fun e => by have h9 := (World.ownsRow.lt HW5.out.wt _ e.symm).1; omega))
           have HC6 : Hid (R5 w6 rb _ _ _ _ _) := Lib.hid (by rw [← HRB.out]; exact (HW5.out.below (below_one _ _)).c.block (HBL.out _ H.out.rl) hg6.size); have k4 := HC6.out.c3; have k5 := HC6.out.f 3; have c1c := (World.cell?_of_block (a := ⟨rb, 1, none⟩) (HBL.out rb HRL.out)).trans (cell_al c1b hrl5); have c2c := (World.cell?_of_block (a := ⟨rb, 2, none⟩) (HBL.out rb HRL.out)).trans (cell_al c2b hrl5); have hcbc := (World.cell?_of_block (a := ⟨bb, bo + j, none⟩) (HBL.out bb HBBL.out)).trans (cell_al hcbb hbb5); have g2c := (World.cell?_of_block (a := ⟨nb, j, none⟩) (HBL.out nb HNBL.out)).trans (cell_al g2b hnl5))
        | fail)
    all_goals
      go_wp2
      go_end0
      rw [HE.out, ← HRB.out]
      exact ⟨rfl, ⟨_, _, HR6.out.1⟩, (Wt.below HB5.out).trans HR6.out.2⟩
end Go.Proofs.YtmdfiamffipbcaaDoor.nf
