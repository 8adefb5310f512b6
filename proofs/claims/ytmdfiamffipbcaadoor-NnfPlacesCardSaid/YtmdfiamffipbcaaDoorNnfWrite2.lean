/- The program's writer: write, all else. -/
import Derived.Test.YtmdfiamffipbcaaDoorNnfKeep
namespace Go.Proofs.YtmdfiamffipbcaaDoor.nf
open Go.ChangeShapes Go.WideShapes Go.ChangeAt Go.RowKit Go.Deep sr lt

set_option maxRecDepth 20000 in
set_option maxHeartbeats 8000000 in
theorem write_8 (F : Fx) (S : St) (vw vo : Value) (j : Nat) (q : Int) (w : World) (h : WrW F w S vw vo) (hj : j < F.m) (hnd : F.e.getD j (0, 0) = (8, q)) (hl : S.w.length ≤ 80000) (hj0 : 0 < j) :
    Calls Tryd.prog 30 #[.pointer (some ⟨F.rb, 0, none⟩), .int .i64 (j : Int)] w (StepP F w (writeF F.e F.B S j)) := by
  have HL := Lib.hid hl
  have hm9 := h.mx
  have hbx := below_one w (.cells #[.int .i64 8, .int .i64 q] 38)
  obtain ⟨w1, HW1⟩ : ∃ w1, w1 = (w.alloc (.cells #[.int .i64 8, .int .i64 q] 38)).drew := ⟨_, rfl⟩
  have H1 : Hid (WrW F w1 S vw vo ∧ Wt F.rb F.nb F.B0 w w1) := Lib.hid (by rw [HW1]; exact ⟨h.below hbx.drew, Wt.below hbx.drew⟩)
  obtain ⟨rb, HRB⟩ : ∃ rb, Hid (F.rb = rb) := ⟨_, Lib.hid rfl⟩
  obtain ⟨nb, HNB⟩ : ∃ nb, Hid (F.nb = nb) := ⟨_, Lib.hid rfl⟩
  obtain ⟨m, HM⟩ : ∃ m, Hid (F.m = m) := ⟨_, Lib.hid rfl⟩
  obtain ⟨ng, HNG⟩ : ∃ ng, Hid (S.ng.getD j false = ng) := ⟨_, Lib.hid rfl⟩
  obtain ⟨ab, ao, hA, hab, hca⟩ := h.a (by have := h.ml; omega)
  have c0 := h.c.c0
  have c2 := h.c.c2
  rw [hA] at c0
  have a0 := (hca j (by have := h.ml; omega)).1
  have a1 := (hca j (by have := h.ml; omega)).2
  rw [hnd] at a0 a1
  have g2 := h.n.cell hj
  rw [HNG.out] at g2
  rw [HRB.out, HM.out] at c0 c2
  rw [HNB.out] at c2 g2
  rw [HRB.out]
  rw [HM.out] at hj hm9
  have hjm : (j : Int) < (m : Int) := by omega
  generalize F.c = cc at *
  have HLT : Hid (F.rb < w.heap.size ∧ F.nb < w.heap.size) := Lib.hid ⟨h.c.lt, h.n.lt⟩
  have HOWN : Hid (vo.ownBlock ≠ some w.heap.size) := Lib.hid (fun e => by have := (World.ownsRow.lt h.wo _ e).2; omega)
  have HND := Lib.hid hnd
  have HNR : Hid (nb ≠ rb) := Lib.hid (by rw [← HRB.out, ← HNB.out]; exact fun e => h.rn e.symm)
  clear h hl hA hca hbx hnd
  go_enter Tryd.func30, Tryd.ntmps30
  have hrl : rb < w.heap.size := by rw [← HRB.out]; exact HLT.out.1
  have hnl : nb < w.heap.size := by rw [← HNB.out]; exact HLT.out.2
  have hne1 : ∀ b i k, b < w.heap.size → (⟨w.heap.size, i, none⟩ : Addr) ≠ ⟨b, k, none⟩ := fun b i k hb => blk_ne i k (by omega)
  go_wp2
  go_region_held3 (fun w' => w'.cell? ⟨rb, 0, none⟩ = some (.slice (some ⟨ab, ao, none⟩) m cc) ∧ w'.cell? ⟨ab, ao + j * 2, none⟩ = some (.int .i64 8) ∧ w'.cell? ⟨ab, ao + j * 2 + 1, none⟩ = some (.int .i64 q) ∧ w'.cell? ⟨rb, 2, none⟩ = some (.slice (some ⟨nb, 0, none⟩) m m) ∧ w'.cell? ⟨nb, j, none⟩ = some (.bool ng))
    (first | exact ⟨c0, a0, a1, c2, g2⟩ | exact ⟨cell_al c0 hrl, cell_al a0 hab, cell_al a1 hab, cell_al c2 hrl, cell_al g2 hnl⟩ | exact ⟨cell_st (cell_st (cell_al c0 hrl) (hne1 _ _ _ hrl)) (hne1 _ _ _ hrl), cell_st (cell_st (cell_al a0 hab) (hne1 _ _ _ hab)) (hne1 _ _ _ hab), cell_st (cell_st (cell_al a1 hab) (hne1 _ _ _ hab)) (hne1 _ _ _ hab), cell_st (cell_st (cell_al c2 hrl) (hne1 _ _ _ hrl)) (hne1 _ _ _ hrl), cell_st (cell_st (cell_al g2 hnl) (hne1 _ _ _ hnl)) (hne1 _ _ _ hnl)⟩ | go_keep)
    (fail)
  rw [← HW1]
  have b0 : w1.cell? ⟨w.heap.size, 0, none⟩ = some (.int .i64 8) := by rw [HW1]; exact World.cell?_alloc_at _ _ _ _ rfl
  have b1 : w1.cell? ⟨w.heap.size, 1, none⟩ = some (.int .i64 q) := by rw [HW1]; exact World.cell?_alloc_at _ _ _ _ rfl
  have BX : Hid (w.heap.size < w1.heap.size ∧ nb ≠ w.heap.size ∧ rb ≠ w.heap.size) := Lib.hid ⟨by rw [HW1]; simp, by omega, by omega⟩
  clear c0 c2 g2 a0 a1 HW1 hne1
  go_upto_region 17 with (fail)
  have c2 := H1.out.1.c.c2
  rw [HRB.out, HNB.out, HM.out] at c2
  have gp := H1.out.1.n.cell (i := j - 1) (by rw [HM.out]; omega)
  have fp := H1.out.1.n.frozen (j - 1)
  rw [HNB.out] at gp fp
  obtain ⟨j1, rfl⟩ : ∃ j1, j = j1 + 1 := ⟨j - 1, by omega⟩
  rw [Nat.add_sub_cancel] at gp fp
  have hj1 : ((j1 + 1 : Nat) : Int) - 1 = (j1 : Int) := by omega
  have H2 : Hid (WrW F (w1.setCell ⟨nb, j1, none⟩ (.bool ng)) ⟨(S.ng).set j1 ng, S.wt, S.w⟩ vw vo ∧ Wt F.rb F.nb F.B0 w (w1.setCell ⟨nb, j1, none⟩ (.bool ng))) := Lib.hid (by
    rw [← HNB.out]
    have h := H1.out.1.setN j1 ng (by rw [HM.out]; omega)
    exact ⟨h.1, H1.out.2.trans h.2⟩)
  have b0x : (w1.setCell ⟨nb, j1, none⟩ (.bool ng)).cell? ⟨w.heap.size, 0, none⟩ = some (.int .i64 8) := cell_st b0 (blk_ne _ _ BX.out.2.1)
  go_upto_region 18 with (fail)
  generalize w1.setCell ⟨nb, j1, none⟩ (.bool ng) = w2 at *
  clear c2 gp fp b0 b1
  have HSG := Lib.hid (sign_any 8 ng w2 (by decide) H2.out.1.fm)
  obtain ⟨sg, HSV⟩ : ∃ sg, Hid (sgF 8 ng = sg) := ⟨_, Lib.hid rfl⟩
  rw [HSV.out] at HSG
  go_wp2_with fail
  refine HSG.out.mono ?_
  rintro e w9 ⟨rfl, hb9⟩
  have H9 : Hid (WrW F w9 ⟨(S.ng).set j1 ng, S.wt, S.w⟩ vw vo ∧ Wt F.rb F.nb F.B0 w w9) := Lib.hid ⟨H2.out.1.below hb9, H2.out.2.trans (Wt.below hb9)⟩
  clear hb9 HSG
  have HPT := Lib.hid (put_any F _ vw vo sg 0 w9 H9.out.1 (by have := HL.out; show S.w.length ≤ 90000; omega))
  rw [HRB.out] at HPT
  go_wp2_with fail
  refine HPT.out.mono ?_
  rintro e w10 ⟨rfl, hw10, ht10⟩
  have HW10 := Lib.hid hw10
  have HT10 := Lib.hid ht10
  clear hw10 ht10 HPT
  have HE : Hid (writeF F.e F.B S (j1 + 1) = ⟨(S.ng).set j1 ng, S.wt, S.w ++ [(sg, 0)]⟩) := Lib.hid (by
    unfold writeF
    rw [HND.out, HNG.out]
    have e1 : ngW F.B 8 S (j1 + 1) = (S.ng).set j1 ng := by
      unfold ngW
      simp only [HNG.out, Nat.add_sub_cancel]
      rw [if_neg (by decide), if_pos (by decide)]
    have e2 : outW (8, q) ng = [(sg, 0)] := by
      unfold outW
      dsimp only
      rw [if_neg (by decide), if_neg (by decide), HSV.out]
    rw [e1, e2])
  go_wp2
  go_end0
  rw [HE.out]
  exact ⟨rfl, HW10.out, H9.out.2.trans HT10.out⟩
set_option maxRecDepth 20000 in
set_option maxHeartbeats 8000000 in
theorem write_11 (F : Fx) (S : St) (vw vo : Value) (j : Nat) (q : Int) (w : World) (h : WrW F w S vw vo) (hj : j < F.m) (hnd : F.e.getD j (0, 0) = (11, q)) (hl : S.w.length ≤ 80000) (hj0 : 0 < j) :
    Calls Tryd.prog 30 #[.pointer (some ⟨F.rb, 0, none⟩), .int .i64 (j : Int)] w (StepP F w (writeF F.e F.B S j)) := by
  have HL := Lib.hid hl
  have hm9 := h.mx
  have hbx := below_one w (.cells #[.int .i64 11, .int .i64 q] 38)
  obtain ⟨w1, HW1⟩ : ∃ w1, w1 = (w.alloc (.cells #[.int .i64 11, .int .i64 q] 38)).drew := ⟨_, rfl⟩
  have H1 : Hid (WrW F w1 S vw vo ∧ Wt F.rb F.nb F.B0 w w1) := Lib.hid (by rw [HW1]; exact ⟨h.below hbx.drew, Wt.below hbx.drew⟩)
  obtain ⟨rb, HRB⟩ : ∃ rb, Hid (F.rb = rb) := ⟨_, Lib.hid rfl⟩
  obtain ⟨nb, HNB⟩ : ∃ nb, Hid (F.nb = nb) := ⟨_, Lib.hid rfl⟩
  obtain ⟨m, HM⟩ : ∃ m, Hid (F.m = m) := ⟨_, Lib.hid rfl⟩
  obtain ⟨ng, HNG⟩ : ∃ ng, Hid (S.ng.getD j false = ng) := ⟨_, Lib.hid rfl⟩
  obtain ⟨ab, ao, hA, hab, hca⟩ := h.a (by have := h.ml; omega)
  have c0 := h.c.c0
  have c2 := h.c.c2
  rw [hA] at c0
  have a0 := (hca j (by have := h.ml; omega)).1
  have a1 := (hca j (by have := h.ml; omega)).2
  rw [hnd] at a0 a1
  have g2 := h.n.cell hj
  rw [HNG.out] at g2
  rw [HRB.out, HM.out] at c0 c2
  rw [HNB.out] at c2 g2
  rw [HRB.out]
  rw [HM.out] at hj hm9
  have hjm : (j : Int) < (m : Int) := by omega
  generalize F.c = cc at *
  have HLT : Hid (F.rb < w.heap.size ∧ F.nb < w.heap.size) := Lib.hid ⟨h.c.lt, h.n.lt⟩
  have HOWN : Hid (vo.ownBlock ≠ some w.heap.size) := Lib.hid (fun e => by have := (World.ownsRow.lt h.wo _ e).2; omega)
  have HND := Lib.hid hnd
  have HNR : Hid (nb ≠ rb) := Lib.hid (by rw [← HRB.out, ← HNB.out]; exact fun e => h.rn e.symm)
  clear h hl hA hca hbx hnd
  go_enter Tryd.func30, Tryd.ntmps30
  have hrl : rb < w.heap.size := by rw [← HRB.out]; exact HLT.out.1
  have hnl : nb < w.heap.size := by rw [← HNB.out]; exact HLT.out.2
  have hne1 : ∀ b i k, b < w.heap.size → (⟨w.heap.size, i, none⟩ : Addr) ≠ ⟨b, k, none⟩ := fun b i k hb => blk_ne i k (by omega)
  go_wp2
  go_region_held3 (fun w' => w'.cell? ⟨rb, 0, none⟩ = some (.slice (some ⟨ab, ao, none⟩) m cc) ∧ w'.cell? ⟨ab, ao + j * 2, none⟩ = some (.int .i64 11) ∧ w'.cell? ⟨ab, ao + j * 2 + 1, none⟩ = some (.int .i64 q) ∧ w'.cell? ⟨rb, 2, none⟩ = some (.slice (some ⟨nb, 0, none⟩) m m) ∧ w'.cell? ⟨nb, j, none⟩ = some (.bool ng))
    (first | exact ⟨c0, a0, a1, c2, g2⟩ | exact ⟨cell_al c0 hrl, cell_al a0 hab, cell_al a1 hab, cell_al c2 hrl, cell_al g2 hnl⟩ | exact ⟨cell_st (cell_st (cell_al c0 hrl) (hne1 _ _ _ hrl)) (hne1 _ _ _ hrl), cell_st (cell_st (cell_al a0 hab) (hne1 _ _ _ hab)) (hne1 _ _ _ hab), cell_st (cell_st (cell_al a1 hab) (hne1 _ _ _ hab)) (hne1 _ _ _ hab), cell_st (cell_st (cell_al c2 hrl) (hne1 _ _ _ hrl)) (hne1 _ _ _ hrl), cell_st (cell_st (cell_al g2 hnl) (hne1 _ _ _ hnl)) (hne1 _ _ _ hnl)⟩ | go_keep)
    (fail)
  rw [← HW1]
  have b0 : w1.cell? ⟨w.heap.size, 0, none⟩ = some (.int .i64 11) := by rw [HW1]; exact World.cell?_alloc_at _ _ _ _ rfl
  have b1 : w1.cell? ⟨w.heap.size, 1, none⟩ = some (.int .i64 q) := by rw [HW1]; exact World.cell?_alloc_at _ _ _ _ rfl
  have BX : Hid (w.heap.size < w1.heap.size ∧ nb ≠ w.heap.size ∧ rb ≠ w.heap.size) := Lib.hid ⟨by rw [HW1]; simp, by omega, by omega⟩
  clear c0 c2 g2 a0 a1 HW1 hne1
  go_upto_region 17 with (fail)
  have c2 := H1.out.1.c.c2
  rw [HRB.out, HNB.out, HM.out] at c2
  have gp := H1.out.1.n.cell (i := j - 1) (by rw [HM.out]; omega)
  have fp := H1.out.1.n.frozen (j - 1)
  rw [HNB.out] at gp fp
  obtain ⟨j1, rfl⟩ : ∃ j1, j = j1 + 1 := ⟨j - 1, by omega⟩
  rw [Nat.add_sub_cancel] at gp fp
  have hj1 : ((j1 + 1 : Nat) : Int) - 1 = (j1 : Int) := by omega
  have H2 : Hid (WrW F (w1.setCell ⟨nb, j1, none⟩ (.bool ng)) ⟨(S.ng).set j1 ng, S.wt, S.w⟩ vw vo ∧ Wt F.rb F.nb F.B0 w (w1.setCell ⟨nb, j1, none⟩ (.bool ng))) := Lib.hid (by
    rw [← HNB.out]
    have h := H1.out.1.setN j1 ng (by rw [HM.out]; omega)
    exact ⟨h.1, H1.out.2.trans h.2⟩)
  have b0x : (w1.setCell ⟨nb, j1, none⟩ (.bool ng)).cell? ⟨w.heap.size, 0, none⟩ = some (.int .i64 11) := cell_st b0 (blk_ne _ _ BX.out.2.1)
  go_upto_region 18 with (fail)
  generalize w1.setCell ⟨nb, j1, none⟩ (.bool ng) = w2 at *
  clear c2 gp fp b0 b1
  have HSG := Lib.hid (sign_any 11 ng w2 (by decide) H2.out.1.fm)
  obtain ⟨sg, HSV⟩ : ∃ sg, Hid (sgF 11 ng = sg) := ⟨_, Lib.hid rfl⟩
  rw [HSV.out] at HSG
  go_wp2_with fail
  refine HSG.out.mono ?_
  rintro e w9 ⟨rfl, hb9⟩
  have H9 : Hid (WrW F w9 ⟨(S.ng).set j1 ng, S.wt, S.w⟩ vw vo ∧ Wt F.rb F.nb F.B0 w w9) := Lib.hid ⟨H2.out.1.below hb9, H2.out.2.trans (Wt.below hb9)⟩
  clear hb9 HSG
  have HPT := Lib.hid (put_any F _ vw vo sg 0 w9 H9.out.1 (by have := HL.out; show S.w.length ≤ 90000; omega))
  rw [HRB.out] at HPT
  go_wp2_with fail
  refine HPT.out.mono ?_
  rintro e w10 ⟨rfl, hw10, ht10⟩
  have HW10 := Lib.hid hw10
  have HT10 := Lib.hid ht10
  clear hw10 ht10 HPT
  have HE : Hid (writeF F.e F.B S (j1 + 1) = ⟨(S.ng).set j1 ng, S.wt, S.w ++ [(sg, 0)]⟩) := Lib.hid (by
    unfold writeF
    rw [HND.out, HNG.out]
    have e1 : ngW F.B 11 S (j1 + 1) = (S.ng).set j1 ng := by
      unfold ngW
      simp only [HNG.out, Nat.add_sub_cancel]
      rw [if_neg (by decide), if_pos (by decide)]
    have e2 : outW (11, q) ng = [(sg, 0)] := by
      unfold outW
      dsimp only
      rw [if_neg (by decide), if_neg (by decide), HSV.out]
    rw [e1, e2])
  go_wp2
  go_end0
  rw [HE.out]
  exact ⟨rfl, HW10.out, H9.out.2.trans HT10.out⟩
set_option maxRecDepth 20000 in
set_option maxHeartbeats 8000000 in
theorem write_12 (F : Fx) (S : St) (vw vo : Value) (j : Nat) (q : Int) (w : World) (h : WrW F w S vw vo) (hj : j < F.m) (hnd : F.e.getD j (0, 0) = (12, q)) (hl : S.w.length ≤ 80000) (hj0 : 0 < j) :
    Calls Tryd.prog 30 #[.pointer (some ⟨F.rb, 0, none⟩), .int .i64 (j : Int)] w (StepP F w (writeF F.e F.B S j)) := by
  have HL := Lib.hid hl
  have hm9 := h.mx
  have hbx := below_one w (.cells #[.int .i64 12, .int .i64 q] 38)
  obtain ⟨w1, HW1⟩ : ∃ w1, w1 = (w.alloc (.cells #[.int .i64 12, .int .i64 q] 38)).drew := ⟨_, rfl⟩
  have H1 : Hid (WrW F w1 S vw vo ∧ Wt F.rb F.nb F.B0 w w1) := Lib.hid (by rw [HW1]; exact ⟨h.below hbx.drew, Wt.below hbx.drew⟩)
  obtain ⟨rb, HRB⟩ : ∃ rb, Hid (F.rb = rb) := ⟨_, Lib.hid rfl⟩
  obtain ⟨nb, HNB⟩ : ∃ nb, Hid (F.nb = nb) := ⟨_, Lib.hid rfl⟩
  obtain ⟨m, HM⟩ : ∃ m, Hid (F.m = m) := ⟨_, Lib.hid rfl⟩
  obtain ⟨ng, HNG⟩ : ∃ ng, Hid (S.ng.getD j false = ng) := ⟨_, Lib.hid rfl⟩
  obtain ⟨ab, ao, hA, hab, hca⟩ := h.a (by have := h.ml; omega)
  have c0 := h.c.c0
  have c2 := h.c.c2
  rw [hA] at c0
  have a0 := (hca j (by have := h.ml; omega)).1
  have a1 := (hca j (by have := h.ml; omega)).2
  rw [hnd] at a0 a1
  have g2 := h.n.cell hj
  rw [HNG.out] at g2
  rw [HRB.out, HM.out] at c0 c2
  rw [HNB.out] at c2 g2
  rw [HRB.out]
  rw [HM.out] at hj hm9
  have hjm : (j : Int) < (m : Int) := by omega
  generalize F.c = cc at *
  have HLT : Hid (F.rb < w.heap.size ∧ F.nb < w.heap.size) := Lib.hid ⟨h.c.lt, h.n.lt⟩
  have HOWN : Hid (vo.ownBlock ≠ some w.heap.size) := Lib.hid (fun e => by have := (World.ownsRow.lt h.wo _ e).2; omega)
  have HND := Lib.hid hnd
  have HNR : Hid (nb ≠ rb) := Lib.hid (by rw [← HRB.out, ← HNB.out]; exact fun e => h.rn e.symm)
  clear h hl hA hca hbx hnd
  go_enter Tryd.func30, Tryd.ntmps30
  have hrl : rb < w.heap.size := by rw [← HRB.out]; exact HLT.out.1
  have hnl : nb < w.heap.size := by rw [← HNB.out]; exact HLT.out.2
  have hne1 : ∀ b i k, b < w.heap.size → (⟨w.heap.size, i, none⟩ : Addr) ≠ ⟨b, k, none⟩ := fun b i k hb => blk_ne i k (by omega)
  go_wp2
  go_region_held3 (fun w' => w'.cell? ⟨rb, 0, none⟩ = some (.slice (some ⟨ab, ao, none⟩) m cc) ∧ w'.cell? ⟨ab, ao + j * 2, none⟩ = some (.int .i64 12) ∧ w'.cell? ⟨ab, ao + j * 2 + 1, none⟩ = some (.int .i64 q) ∧ w'.cell? ⟨rb, 2, none⟩ = some (.slice (some ⟨nb, 0, none⟩) m m) ∧ w'.cell? ⟨nb, j, none⟩ = some (.bool ng))
    (first | exact ⟨c0, a0, a1, c2, g2⟩ | exact ⟨cell_al c0 hrl, cell_al a0 hab, cell_al a1 hab, cell_al c2 hrl, cell_al g2 hnl⟩ | exact ⟨cell_st (cell_st (cell_al c0 hrl) (hne1 _ _ _ hrl)) (hne1 _ _ _ hrl), cell_st (cell_st (cell_al a0 hab) (hne1 _ _ _ hab)) (hne1 _ _ _ hab), cell_st (cell_st (cell_al a1 hab) (hne1 _ _ _ hab)) (hne1 _ _ _ hab), cell_st (cell_st (cell_al c2 hrl) (hne1 _ _ _ hrl)) (hne1 _ _ _ hrl), cell_st (cell_st (cell_al g2 hnl) (hne1 _ _ _ hnl)) (hne1 _ _ _ hnl)⟩ | go_keep)
    (fail)
  rw [← HW1]
  have b0 : w1.cell? ⟨w.heap.size, 0, none⟩ = some (.int .i64 12) := by rw [HW1]; exact World.cell?_alloc_at _ _ _ _ rfl
  have b1 : w1.cell? ⟨w.heap.size, 1, none⟩ = some (.int .i64 q) := by rw [HW1]; exact World.cell?_alloc_at _ _ _ _ rfl
  have BX : Hid (w.heap.size < w1.heap.size ∧ nb ≠ w.heap.size ∧ rb ≠ w.heap.size) := Lib.hid ⟨by rw [HW1]; simp, by omega, by omega⟩
  clear c0 c2 g2 a0 a1 HW1 hne1
  go_upto_region 17 with (fail)
  have c2 := H1.out.1.c.c2
  rw [HRB.out, HNB.out, HM.out] at c2
  have gp := H1.out.1.n.cell (i := j - 1) (by rw [HM.out]; omega)
  have fp := H1.out.1.n.frozen (j - 1)
  rw [HNB.out] at gp fp
  obtain ⟨j1, rfl⟩ : ∃ j1, j = j1 + 1 := ⟨j - 1, by omega⟩
  rw [Nat.add_sub_cancel] at gp fp
  have hj1 : ((j1 + 1 : Nat) : Int) - 1 = (j1 : Int) := by omega
  have H2 : Hid (WrW F (w1.setCell ⟨nb, j1, none⟩ (.bool ng)) ⟨(S.ng).set j1 ng, S.wt, S.w⟩ vw vo ∧ Wt F.rb F.nb F.B0 w (w1.setCell ⟨nb, j1, none⟩ (.bool ng))) := Lib.hid (by
    rw [← HNB.out]
    have h := H1.out.1.setN j1 ng (by rw [HM.out]; omega)
    exact ⟨h.1, H1.out.2.trans h.2⟩)
  have b0x : (w1.setCell ⟨nb, j1, none⟩ (.bool ng)).cell? ⟨w.heap.size, 0, none⟩ = some (.int .i64 12) := cell_st b0 (blk_ne _ _ BX.out.2.1)
  go_upto_region 18 with (fail)
  generalize w1.setCell ⟨nb, j1, none⟩ (.bool ng) = w2 at *
  clear c2 gp fp b0 b1
  have HSG := Lib.hid (sign_any 12 ng w2 (by decide) H2.out.1.fm)
  obtain ⟨sg, HSV⟩ : ∃ sg, Hid (sgF 12 ng = sg) := ⟨_, Lib.hid rfl⟩
  rw [HSV.out] at HSG
  go_wp2_with fail
  refine HSG.out.mono ?_
  rintro e w9 ⟨rfl, hb9⟩
  have H9 : Hid (WrW F w9 ⟨(S.ng).set j1 ng, S.wt, S.w⟩ vw vo ∧ Wt F.rb F.nb F.B0 w w9) := Lib.hid ⟨H2.out.1.below hb9, H2.out.2.trans (Wt.below hb9)⟩
  clear hb9 HSG
  have HPT := Lib.hid (put_any F _ vw vo sg 0 w9 H9.out.1 (by have := HL.out; show S.w.length ≤ 90000; omega))
  rw [HRB.out] at HPT
  go_wp2_with fail
  refine HPT.out.mono ?_
  rintro e w10 ⟨rfl, hw10, ht10⟩
  have HW10 := Lib.hid hw10
  have HT10 := Lib.hid ht10
  clear hw10 ht10 HPT
  have HE : Hid (writeF F.e F.B S (j1 + 1) = ⟨(S.ng).set j1 ng, S.wt, S.w ++ [(sg, 0)]⟩) := Lib.hid (by
    unfold writeF
    rw [HND.out, HNG.out]
    have e1 : ngW F.B 12 S (j1 + 1) = (S.ng).set j1 ng := by
      unfold ngW
      simp only [HNG.out, Nat.add_sub_cancel]
      rw [if_neg (by decide), if_pos (by decide)]
    have e2 : outW (12, q) ng = [(sg, 0)] := by
      unfold outW
      dsimp only
      rw [if_neg (by decide), if_neg (by decide), HSV.out]
    rw [e1, e2])
  go_wp2
  go_end0
  rw [HE.out]
  exact ⟨rfl, HW10.out, H9.out.2.trans HT10.out⟩
set_option maxRecDepth 20000 in
set_option maxHeartbeats 8000000 in
theorem write_4 (F : Fx) (S : St) (vw vo : Value) (j : Nat) (q : Int) (w : World) (h : WrW F w S vw vo) (hj : j < F.m) (hnd : F.e.getD j (0, 0) = (4, q)) (hl : S.w.length ≤ 80000) (hj0 : 0 < j) :
    Calls Tryd.prog 30 #[.pointer (some ⟨F.rb, 0, none⟩), .int .i64 (j : Int)] w (StepP F w (writeF F.e F.B S j)) := by
  have HL := Lib.hid hl
  have hm9 := h.mx
  have hbx := below_one w (.cells #[.int .i64 4, .int .i64 q] 38)
  obtain ⟨w1, HW1⟩ : ∃ w1, w1 = (w.alloc (.cells #[.int .i64 4, .int .i64 q] 38)).drew := ⟨_, rfl⟩
  have H1 : Hid (WrW F w1 S vw vo ∧ Wt F.rb F.nb F.B0 w w1) := Lib.hid (by rw [HW1]; exact ⟨h.below hbx.drew, Wt.below hbx.drew⟩)
  obtain ⟨rb, HRB⟩ : ∃ rb, Hid (F.rb = rb) := ⟨_, Lib.hid rfl⟩
  obtain ⟨nb, HNB⟩ : ∃ nb, Hid (F.nb = nb) := ⟨_, Lib.hid rfl⟩
  obtain ⟨m, HM⟩ : ∃ m, Hid (F.m = m) := ⟨_, Lib.hid rfl⟩
  obtain ⟨ng, HNG⟩ : ∃ ng, Hid (S.ng.getD j false = ng) := ⟨_, Lib.hid rfl⟩
  obtain ⟨ab, ao, hA, hab, hca⟩ := h.a (by have := h.ml; omega)
  have c0 := h.c.c0
  have c2 := h.c.c2
  rw [hA] at c0
  have a0 := (hca j (by have := h.ml; omega)).1
  have a1 := (hca j (by have := h.ml; omega)).2
  rw [hnd] at a0 a1
  have g2 := h.n.cell hj
  rw [HNG.out] at g2
  rw [HRB.out, HM.out] at c0 c2
  rw [HNB.out] at c2 g2
  rw [HRB.out]
  rw [HM.out] at hj hm9
  have hjm : (j : Int) < (m : Int) := by omega
  generalize F.c = cc at *
  have HLT : Hid (F.rb < w.heap.size ∧ F.nb < w.heap.size) := Lib.hid ⟨h.c.lt, h.n.lt⟩
  have HOWN : Hid (vo.ownBlock ≠ some w.heap.size) := Lib.hid (fun e => by have := (World.ownsRow.lt h.wo _ e).2; omega)
  have HND := Lib.hid hnd
  have HNR : Hid (nb ≠ rb) := Lib.hid (by rw [← HRB.out, ← HNB.out]; exact fun e => h.rn e.symm)
  clear h hl hA hca hbx hnd
  go_enter Tryd.func30, Tryd.ntmps30
  have hrl : rb < w.heap.size := by rw [← HRB.out]; exact HLT.out.1
  have hnl : nb < w.heap.size := by rw [← HNB.out]; exact HLT.out.2
  have hne1 : ∀ b i k, b < w.heap.size → (⟨w.heap.size, i, none⟩ : Addr) ≠ ⟨b, k, none⟩ := fun b i k hb => blk_ne i k (by omega)
  go_wp2
  go_region_held3 (fun w' => w'.cell? ⟨rb, 0, none⟩ = some (.slice (some ⟨ab, ao, none⟩) m cc) ∧ w'.cell? ⟨ab, ao + j * 2, none⟩ = some (.int .i64 4) ∧ w'.cell? ⟨ab, ao + j * 2 + 1, none⟩ = some (.int .i64 q) ∧ w'.cell? ⟨rb, 2, none⟩ = some (.slice (some ⟨nb, 0, none⟩) m m) ∧ w'.cell? ⟨nb, j, none⟩ = some (.bool ng))
    (first | exact ⟨c0, a0, a1, c2, g2⟩ | exact ⟨cell_al c0 hrl, cell_al a0 hab, cell_al a1 hab, cell_al c2 hrl, cell_al g2 hnl⟩ | exact ⟨cell_st (cell_st (cell_al c0 hrl) (hne1 _ _ _ hrl)) (hne1 _ _ _ hrl), cell_st (cell_st (cell_al a0 hab) (hne1 _ _ _ hab)) (hne1 _ _ _ hab), cell_st (cell_st (cell_al a1 hab) (hne1 _ _ _ hab)) (hne1 _ _ _ hab), cell_st (cell_st (cell_al c2 hrl) (hne1 _ _ _ hrl)) (hne1 _ _ _ hrl), cell_st (cell_st (cell_al g2 hnl) (hne1 _ _ _ hnl)) (hne1 _ _ _ hnl)⟩ | go_keep)
    (fail)
  rw [← HW1]
  have b0 : w1.cell? ⟨w.heap.size, 0, none⟩ = some (.int .i64 4) := by rw [HW1]; exact World.cell?_alloc_at _ _ _ _ rfl
  have b1 : w1.cell? ⟨w.heap.size, 1, none⟩ = some (.int .i64 q) := by rw [HW1]; exact World.cell?_alloc_at _ _ _ _ rfl
  have BX : Hid (w.heap.size < w1.heap.size ∧ nb ≠ w.heap.size ∧ rb ≠ w.heap.size) := Lib.hid ⟨by rw [HW1]; simp, by omega, by omega⟩
  clear c0 c2 g2 a0 a1 HW1 hne1
  go_upto_region 19 with (fail)
  have c2 := H1.out.1.c.c2
  rw [HRB.out, HNB.out, HM.out] at c2
  have gp := H1.out.1.n.cell (i := j - 1) (by rw [HM.out]; omega)
  have fp := H1.out.1.n.frozen (j - 1)
  rw [HNB.out] at gp fp
  obtain ⟨j1, rfl⟩ : ∃ j1, j = j1 + 1 := ⟨j - 1, by omega⟩
  rw [Nat.add_sub_cancel] at gp fp
  have hj1 : ((j1 + 1 : Nat) : Int) - 1 = (j1 : Int) := by omega
  have H2 : Hid (WrW F (w1.setCell ⟨nb, j1, none⟩ (.bool (!ng))) ⟨S.ng.set j1 (!ng), S.wt, S.w⟩ vw vo ∧ Wt F.rb F.nb F.B0 w (w1.setCell ⟨nb, j1, none⟩ (.bool (!ng)))) := Lib.hid (by
    rw [← HNB.out]
    have h := H1.out.1.setN j1 (!ng) (by rw [HM.out]; omega)
    exact ⟨h.1, H1.out.2.trans h.2⟩)
  have HE : Hid (writeF F.e F.B S (j1 + 1) = ⟨S.ng.set j1 (!ng), S.wt, S.w⟩) := Lib.hid (by
    unfold writeF
    rw [HND.out, HNG.out]
    have e1 : ngW F.B 4 S (j1 + 1) = S.ng.set j1 (!ng) := by
      unfold ngW
      simp only [HNG.out, Nat.add_sub_cancel]
      rw [if_neg (by decide), if_neg (by decide), if_pos trivial]
    have e2 : outW (4, q) ng = [] := rfl
    rw [e1, e2, List.append_nil])
  go_wp2
  go_end0
  rw [HE.out]
  exact ⟨rfl, ⟨_, _, H2.out.1⟩, H2.out.2⟩
set_option maxRecDepth 20000 in
set_option maxHeartbeats 8000000 in
theorem write_1 (F : Fx) (S : St) (vw vo : Value) (j : Nat) (q : Int) (w : World) (h : WrW F w S vw vo) (hj : j < F.m) (hnd : F.e.getD j (0, 0) = (1, q)) (hl : S.w.length ≤ 80000) :
    Calls Tryd.prog 30 #[.pointer (some ⟨F.rb, 0, none⟩), .int .i64 (j : Int)] w (StepP F w (writeF F.e F.B S j)) := by
  have HL := Lib.hid hl
  have hm9 := h.mx
  have hbx := below_one w (.cells #[.int .i64 1, .int .i64 q] 38)
  obtain ⟨w1, HW1⟩ : ∃ w1, w1 = (w.alloc (.cells #[.int .i64 1, .int .i64 q] 38)).drew := ⟨_, rfl⟩
  have H1 : Hid (WrW F w1 S vw vo ∧ Wt F.rb F.nb F.B0 w w1) := Lib.hid (by rw [HW1]; exact ⟨h.below hbx.drew, Wt.below hbx.drew⟩)
  obtain ⟨rb, HRB⟩ : ∃ rb, Hid (F.rb = rb) := ⟨_, Lib.hid rfl⟩
  obtain ⟨nb, HNB⟩ : ∃ nb, Hid (F.nb = nb) := ⟨_, Lib.hid rfl⟩
  obtain ⟨m, HM⟩ : ∃ m, Hid (F.m = m) := ⟨_, Lib.hid rfl⟩
  obtain ⟨ng, HNG⟩ : ∃ ng, Hid (S.ng.getD j false = ng) := ⟨_, Lib.hid rfl⟩
  obtain ⟨ab, ao, hA, hab, hca⟩ := h.a (by have := h.ml; omega)
  have c0 := h.c.c0
  have c2 := h.c.c2
  rw [hA] at c0
  have a0 := (hca j (by have := h.ml; omega)).1
  have a1 := (hca j (by have := h.ml; omega)).2
  rw [hnd] at a0 a1
  have g2 := h.n.cell hj
  rw [HNG.out] at g2
  rw [HRB.out, HM.out] at c0 c2
  rw [HNB.out] at c2 g2
  rw [HRB.out]
  rw [HM.out] at hj hm9
  have hjm : (j : Int) < (m : Int) := by omega
  generalize F.c = cc at *
  have HLT : Hid (F.rb < w.heap.size ∧ F.nb < w.heap.size) := Lib.hid ⟨h.c.lt, h.n.lt⟩
  have HOWN : Hid (vo.ownBlock ≠ some w.heap.size) := Lib.hid (fun e => by have := (World.ownsRow.lt h.wo _ e).2; omega)
  have HND := Lib.hid hnd
  have HNR : Hid (nb ≠ rb) := Lib.hid (by rw [← HRB.out, ← HNB.out]; exact fun e => h.rn e.symm)
  clear h hl hA hca hbx hnd
  go_enter Tryd.func30, Tryd.ntmps30
  have hrl : rb < w.heap.size := by rw [← HRB.out]; exact HLT.out.1
  have hnl : nb < w.heap.size := by rw [← HNB.out]; exact HLT.out.2
  have hne1 : ∀ b i k, b < w.heap.size → (⟨w.heap.size, i, none⟩ : Addr) ≠ ⟨b, k, none⟩ := fun b i k hb => blk_ne i k (by omega)
  go_wp2
  go_region_held3 (fun w' => w'.cell? ⟨rb, 0, none⟩ = some (.slice (some ⟨ab, ao, none⟩) m cc) ∧ w'.cell? ⟨ab, ao + j * 2, none⟩ = some (.int .i64 1) ∧ w'.cell? ⟨ab, ao + j * 2 + 1, none⟩ = some (.int .i64 q) ∧ w'.cell? ⟨rb, 2, none⟩ = some (.slice (some ⟨nb, 0, none⟩) m m) ∧ w'.cell? ⟨nb, j, none⟩ = some (.bool ng))
    (first | exact ⟨c0, a0, a1, c2, g2⟩ | exact ⟨cell_al c0 hrl, cell_al a0 hab, cell_al a1 hab, cell_al c2 hrl, cell_al g2 hnl⟩ | exact ⟨cell_st (cell_st (cell_al c0 hrl) (hne1 _ _ _ hrl)) (hne1 _ _ _ hrl), cell_st (cell_st (cell_al a0 hab) (hne1 _ _ _ hab)) (hne1 _ _ _ hab), cell_st (cell_st (cell_al a1 hab) (hne1 _ _ _ hab)) (hne1 _ _ _ hab), cell_st (cell_st (cell_al c2 hrl) (hne1 _ _ _ hrl)) (hne1 _ _ _ hrl), cell_st (cell_st (cell_al g2 hnl) (hne1 _ _ _ hnl)) (hne1 _ _ _ hnl)⟩ | go_keep)
    (fail)
  rw [← HW1]
  have b0 : w1.cell? ⟨w.heap.size, 0, none⟩ = some (.int .i64 1) := by rw [HW1]; exact World.cell?_alloc_at _ _ _ _ rfl
  have b1 : w1.cell? ⟨w.heap.size, 1, none⟩ = some (.int .i64 q) := by rw [HW1]; exact World.cell?_alloc_at _ _ _ _ rfl
  have BX : Hid (w.heap.size < w1.heap.size ∧ nb ≠ w.heap.size ∧ rb ≠ w.heap.size) := Lib.hid ⟨by rw [HW1]; simp, by omega, by omega⟩
  clear c0 c2 g2 a0 a1 HW1 hne1
  go_upto_region 18 with (fail)
  have HSG := Lib.hid (sign_any 1 ng w1 (by decide) H1.out.1.fm)
  obtain ⟨sg, HSV⟩ : ∃ sg, Hid (sgF 1 ng = sg) := ⟨_, Lib.hid rfl⟩
  rw [HSV.out] at HSG
  go_wp2_with fail
  refine HSG.out.mono ?_
  rintro e w9 ⟨rfl, hb9⟩
  have H9 : Hid (WrW F w9 ⟨S.ng, S.wt, S.w⟩ vw vo ∧ Wt F.rb F.nb F.B0 w w9) := Lib.hid ⟨H1.out.1.below hb9, H1.out.2.trans (Wt.below hb9)⟩
  clear hb9 HSG
  have HPT := Lib.hid (put_any F _ vw vo sg 0 w9 H9.out.1 (by have := HL.out; show S.w.length ≤ 90000; omega))
  rw [HRB.out] at HPT
  go_wp2_with fail
  refine HPT.out.mono ?_
  rintro e w10 ⟨rfl, hw10, ht10⟩
  have HW10 := Lib.hid hw10
  have HT10 := Lib.hid ht10
  clear hw10 ht10 HPT
  have HE : Hid (writeF F.e F.B S (j) = ⟨S.ng, S.wt, S.w ++ [(sg, 0)]⟩) := Lib.hid (by
    unfold writeF
    rw [HND.out, HNG.out]
    have e1 : ngW F.B 1 S (j) = S.ng := by
      unfold ngW
      rfl
    have e2 : outW (1, q) ng = [(sg, 0)] := by
      unfold outW
      dsimp only
      rw [if_neg (by decide), if_neg (by decide), HSV.out]
    rw [e1, e2])
  go_wp2
  go_end0
  rw [HE.out]
  exact ⟨rfl, HW10.out, H9.out.2.trans HT10.out⟩
set_option maxRecDepth 20000 in
set_option maxHeartbeats 8000000 in
theorem write_2 (F : Fx) (S : St) (vw vo : Value) (j : Nat) (q : Int) (w : World) (h : WrW F w S vw vo) (hj : j < F.m) (hnd : F.e.getD j (0, 0) = (2, q)) (hl : S.w.length ≤ 80000) :
    Calls Tryd.prog 30 #[.pointer (some ⟨F.rb, 0, none⟩), .int .i64 (j : Int)] w (StepP F w (writeF F.e F.B S j)) := by
  have HL := Lib.hid hl
  have hm9 := h.mx
  have hbx := below_one w (.cells #[.int .i64 2, .int .i64 q] 38)
  obtain ⟨w1, HW1⟩ : ∃ w1, w1 = (w.alloc (.cells #[.int .i64 2, .int .i64 q] 38)).drew := ⟨_, rfl⟩
  have H1 : Hid (WrW F w1 S vw vo ∧ Wt F.rb F.nb F.B0 w w1) := Lib.hid (by rw [HW1]; exact ⟨h.below hbx.drew, Wt.below hbx.drew⟩)
  obtain ⟨rb, HRB⟩ : ∃ rb, Hid (F.rb = rb) := ⟨_, Lib.hid rfl⟩
  obtain ⟨nb, HNB⟩ : ∃ nb, Hid (F.nb = nb) := ⟨_, Lib.hid rfl⟩
  obtain ⟨m, HM⟩ : ∃ m, Hid (F.m = m) := ⟨_, Lib.hid rfl⟩
  obtain ⟨ng, HNG⟩ : ∃ ng, Hid (S.ng.getD j false = ng) := ⟨_, Lib.hid rfl⟩
  obtain ⟨ab, ao, hA, hab, hca⟩ := h.a (by have := h.ml; omega)
  have c0 := h.c.c0
  have c2 := h.c.c2
  rw [hA] at c0
  have a0 := (hca j (by have := h.ml; omega)).1
  have a1 := (hca j (by have := h.ml; omega)).2
  rw [hnd] at a0 a1
  have g2 := h.n.cell hj
  rw [HNG.out] at g2
  rw [HRB.out, HM.out] at c0 c2
  rw [HNB.out] at c2 g2
  rw [HRB.out]
  rw [HM.out] at hj hm9
  have hjm : (j : Int) < (m : Int) := by omega
  generalize F.c = cc at *
  have HLT : Hid (F.rb < w.heap.size ∧ F.nb < w.heap.size) := Lib.hid ⟨h.c.lt, h.n.lt⟩
  have HOWN : Hid (vo.ownBlock ≠ some w.heap.size) := Lib.hid (fun e => by have := (World.ownsRow.lt h.wo _ e).2; omega)
  have HND := Lib.hid hnd
  have HNR : Hid (nb ≠ rb) := Lib.hid (by rw [← HRB.out, ← HNB.out]; exact fun e => h.rn e.symm)
  clear h hl hA hca hbx hnd
  go_enter Tryd.func30, Tryd.ntmps30
  have hrl : rb < w.heap.size := by rw [← HRB.out]; exact HLT.out.1
  have hnl : nb < w.heap.size := by rw [← HNB.out]; exact HLT.out.2
  have hne1 : ∀ b i k, b < w.heap.size → (⟨w.heap.size, i, none⟩ : Addr) ≠ ⟨b, k, none⟩ := fun b i k hb => blk_ne i k (by omega)
  go_wp2
  go_region_held3 (fun w' => w'.cell? ⟨rb, 0, none⟩ = some (.slice (some ⟨ab, ao, none⟩) m cc) ∧ w'.cell? ⟨ab, ao + j * 2, none⟩ = some (.int .i64 2) ∧ w'.cell? ⟨ab, ao + j * 2 + 1, none⟩ = some (.int .i64 q) ∧ w'.cell? ⟨rb, 2, none⟩ = some (.slice (some ⟨nb, 0, none⟩) m m) ∧ w'.cell? ⟨nb, j, none⟩ = some (.bool ng))
    (first | exact ⟨c0, a0, a1, c2, g2⟩ | exact ⟨cell_al c0 hrl, cell_al a0 hab, cell_al a1 hab, cell_al c2 hrl, cell_al g2 hnl⟩ | exact ⟨cell_st (cell_st (cell_al c0 hrl) (hne1 _ _ _ hrl)) (hne1 _ _ _ hrl), cell_st (cell_st (cell_al a0 hab) (hne1 _ _ _ hab)) (hne1 _ _ _ hab), cell_st (cell_st (cell_al a1 hab) (hne1 _ _ _ hab)) (hne1 _ _ _ hab), cell_st (cell_st (cell_al c2 hrl) (hne1 _ _ _ hrl)) (hne1 _ _ _ hrl), cell_st (cell_st (cell_al g2 hnl) (hne1 _ _ _ hnl)) (hne1 _ _ _ hnl)⟩ | go_keep)
    (fail)
  rw [← HW1]
  have b0 : w1.cell? ⟨w.heap.size, 0, none⟩ = some (.int .i64 2) := by rw [HW1]; exact World.cell?_alloc_at _ _ _ _ rfl
  have b1 : w1.cell? ⟨w.heap.size, 1, none⟩ = some (.int .i64 q) := by rw [HW1]; exact World.cell?_alloc_at _ _ _ _ rfl
  have BX : Hid (w.heap.size < w1.heap.size ∧ nb ≠ w.heap.size ∧ rb ≠ w.heap.size) := Lib.hid ⟨by rw [HW1]; simp, by omega, by omega⟩
  clear c0 c2 g2 a0 a1 HW1 hne1
  go_upto_region 18 with (fail)
  have HSG := Lib.hid (sign_any 2 ng w1 (by decide) H1.out.1.fm)
  obtain ⟨sg, HSV⟩ : ∃ sg, Hid (sgF 2 ng = sg) := ⟨_, Lib.hid rfl⟩
  rw [HSV.out] at HSG
  go_wp2_with fail
  refine HSG.out.mono ?_
  rintro e w9 ⟨rfl, hb9⟩
  have H9 : Hid (WrW F w9 ⟨S.ng, S.wt, S.w⟩ vw vo ∧ Wt F.rb F.nb F.B0 w w9) := Lib.hid ⟨H1.out.1.below hb9, H1.out.2.trans (Wt.below hb9)⟩
  clear hb9 HSG
  have HPT := Lib.hid (put_any F _ vw vo sg 0 w9 H9.out.1 (by have := HL.out; show S.w.length ≤ 90000; omega))
  rw [HRB.out] at HPT
  go_wp2_with fail
  refine HPT.out.mono ?_
  rintro e w10 ⟨rfl, hw10, ht10⟩
  have HW10 := Lib.hid hw10
  have HT10 := Lib.hid ht10
  clear hw10 ht10 HPT
  have HE : Hid (writeF F.e F.B S (j) = ⟨S.ng, S.wt, S.w ++ [(sg, 0)]⟩) := Lib.hid (by
    unfold writeF
    rw [HND.out, HNG.out]
    have e1 : ngW F.B 2 S (j) = S.ng := by
      unfold ngW
      rfl
    have e2 : outW (2, q) ng = [(sg, 0)] := by
      unfold outW
      dsimp only
      rw [if_neg (by decide), if_neg (by decide), HSV.out]
    rw [e1, e2])
  go_wp2
  go_end0
  rw [HE.out]
  exact ⟨rfl, HW10.out, H9.out.2.trans HT10.out⟩
set_option maxRecDepth 20000 in
set_option maxHeartbeats 8000000 in
theorem write_3 (F : Fx) (S : St) (vw vo : Value) (j : Nat) (q : Int) (w : World) (h : WrW F w S vw vo) (hj : j < F.m) (hnd : F.e.getD j (0, 0) = (3, q)) (hl : S.w.length ≤ 80000) :
    Calls Tryd.prog 30 #[.pointer (some ⟨F.rb, 0, none⟩), .int .i64 (j : Int)] w (StepP F w (writeF F.e F.B S j)) := by
  have HL := Lib.hid hl
  have hm9 := h.mx
  have hbx := below_one w (.cells #[.int .i64 3, .int .i64 q] 38)
  obtain ⟨w1, HW1⟩ : ∃ w1, w1 = (w.alloc (.cells #[.int .i64 3, .int .i64 q] 38)).drew := ⟨_, rfl⟩
  have H1 : Hid (WrW F w1 S vw vo ∧ Wt F.rb F.nb F.B0 w w1) := Lib.hid (by rw [HW1]; exact ⟨h.below hbx.drew, Wt.below hbx.drew⟩)
  obtain ⟨rb, HRB⟩ : ∃ rb, Hid (F.rb = rb) := ⟨_, Lib.hid rfl⟩
  obtain ⟨nb, HNB⟩ : ∃ nb, Hid (F.nb = nb) := ⟨_, Lib.hid rfl⟩
  obtain ⟨m, HM⟩ : ∃ m, Hid (F.m = m) := ⟨_, Lib.hid rfl⟩
  obtain ⟨ng, HNG⟩ : ∃ ng, Hid (S.ng.getD j false = ng) := ⟨_, Lib.hid rfl⟩
  obtain ⟨ab, ao, hA, hab, hca⟩ := h.a (by have := h.ml; omega)
  have c0 := h.c.c0
  have c2 := h.c.c2
  rw [hA] at c0
  have a0 := (hca j (by have := h.ml; omega)).1
  have a1 := (hca j (by have := h.ml; omega)).2
  rw [hnd] at a0 a1
  have g2 := h.n.cell hj
  rw [HNG.out] at g2
  rw [HRB.out, HM.out] at c0 c2
  rw [HNB.out] at c2 g2
  rw [HRB.out]
  rw [HM.out] at hj hm9
  have hjm : (j : Int) < (m : Int) := by omega
  generalize F.c = cc at *
  have HLT : Hid (F.rb < w.heap.size ∧ F.nb < w.heap.size) := Lib.hid ⟨h.c.lt, h.n.lt⟩
  have HOWN : Hid (vo.ownBlock ≠ some w.heap.size) := Lib.hid (fun e => by have := (World.ownsRow.lt h.wo _ e).2; omega)
  have HND := Lib.hid hnd
  have HNR : Hid (nb ≠ rb) := Lib.hid (by rw [← HRB.out, ← HNB.out]; exact fun e => h.rn e.symm)
  clear h hl hA hca hbx hnd
  go_enter Tryd.func30, Tryd.ntmps30
  have hrl : rb < w.heap.size := by rw [← HRB.out]; exact HLT.out.1
  have hnl : nb < w.heap.size := by rw [← HNB.out]; exact HLT.out.2
  have hne1 : ∀ b i k, b < w.heap.size → (⟨w.heap.size, i, none⟩ : Addr) ≠ ⟨b, k, none⟩ := fun b i k hb => blk_ne i k (by omega)
  go_wp2
  go_region_held3 (fun w' => w'.cell? ⟨rb, 0, none⟩ = some (.slice (some ⟨ab, ao, none⟩) m cc) ∧ w'.cell? ⟨ab, ao + j * 2, none⟩ = some (.int .i64 3) ∧ w'.cell? ⟨ab, ao + j * 2 + 1, none⟩ = some (.int .i64 q) ∧ w'.cell? ⟨rb, 2, none⟩ = some (.slice (some ⟨nb, 0, none⟩) m m) ∧ w'.cell? ⟨nb, j, none⟩ = some (.bool ng))
    (first | exact ⟨c0, a0, a1, c2, g2⟩ | exact ⟨cell_al c0 hrl, cell_al a0 hab, cell_al a1 hab, cell_al c2 hrl, cell_al g2 hnl⟩ | exact ⟨cell_st (cell_st (cell_al c0 hrl) (hne1 _ _ _ hrl)) (hne1 _ _ _ hrl), cell_st (cell_st (cell_al a0 hab) (hne1 _ _ _ hab)) (hne1 _ _ _ hab), cell_st (cell_st (cell_al a1 hab) (hne1 _ _ _ hab)) (hne1 _ _ _ hab), cell_st (cell_st (cell_al c2 hrl) (hne1 _ _ _ hrl)) (hne1 _ _ _ hrl), cell_st (cell_st (cell_al g2 hnl) (hne1 _ _ _ hnl)) (hne1 _ _ _ hnl)⟩ | go_keep)
    (fail)
  rw [← HW1]
  have b0 : w1.cell? ⟨w.heap.size, 0, none⟩ = some (.int .i64 3) := by rw [HW1]; exact World.cell?_alloc_at _ _ _ _ rfl
  have b1 : w1.cell? ⟨w.heap.size, 1, none⟩ = some (.int .i64 q) := by rw [HW1]; exact World.cell?_alloc_at _ _ _ _ rfl
  have BX : Hid (w.heap.size < w1.heap.size ∧ nb ≠ w.heap.size ∧ rb ≠ w.heap.size) := Lib.hid ⟨by rw [HW1]; simp, by omega, by omega⟩
  clear c0 c2 g2 a0 a1 HW1 hne1
  have HE : Hid (writeF F.e F.B S j = ⟨S.ng, S.wt, S.w ++ (if ng = true then [(4, 0), (3, q)] else [(3, q)])⟩) := Lib.hid (by
    unfold writeF
    rw [HND.out, HNG.out]
    rfl)
  cases ng with
  | true =>
    have HPT := Lib.hid (put_far F S vw vo 4 0 w1 H1.out.1 (by have := HL.out; omega))
    rw [HRB.out] at HPT
    go_wp2_with fail
    refine HPT.out.mono ?_
    rintro e w2 ⟨⟨rfl, ⟨vw2, vo2, hw2⟩, ht2⟩, hf2⟩
    have HW2 := Lib.hid hw2
    have HT2 := Lib.hid ht2
    have hblk := hf2 w.heap.size BX.out.1 BX.out.2.2.symm HOWN.out
    have d0 := (World.cell?_of_block (a := ⟨w.heap.size, 0, none⟩) hblk).trans b0
    have d1 := (World.cell?_of_block (a := ⟨w.heap.size, 1, none⟩) hblk).trans b1
    clear hw2 ht2 hf2 HPT b0 b1 hblk
    have HPU := Lib.hid (put_any F _ vw2 vo2 3 q w2 HW2.out (by have := HL.out; simp; omega))
    rw [HRB.out] at HPU
    go_wp2_with fail
    refine HPU.out.mono ?_
    rintro e w3 ⟨rfl, hw3, ht3⟩
    have HW3 := Lib.hid hw3
    have HT3 := Lib.hid ht3
    clear hw3 ht3 HPU
    go_wp2
    go_end0
    rw [HE.out]
    refine ⟨rfl, ?_, (H1.out.2.trans HT2.out).trans HT3.out⟩
    have h := HW3.out
    rw [List.append_assoc] at h
    exact h
  | false =>
    have HPU := Lib.hid (put_any F S vw vo 3 q w1 H1.out.1 (by have := HL.out; omega))
    rw [HRB.out] at HPU
    go_wp2_with fail
    refine HPU.out.mono ?_
    rintro e w3 ⟨rfl, hw3, ht3⟩
    have HW3 := Lib.hid hw3
    have HT3 := Lib.hid ht3
    clear hw3 ht3 HPU
    go_wp2
    go_end0
    rw [HE.out]
    exact ⟨rfl, HW3.out, H1.out.2.trans HT3.out⟩
end Go.Proofs.YtmdfiamffipbcaaDoor.nf
