/- The program's writer: write, what takes two. -/
import Derived.Test.YtmdfiamffipbcaaDoorNnfKeep
namespace Go.Proofs.YtmdfiamffipbcaaDoor.nf
open Go.ChangeShapes Go.WideShapes Go.ChangeAt Go.RowKit Go.Deep sr lt

set_option maxRecDepth 20000 in
set_option maxHeartbeats 8000000 in
theorem write_7 (F : Fx) (S : St) (vw vo : Value) (j : Nat) (q : Int) (w : World) (h : WrW F w S vw vo) (hj : j < F.m) (hnd : F.e.getD j (0, 0) = (7, q)) (hl : S.w.length ≤ 80000) (l : Nat) (hB : F.B.getD (j - 1) 0 = ((l + 1 : Nat) : Int)) (hlj : l + 1 < j) :
    Calls Tryd.prog 30 #[.pointer (some ⟨F.rb, 0, none⟩), .int .i64 (j : Int)] w (StepP F w (writeF F.e F.B S j)) := by
  have HL := Lib.hid hl
  have hm9 := h.mx
  have hbx := below_one w (.cells #[.int .i64 7, .int .i64 q] 38)
  obtain ⟨w1, HW1⟩ : ∃ w1, w1 = (w.alloc (.cells #[.int .i64 7, .int .i64 q] 38)).drew := ⟨_, rfl⟩
  have H1 : Hid (WrW F w1 S vw vo ∧ Wt F.rb F.nb F.B0 w w1) := Lib.hid (by rw [HW1]; exact ⟨h.below hbx.drew, Wt.below hbx.drew⟩)
  obtain ⟨rb, HRB⟩ : ∃ rb, Hid (F.rb = rb) := ⟨_, Lib.hid rfl⟩
  obtain ⟨nb, HNB⟩ : ∃ nb, Hid (F.nb = nb) := ⟨_, Lib.hid rfl⟩
  obtain ⟨m, HM⟩ : ∃ m, Hid (F.m = m) := ⟨_, Lib.hid rfl⟩
  obtain ⟨ng, HNG⟩ : ∃ ng, Hid (S.ng.getD j false = ng) := ⟨_, Lib.hid rfl⟩
  obtain ⟨ab, ao, hA, hab, hca⟩ := h.a (by have := h.ml; omega)
  have c0 := h.c.c0
  have c2 := h.c.c2
  rw [hA] at c0
  have a0 := (hca j (by have := h.ml; omega)).1
  have a1 := (hca j (by have := h.ml; omega)).2
  rw [hnd] at a0 a1
  have g2 := h.n.cell hj
  rw [HNG.out] at g2
  rw [HRB.out, HM.out] at c0 c2
  rw [HNB.out] at c2 g2
  rw [HRB.out]
  rw [HM.out] at hj hm9
  have hjm : (j : Int) < (m : Int) := by omega
  generalize F.c = cc at *
  have HLT : Hid (F.rb < w.heap.size ∧ F.nb < w.heap.size) := Lib.hid ⟨h.c.lt, h.n.lt⟩
  have HOWN : Hid (vo.ownBlock ≠ some w.heap.size) := Lib.hid (fun e => by have := (World.ownsRow.lt h.wo _ e).2; omega)
  have HND := Lib.hid hnd
  have HBB := Lib.hid hB
  have HLEF : Hid (lefF F.B j = l) := Lib.hid (by unfold lefF; rw [hB]; omega)
  have HNR : Hid (nb ≠ rb) := Lib.hid (by rw [← HRB.out, ← HNB.out]; exact fun e => h.rn e.symm)
  clear h hl hA hca hbx hnd hB
  go_enter Tryd.func30, Tryd.ntmps30
  have hrl : rb < w.heap.size := by rw [← HRB.out]; exact HLT.out.1
  have hnl : nb < w.heap.size := by rw [← HNB.out]; exact HLT.out.2
  have hne1 : ∀ b i k, b < w.heap.size → (⟨w.heap.size, i, none⟩ : Addr) ≠ ⟨b, k, none⟩ := fun b i k hb => blk_ne i k (by omega)
  go_wp2
  go_region_held3 (fun w' => w'.cell? ⟨rb, 0, none⟩ = some (.slice (some ⟨ab, ao, none⟩) m cc) ∧ w'.cell? ⟨ab, ao + j * 2, none⟩ = some (.int .i64 7) ∧ w'.cell? ⟨ab, ao + j * 2 + 1, none⟩ = some (.int .i64 q) ∧ w'.cell? ⟨rb, 2, none⟩ = some (.slice (some ⟨nb, 0, none⟩) m m) ∧ w'.cell? ⟨nb, j, none⟩ = some (.bool ng))
    (first | exact ⟨c0, a0, a1, c2, g2⟩ | exact ⟨cell_al c0 hrl, cell_al a0 hab, cell_al a1 hab, cell_al c2 hrl, cell_al g2 hnl⟩ | exact ⟨cell_st (cell_st (cell_al c0 hrl) (hne1 _ _ _ hrl)) (hne1 _ _ _ hrl), cell_st (cell_st (cell_al a0 hab) (hne1 _ _ _ hab)) (hne1 _ _ _ hab), cell_st (cell_st (cell_al a1 hab) (hne1 _ _ _ hab)) (hne1 _ _ _ hab), cell_st (cell_st (cell_al c2 hrl) (hne1 _ _ _ hrl)) (hne1 _ _ _ hrl), cell_st (cell_st (cell_al g2 hnl) (hne1 _ _ _ hnl)) (hne1 _ _ _ hnl)⟩ | go_keep)
    (fail)
  rw [← HW1]
  have b0 : w1.cell? ⟨w.heap.size, 0, none⟩ = some (.int .i64 7) := by rw [HW1]; exact World.cell?_alloc_at _ _ _ _ rfl
  have b1 : w1.cell? ⟨w.heap.size, 1, none⟩ = some (.int .i64 q) := by rw [HW1]; exact World.cell?_alloc_at _ _ _ _ rfl
  have BX : Hid (w.heap.size < w1.heap.size ∧ nb ≠ w.heap.size ∧ rb ≠ w.heap.size) := Lib.hid ⟨by rw [HW1]; simp, by omega, by omega⟩
  clear c0 c2 g2 a0 a1 HW1 hne1
  have hlm : (l : Int) < (m : Int) := by omega
  have hl1 : ((l + 1 : Nat) : Int) - 1 = (l : Int) := by omega
  have HLF : Hid (∀ W : World, (∃ S' vw' vo', WrW F W S' vw' vo') → Calls Tryd.prog 42 #[.pointer (some ⟨rb, 0, none⟩), .int .i64 (j : Int)] W fun e W' => e = .returned (.int .i64 (l : Int)) ∧ W = W') := Lib.hid (fun W ⟨S', vw', vo', hW⟩ => by
    have h1 := left_any F S' vw' vo' j W hW (by rw [HM.out]; omega) ⟨l + 1, HBB.out, by omega⟩
    rw [HBB.out, hl1, HRB.out] at h1
    exact h1)
  clear hl1
  go_upto_region 14 with (fail)
  have c2 := H1.out.1.c.c2
  rw [HRB.out, HNB.out, HM.out] at c2
  have gl := H1.out.1.n.cell (i := l) (by rw [HM.out]; omega)
  have fl := H1.out.1.n.frozen (l)
  rw [HNB.out] at gl fl
  obtain ⟨w2, HW2⟩ : ∃ w2, w2 = (w1.setCell ⟨nb, l, none⟩ (.bool true)).drew := ⟨_, rfl⟩
  have H2 : Hid (WrW F w2 ⟨(S.ng).set (l) true, S.wt, S.w⟩ vw vo ∧ Wt F.rb F.nb F.B0 w w2) := Lib.hid (by
    rw [HW2, ← HNB.out]
    have h := H1.out.1.setN (l) true (by rw [HM.out]; omega)
    exact ⟨h.1.below (Below.refl _ _).drew, (H1.out.2.trans h.2).trans (Wt.below (Below.refl _ _).drew)⟩)
  have b02 : w2.cell? ⟨w.heap.size, 0, none⟩ = some (.int .i64 7) := by rw [HW2]; exact cell_st b0 (blk_ne _ _ BX.out.2.1)
  have b12 : w2.cell? ⟨w.heap.size, 1, none⟩ = some (.int .i64 q) := by rw [HW2]; exact cell_st b1 (blk_ne _ _ BX.out.2.1)
  have BX2 : Hid (w.heap.size < w2.heap.size ∧ nb ≠ w.heap.size ∧ rb ≠ w.heap.size) := Lib.hid ⟨by rw [HW2]; simp; exact BX.out.1, BX.out.2⟩
  go_region_held3 (fun w' => w'.cell? ⟨rb, 2, none⟩ = some (.slice (some ⟨nb, 0, none⟩) m m))
    (first | exact c2 | exact cell_st c2 (blk_ne _ _ HNR.out) | go_keep)
    (first | (go_at_call 42; refine (HLF.out _ (by exact ⟨_, _, _, H1.out.1.below (Below.refl _ w1).drew⟩)).mono ?_; rintro e w' ⟨rfl, rfl⟩) | fail)
  rw [← HW2]
  clear b0 b1 BX HW2 c2
  have b0 := b02
  have b1 := b12
  have BX := BX2
  clear b02 b12 BX2
  clear gl fl
  go_wp2_with fail
  refine (HLF.out _ ⟨_, _, _, H2.out.1⟩).mono ?_
  rintro e w' ⟨rfl, rfl⟩
  go_upto_region 16 with (fail)
  have c2 := H2.out.1.c.c2
  rw [HRB.out, HNB.out, HM.out] at c2
  have gl := H2.out.1.n.cell (i := l) (by rw [HM.out]; omega)
  have fl := H2.out.1.n.frozen (l)
  rw [HNB.out] at gl fl
  obtain ⟨vl, HVL⟩ : ∃ vl, Hid (((S.ng).set (l) true).getD l false = vl) := ⟨_, Lib.hid rfl⟩
  try dsimp only at gl
  rw [HVL.out] at gl

  obtain ⟨w3, HW3⟩ : ∃ w3, w3 = (w2.setCell ⟨nb, l, none⟩ (.bool (!(vl == ng)))).drew := ⟨_, rfl⟩
  have H3 : Hid (WrW F w3 ⟨((S.ng).set (l) true).set (l) (!(vl == ng)), S.wt, S.w⟩ vw vo ∧ Wt F.rb F.nb F.B0 w w3) := Lib.hid (by
    rw [HW3, ← HNB.out]
    have h := H2.out.1.setN (l) (!(vl == ng)) (by rw [HM.out]; omega)
    exact ⟨h.1.below (Below.refl _ _).drew, (H2.out.2.trans h.2).trans (Wt.below (Below.refl _ _).drew)⟩)
  have b03 : w3.cell? ⟨w.heap.size, 0, none⟩ = some (.int .i64 7) := by rw [HW3]; exact cell_st b0 (blk_ne _ _ BX.out.2.1)
  have b13 : w3.cell? ⟨w.heap.size, 1, none⟩ = some (.int .i64 q) := by rw [HW3]; exact cell_st b1 (blk_ne _ _ BX.out.2.1)
  have BX3 : Hid (w.heap.size < w3.heap.size ∧ nb ≠ w.heap.size ∧ rb ≠ w.heap.size) := Lib.hid ⟨by rw [HW3]; simp; exact BX.out.1, BX.out.2⟩
  go_region
  rw [← HW3]
  clear b0 b1 BX HW3 c2
  have b0 := b03
  have b1 := b13
  have BX := BX3
  clear b03 b13 BX3
  clear gl fl
  go_upto_region 17 with (fail)
  have c2 := H3.out.1.c.c2
  rw [HRB.out, HNB.out, HM.out] at c2
  have gp := H3.out.1.n.cell (i := j - 1) (by rw [HM.out]; omega)
  have fp := H3.out.1.n.frozen (j - 1)
  rw [HNB.out] at gp fp
  obtain ⟨j1, rfl⟩ : ∃ j1, j = j1 + 1 := ⟨j - 1, by omega⟩
  rw [Nat.add_sub_cancel] at gp fp
  have hj1 : ((j1 + 1 : Nat) : Int) - 1 = (j1 : Int) := by omega
  have H4 : Hid (WrW F (w3.setCell ⟨nb, j1, none⟩ (.bool ng)) ⟨(((S.ng).set (l) true).set (l) (!(vl == ng))).set j1 ng, S.wt, S.w⟩ vw vo ∧ Wt F.rb F.nb F.B0 w (w3.setCell ⟨nb, j1, none⟩ (.bool ng))) := Lib.hid (by
    rw [← HNB.out]
    have h := H3.out.1.setN j1 ng (by rw [HM.out]; omega)
    exact ⟨h.1, H3.out.2.trans h.2⟩)
  have b0x : (w3.setCell ⟨nb, j1, none⟩ (.bool ng)).cell? ⟨w.heap.size, 0, none⟩ = some (.int .i64 7) := cell_st b0 (blk_ne _ _ BX.out.2.1)
  go_upto_region 18 with (fail)
  generalize w3.setCell ⟨nb, j1, none⟩ (.bool ng) = w4 at *
  clear c2 gp fp b0 b1
  have HSG := Lib.hid (sign_any 7 ng w4 (by decide) H4.out.1.fm)
  obtain ⟨sg, HSV⟩ : ∃ sg, Hid (sgF 7 ng = sg) := ⟨_, Lib.hid rfl⟩
  rw [HSV.out] at HSG
  go_wp2_with fail
  refine HSG.out.mono ?_
  rintro e w9 ⟨rfl, hb9⟩
  have H9 : Hid (WrW F w9 ⟨(((S.ng).set (l) true).set (l) (!(vl == ng))).set j1 ng, S.wt, S.w⟩ vw vo ∧ Wt F.rb F.nb F.B0 w w9) := Lib.hid ⟨H4.out.1.below hb9, H4.out.2.trans (Wt.below hb9)⟩
  clear hb9 HSG
  have HPT := Lib.hid (put_any F _ vw vo sg 0 w9 H9.out.1 (by have := HL.out; show S.w.length ≤ 90000; omega))
  rw [HRB.out] at HPT
  go_wp2_with fail
  refine HPT.out.mono ?_
  rintro e w10 ⟨rfl, hw10, ht10⟩
  have HW10 := Lib.hid hw10
  have HT10 := Lib.hid ht10
  clear hw10 ht10 HPT
  have HE : Hid (writeF F.e F.B S (j1 + 1) = ⟨(((S.ng).set (l) true).set (l) (!(vl == ng))).set j1 ng, S.wt, S.w ++ [(sg, 0)]⟩) := Lib.hid (by
    unfold writeF
    rw [HND.out, HNG.out]
    have e1 : ngW F.B 7 S (j1 + 1) = (((S.ng).set (l) true).set (l) (!(vl == ng))).set j1 ng := by
      unfold ngW
      simp only [HLEF.out, HNG.out, Nat.add_sub_cancel]
      rw [if_pos (by decide)]
      rw [if_pos trivial]
      rw [HVL.out]
      rfl
    have e2 : outW (7, q) ng = [(sg, 0)] := by
      unfold outW
      dsimp only
      rw [if_neg (by decide), if_neg (by decide), HSV.out]
    rw [e1, e2])
  go_wp2
  go_end0
  rw [HE.out]
  exact ⟨rfl, HW10.out, H9.out.2.trans HT10.out⟩
set_option maxRecDepth 20000 in
set_option maxHeartbeats 8000000 in
theorem write_5 (F : Fx) (S : St) (vw vo : Value) (j : Nat) (q : Int) (w : World) (h : WrW F w S vw vo) (hj : j < F.m) (hnd : F.e.getD j (0, 0) = (5, q)) (hl : S.w.length ≤ 80000) (l : Nat) (hB : F.B.getD (j - 1) 0 = ((l + 1 : Nat) : Int)) (hlj : l + 1 < j) :
    Calls Tryd.prog 30 #[.pointer (some ⟨F.rb, 0, none⟩), .int .i64 (j : Int)] w (StepP F w (writeF F.e F.B S j)) := by
  have HL := Lib.hid hl
  have hm9 := h.mx
  have hbx := below_one w (.cells #[.int .i64 5, .int .i64 q] 38)
  obtain ⟨w1, HW1⟩ : ∃ w1, w1 = (w.alloc (.cells #[.int .i64 5, .int .i64 q] 38)).drew := ⟨_, rfl⟩
  have H1 : Hid (WrW F w1 S vw vo ∧ Wt F.rb F.nb F.B0 w w1) := Lib.hid (by rw [HW1]; exact ⟨h.below hbx.drew, Wt.below hbx.drew⟩)
  obtain ⟨rb, HRB⟩ : ∃ rb, Hid (F.rb = rb) := ⟨_, Lib.hid rfl⟩
  obtain ⟨nb, HNB⟩ : ∃ nb, Hid (F.nb = nb) := ⟨_, Lib.hid rfl⟩
  obtain ⟨m, HM⟩ : ∃ m, Hid (F.m = m) := ⟨_, Lib.hid rfl⟩
  obtain ⟨ng, HNG⟩ : ∃ ng, Hid (S.ng.getD j false = ng) := ⟨_, Lib.hid rfl⟩
  obtain ⟨ab, ao, hA, hab, hca⟩ := h.a (by have := h.ml; omega)
  have c0 := h.c.c0
  have c2 := h.c.c2
  rw [hA] at c0
  have a0 := (hca j (by have := h.ml; omega)).1
  have a1 := (hca j (by have := h.ml; omega)).2
  rw [hnd] at a0 a1
  have g2 := h.n.cell hj
  rw [HNG.out] at g2
  rw [HRB.out, HM.out] at c0 c2
  rw [HNB.out] at c2 g2
  rw [HRB.out]
  rw [HM.out] at hj hm9
  have hjm : (j : Int) < (m : Int) := by omega
  generalize F.c = cc at *
  have HLT : Hid (F.rb < w.heap.size ∧ F.nb < w.heap.size) := Lib.hid ⟨h.c.lt, h.n.lt⟩
  have HOWN : Hid (vo.ownBlock ≠ some w.heap.size) := Lib.hid (fun e => by have := (World.ownsRow.lt h.wo _ e).2; omega)
  have HND := Lib.hid hnd
  have HBB := Lib.hid hB
  have HLEF : Hid (lefF F.B j = l) := Lib.hid (by unfold lefF; rw [hB]; omega)
  have HNR : Hid (nb ≠ rb) := Lib.hid (by rw [← HRB.out, ← HNB.out]; exact fun e => h.rn e.symm)
  clear h hl hA hca hbx hnd hB
  go_enter Tryd.func30, Tryd.ntmps30
  have hrl : rb < w.heap.size := by rw [← HRB.out]; exact HLT.out.1
  have hnl : nb < w.heap.size := by rw [← HNB.out]; exact HLT.out.2
  have hne1 : ∀ b i k, b < w.heap.size → (⟨w.heap.size, i, none⟩ : Addr) ≠ ⟨b, k, none⟩ := fun b i k hb => blk_ne i k (by omega)
  go_wp2
  go_region_held3 (fun w' => w'.cell? ⟨rb, 0, none⟩ = some (.slice (some ⟨ab, ao, none⟩) m cc) ∧ w'.cell? ⟨ab, ao + j * 2, none⟩ = some (.int .i64 5) ∧ w'.cell? ⟨ab, ao + j * 2 + 1, none⟩ = some (.int .i64 q) ∧ w'.cell? ⟨rb, 2, none⟩ = some (.slice (some ⟨nb, 0, none⟩) m m) ∧ w'.cell? ⟨nb, j, none⟩ = some (.bool ng))
    (first | exact ⟨c0, a0, a1, c2, g2⟩ | exact ⟨cell_al c0 hrl, cell_al a0 hab, cell_al a1 hab, cell_al c2 hrl, cell_al g2 hnl⟩ | exact ⟨cell_st (cell_st (cell_al c0 hrl) (hne1 _ _ _ hrl)) (hne1 _ _ _ hrl), cell_st (cell_st (cell_al a0 hab) (hne1 _ _ _ hab)) (hne1 _ _ _ hab), cell_st (cell_st (cell_al a1 hab) (hne1 _ _ _ hab)) (hne1 _ _ _ hab), cell_st (cell_st (cell_al c2 hrl) (hne1 _ _ _ hrl)) (hne1 _ _ _ hrl), cell_st (cell_st (cell_al g2 hnl) (hne1 _ _ _ hnl)) (hne1 _ _ _ hnl)⟩ | go_keep)
    (fail)
  rw [← HW1]
  have b0 : w1.cell? ⟨w.heap.size, 0, none⟩ = some (.int .i64 5) := by rw [HW1]; exact World.cell?_alloc_at _ _ _ _ rfl
  have b1 : w1.cell? ⟨w.heap.size, 1, none⟩ = some (.int .i64 q) := by rw [HW1]; exact World.cell?_alloc_at _ _ _ _ rfl
  have BX : Hid (w.heap.size < w1.heap.size ∧ nb ≠ w.heap.size ∧ rb ≠ w.heap.size) := Lib.hid ⟨by rw [HW1]; simp, by omega, by omega⟩
  clear c0 c2 g2 a0 a1 HW1 hne1
  have hlm : (l : Int) < (m : Int) := by omega
  have hl1 : ((l + 1 : Nat) : Int) - 1 = (l : Int) := by omega
  have HLF : Hid (∀ W : World, (∃ S' vw' vo', WrW F W S' vw' vo') → Calls Tryd.prog 42 #[.pointer (some ⟨rb, 0, none⟩), .int .i64 (j : Int)] W fun e W' => e = .returned (.int .i64 (l : Int)) ∧ W = W') := Lib.hid (fun W ⟨S', vw', vo', hW⟩ => by
    have h1 := left_any F S' vw' vo' j W hW (by rw [HM.out]; omega) ⟨l + 1, HBB.out, by omega⟩
    rw [HBB.out, hl1, HRB.out] at h1
    exact h1)
  clear hl1
  go_wp2_with fail
  refine (HLF.out _ ⟨_, _, _, H1.out.1⟩).mono ?_
  rintro e w' ⟨rfl, rfl⟩
  go_upto_region 16 with (fail)
  have c2 := H1.out.1.c.c2
  rw [HRB.out, HNB.out, HM.out] at c2
  have gl := H1.out.1.n.cell (i := l) (by rw [HM.out]; omega)
  have fl := H1.out.1.n.frozen (l)
  rw [HNB.out] at gl fl
  obtain ⟨vl, HVL⟩ : ∃ vl, Hid ((S.ng).getD l false = vl) := ⟨_, Lib.hid rfl⟩
  try dsimp only at gl
  rw [HVL.out] at gl

  obtain ⟨w2, HW2⟩ : ∃ w2, w2 = (w1.setCell ⟨nb, l, none⟩ (.bool (!(vl == ng)))).drew := ⟨_, rfl⟩
  have H2 : Hid (WrW F w2 ⟨(S.ng).set (l) (!(vl == ng)), S.wt, S.w⟩ vw vo ∧ Wt F.rb F.nb F.B0 w w2) := Lib.hid (by
    rw [HW2, ← HNB.out]
    have h := H1.out.1.setN (l) (!(vl == ng)) (by rw [HM.out]; omega)
    exact ⟨h.1.below (Below.refl _ _).drew, (H1.out.2.trans h.2).trans (Wt.below (Below.refl _ _).drew)⟩)
  have b02 : w2.cell? ⟨w.heap.size, 0, none⟩ = some (.int .i64 5) := by rw [HW2]; exact cell_st b0 (blk_ne _ _ BX.out.2.1)
  have b12 : w2.cell? ⟨w.heap.size, 1, none⟩ = some (.int .i64 q) := by rw [HW2]; exact cell_st b1 (blk_ne _ _ BX.out.2.1)
  have BX2 : Hid (w.heap.size < w2.heap.size ∧ nb ≠ w.heap.size ∧ rb ≠ w.heap.size) := Lib.hid ⟨by rw [HW2]; simp; exact BX.out.1, BX.out.2⟩
  go_region
  rw [← HW2]
  clear b0 b1 BX HW2 c2
  have b0 := b02
  have b1 := b12
  have BX := BX2
  clear b02 b12 BX2
  clear gl fl
  go_upto_region 17 with (fail)
  have c2 := H2.out.1.c.c2
  rw [HRB.out, HNB.out, HM.out] at c2
  have gp := H2.out.1.n.cell (i := j - 1) (by rw [HM.out]; omega)
  have fp := H2.out.1.n.frozen (j - 1)
  rw [HNB.out] at gp fp
  obtain ⟨j1, rfl⟩ : ∃ j1, j = j1 + 1 := ⟨j - 1, by omega⟩
  rw [Nat.add_sub_cancel] at gp fp
  have hj1 : ((j1 + 1 : Nat) : Int) - 1 = (j1 : Int) := by omega
  have H3 : Hid (WrW F (w2.setCell ⟨nb, j1, none⟩ (.bool ng)) ⟨((S.ng).set (l) (!(vl == ng))).set j1 ng, S.wt, S.w⟩ vw vo ∧ Wt F.rb F.nb F.B0 w (w2.setCell ⟨nb, j1, none⟩ (.bool ng))) := Lib.hid (by
    rw [← HNB.out]
    have h := H2.out.1.setN j1 ng (by rw [HM.out]; omega)
    exact ⟨h.1, H2.out.2.trans h.2⟩)
  have b0x : (w2.setCell ⟨nb, j1, none⟩ (.bool ng)).cell? ⟨w.heap.size, 0, none⟩ = some (.int .i64 5) := cell_st b0 (blk_ne _ _ BX.out.2.1)
  go_upto_region 18 with (fail)
  generalize w2.setCell ⟨nb, j1, none⟩ (.bool ng) = w3 at *
  clear c2 gp fp b0 b1
  have HSG := Lib.hid (sign_any 5 ng w3 (by decide) H3.out.1.fm)
  obtain ⟨sg, HSV⟩ : ∃ sg, Hid (sgF 5 ng = sg) := ⟨_, Lib.hid rfl⟩
  rw [HSV.out] at HSG
  go_wp2_with fail
  refine HSG.out.mono ?_
  rintro e w9 ⟨rfl, hb9⟩
  have H9 : Hid (WrW F w9 ⟨((S.ng).set (l) (!(vl == ng))).set j1 ng, S.wt, S.w⟩ vw vo ∧ Wt F.rb F.nb F.B0 w w9) := Lib.hid ⟨H3.out.1.below hb9, H3.out.2.trans (Wt.below hb9)⟩
  clear hb9 HSG
  have HPT := Lib.hid (put_any F _ vw vo sg 0 w9 H9.out.1 (by have := HL.out; show S.w.length ≤ 90000; omega))
  rw [HRB.out] at HPT
  go_wp2_with fail
  refine HPT.out.mono ?_
  rintro e w10 ⟨rfl, hw10, ht10⟩
  have HW10 := Lib.hid hw10
  have HT10 := Lib.hid ht10
  clear hw10 ht10 HPT
  have HE : Hid (writeF F.e F.B S (j1 + 1) = ⟨((S.ng).set (l) (!(vl == ng))).set j1 ng, S.wt, S.w ++ [(sg, 0)]⟩) := Lib.hid (by
    unfold writeF
    rw [HND.out, HNG.out]
    have e1 : ngW F.B 5 S (j1 + 1) = ((S.ng).set (l) (!(vl == ng))).set j1 ng := by
      unfold ngW
      simp only [HLEF.out, HNG.out, Nat.add_sub_cancel]
      rw [if_pos (by decide)]
      rw [if_neg (by decide)]
      rw [HVL.out]
      rfl
    have e2 : outW (5, q) ng = [(sg, 0)] := by
      unfold outW
      dsimp only
      rw [if_neg (by decide), if_neg (by decide), HSV.out]
    rw [e1, e2])
  go_wp2
  go_end0
  rw [HE.out]
  exact ⟨rfl, HW10.out, H9.out.2.trans HT10.out⟩
set_option maxRecDepth 20000 in
set_option maxHeartbeats 8000000 in
theorem write_6 (F : Fx) (S : St) (vw vo : Value) (j : Nat) (q : Int) (w : World) (h : WrW F w S vw vo) (hj : j < F.m) (hnd : F.e.getD j (0, 0) = (6, q)) (hl : S.w.length ≤ 80000) (l : Nat) (hB : F.B.getD (j - 1) 0 = ((l + 1 : Nat) : Int)) (hlj : l + 1 < j) :
    Calls Tryd.prog 30 #[.pointer (some ⟨F.rb, 0, none⟩), .int .i64 (j : Int)] w (StepP F w (writeF F.e F.B S j)) := by
  have HL := Lib.hid hl
  have hm9 := h.mx
  have hbx := below_one w (.cells #[.int .i64 6, .int .i64 q] 38)
  obtain ⟨w1, HW1⟩ : ∃ w1, w1 = (w.alloc (.cells #[.int .i64 6, .int .i64 q] 38)).drew := ⟨_, rfl⟩
  have H1 : Hid (WrW F w1 S vw vo ∧ Wt F.rb F.nb F.B0 w w1) := Lib.hid (by rw [HW1]; exact ⟨h.below hbx.drew, Wt.below hbx.drew⟩)
  obtain ⟨rb, HRB⟩ : ∃ rb, Hid (F.rb = rb) := ⟨_, Lib.hid rfl⟩
  obtain ⟨nb, HNB⟩ : ∃ nb, Hid (F.nb = nb) := ⟨_, Lib.hid rfl⟩
  obtain ⟨m, HM⟩ : ∃ m, Hid (F.m = m) := ⟨_, Lib.hid rfl⟩
  obtain ⟨ng, HNG⟩ : ∃ ng, Hid (S.ng.getD j false = ng) := ⟨_, Lib.hid rfl⟩
  obtain ⟨ab, ao, hA, hab, hca⟩ := h.a (by have := h.ml; omega)
  have c0 := h.c.c0
  have c2 := h.c.c2
  rw [hA] at c0
  have a0 := (hca j (by have := h.ml; omega)).1
  have a1 := (hca j (by have := h.ml; omega)).2
  rw [hnd] at a0 a1
  have g2 := h.n.cell hj
  rw [HNG.out] at g2
  rw [HRB.out, HM.out] at c0 c2
  rw [HNB.out] at c2 g2
  rw [HRB.out]
  rw [HM.out] at hj hm9
  have hjm : (j : Int) < (m : Int) := by omega
  generalize F.c = cc at *
  have HLT : Hid (F.rb < w.heap.size ∧ F.nb < w.heap.size) := Lib.hid ⟨h.c.lt, h.n.lt⟩
  have HOWN : Hid (vo.ownBlock ≠ some w.heap.size) := Lib.hid (fun e => by have := (World.ownsRow.lt h.wo _ e).2; omega)
  have HND := Lib.hid hnd
  have HBB := Lib.hid hB
  have HLEF : Hid (lefF F.B j = l) := Lib.hid (by unfold lefF; rw [hB]; omega)
  have HNR : Hid (nb ≠ rb) := Lib.hid (by rw [← HRB.out, ← HNB.out]; exact fun e => h.rn e.symm)
  clear h hl hA hca hbx hnd hB
  go_enter Tryd.func30, Tryd.ntmps30
  have hrl : rb < w.heap.size := by rw [← HRB.out]; exact HLT.out.1
  have hnl : nb < w.heap.size := by rw [← HNB.out]; exact HLT.out.2
  have hne1 : ∀ b i k, b < w.heap.size → (⟨w.heap.size, i, none⟩ : Addr) ≠ ⟨b, k, none⟩ := fun b i k hb => blk_ne i k (by omega)
  go_wp2
  go_region_held3 (fun w' => w'.cell? ⟨rb, 0, none⟩ = some (.slice (some ⟨ab, ao, none⟩) m cc) ∧ w'.cell? ⟨ab, ao + j * 2, none⟩ = some (.int .i64 6) ∧ w'.cell? ⟨ab, ao + j * 2 + 1, none⟩ = some (.int .i64 q) ∧ w'.cell? ⟨rb, 2, none⟩ = some (.slice (some ⟨nb, 0, none⟩) m m) ∧ w'.cell? ⟨nb, j, none⟩ = some (.bool ng))
    (first | exact ⟨c0, a0, a1, c2, g2⟩ | exact ⟨cell_al c0 hrl, cell_al a0 hab, cell_al a1 hab, cell_al c2 hrl, cell_al g2 hnl⟩ | exact ⟨cell_st (cell_st (cell_al c0 hrl) (hne1 _ _ _ hrl)) (hne1 _ _ _ hrl), cell_st (cell_st (cell_al a0 hab) (hne1 _ _ _ hab)) (hne1 _ _ _ hab), cell_st (cell_st (cell_al a1 hab) (hne1 _ _ _ hab)) (hne1 _ _ _ hab), cell_st (cell_st (cell_al c2 hrl) (hne1 _ _ _ hrl)) (hne1 _ _ _ hrl), cell_st (cell_st (cell_al g2 hnl) (hne1 _ _ _ hnl)) (hne1 _ _ _ hnl)⟩ | go_keep)
    (fail)
  rw [← HW1]
  have b0 : w1.cell? ⟨w.heap.size, 0, none⟩ = some (.int .i64 6) := by rw [HW1]; exact World.cell?_alloc_at _ _ _ _ rfl
  have b1 : w1.cell? ⟨w.heap.size, 1, none⟩ = some (.int .i64 q) := by rw [HW1]; exact World.cell?_alloc_at _ _ _ _ rfl
  have BX : Hid (w.heap.size < w1.heap.size ∧ nb ≠ w.heap.size ∧ rb ≠ w.heap.size) := Lib.hid ⟨by rw [HW1]; simp, by omega, by omega⟩
  clear c0 c2 g2 a0 a1 HW1 hne1
  have hlm : (l : Int) < (m : Int) := by omega
  have hl1 : ((l + 1 : Nat) : Int) - 1 = (l : Int) := by omega
  have HLF : Hid (∀ W : World, (∃ S' vw' vo', WrW F W S' vw' vo') → Calls Tryd.prog 42 #[.pointer (some ⟨rb, 0, none⟩), .int .i64 (j : Int)] W fun e W' => e = .returned (.int .i64 (l : Int)) ∧ W = W') := Lib.hid (fun W ⟨S', vw', vo', hW⟩ => by
    have h1 := left_any F S' vw' vo' j W hW (by rw [HM.out]; omega) ⟨l + 1, HBB.out, by omega⟩
    rw [HBB.out, hl1, HRB.out] at h1
    exact h1)
  clear hl1
  go_wp2_with fail
  refine (HLF.out _ ⟨_, _, _, H1.out.1⟩).mono ?_
  rintro e w' ⟨rfl, rfl⟩
  go_upto_region 16 with (fail)
  have c2 := H1.out.1.c.c2
  rw [HRB.out, HNB.out, HM.out] at c2
  have gl := H1.out.1.n.cell (i := l) (by rw [HM.out]; omega)
  have fl := H1.out.1.n.frozen (l)
  rw [HNB.out] at gl fl
  obtain ⟨vl, HVL⟩ : ∃ vl, Hid ((S.ng).getD l false = vl) := ⟨_, Lib.hid rfl⟩
  try dsimp only at gl
  rw [HVL.out] at gl

  obtain ⟨w2, HW2⟩ : ∃ w2, w2 = (w1.setCell ⟨nb, l, none⟩ (.bool (!(vl == ng)))).drew := ⟨_, rfl⟩
  have H2 : Hid (WrW F w2 ⟨(S.ng).set (l) (!(vl == ng)), S.wt, S.w⟩ vw vo ∧ Wt F.rb F.nb F.B0 w w2) := Lib.hid (by
    rw [HW2, ← HNB.out]
    have h := H1.out.1.setN (l) (!(vl == ng)) (by rw [HM.out]; omega)
    exact ⟨h.1.below (Below.refl _ _).drew, (H1.out.2.trans h.2).trans (Wt.below (Below.refl _ _).drew)⟩)
  have b02 : w2.cell? ⟨w.heap.size, 0, none⟩ = some (.int .i64 6) := by rw [HW2]; exact cell_st b0 (blk_ne _ _ BX.out.2.1)
  have b12 : w2.cell? ⟨w.heap.size, 1, none⟩ = some (.int .i64 q) := by rw [HW2]; exact cell_st b1 (blk_ne _ _ BX.out.2.1)
  have BX2 : Hid (w.heap.size < w2.heap.size ∧ nb ≠ w.heap.size ∧ rb ≠ w.heap.size) := Lib.hid ⟨by rw [HW2]; simp; exact BX.out.1, BX.out.2⟩
  go_region
  rw [← HW2]
  clear b0 b1 BX HW2 c2
  have b0 := b02
  have b1 := b12
  have BX := BX2
  clear b02 b12 BX2
  clear gl fl
  go_upto_region 17 with (fail)
  have c2 := H2.out.1.c.c2
  rw [HRB.out, HNB.out, HM.out] at c2
  have gp := H2.out.1.n.cell (i := j - 1) (by rw [HM.out]; omega)
  have fp := H2.out.1.n.frozen (j - 1)
  rw [HNB.out] at gp fp
  obtain ⟨j1, rfl⟩ : ∃ j1, j = j1 + 1 := ⟨j - 1, by omega⟩
  rw [Nat.add_sub_cancel] at gp fp
  have hj1 : ((j1 + 1 : Nat) : Int) - 1 = (j1 : Int) := by omega
  have H3 : Hid (WrW F (w2.setCell ⟨nb, j1, none⟩ (.bool ng)) ⟨((S.ng).set (l) (!(vl == ng))).set j1 ng, S.wt, S.w⟩ vw vo ∧ Wt F.rb F.nb F.B0 w (w2.setCell ⟨nb, j1, none⟩ (.bool ng))) := Lib.hid (by
    rw [← HNB.out]
    have h := H2.out.1.setN j1 ng (by rw [HM.out]; omega)
    exact ⟨h.1, H2.out.2.trans h.2⟩)
  have b0x : (w2.setCell ⟨nb, j1, none⟩ (.bool ng)).cell? ⟨w.heap.size, 0, none⟩ = some (.int .i64 6) := cell_st b0 (blk_ne _ _ BX.out.2.1)
  go_upto_region 18 with (fail)
  generalize w2.setCell ⟨nb, j1, none⟩ (.bool ng) = w3 at *
  clear c2 gp fp b0 b1
  have HSG := Lib.hid (sign_any 6 ng w3 (by decide) H3.out.1.fm)
  obtain ⟨sg, HSV⟩ : ∃ sg, Hid (sgF 6 ng = sg) := ⟨_, Lib.hid rfl⟩
  rw [HSV.out] at HSG
  go_wp2_with fail
  refine HSG.out.mono ?_
  rintro e w9 ⟨rfl, hb9⟩
  have H9 : Hid (WrW F w9 ⟨((S.ng).set (l) (!(vl == ng))).set j1 ng, S.wt, S.w⟩ vw vo ∧ Wt F.rb F.nb F.B0 w w9) := Lib.hid ⟨H3.out.1.below hb9, H3.out.2.trans (Wt.below hb9)⟩
  clear hb9 HSG
  have HPT := Lib.hid (put_any F _ vw vo sg 0 w9 H9.out.1 (by have := HL.out; show S.w.length ≤ 90000; omega))
  rw [HRB.out] at HPT
  go_wp2_with fail
  refine HPT.out.mono ?_
  rintro e w10 ⟨rfl, hw10, ht10⟩
  have HW10 := Lib.hid hw10
  have HT10 := Lib.hid ht10
  clear hw10 ht10 HPT
  have HE : Hid (writeF F.e F.B S (j1 + 1) = ⟨((S.ng).set (l) (!(vl == ng))).set j1 ng, S.wt, S.w ++ [(sg, 0)]⟩) := Lib.hid (by
    unfold writeF
    rw [HND.out, HNG.out]
    have e1 : ngW F.B 6 S (j1 + 1) = ((S.ng).set (l) (!(vl == ng))).set j1 ng := by
      unfold ngW
      simp only [HLEF.out, HNG.out, Nat.add_sub_cancel]
      rw [if_pos (by decide)]
      rw [if_neg (by decide)]
      rw [HVL.out]
      rfl
    have e2 : outW (6, q) ng = [(sg, 0)] := by
      unfold outW
      dsimp only
      rw [if_neg (by decide), if_neg (by decide), HSV.out]
    rw [e1, e2])
  go_wp2
  go_end0
  rw [HE.out]
  exact ⟨rfl, HW10.out, H9.out.2.trans HT10.out⟩
set_option maxRecDepth 20000 in
set_option maxHeartbeats 8000000 in
theorem write_9 (F : Fx) (S : St) (vw vo : Value) (j : Nat) (q : Int) (w : World) (h : WrW F w S vw vo) (hj : j < F.m) (hnd : F.e.getD j (0, 0) = (9, q)) (hl : S.w.length ≤ 80000) (l : Nat) (hB : F.B.getD (j - 1) 0 = ((l + 1 : Nat) : Int)) (hlj : l + 1 < j) :
    Calls Tryd.prog 30 #[.pointer (some ⟨F.rb, 0, none⟩), .int .i64 (j : Int)] w (StepP F w (writeF F.e F.B S j)) := by
  have HL := Lib.hid hl
  have hm9 := h.mx
  have hbx := below_one w (.cells #[.int .i64 9, .int .i64 q] 38)
  obtain ⟨w1, HW1⟩ : ∃ w1, w1 = (w.alloc (.cells #[.int .i64 9, .int .i64 q] 38)).drew := ⟨_, rfl⟩
  have H1 : Hid (WrW F w1 S vw vo ∧ Wt F.rb F.nb F.B0 w w1) := Lib.hid (by rw [HW1]; exact ⟨h.below hbx.drew, Wt.below hbx.drew⟩)
  obtain ⟨rb, HRB⟩ : ∃ rb, Hid (F.rb = rb) := ⟨_, Lib.hid rfl⟩
  obtain ⟨nb, HNB⟩ : ∃ nb, Hid (F.nb = nb) := ⟨_, Lib.hid rfl⟩
  obtain ⟨m, HM⟩ : ∃ m, Hid (F.m = m) := ⟨_, Lib.hid rfl⟩
  obtain ⟨ng, HNG⟩ : ∃ ng, Hid (S.ng.getD j false = ng) := ⟨_, Lib.hid rfl⟩
  obtain ⟨ab, ao, hA, hab, hca⟩ := h.a (by have := h.ml; omega)
  have c0 := h.c.c0
  have c2 := h.c.c2
  rw [hA] at c0
  have a0 := (hca j (by have := h.ml; omega)).1
  have a1 := (hca j (by have := h.ml; omega)).2
  rw [hnd] at a0 a1
  have g2 := h.n.cell hj
  rw [HNG.out] at g2
  rw [HRB.out, HM.out] at c0 c2
  rw [HNB.out] at c2 g2
  rw [HRB.out]
  rw [HM.out] at hj hm9
  have hjm : (j : Int) < (m : Int) := by omega
  generalize F.c = cc at *
  have HLT : Hid (F.rb < w.heap.size ∧ F.nb < w.heap.size) := Lib.hid ⟨h.c.lt, h.n.lt⟩
  have HOWN : Hid (vo.ownBlock ≠ some w.heap.size) := Lib.hid (fun e => by have := (World.ownsRow.lt h.wo _ e).2; omega)
  have HND := Lib.hid hnd
  have HBB := Lib.hid hB
  have HLEF : Hid (lefF F.B j = l) := Lib.hid (by unfold lefF; rw [hB]; omega)
  have HNR : Hid (nb ≠ rb) := Lib.hid (by rw [← HRB.out, ← HNB.out]; exact fun e => h.rn e.symm)
  clear h hl hA hca hbx hnd hB
  go_enter Tryd.func30, Tryd.ntmps30
  have hrl : rb < w.heap.size := by rw [← HRB.out]; exact HLT.out.1
  have hnl : nb < w.heap.size := by rw [← HNB.out]; exact HLT.out.2
  have hne1 : ∀ b i k, b < w.heap.size → (⟨w.heap.size, i, none⟩ : Addr) ≠ ⟨b, k, none⟩ := fun b i k hb => blk_ne i k (by omega)
  go_wp2
  go_region_held3 (fun w' => w'.cell? ⟨rb, 0, none⟩ = some (.slice (some ⟨ab, ao, none⟩) m cc) ∧ w'.cell? ⟨ab, ao + j * 2, none⟩ = some (.int .i64 9) ∧ w'.cell? ⟨ab, ao + j * 2 + 1, none⟩ = some (.int .i64 q) ∧ w'.cell? ⟨rb, 2, none⟩ = some (.slice (some ⟨nb, 0, none⟩) m m) ∧ w'.cell? ⟨nb, j, none⟩ = some (.bool ng))
    (first | exact ⟨c0, a0, a1, c2, g2⟩ | exact ⟨cell_al c0 hrl, cell_al a0 hab, cell_al a1 hab, cell_al c2 hrl, cell_al g2 hnl⟩ | exact ⟨cell_st (cell_st (cell_al c0 hrl) (hne1 _ _ _ hrl)) (hne1 _ _ _ hrl), cell_st (cell_st (cell_al a0 hab) (hne1 _ _ _ hab)) (hne1 _ _ _ hab), cell_st (cell_st (cell_al a1 hab) (hne1 _ _ _ hab)) (hne1 _ _ _ hab), cell_st (cell_st (cell_al c2 hrl) (hne1 _ _ _ hrl)) (hne1 _ _ _ hrl), cell_st (cell_st (cell_al g2 hnl) (hne1 _ _ _ hnl)) (hne1 _ _ _ hnl)⟩ | go_keep)
    (fail)
  rw [← HW1]
  have b0 : w1.cell? ⟨w.heap.size, 0, none⟩ = some (.int .i64 9) := by rw [HW1]; exact World.cell?_alloc_at _ _ _ _ rfl
  have b1 : w1.cell? ⟨w.heap.size, 1, none⟩ = some (.int .i64 q) := by rw [HW1]; exact World.cell?_alloc_at _ _ _ _ rfl
  have BX : Hid (w.heap.size < w1.heap.size ∧ nb ≠ w.heap.size ∧ rb ≠ w.heap.size) := Lib.hid ⟨by rw [HW1]; simp, by omega, by omega⟩
  clear c0 c2 g2 a0 a1 HW1 hne1
  have hlm : (l : Int) < (m : Int) := by omega
  have hl1 : ((l + 1 : Nat) : Int) - 1 = (l : Int) := by omega
  have HLF : Hid (∀ W : World, (∃ S' vw' vo', WrW F W S' vw' vo') → Calls Tryd.prog 42 #[.pointer (some ⟨rb, 0, none⟩), .int .i64 (j : Int)] W fun e W' => e = .returned (.int .i64 (l : Int)) ∧ W = W') := Lib.hid (fun W ⟨S', vw', vo', hW⟩ => by
    have h1 := left_any F S' vw' vo' j W hW (by rw [HM.out]; omega) ⟨l + 1, HBB.out, by omega⟩
    rw [HBB.out, hl1, HRB.out] at h1
    exact h1)
  clear hl1
  go_wp2_with fail
  refine (HLF.out _ ⟨_, _, _, H1.out.1⟩).mono ?_
  rintro e w' ⟨rfl, rfl⟩
  go_upto_region 16 with (fail)
  have c2 := H1.out.1.c.c2
  rw [HRB.out, HNB.out, HM.out] at c2
  have gl := H1.out.1.n.cell (i := l) (by rw [HM.out]; omega)
  have fl := H1.out.1.n.frozen (l)
  rw [HNB.out] at gl fl
  obtain ⟨vl, HVL⟩ : ∃ vl, Hid ((S.ng).getD l false = vl) := ⟨_, Lib.hid rfl⟩
  try dsimp only at gl
  rw [HVL.out] at gl

  obtain ⟨w2, HW2⟩ : ∃ w2, w2 = (w1.setCell ⟨nb, l, none⟩ (.bool (!(vl == ng)))).drew := ⟨_, rfl⟩
  have H2 : Hid (WrW F w2 ⟨(S.ng).set (l) (!(vl == ng)), S.wt, S.w⟩ vw vo ∧ Wt F.rb F.nb F.B0 w w2) := Lib.hid (by
    rw [HW2, ← HNB.out]
    have h := H1.out.1.setN (l) (!(vl == ng)) (by rw [HM.out]; omega)
    exact ⟨h.1.below (Below.refl _ _).drew, (H1.out.2.trans h.2).trans (Wt.below (Below.refl _ _).drew)⟩)
  have b02 : w2.cell? ⟨w.heap.size, 0, none⟩ = some (.int .i64 9) := by rw [HW2]; exact cell_st b0 (blk_ne _ _ BX.out.2.1)
  have b12 : w2.cell? ⟨w.heap.size, 1, none⟩ = some (.int .i64 q) := by rw [HW2]; exact cell_st b1 (blk_ne _ _ BX.out.2.1)
  have BX2 : Hid (w.heap.size < w2.heap.size ∧ nb ≠ w.heap.size ∧ rb ≠ w.heap.size) := Lib.hid ⟨by rw [HW2]; simp; exact BX.out.1, BX.out.2⟩
  go_region
  rw [← HW2]
  clear b0 b1 BX HW2 c2
  have b0 := b02
  have b1 := b12
  have BX := BX2
  clear b02 b12 BX2
  clear gl fl
  go_upto_region 17 with (fail)
  have c2 := H2.out.1.c.c2
  rw [HRB.out, HNB.out, HM.out] at c2
  have gp := H2.out.1.n.cell (i := j - 1) (by rw [HM.out]; omega)
  have fp := H2.out.1.n.frozen (j - 1)
  rw [HNB.out] at gp fp
  obtain ⟨j1, rfl⟩ : ∃ j1, j = j1 + 1 := ⟨j - 1, by omega⟩
  rw [Nat.add_sub_cancel] at gp fp
  have hj1 : ((j1 + 1 : Nat) : Int) - 1 = (j1 : Int) := by omega
  have H3 : Hid (WrW F (w2.setCell ⟨nb, j1, none⟩ (.bool ng)) ⟨((S.ng).set (l) (!(vl == ng))).set j1 ng, S.wt, S.w⟩ vw vo ∧ Wt F.rb F.nb F.B0 w (w2.setCell ⟨nb, j1, none⟩ (.bool ng))) := Lib.hid (by
    rw [← HNB.out]
    have h := H2.out.1.setN j1 ng (by rw [HM.out]; omega)
    exact ⟨h.1, H2.out.2.trans h.2⟩)
  have b0x : (w2.setCell ⟨nb, j1, none⟩ (.bool ng)).cell? ⟨w.heap.size, 0, none⟩ = some (.int .i64 9) := cell_st b0 (blk_ne _ _ BX.out.2.1)
  go_upto_region 18 with (fail)
  generalize w2.setCell ⟨nb, j1, none⟩ (.bool ng) = w3 at *
  clear c2 gp fp b0 b1
  have HSG := Lib.hid (sign_any 9 ng w3 (by decide) H3.out.1.fm)
  obtain ⟨sg, HSV⟩ : ∃ sg, Hid (sgF 9 ng = sg) := ⟨_, Lib.hid rfl⟩
  rw [HSV.out] at HSG
  go_wp2_with fail
  refine HSG.out.mono ?_
  rintro e w9 ⟨rfl, hb9⟩
  have H9 : Hid (WrW F w9 ⟨((S.ng).set (l) (!(vl == ng))).set j1 ng, S.wt, S.w⟩ vw vo ∧ Wt F.rb F.nb F.B0 w w9) := Lib.hid ⟨H3.out.1.below hb9, H3.out.2.trans (Wt.below hb9)⟩
  clear hb9 HSG
  have HPT := Lib.hid (put_any F _ vw vo sg 0 w9 H9.out.1 (by have := HL.out; show S.w.length ≤ 90000; omega))
  rw [HRB.out] at HPT
  go_wp2_with fail
  refine HPT.out.mono ?_
  rintro e w10 ⟨rfl, hw10, ht10⟩
  have HW10 := Lib.hid hw10
  have HT10 := Lib.hid ht10
  clear hw10 ht10 HPT
  have HE : Hid (writeF F.e F.B S (j1 + 1) = ⟨((S.ng).set (l) (!(vl == ng))).set j1 ng, S.wt, S.w ++ [(sg, 0)]⟩) := Lib.hid (by
    unfold writeF
    rw [HND.out, HNG.out]
    have e1 : ngW F.B 9 S (j1 + 1) = ((S.ng).set (l) (!(vl == ng))).set j1 ng := by
      unfold ngW
      simp only [HLEF.out, HNG.out, Nat.add_sub_cancel]
      rw [if_pos (by decide)]
      rw [if_neg (by decide)]
      rw [HVL.out]
      rfl
    have e2 : outW (9, q) ng = [(sg, 0)] := by
      unfold outW
      dsimp only
      rw [if_neg (by decide), if_neg (by decide), HSV.out]
    rw [e1, e2])
  go_wp2
  go_end0
  rw [HE.out]
  exact ⟨rfl, HW10.out, H9.out.2.trans HT10.out⟩
set_option maxRecDepth 20000 in
set_option maxHeartbeats 8000000 in
theorem write_10 (F : Fx) (S : St) (vw vo : Value) (j : Nat) (q : Int) (w : World) (h : WrW F w S vw vo) (hj : j < F.m) (hnd : F.e.getD j (0, 0) = (10, q)) (hl : S.w.length ≤ 80000) (l : Nat) (hB : F.B.getD (j - 1) 0 = ((l + 1 : Nat) : Int)) (hlj : l + 1 < j) :
    Calls Tryd.prog 30 #[.pointer (some ⟨F.rb, 0, none⟩), .int .i64 (j : Int)] w (StepP F w (writeF F.e F.B S j)) := by
  have HL := Lib.hid hl
  have hm9 := h.mx
  have hbx := below_one w (.cells #[.int .i64 10, .int .i64 q] 38)
  obtain ⟨w1, HW1⟩ : ∃ w1, w1 = (w.alloc (.cells #[.int .i64 10, .int .i64 q] 38)).drew := ⟨_, rfl⟩
  have H1 : Hid (WrW F w1 S vw vo ∧ Wt F.rb F.nb F.B0 w w1) := Lib.hid (by rw [HW1]; exact ⟨h.below hbx.drew, Wt.below hbx.drew⟩)
  obtain ⟨rb, HRB⟩ : ∃ rb, Hid (F.rb = rb) := ⟨_, Lib.hid rfl⟩
  obtain ⟨nb, HNB⟩ : ∃ nb, Hid (F.nb = nb) := ⟨_, Lib.hid rfl⟩
  obtain ⟨m, HM⟩ : ∃ m, Hid (F.m = m) := ⟨_, Lib.hid rfl⟩
  obtain ⟨ng, HNG⟩ : ∃ ng, Hid (S.ng.getD j false = ng) := ⟨_, Lib.hid rfl⟩
  obtain ⟨ab, ao, hA, hab, hca⟩ := h.a (by have := h.ml; omega)
  have c0 := h.c.c0
  have c2 := h.c.c2
  rw [hA] at c0
  have a0 := (hca j (by have := h.ml; omega)).1
  have a1 := (hca j (by have := h.ml; omega)).2
  rw [hnd] at a0 a1
  have g2 := h.n.cell hj
  rw [HNG.out] at g2
  rw [HRB.out, HM.out] at c0 c2
  rw [HNB.out] at c2 g2
  rw [HRB.out]
  rw [HM.out] at hj hm9
  have hjm : (j : Int) < (m : Int) := by omega
  generalize F.c = cc at *
  have HLT : Hid (F.rb < w.heap.size ∧ F.nb < w.heap.size) := Lib.hid ⟨h.c.lt, h.n.lt⟩
  have HOWN : Hid (vo.ownBlock ≠ some w.heap.size) := Lib.hid (fun e => by have := (World.ownsRow.lt h.wo _ e).2; omega)
  have HND := Lib.hid hnd
  have HBB := Lib.hid hB
  have HLEF : Hid (lefF F.B j = l) := Lib.hid (by unfold lefF; rw [hB]; omega)
  have HNR : Hid (nb ≠ rb) := Lib.hid (by rw [← HRB.out, ← HNB.out]; exact fun e => h.rn e.symm)
  clear h hl hA hca hbx hnd hB
  go_enter Tryd.func30, Tryd.ntmps30
  have hrl : rb < w.heap.size := by rw [← HRB.out]; exact HLT.out.1
  have hnl : nb < w.heap.size := by rw [← HNB.out]; exact HLT.out.2
  have hne1 : ∀ b i k, b < w.heap.size → (⟨w.heap.size, i, none⟩ : Addr) ≠ ⟨b, k, none⟩ := fun b i k hb => blk_ne i k (by omega)
  go_wp2
  go_region_held3 (fun w' => w'.cell? ⟨rb, 0, none⟩ = some (.slice (some ⟨ab, ao, none⟩) m cc) ∧ w'.cell? ⟨ab, ao + j * 2, none⟩ = some (.int .i64 10) ∧ w'.cell? ⟨ab, ao + j * 2 + 1, none⟩ = some (.int .i64 q) ∧ w'.cell? ⟨rb, 2, none⟩ = some (.slice (some ⟨nb, 0, none⟩) m m) ∧ w'.cell? ⟨nb, j, none⟩ = some (.bool ng))
    (first | exact ⟨c0, a0, a1, c2, g2⟩ | exact ⟨cell_al c0 hrl, cell_al a0 hab, cell_al a1 hab, cell_al c2 hrl, cell_al g2 hnl⟩ | exact ⟨cell_st (cell_st (cell_al c0 hrl) (hne1 _ _ _ hrl)) (hne1 _ _ _ hrl), cell_st (cell_st (cell_al a0 hab) (hne1 _ _ _ hab)) (hne1 _ _ _ hab), cell_st (cell_st (cell_al a1 hab) (hne1 _ _ _ hab)) (hne1 _ _ _ hab), cell_st (cell_st (cell_al c2 hrl) (hne1 _ _ _ hrl)) (hne1 _ _ _ hrl), cell_st (cell_st (cell_al g2 hnl) (hne1 _ _ _ hnl)) (hne1 _ _ _ hnl)⟩ | go_keep)
    (fail)
  rw [← HW1]
  have b0 : w1.cell? ⟨w.heap.size, 0, none⟩ = some (.int .i64 10) := by rw [HW1]; exact World.cell?_alloc_at _ _ _ _ rfl
  have b1 : w1.cell? ⟨w.heap.size, 1, none⟩ = some (.int .i64 q) := by rw [HW1]; exact World.cell?_alloc_at _ _ _ _ rfl
  have BX : Hid (w.heap.size < w1.heap.size ∧ nb ≠ w.heap.size ∧ rb ≠ w.heap.size) := Lib.hid ⟨by rw [HW1]; simp, by omega, by omega⟩
  clear c0 c2 g2 a0 a1 HW1 hne1
  have hlm : (l : Int) < (m : Int) := by omega
  have hl1 : ((l + 1 : Nat) : Int) - 1 = (l : Int) := by omega
  have HLF : Hid (∀ W : World, (∃ S' vw' vo', WrW F W S' vw' vo') → Calls Tryd.prog 42 #[.pointer (some ⟨rb, 0, none⟩), .int .i64 (j : Int)] W fun e W' => e = .returned (.int .i64 (l : Int)) ∧ W = W') := Lib.hid (fun W ⟨S', vw', vo', hW⟩ => by
    have h1 := left_any F S' vw' vo' j W hW (by rw [HM.out]; omega) ⟨l + 1, HBB.out, by omega⟩
    rw [HBB.out, hl1, HRB.out] at h1
    exact h1)
  clear hl1
  go_wp2_with fail
  refine (HLF.out _ ⟨_, _, _, H1.out.1⟩).mono ?_
  rintro e w' ⟨rfl, rfl⟩
  go_upto_region 16 with (fail)
  have c2 := H1.out.1.c.c2
  rw [HRB.out, HNB.out, HM.out] at c2
  have gl := H1.out.1.n.cell (i := l) (by rw [HM.out]; omega)
  have fl := H1.out.1.n.frozen (l)
  rw [HNB.out] at gl fl
  obtain ⟨vl, HVL⟩ : ∃ vl, Hid ((S.ng).getD l false = vl) := ⟨_, Lib.hid rfl⟩
  try dsimp only at gl
  rw [HVL.out] at gl

  obtain ⟨w2, HW2⟩ : ∃ w2, w2 = (w1.setCell ⟨nb, l, none⟩ (.bool (!(vl == ng)))).drew := ⟨_, rfl⟩
  have H2 : Hid (WrW F w2 ⟨(S.ng).set (l) (!(vl == ng)), S.wt, S.w⟩ vw vo ∧ Wt F.rb F.nb F.B0 w w2) := Lib.hid (by
    rw [HW2, ← HNB.out]
    have h := H1.out.1.setN (l) (!(vl == ng)) (by rw [HM.out]; omega)
    exact ⟨h.1.below (Below.refl _ _).drew, (H1.out.2.trans h.2).trans (Wt.below (Below.refl _ _).drew)⟩)
  have b02 : w2.cell? ⟨w.heap.size, 0, none⟩ = some (.int .i64 10) := by rw [HW2]; exact cell_st b0 (blk_ne _ _ BX.out.2.1)
  have b12 : w2.cell? ⟨w.heap.size, 1, none⟩ = some (.int .i64 q) := by rw [HW2]; exact cell_st b1 (blk_ne _ _ BX.out.2.1)
  have BX2 : Hid (w.heap.size < w2.heap.size ∧ nb ≠ w.heap.size ∧ rb ≠ w.heap.size) := Lib.hid ⟨by rw [HW2]; simp; exact BX.out.1, BX.out.2⟩
  go_region
  rw [← HW2]
  clear b0 b1 BX HW2 c2
  have b0 := b02
  have b1 := b12
  have BX := BX2
  clear b02 b12 BX2
  clear gl fl
  go_upto_region 17 with (fail)
  have c2 := H2.out.1.c.c2
  rw [HRB.out, HNB.out, HM.out] at c2
  have gp := H2.out.1.n.cell (i := j - 1) (by rw [HM.out]; omega)
  have fp := H2.out.1.n.frozen (j - 1)
  rw [HNB.out] at gp fp
  obtain ⟨j1, rfl⟩ : ∃ j1, j = j1 + 1 := ⟨j - 1, by omega⟩
  rw [Nat.add_sub_cancel] at gp fp
  have hj1 : ((j1 + 1 : Nat) : Int) - 1 = (j1 : Int) := by omega
  have H3 : Hid (WrW F (w2.setCell ⟨nb, j1, none⟩ (.bool ng)) ⟨((S.ng).set (l) (!(vl == ng))).set j1 ng, S.wt, S.w⟩ vw vo ∧ Wt F.rb F.nb F.B0 w (w2.setCell ⟨nb, j1, none⟩ (.bool ng))) := Lib.hid (by
    rw [← HNB.out]
    have h := H2.out.1.setN j1 ng (by rw [HM.out]; omega)
    exact ⟨h.1, H2.out.2.trans h.2⟩)
  have b0x : (w2.setCell ⟨nb, j1, none⟩ (.bool ng)).cell? ⟨w.heap.size, 0, none⟩ = some (.int .i64 10) := cell_st b0 (blk_ne _ _ BX.out.2.1)
  go_upto_region 18 with (fail)
  generalize w2.setCell ⟨nb, j1, none⟩ (.bool ng) = w3 at *
  clear c2 gp fp b0 b1
  have HSG := Lib.hid (sign_any 10 ng w3 (by decide) H3.out.1.fm)
  obtain ⟨sg, HSV⟩ : ∃ sg, Hid (sgF 10 ng = sg) := ⟨_, Lib.hid rfl⟩
  rw [HSV.out] at HSG
  go_wp2_with fail
  refine HSG.out.mono ?_
  rintro e w9 ⟨rfl, hb9⟩
  have H9 : Hid (WrW F w9 ⟨((S.ng).set (l) (!(vl == ng))).set j1 ng, S.wt, S.w⟩ vw vo ∧ Wt F.rb F.nb F.B0 w w9) := Lib.hid ⟨H3.out.1.below hb9, H3.out.2.trans (Wt.below hb9)⟩
  clear hb9 HSG
  have HPT := Lib.hid (put_any F _ vw vo sg 0 w9 H9.out.1 (by have := HL.out; show S.w.length ≤ 90000; omega))
  rw [HRB.out] at HPT
  go_wp2_with fail
  refine HPT.out.mono ?_
  rintro e w10 ⟨rfl, hw10, ht10⟩
  have HW10 := Lib.hid hw10
  have HT10 := Lib.hid ht10
  clear hw10 ht10 HPT
  have HE : Hid (writeF F.e F.B S (j1 + 1) = ⟨((S.ng).set (l) (!(vl == ng))).set j1 ng, S.wt, S.w ++ [(sg, 0)]⟩) := Lib.hid (by
    unfold writeF
    rw [HND.out, HNG.out]
    have e1 : ngW F.B 10 S (j1 + 1) = ((S.ng).set (l) (!(vl == ng))).set j1 ng := by
      unfold ngW
      simp only [HLEF.out, HNG.out, Nat.add_sub_cancel]
      rw [if_pos (by decide)]
      rw [if_neg (by decide)]
      rw [HVL.out]
      rfl
    have e2 : outW (10, q) ng = [(sg, 0)] := by
      unfold outW
      dsimp only
      rw [if_neg (by decide), if_neg (by decide), HSV.out]
    rw [e1, e2])
  go_wp2
  go_end0
  rw [HE.out]
  exact ⟨rfl, HW10.out, H9.out.2.trans HT10.out⟩
end Go.Proofs.YtmdfiamffipbcaaDoor.nf
