/- The law WordNorms. -/
import Derived.Test.YtophajljjnjcdaaWdDocQ
import Derived.Test.YtophajljjnjcdaaWdAwake
import Derived.Test.YtophajljjnjcdaaWdOpens
namespace Go.Proofs.Ytophajljjnjcdaa.wordNorms
open Go.ChangeShapes Go.WideShapes Go.ChangeAt Go.RowKit Go.Deep sr lt nf wd

theorem lsame_yes (x y : WX) (st lp : List Int) (w : World) (hX : WdR w x st lp) (hY : WdR w y st lp) : Calls Try.prog 21 #[x.v, y.v] w (ValP w (.bool true)) := by
  have h := lsame_any x y st lp st lp w hX hY
  have e : weqB st lp st lp = true := by simp [weqB, eqB]
  rw [e] at h
  exact h
set_option maxRecDepth 20000 in
set_option maxHeartbeats 16000000 in
theorem walk (x y : WX) (st lp st2 lp2 : List Int) (i : Int) (w : World) (hX : WdA w x st lp) (hY : WdA w y st2 lp2) (hi : -9223372036854775808 ≤ i ∧ i ≤ 9223372036854775807) :
    Calls Try.prog 5 #[x.v, y.v, .int .i64 i] w fun e w' => e = .returned (.bool true) ∧ Below w.heap.size w w' := by
  obtain ⟨w2, HW2, HB2, HS2, HRR⟩ := two_boxes w (.slice x.A x.n x.c) (.slice x.B x.m x.d) (.slice y.A y.n y.c) (.slice y.B y.m y.d)
  have HS : Hid (∀ W, Below w2.heap.size w2 W → W.cell? ⟨w.heap.size, 0, none⟩ = some (.slice x.A x.n x.c) ∧ W.cell? ⟨w.heap.size, 1, none⟩ = some (.slice x.B x.m x.d) ∧ W.cell? ⟨w.heap.size + 1, 0, none⟩ = some (.slice y.A y.n y.c) ∧ W.cell? ⟨w.heap.size + 1, 1, none⟩ = some (.slice y.B y.m y.d)) := Lib.hid (fun W hW => by
    obtain ⟨r1, r2⟩ := HRR.out W hW
    exact ⟨r1.cell (i := 0) (by decide), r1.cell (i := 1) (by decide), r2.cell (i := 0) (by decide), r2.cell (i := 1) (by decide)⟩)
  have HH1 := Lib.hid (heavy_any none 0 0 x w2)
  have HH2 := Lib.hid (fun W => heavy_any none 0 0 y W)
  clear HRR HS2
  by_cases hh : 30 < x.n ∨ 30 < x.m
  · rw [decide_eq_true (p := 60 < 0 ∨ 30 < x.n ∨ 30 < x.m) (.inr hh)] at HH1
    obtain ⟨A, n, c, B, m, d⟩ := x
    obtain ⟨C, n2, c2, D, m2, d2⟩ := y
    unfold WX.v at HH1 HH2 ⊢
    dsimp only at HH1 HH2 HS HW2 hh ⊢
    clear hX hY hh hi HH2
    obtain ⟨p1, p2, p3, p4⟩ := HS.out w2 (Below.refl _ _)
    go_enter Try.func5, Try.ntmps5
    go_upto_region 1 with (fail)
    clear HW2
    go_wp2_with fail
    refine HH1.out.mono ?_
    rintro e4 w4 ⟨rfl, hb4⟩
    have HB4 : Hid (Below w2.heap.size w2 w4) := Lib.hid hb4
    clear hb4 p1 p2 p3 p4
    have HB0 := Lib.hid (HB2.out.trans (HB4.out.mono HB2.out.size))
    go_wp2_with fail
    refine (awake_any _).mono ?_
    rintro e3 w3 ⟨rfl, hb3⟩
    have HB3 := Lib.hid (HB0.out.trans (hb3.mono HB0.out.size))
    clear hb3
    go_wp2
    go_ret
    exact ⟨rfl, HB3.out⟩
  rw [decide_eq_false (p := 60 < 0 ∨ 30 < x.n ∨ 30 < x.m) (by omega)] at HH1
  have HX := Lib.hid (hX.small (by omega) (by omega))
  by_cases hh2 : 30 < y.n ∨ 30 < y.m
  · rw [decide_eq_true (p := 60 < 0 ∨ 30 < y.n ∨ 30 < y.m) (.inr hh2)] at HH2
    obtain ⟨A, n, c, B, m, d⟩ := x
    obtain ⟨C, n2, c2, D, m2, d2⟩ := y
    unfold WX.v at HH1 HH2 ⊢
    dsimp only at HH1 HH2 HS HW2 hh hh2 ⊢
    clear hX hY hh hh2 hi HX
    obtain ⟨p1, p2, p3, p4⟩ := HS.out w2 (Below.refl _ _)
    go_enter Try.func5, Try.ntmps5
    go_upto_region 1 with (fail)
    clear HW2
    go_wp2_with fail
    refine HH1.out.mono ?_
    rintro e4 w4 ⟨rfl, hb4⟩
    have HB4 : Hid (Below w2.heap.size w2 w4) := Lib.hid hb4
    clear hb4 p1 p2 p3 p4
    obtain ⟨p1, p2, p3, p4⟩ := HS.out w4 HB4.out
    go_wp2_with fail
    refine (HH2.out w4).mono ?_
    rintro e5 w5 ⟨rfl, hb5⟩
    have HB0 := Lib.hid (HB2.out.trans ((HB4.out.trans (hb5.mono HB4.out.size)).mono HB2.out.size))
    clear hb5 p1 p2 p3 p4
    go_wp2_with fail
    refine (awake_any _).mono ?_
    rintro e3 w3 ⟨rfl, hb3⟩
    have HB3 := Lib.hid (HB0.out.trans (hb3.mono HB0.out.size))
    clear hb3
    go_wp2
    go_ret
    exact ⟨rfl, HB3.out⟩
  rw [decide_eq_false (p := 60 < 0 ∨ 30 < y.n ∨ 30 < y.m) (by omega)] at HH2
  have HY := Lib.hid (hY.small (by omega) (by omega))
  have HNW := Lib.hid (fun W (hW : Below w2.heap.size w2 W) => norm_any x st lp W (HX.out.below (HB2.out.trans (hW.mono HB2.out.size))))
  obtain ⟨L, HL⟩ : ∃ L, Hid (nrmF st lp = L) := ⟨_, Lib.hid rfl⟩
  have HLL : Hid (nrmF L.1 L.2 = L) := Lib.hid (by rw [← HL.out]; exact nrm_nrm st lp)
  obtain ⟨Z, HZ⟩ : ∃ Z, Hid (shfF st lp i = Z) := ⟨_, Lib.hid rfl⟩
  obtain ⟨bq, HQ⟩ : ∃ b, Hid (sameF st lp st2 lp2 = b) := ⟨_, Lib.hid rfl⟩
  rw [HL.out] at HNW
  have hx2 := HX.out.n2
  by_cases hm0 : x.m = 0
  · have HQ3 : Hid (sameF st lp L.1 L.2 = false) := Lib.hid (same_no1 (.inl (by omega)))
    have HC0 : Hid (chkF x.m = 8) := Lib.hid (if_pos hm0)
    obtain ⟨A, n, c, B, m, d⟩ := x
    obtain ⟨C, n2, c2, D, m2, d2⟩ := y
    unfold WX.v at HH1 HH2 HNW ⊢
    dsimp only at HH1 HH2 HS HW2 HNW HC0 ⊢
    clear hX hY hh hh2 hx2 hm0
    obtain ⟨p1, p2, p3, p4⟩ := HS.out w2 (Below.refl _ _)
    go_enter Try.func5, Try.ntmps5
    go_upto_region 1 with (fail)
    clear HW2
    go_wp2_with fail
    refine HH1.out.mono ?_
    rintro e4 w4 ⟨rfl, hb4⟩
    have HB4 : Hid (Below w2.heap.size w2 w4) := Lib.hid hb4
    clear hb4 p1 p2 p3 p4
    obtain ⟨p1, p2, p3, p4⟩ := HS.out w4 HB4.out
    go_wp2_with fail
    refine (HH2.out w4).mono ?_
    rintro e5 w5 ⟨rfl, hb5⟩
    have HB5 : Hid (Below w2.heap.size w2 w5) := Lib.hid (HB4.out.trans (hb5.mono HB4.out.size))
    clear hb5 p1 p2 p3 p4
    obtain ⟨p1, p2, p3, p4⟩ := HS.out w5 HB5.out
    go_wp2_with fail
    refine (HNW.out w5 HB5.out).mono ?_
    rintro e6 w6 ⟨X3, rfl, hx3, hb6, na3, nb3⟩
    have HB6 : Hid (Below w2.heap.size w2 w6) := Lib.hid (HB5.out.trans (hb6.mono HB5.out.size))
    have HX6 := Lib.hid hx3
    clear hb6 hx3 na3 nb3 p1 p2 p3 p4
    obtain ⟨A3, n3, c3, B3, m3, d3⟩ := X3
    unfold WX.v
    dsimp only
    go_upto_region 4 with (fail)
    obtain ⟨wc, HWC, hbc⟩ : ∃ wc, w6.alloc (.cells #[.slice A3 n3 c3, .slice B3 m3 d3] 24) = wc ∧ Below w6.heap.size w6 wc := ⟨_, rfl, below_one _ _⟩
    obtain ⟨zb, HZB, hzb⟩ : ∃ zb, Hid (zb = w6.heap.size) ∧ w6.heap.size = zb := ⟨_, Lib.hid rfl, rfl⟩
    have HGZ : Hid (wc.cell? ⟨zb, 0, none⟩ = some (.slice A3 n3 c3) ∧ wc.cell? ⟨zb, 1, none⟩ = some (.slice B3 m3 d3) ∧ zb < wc.heap.size) := Lib.hid (by
      rw [← HWC, HZB.out]
      exact ⟨World.cell?_alloc_at _ _ _ _ (by simp), World.cell?_alloc_at _ _ _ _ (by simp), by simp⟩)
    have HBC : Hid (Below w2.heap.size w2 wc) := Lib.hid (HB6.out.trans (hbc.mono HB6.out.size))
    have HXC := Lib.hid (HX6.out.below hbc)
    rw [hzb]
    try rw [HWC]
    clear HWC hbc hzb HX6
    have HG : Hid (∀ W, Below wc.heap.size wc W → W.cell? ⟨w.heap.size, 0, none⟩ = some (.slice A n c) ∧ W.cell? ⟨w.heap.size, 1, none⟩ = some (.slice B m d) ∧ W.cell? ⟨w.heap.size + 1, 0, none⟩ = some (.slice C n2 c2) ∧ W.cell? ⟨w.heap.size + 1, 1, none⟩ = some (.slice D m2 d2) ∧ W.cell? ⟨zb, 0, none⟩ = some (.slice A3 n3 c3) ∧ W.cell? ⟨zb, 1, none⟩ = some (.slice B3 m3 d3)) := Lib.hid (fun W hW => by
      obtain ⟨r1, r2, r3, r4⟩ := HS.out W (HBC.out.trans (hW.mono HBC.out.size))
      exact ⟨r1, r2, r3, r4, (hW.cell (p := ⟨zb, 0, none⟩) HGZ.out.2.2).trans HGZ.out.1, (hW.cell (p := ⟨zb, 1, none⟩) HGZ.out.2.2).trans HGZ.out.2.1⟩)
    have HXW : Hid (∀ W, Below wc.heap.size wc W → WdR W ⟨A3, n3, c3, B3, m3, d3⟩ L.1 L.2) := Lib.hid (fun W hW => HXC.out.below hW)
    have CV : Hid (∀ W, Below wc.heap.size wc W → Below w.heap.size w W) := Lib.hid (fun W hW => HB2.out.trans ((HBC.out.trans (hW.mono HBC.out.size)).mono HB2.out.size))
    have HRN : Hid (∀ W, Below wc.heap.size wc W → Calls Try.prog 22 #[.agg #[.slice A n c, .slice B m d]] W (WordQ W L.1 L.2)) := Lib.hid (fun W hW => by
      have h5 := refNorm_any ⟨A, n, c, B, m, d⟩ st lp W (HX.out.below (CV.out W hW))
      rw [HL.out] at h5
      exact h5)
    have HNX : Hid (∀ W, Below wc.heap.size wc W → Calls Try.prog 20 #[.agg #[.slice A3 n3 c3, .slice B3 m3 d3]] W (WordP W L.1 L.2)) := Lib.hid (fun W hW => by
      have h5 := norm_any ⟨A3, n3, c3, B3, m3, d3⟩ L.1 L.2 W (HXW.out W hW)
      rw [HLL.out] at h5
      exact h5)
    have HSW : Hid (∀ W, Below wc.heap.size wc W → Calls Try.prog 23 #[.agg #[.slice A n c, .slice B m d], .int .i64 i] W (WordP W Z.1 Z.2)) := Lib.hid (fun W hW => by
      have h5 := shift_any ⟨A, n, c, B, m, d⟩ st lp i W (HX.out.below (CV.out W hW)) hi.1 hi.2
      rw [HZ.out] at h5
      exact h5)
    have HSR : Hid (∀ W, Below wc.heap.size wc W → Calls Try.prog 24 #[.agg #[.slice A n c, .slice B m d], .int .i64 i] W (WordQ W Z.1 Z.2)) := Lib.hid (fun W hW => by
      have h5 := refShift_any ⟨A, n, c, B, m, d⟩ st lp i W (HX.out.below (CV.out W hW)) hi.1 hi.2
      rw [HZ.out] at h5
      exact h5)
    have HSA : Hid (∀ W, Below wc.heap.size wc W → Calls Try.prog 25 #[.agg #[.slice A n c, .slice B m d], .agg #[.slice C n2 c2, .slice D m2 d2]] W (ValP W (.bool bq))) := Lib.hid (fun W hW => by
      have h5 := same_any ⟨A, n, c, B, m, d⟩ ⟨C, n2, c2, D, m2, d2⟩ st lp st2 lp2 W (HX.out.below (CV.out W hW)) (HY.out.below (CV.out W hW))
      rw [HQ.out] at h5
      exact h5)
    have HSB : Hid (∀ W, Below wc.heap.size wc W → Calls Try.prog 26 #[.agg #[.slice A n c, .slice B m d], .agg #[.slice C n2 c2, .slice D m2 d2]] W (ValP W (.bool bq))) := Lib.hid (fun W hW => by
      have h5 := refSame_any ⟨A, n, c, B, m, d⟩ ⟨C, n2, c2, D, m2, d2⟩ st lp st2 lp2 W (HX.out.below (CV.out W hW)) (HY.out.below (CV.out W hW))
      rw [HQ.out] at h5
      exact h5)
    have HSC : Hid (∀ W, Below wc.heap.size wc W → Calls Try.prog 25 #[.agg #[.slice A n c, .slice B m d], .agg #[.slice A3 n3 c3, .slice B3 m3 d3]] W (ValP W (.bool false))) := Lib.hid (fun W hW => by
      have h5 := same_any ⟨A, n, c, B, m, d⟩ ⟨A3, n3, c3, B3, m3, d3⟩ st lp L.1 L.2 W (HX.out.below (CV.out W hW)) (HXW.out W hW)
      rw [HQ3.out] at h5
      exact h5)
    have HCH : Hid (∀ W, Below wc.heap.size wc W → Calls Try.prog 10 #[.agg #[.slice A n c, .slice B m d]] W (ValP W (.int .i64 8))) := Lib.hid (fun W hW => by
      have h5 := check_any ⟨A, n, c, B, m, d⟩ W HX.out.b1 HX.out.b2
      dsimp only at h5
      rw [HC0.out] at h5
      exact h5)
    have HAW : Hid (∀ W, Below wc.heap.size wc W → Calls Try.prog 9 #[] W (ValP W (.bool true))) := Lib.hid (fun W _ => awake_any W)
    have HB10 : Hid (Below wc.heap.size wc wc) := Lib.hid (Below.refl _ _)
    obtain ⟨g1, g2, g3, g4, g5, g6⟩ := HG.out wc HB10.out
    clear HNW HH1 HH2
    go_region_held3 (fun W => W.cell? ⟨w.heap.size, 0, none⟩ = some (.slice A n c) ∧ W.cell? ⟨w.heap.size, 1, none⟩ = some (.slice B m d) ∧ W.cell? ⟨w.heap.size + 1, 0, none⟩ = some (.slice C n2 c2) ∧ W.cell? ⟨w.heap.size + 1, 1, none⟩ = some (.slice D m2 d2) ∧ W.cell? ⟨zb, 0, none⟩ = some (.slice A3 n3 c3) ∧ W.cell? ⟨zb, 1, none⟩ = some (.slice B3 m3 d3))
      (first | exact HG.out _ HB10.out | exact HG.out _ HB11.out | exact HG.out _ HB12.out | exact HG.out _ HB13.out | exact HG.out _ HB14.out | exact HG.out _ HB15.out | exact HG.out _ HB16.out | exact HG.out _ HB17.out | exact HG.out _ HB18.out | exact HG.out _ HB19.out | exact HG.out _ HB20.out | exact HG.out _ HB21.out | exact HG.out _ HB22.out | exact HG.out _ HB10.out.drew | exact HG.out _ HB11.out.drew | exact HG.out _ HB12.out.drew | exact HG.out _ HB13.out.drew | exact HG.out _ HB14.out.drew | exact HG.out _ HB15.out.drew | exact HG.out _ HB16.out.drew | exact HG.out _ HB17.out.drew | exact HG.out _ HB18.out.drew | exact HG.out _ HB19.out.drew | exact HG.out _ HB20.out.drew | exact HG.out _ HB21.out.drew | exact HG.out _ HB22.out.drew | go_keep)
      (first
        | (have hk := HB21; go_at_call 9; refine (HAW.out _ (by first | exact HB21.out.drew | exact HB21.out)).mono ?_; rintro e22 w22 ⟨rfl, hb22⟩; have HB22 : Hid (Below wc.heap.size wc w22) := Lib.hid (by first | exact HB21.out.drew.trans (hb22.mono HB21.out.size) | exact HB21.out.trans (hb22.mono HB21.out.size)); clear hk hb22)
        | (have hk := HB20; go_at_call 10; refine (HCH.out _ (by first | exact HB20.out.drew | exact HB20.out)).mono ?_; rintro e21 w21 ⟨rfl, hb21⟩; have HB21 : Hid (Below wc.heap.size wc w21) := Lib.hid (by first | exact HB20.out.drew.trans (hb21.mono HB20.out.size) | exact HB20.out.trans (hb21.mono HB20.out.size)); clear hk hb21)
        | (have hk := HB19; go_at_call 25; refine (HSC.out _ (by first | exact HB19.out.drew | exact HB19.out)).mono ?_; rintro e20 w20 ⟨rfl, hb20⟩; have HB20 : Hid (Below wc.heap.size wc w20) := Lib.hid (by first | exact HB19.out.drew.trans (hb20.mono HB19.out.size) | exact HB19.out.trans (hb20.mono HB19.out.size)); clear hk hb20)
        | (have hk := HB18; go_at_call 26; refine (HSB.out _ (by first | exact HB18.out.drew | exact HB18.out)).mono ?_; rintro e19 w19 ⟨rfl, hb19⟩; have HB19 : Hid (Below wc.heap.size wc w19) := Lib.hid (by first | exact HB18.out.drew.trans (hb19.mono HB18.out.size) | exact HB18.out.trans (hb19.mono HB18.out.size)); clear hk hb19)
        | (have hk := HB17; go_at_call 25; refine (HSA.out _ (by first | exact HB17.out.drew | exact HB17.out)).mono ?_; rintro e18 w18 ⟨rfl, hb18⟩; have HB18 : Hid (Below wc.heap.size wc w18) := Lib.hid (by first | exact HB17.out.drew.trans (hb18.mono HB17.out.size) | exact HB17.out.trans (hb18.mono HB17.out.size)); clear hk hb18)
        | (have hk := HB16; go_at_call 21; refine (lsame_yes ⟨A15, n15, c15, B15, m15, d15⟩ ⟨A16, n16, c16, B16, m16, d16⟩ Z.1 Z.2 _ (by first | exact HX15.out | exact HX15.out.below (by first | exact (Below.refl _ _).drew | exact Below.refl _ _)) (by first | exact HX16.out | exact HX16.out.below (by first | exact (Below.refl _ _).drew | exact Below.refl _ _))).mono ?_; rintro e17 w17 ⟨rfl, hb17⟩; have HB17 : Hid (Below wc.heap.size wc w17) := Lib.hid (by first | exact HB16.out.drew.trans (hb17.mono HB16.out.size) | exact HB16.out.trans (hb17.mono HB16.out.size)); clear hk hb17)
        | (have hk := HB15; go_at_call 24; refine (HSR.out _ (by first | exact HB15.out.drew | exact HB15.out)).mono ?_; rintro e16 w16 ⟨X16, rfl, hx16, hb16⟩; have HB16 : Hid (Below wc.heap.size wc w16) := Lib.hid (by first | exact HB15.out.drew.trans (hb16.mono HB15.out.size) | exact HB15.out.trans (hb16.mono HB15.out.size)); have HX16 := Lib.hid hx16; have HX15 := Lib.hid (HX15.out.below (by first | exact hb16 | exact (Below.refl _ _).drew.trans hb16)); clear hk hb16 hx16; obtain ⟨A16, n16, c16, B16, m16, d16⟩ := X16; unfold WX.v; dsimp only)
        | (have hk := HB14; go_at_call 23; refine (HSW.out _ (by first | exact HB14.out.drew | exact HB14.out)).mono ?_; rintro e15 w15 ⟨X15, rfl, hx15, hb15, na15, nb15⟩; have HB15 : Hid (Below wc.heap.size wc w15) := Lib.hid (by first | exact HB14.out.drew.trans (hb15.mono HB14.out.size) | exact HB14.out.trans (hb15.mono HB14.out.size)); have HX15 := Lib.hid hx15; clear hk hb15 hx15 na15 nb15; obtain ⟨A15, n15, c15, B15, m15, d15⟩ := X15; unfold WX.v; dsimp only)
        | (have hk := HB13; go_at_call 21; refine (lsame_yes ⟨A13, n13, c13, B13, m13, d13⟩ ⟨A3, n3, c3, B3, m3, d3⟩ L.1 L.2 _ (by first | exact HX13.out | exact HX13.out.below (by first | exact (Below.refl _ _).drew | exact Below.refl _ _)) (HXW.out _ (by first | exact HB13.out.drew | exact HB13.out))).mono ?_; rintro e14 w14 ⟨rfl, hb14⟩; have HB14 : Hid (Below wc.heap.size wc w14) := Lib.hid (by first | exact HB13.out.drew.trans (hb14.mono HB13.out.size) | exact HB13.out.trans (hb14.mono HB13.out.size)); clear hk hb14)
        | (have hk := HB12; go_at_call 20; refine (HNX.out _ (by first | exact HB12.out.drew | exact HB12.out)).mono ?_; rintro e13 w13 ⟨X13, rfl, hx13, hb13, na13, nb13⟩; have HB13 : Hid (Below wc.heap.size wc w13) := Lib.hid (by first | exact HB12.out.drew.trans (hb13.mono HB12.out.size) | exact HB12.out.trans (hb13.mono HB12.out.size)); have HX13 := Lib.hid hx13; clear hk hb13 hx13 na13 nb13; obtain ⟨A13, n13, c13, B13, m13, d13⟩ := X13; unfold WX.v; dsimp only)
        | (have hk := HB11; go_at_call 21; refine (lsame_yes ⟨A3, n3, c3, B3, m3, d3⟩ ⟨A11, n11, c11, B11, m11, d11⟩ L.1 L.2 _ (HXW.out _ (by first | exact HB11.out.drew | exact HB11.out)) (by first | exact HX11.out | exact HX11.out.below (by first | exact (Below.refl _ _).drew | exact Below.refl _ _))).mono ?_; rintro e12 w12 ⟨rfl, hb12⟩; have HB12 : Hid (Below wc.heap.size wc w12) := Lib.hid (by first | exact HB11.out.drew.trans (hb12.mono HB11.out.size) | exact HB11.out.trans (hb12.mono HB11.out.size)); clear hk hb12)
        | (have hk := HB10; go_at_call 22; refine (HRN.out _ (by first | exact HB10.out.drew | exact HB10.out)).mono ?_; rintro e11 w11 ⟨X11, rfl, hx11, hb11⟩; have HB11 : Hid (Below wc.heap.size wc w11) := Lib.hid (by first | exact HB10.out.drew.trans (hb11.mono HB10.out.size) | exact HB10.out.trans (hb11.mono HB10.out.size)); have HX11 := Lib.hid hx11; clear hk hb11 hx11; obtain ⟨A11, n11, c11, B11, m11, d11⟩ := X11; unfold WX.v; dsimp only)
        | fail)
    all_goals
      go_wp2
      go_ret
      exact ⟨rfl, CV.out _ HB22.out⟩
  · have HQ3 : Hid (sameF st lp L.1 L.2 = true) := Lib.hid (by
      have h5 := nrm_pos (st := st) (lp := lp) (by omega)
      rw [HL.out] at h5
      unfold sameF
      rw [HLL.out, HL.out, decide_eq_true (show 0 < lp.length by omega), decide_eq_true h5]
      simp)
    have HC0 : Hid (chkF x.m = 0) := Lib.hid (if_neg hm0)
    obtain ⟨A, n, c, B, m, d⟩ := x
    obtain ⟨C, n2, c2, D, m2, d2⟩ := y
    unfold WX.v at HH1 HH2 HNW ⊢
    dsimp only at HH1 HH2 HS HW2 HNW HC0 ⊢
    clear hX hY hh hh2 hx2 hm0
    obtain ⟨p1, p2, p3, p4⟩ := HS.out w2 (Below.refl _ _)
    go_enter Try.func5, Try.ntmps5
    go_upto_region 1 with (fail)
    clear HW2
    go_wp2_with fail
    refine HH1.out.mono ?_
    rintro e4 w4 ⟨rfl, hb4⟩
    have HB4 : Hid (Below w2.heap.size w2 w4) := Lib.hid hb4
    clear hb4 p1 p2 p3 p4
    obtain ⟨p1, p2, p3, p4⟩ := HS.out w4 HB4.out
    go_wp2_with fail
    refine (HH2.out w4).mono ?_
    rintro e5 w5 ⟨rfl, hb5⟩
    have HB5 : Hid (Below w2.heap.size w2 w5) := Lib.hid (HB4.out.trans (hb5.mono HB4.out.size))
    clear hb5 p1 p2 p3 p4
    obtain ⟨p1, p2, p3, p4⟩ := HS.out w5 HB5.out
    go_wp2_with fail
    refine (HNW.out w5 HB5.out).mono ?_
    rintro e6 w6 ⟨X3, rfl, hx3, hb6, na3, nb3⟩
    have HB6 : Hid (Below w2.heap.size w2 w6) := Lib.hid (HB5.out.trans (hb6.mono HB5.out.size))
    have HX6 := Lib.hid hx3
    clear hb6 hx3 na3 nb3 p1 p2 p3 p4
    obtain ⟨A3, n3, c3, B3, m3, d3⟩ := X3
    unfold WX.v
    dsimp only
    go_upto_region 4 with (fail)
    obtain ⟨wc, HWC, hbc⟩ : ∃ wc, w6.alloc (.cells #[.slice A3 n3 c3, .slice B3 m3 d3] 24) = wc ∧ Below w6.heap.size w6 wc := ⟨_, rfl, below_one _ _⟩
    obtain ⟨zb, HZB, hzb⟩ : ∃ zb, Hid (zb = w6.heap.size) ∧ w6.heap.size = zb := ⟨_, Lib.hid rfl, rfl⟩
    have HGZ : Hid (wc.cell? ⟨zb, 0, none⟩ = some (.slice A3 n3 c3) ∧ wc.cell? ⟨zb, 1, none⟩ = some (.slice B3 m3 d3) ∧ zb < wc.heap.size) := Lib.hid (by
      rw [← HWC, HZB.out]
      exact ⟨World.cell?_alloc_at _ _ _ _ (by simp), World.cell?_alloc_at _ _ _ _ (by simp), by simp⟩)
    have HBC : Hid (Below w2.heap.size w2 wc) := Lib.hid (HB6.out.trans (hbc.mono HB6.out.size))
    have HXC := Lib.hid (HX6.out.below hbc)
    rw [hzb]
    try rw [HWC]
    clear HWC hbc hzb HX6
    have HG : Hid (∀ W, Below wc.heap.size wc W → W.cell? ⟨w.heap.size, 0, none⟩ = some (.slice A n c) ∧ W.cell? ⟨w.heap.size, 1, none⟩ = some (.slice B m d) ∧ W.cell? ⟨w.heap.size + 1, 0, none⟩ = some (.slice C n2 c2) ∧ W.cell? ⟨w.heap.size + 1, 1, none⟩ = some (.slice D m2 d2) ∧ W.cell? ⟨zb, 0, none⟩ = some (.slice A3 n3 c3) ∧ W.cell? ⟨zb, 1, none⟩ = some (.slice B3 m3 d3)) := Lib.hid (fun W hW => by
      obtain ⟨r1, r2, r3, r4⟩ := HS.out W (HBC.out.trans (hW.mono HBC.out.size))
      exact ⟨r1, r2, r3, r4, (hW.cell (p := ⟨zb, 0, none⟩) HGZ.out.2.2).trans HGZ.out.1, (hW.cell (p := ⟨zb, 1, none⟩) HGZ.out.2.2).trans HGZ.out.2.1⟩)
    have HXW : Hid (∀ W, Below wc.heap.size wc W → WdR W ⟨A3, n3, c3, B3, m3, d3⟩ L.1 L.2) := Lib.hid (fun W hW => HXC.out.below hW)
    have CV : Hid (∀ W, Below wc.heap.size wc W → Below w.heap.size w W) := Lib.hid (fun W hW => HB2.out.trans ((HBC.out.trans (hW.mono HBC.out.size)).mono HB2.out.size))
    have HRN : Hid (∀ W, Below wc.heap.size wc W → Calls Try.prog 22 #[.agg #[.slice A n c, .slice B m d]] W (WordQ W L.1 L.2)) := Lib.hid (fun W hW => by
      have h5 := refNorm_any ⟨A, n, c, B, m, d⟩ st lp W (HX.out.below (CV.out W hW))
      rw [HL.out] at h5
      exact h5)
    have HNX : Hid (∀ W, Below wc.heap.size wc W → Calls Try.prog 20 #[.agg #[.slice A3 n3 c3, .slice B3 m3 d3]] W (WordP W L.1 L.2)) := Lib.hid (fun W hW => by
      have h5 := norm_any ⟨A3, n3, c3, B3, m3, d3⟩ L.1 L.2 W (HXW.out W hW)
      rw [HLL.out] at h5
      exact h5)
    have HSW : Hid (∀ W, Below wc.heap.size wc W → Calls Try.prog 23 #[.agg #[.slice A n c, .slice B m d], .int .i64 i] W (WordP W Z.1 Z.2)) := Lib.hid (fun W hW => by
      have h5 := shift_any ⟨A, n, c, B, m, d⟩ st lp i W (HX.out.below (CV.out W hW)) hi.1 hi.2
      rw [HZ.out] at h5
      exact h5)
    have HSR : Hid (∀ W, Below wc.heap.size wc W → Calls Try.prog 24 #[.agg #[.slice A n c, .slice B m d], .int .i64 i] W (WordQ W Z.1 Z.2)) := Lib.hid (fun W hW => by
      have h5 := refShift_any ⟨A, n, c, B, m, d⟩ st lp i W (HX.out.below (CV.out W hW)) hi.1 hi.2
      rw [HZ.out] at h5
      exact h5)
    have HSA : Hid (∀ W, Below wc.heap.size wc W → Calls Try.prog 25 #[.agg #[.slice A n c, .slice B m d], .agg #[.slice C n2 c2, .slice D m2 d2]] W (ValP W (.bool bq))) := Lib.hid (fun W hW => by
      have h5 := same_any ⟨A, n, c, B, m, d⟩ ⟨C, n2, c2, D, m2, d2⟩ st lp st2 lp2 W (HX.out.below (CV.out W hW)) (HY.out.below (CV.out W hW))
      rw [HQ.out] at h5
      exact h5)
    have HSB : Hid (∀ W, Below wc.heap.size wc W → Calls Try.prog 26 #[.agg #[.slice A n c, .slice B m d], .agg #[.slice C n2 c2, .slice D m2 d2]] W (ValP W (.bool bq))) := Lib.hid (fun W hW => by
      have h5 := refSame_any ⟨A, n, c, B, m, d⟩ ⟨C, n2, c2, D, m2, d2⟩ st lp st2 lp2 W (HX.out.below (CV.out W hW)) (HY.out.below (CV.out W hW))
      rw [HQ.out] at h5
      exact h5)
    have HSC : Hid (∀ W, Below wc.heap.size wc W → Calls Try.prog 25 #[.agg #[.slice A n c, .slice B m d], .agg #[.slice A3 n3 c3, .slice B3 m3 d3]] W (ValP W (.bool true))) := Lib.hid (fun W hW => by
      have h5 := same_any ⟨A, n, c, B, m, d⟩ ⟨A3, n3, c3, B3, m3, d3⟩ st lp L.1 L.2 W (HX.out.below (CV.out W hW)) (HXW.out W hW)
      rw [HQ3.out] at h5
      exact h5)
    have HCH : Hid (∀ W, Below wc.heap.size wc W → Calls Try.prog 10 #[.agg #[.slice A n c, .slice B m d]] W (ValP W (.int .i64 0))) := Lib.hid (fun W hW => by
      have h5 := check_any ⟨A, n, c, B, m, d⟩ W HX.out.b1 HX.out.b2
      dsimp only at h5
      rw [HC0.out] at h5
      exact h5)
    have HAW : Hid (∀ W, Below wc.heap.size wc W → Calls Try.prog 9 #[] W (ValP W (.bool true))) := Lib.hid (fun W _ => awake_any W)
    have HB10 : Hid (Below wc.heap.size wc wc) := Lib.hid (Below.refl _ _)
    obtain ⟨g1, g2, g3, g4, g5, g6⟩ := HG.out wc HB10.out
    clear HNW HH1 HH2
    go_region_held3 (fun W => W.cell? ⟨w.heap.size, 0, none⟩ = some (.slice A n c) ∧ W.cell? ⟨w.heap.size, 1, none⟩ = some (.slice B m d) ∧ W.cell? ⟨w.heap.size + 1, 0, none⟩ = some (.slice C n2 c2) ∧ W.cell? ⟨w.heap.size + 1, 1, none⟩ = some (.slice D m2 d2) ∧ W.cell? ⟨zb, 0, none⟩ = some (.slice A3 n3 c3) ∧ W.cell? ⟨zb, 1, none⟩ = some (.slice B3 m3 d3))
      (first | exact HG.out _ HB10.out | exact HG.out _ HB11.out | exact HG.out _ HB12.out | exact HG.out _ HB13.out | exact HG.out _ HB14.out | exact HG.out _ HB15.out | exact HG.out _ HB16.out | exact HG.out _ HB17.out | exact HG.out _ HB18.out | exact HG.out _ HB19.out | exact HG.out _ HB20.out | exact HG.out _ HB21.out | exact HG.out _ HB22.out | exact HG.out _ HB10.out.drew | exact HG.out _ HB11.out.drew | exact HG.out _ HB12.out.drew | exact HG.out _ HB13.out.drew | exact HG.out _ HB14.out.drew | exact HG.out _ HB15.out.drew | exact HG.out _ HB16.out.drew | exact HG.out _ HB17.out.drew | exact HG.out _ HB18.out.drew | exact HG.out _ HB19.out.drew | exact HG.out _ HB20.out.drew | exact HG.out _ HB21.out.drew | exact HG.out _ HB22.out.drew | go_keep)
      (first
        | (have hk := HB21; go_at_call 9; refine (HAW.out _ (by first | exact HB21.out.drew | exact HB21.out)).mono ?_; rintro e22 w22 ⟨rfl, hb22⟩; have HB22 : Hid (Below wc.heap.size wc w22) := Lib.hid (by first | exact HB21.out.drew.trans (hb22.mono HB21.out.size) | exact HB21.out.trans (hb22.mono HB21.out.size)); clear hk hb22)
        | (have hk := HB20; go_at_call 10; refine (HCH.out _ (by first | exact HB20.out.drew | exact HB20.out)).mono ?_; rintro e21 w21 ⟨rfl, hb21⟩; have HB21 : Hid (Below wc.heap.size wc w21) := Lib.hid (by first | exact HB20.out.drew.trans (hb21.mono HB20.out.size) | exact HB20.out.trans (hb21.mono HB20.out.size)); clear hk hb21)
        | (have hk := HB19; go_at_call 25; refine (HSC.out _ (by first | exact HB19.out.drew | exact HB19.out)).mono ?_; rintro e20 w20 ⟨rfl, hb20⟩; have HB20 : Hid (Below wc.heap.size wc w20) := Lib.hid (by first | exact HB19.out.drew.trans (hb20.mono HB19.out.size) | exact HB19.out.trans (hb20.mono HB19.out.size)); clear hk hb20)
        | (have hk := HB18; go_at_call 26; refine (HSB.out _ (by first | exact HB18.out.drew | exact HB18.out)).mono ?_; rintro e19 w19 ⟨rfl, hb19⟩; have HB19 : Hid (Below wc.heap.size wc w19) := Lib.hid (by first | exact HB18.out.drew.trans (hb19.mono HB18.out.size) | exact HB18.out.trans (hb19.mono HB18.out.size)); clear hk hb19)
        | (have hk := HB17; go_at_call 25; refine (HSA.out _ (by first | exact HB17.out.drew | exact HB17.out)).mono ?_; rintro e18 w18 ⟨rfl, hb18⟩; have HB18 : Hid (Below wc.heap.size wc w18) := Lib.hid (by first | exact HB17.out.drew.trans (hb18.mono HB17.out.size) | exact HB17.out.trans (hb18.mono HB17.out.size)); clear hk hb18)
        | (have hk := HB16; go_at_call 21; refine (lsame_yes ⟨A15, n15, c15, B15, m15, d15⟩ ⟨A16, n16, c16, B16, m16, d16⟩ Z.1 Z.2 _ (by first | exact HX15.out | exact HX15.out.below (by first | exact (Below.refl _ _).drew | exact Below.refl _ _)) (by first | exact HX16.out | exact HX16.out.below (by first | exact (Below.refl _ _).drew | exact Below.refl _ _))).mono ?_; rintro e17 w17 ⟨rfl, hb17⟩; have HB17 : Hid (Below wc.heap.size wc w17) := Lib.hid (by first | exact HB16.out.drew.trans (hb17.mono HB16.out.size) | exact HB16.out.trans (hb17.mono HB16.out.size)); clear hk hb17)
        | (have hk := HB15; go_at_call 24; refine (HSR.out _ (by first | exact HB15.out.drew | exact HB15.out)).mono ?_; rintro e16 w16 ⟨X16, rfl, hx16, hb16⟩; have HB16 : Hid (Below wc.heap.size wc w16) := Lib.hid (by first | exact HB15.out.drew.trans (hb16.mono HB15.out.size) | exact HB15.out.trans (hb16.mono HB15.out.size)); have HX16 := Lib.hid hx16; have HX15 := Lib.hid (HX15.out.below (by first | exact hb16 | exact (Below.refl _ _).drew.trans hb16)); clear hk hb16 hx16; obtain ⟨A16, n16, c16, B16, m16, d16⟩ := X16; unfold WX.v; dsimp only)
        | (have hk := HB14; go_at_call 23; refine (HSW.out _ (by first | exact HB14.out.drew | exact HB14.out)).mono ?_; rintro e15 w15 ⟨X15, rfl, hx15, hb15, na15, nb15⟩; have HB15 : Hid (Below wc.heap.size wc w15) := Lib.hid (by first | exact HB14.out.drew.trans (hb15.mono HB14.out.size) | exact HB14.out.trans (hb15.mono HB14.out.size)); have HX15 := Lib.hid hx15; clear hk hb15 hx15 na15 nb15; obtain ⟨A15, n15, c15, B15, m15, d15⟩ := X15; unfold WX.v; dsimp only)
        | (have hk := HB13; go_at_call 21; refine (lsame_yes ⟨A13, n13, c13, B13, m13, d13⟩ ⟨A3, n3, c3, B3, m3, d3⟩ L.1 L.2 _ (by first | exact HX13.out | exact HX13.out.below (by first | exact (Below.refl _ _).drew | exact Below.refl _ _)) (HXW.out _ (by first | exact HB13.out.drew | exact HB13.out))).mono ?_; rintro e14 w14 ⟨rfl, hb14⟩; have HB14 : Hid (Below wc.heap.size wc w14) := Lib.hid (by first | exact HB13.out.drew.trans (hb14.mono HB13.out.size) | exact HB13.out.trans (hb14.mono HB13.out.size)); clear hk hb14)
        | (have hk := HB12; go_at_call 20; refine (HNX.out _ (by first | exact HB12.out.drew | exact HB12.out)).mono ?_; rintro e13 w13 ⟨X13, rfl, hx13, hb13, na13, nb13⟩; have HB13 : Hid (Below wc.heap.size wc w13) := Lib.hid (by first | exact HB12.out.drew.trans (hb13.mono HB12.out.size) | exact HB12.out.trans (hb13.mono HB12.out.size)); have HX13 := Lib.hid hx13; clear hk hb13 hx13 na13 nb13; obtain ⟨A13, n13, c13, B13, m13, d13⟩ := X13; unfold WX.v; dsimp only)
        | (have hk := HB11; go_at_call 21; refine (lsame_yes ⟨A3, n3, c3, B3, m3, d3⟩ ⟨A11, n11, c11, B11, m11, d11⟩ L.1 L.2 _ (HXW.out _ (by first | exact HB11.out.drew | exact HB11.out)) (by first | exact HX11.out | exact HX11.out.below (by first | exact (Below.refl _ _).drew | exact Below.refl _ _))).mono ?_; rintro e12 w12 ⟨rfl, hb12⟩; have HB12 : Hid (Below wc.heap.size wc w12) := Lib.hid (by first | exact HB11.out.drew.trans (hb12.mono HB11.out.size) | exact HB11.out.trans (hb12.mono HB11.out.size)); clear hk hb12)
        | (have hk := HB10; go_at_call 22; refine (HRN.out _ (by first | exact HB10.out.drew | exact HB10.out)).mono ?_; rintro e11 w11 ⟨X11, rfl, hx11, hb11⟩; have HB11 : Hid (Below wc.heap.size wc w11) := Lib.hid (by first | exact HB10.out.drew.trans (hb11.mono HB10.out.size) | exact HB10.out.trans (hb11.mono HB10.out.size)); have HX11 := Lib.hid hx11; clear hk hb11 hx11; obtain ⟨A11, n11, c11, B11, m11, d11⟩ := X11; unfold WX.v; dsimp only)
        | fail)
    all_goals
      go_wp2
      go_ret
      exact ⟨rfl, CV.out _ HB22.out⟩
set_option maxRecDepth 100000 in
theorem lifted (os : Os) (started : os.Started) (H : Type) (enc : TypeId × Value → H) :
    ReturnsInHanded {} Try.checked os 5 .any (Rows.wordNormsSpec.pre6 enc Try.prog Try.f5 Rows.wordNormsRow.domain false) (Rows.wordNormsSpec.post enc Try.prog Try.f5 false true false false) := by
  refine law_lifted started [24, 24, 3] rfl (by kernel_rfl) Try.func5 rfl (by decide +kernel) rfl (fun ds hl => by
    match ds, hl with
    | [_, _, _], _ => rfl) (ChangeSpec.witness6 (enc := enc) (C := Try.checked) false ⟨#[], #[.agg #[.slice none 0 0, .slice none 0 0], .agg #[.slice none 0 0, .slice none 0 0], .int .i64 0], []⟩ 8 (by kernel_rfl) (by kernel_rfl) (by kernel_rfl) (by kernel_rfl)) ?_
  intro W base args ds ps hval hA hlt hsz
  obtain ⟨v0, vs0, d0, ds0, p0, q0, hargs, rfl, rfl, h0, r0⟩ := trodAll_cons hA
  obtain ⟨v1, vs1, d1, ds1, p1, q1, rfl, rfl, rfl, h1, r1⟩ := trodAll_cons r0
  obtain ⟨v2, vs2, d2, ds2, p2, q2, rfl, rfl, rfl, h2, r2⟩ := trodAll_cons r1
  obtain ⟨rfl, rfl, rfl⟩ := trodAll_nil r2
  obtain rfl : args = #[v0, v1, v2] := by cases args; simp_all
  obtain ⟨x0, s0, l0, rfl, f0⟩ := wd.open_word_arg (hval 0 24 v0 rfl rfl) h0 hsz 0 rfl rfl
  obtain ⟨x1, s1, l1, rfl, f1⟩ := wd.open_word_arg (hval 1 24 v1 rfl rfl) h1 hsz 1 rfl rfl
  obtain ⟨x2, rfl, rfl, rfl, w2⟩ := open_int Try.underlying3 (hval 2 3 v2 rfl rfl) h2
  exact walk x0 x1 s0 l0 s1 l1 x2 W f0 f1 (fits64 w2)

set_option maxRecDepth 100000 in
theorem over : Rows.wordNormsRow.holds Try.pinned (OpenSpec.ofChange Rows.wordNormsSpec) :=
  OpenClaim.holds_of_wide 5 Try.f5 rfl rfl rfl rfl rfl rfl rfl ⟨rfl, rfl, rfl, rfl, rfl⟩ rfl rfl rfl rfl rfl (by kernel_rfl) Try.func5 (by kernel_rfl)
    (of_decide_eq_true (by kernel_rfl)) (by unfold Func.isWrapper; first | (rw [if_pos (by decide +kernel)]; kernel_rfl) | (rw [if_neg (by decide +kernel)]; exact ⟨rfl, rfl⟩))
    (fun os started H enc _ => lifted os started H enc)

theorem proved : Rows.WordNormsSaid := over
#print axioms proved
end Go.Proofs.Ytophajljjnjcdaa.wordNorms
