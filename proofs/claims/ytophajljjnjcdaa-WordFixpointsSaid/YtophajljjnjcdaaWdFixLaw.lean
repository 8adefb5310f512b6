/- The law WordFixpoints. -/
import Derived.Test.YtophajljjnjcdaaWdLeast
import Derived.Deep.CutRange
namespace Go.Proofs.Ytophajljjnjcdaa.wordFixpoints
open Go.ChangeShapes Go.WideShapes Go.ChangeAt Go.RowKit Go.Deep sr lt nf wd

theorem kid_one {e : List (Int × Int)} (h : wrF 0 e = 0) (sets : List Int) (s : Nat) {i : Nat} (hi : i < e.length) (h1 : kT (e.getD i (0, 0)).1 = 1) : ∃ (j : Nat) (b : List Bool), j < i ∧ kidsF e i = ((j : Int), -1) ∧ trJ e (outF e e.length) sets s i = plF (e.getD i (0, 0)) sets s (trJ e (outF e e.length) sets s j) b := by
  have hlast : trJ e (outF e e.length) sets s i = plF (e.getD i (0, 0)) sets s (if kT (e.getD i (0, 0)).1 = 0 then [] else if kT (e.getD i (0, 0)).1 = 1 then (trF e (outF e e.length) sets s i).getD (i - 1) [] else (trF e (outF e e.length) sets s i).getD (((outF e e.length).getD (i - 1) 0).toNat - 1) []) (if kT (e.getD i (0, 0)).1 = 2 then (trF e (outF e e.length) sets s i).getD (i - 1) [] else []) := trF_last e _ sets s i
  rw [if_neg (by omega), if_pos h1] at hlast
  obtain ⟨hk, _⟩ := kinds_of h hi
  rcases whole_of h hi with ⟨g1, g2⟩ | ⟨j, v, rfl, g2, g3, g4, g5⟩ | ⟨j, q, v, rfl, g2, g3, g4, g5, g6, g7⟩
  · rcases hk with ⟨h6, _⟩ | ⟨_, _, h6⟩ | ⟨h6, _⟩
    · omega
    · rw [g1] at h6; exact absurd rfl h6
    · omega
  · rw [Nat.add_sub_cancel, trJ_keep _ _ _ _ (by omega)] at hlast
    exact ⟨j, _, by omega, g3, hlast⟩
  · rcases hk with ⟨h6, _⟩ | ⟨_, h6, _⟩ | ⟨h6, _⟩
    · omega
    · rw [g4] at h6; simp only at h6; omega
    · omega
theorem kid_two {e : List (Int × Int)} (h : wrF 0 e = 0) (sets : List Int) (s : Nat) {i : Nat} (hi : i < e.length) (h2 : kT (e.getD i (0, 0)).1 = 2) : ∃ q j : Nat, q < i ∧ j < i ∧ kidsF e i = ((q : Int), (j : Int)) ∧ trJ e (outF e e.length) sets s i = plF (e.getD i (0, 0)) sets s (trJ e (outF e e.length) sets s q) (trJ e (outF e e.length) sets s j) := by
  have hlast : trJ e (outF e e.length) sets s i = plF (e.getD i (0, 0)) sets s (if kT (e.getD i (0, 0)).1 = 0 then [] else if kT (e.getD i (0, 0)).1 = 1 then (trF e (outF e e.length) sets s i).getD (i - 1) [] else (trF e (outF e e.length) sets s i).getD (((outF e e.length).getD (i - 1) 0).toNat - 1) []) (if kT (e.getD i (0, 0)).1 = 2 then (trF e (outF e e.length) sets s i).getD (i - 1) [] else []) := trF_last e _ sets s i
  rw [if_neg (by omega), if_neg (by omega), if_pos h2] at hlast
  obtain ⟨hk, _⟩ := kinds_of h hi
  rcases whole_of h hi with ⟨g1, g2⟩ | ⟨j, v, rfl, g2, g3, g4, g5⟩ | ⟨j, q, v, rfl, g2, g3, g4, g5, g6, g7⟩
  · rcases hk with ⟨h6, _⟩ | ⟨h6, _⟩ | ⟨_, h6⟩
    · omega
    · omega
    · rw [g1] at h6; exact absurd rfl h6
  · rcases hk with ⟨h6, _⟩ | ⟨h6, _⟩ | ⟨_, h6⟩
    · omega
    · omega
    · rw [g3] at h6; exact absurd rfl h6
  · rw [Nat.add_sub_cancel, g7, Int.toNat_natCast, Nat.add_sub_cancel, trJ_keep _ _ _ _ (by omega), trJ_keep _ _ _ _ (by omega)] at hlast
    exact ⟨q, j, by omega, by omega, g4, hlast⟩
/-- The two rows that are made. -/
structure TwoR (wk W : World) (ba bb n : Nat) (La Lb : List Bool) (k : Nat) : Prop where
  a : W.rowIs ba 4 n (fstB La k)
  b : W.rowIs bb 4 n (fstB Lb k)
  ne : ba ≠ bb
  la : wk.heap.size ≤ ba
  lb : wk.heap.size ≤ bb
  bl : Below wk.heap.size wk W
theorem TwoR.put {wk W : World} {ba bb n k : Nat} {La Lb : List Bool} {u v : Bool} (h : TwoR wk W ba bb n La Lb k) (hu : u = La.getD k false) (hv : v = Lb.getD k false) : TwoR wk ((W.setCell ⟨ba, k, none⟩ (.bool u)).setCell ⟨bb, k, none⟩ (.bool v)) ba bb n La Lb (k + 1) where
  a := (fstB_step h.a hu).setOther (show ba ≠ (⟨bb, k, none⟩ : Addr).block from h.ne) _
  b := fstB_step (h.b.setOther (show bb ≠ (⟨ba, k, none⟩ : Addr).block from fun e => h.ne e.symm) _) hv
  ne := h.ne
  la := h.la
  lb := h.lb
  bl := (h.bl.setCell (show wk.heap.size ≤ (⟨ba, k, none⟩ : Addr).block from h.la) _).setCell (show wk.heap.size ≤ (⟨bb, k, none⟩ : Addr).block from h.lb) _
theorem TwoR.below {wk W W' : World} {ba bb n k : Nat} {La Lb : List Bool} (h : TwoR wk W ba bb n La Lb k) (hb : Below W.heap.size W W') : TwoR wk W' ba bb n La Lb k where
  a := h.a.of_block (hb.block _ h.a.lt)
  b := h.b.of_block (hb.block _ h.b.lt)
  ne := h.ne
  la := h.la
  lb := h.lb
  bl := h.bl.trans (hb.mono h.bl.size)
set_option maxRecDepth 20000 in
set_option maxHeartbeats 16000000 in
theorem walk (e : List (Int × Int)) (x : WX) (st lp : List Int) (FA : Option Addr) (fc fl : Nat) (w : World) (hf : fl = e.length) (hF : PA w FA e) (hX : WdA w x st lp) :
    Calls Try.prog 6 #[.slice FA fl fc, x.v] w fun r w' => r = .returned (.bool true) ∧ Below w.heap.size w w' := by
  obtain ⟨w1, HW1, HBZ, HS⟩ : ∃ w1, w.alloc (.cells #[.slice x.A x.n x.c, .slice x.B x.m x.d] 24) = w1 ∧ Hid (Below w.heap.size w w1) ∧ Hid (∀ W, Below w1.heap.size w1 W → W.cell? ⟨w.heap.size, 0, none⟩ = some (.slice x.A x.n x.c) ∧ W.cell? ⟨w.heap.size, 1, none⟩ = some (.slice x.B x.m x.d)) := by
    have e : (w.alloc (.cells #[.slice x.A x.n x.c, .slice x.B x.m x.d] 24)).heap.size = w.heap.size + 1 := by simp
    exact ⟨_, rfl, Lib.hid (below_one _ _), Lib.hid (fun W h => ⟨(h.cell (p := ⟨w.heap.size, 0, none⟩) (by show w.heap.size < _; omega)).trans (World.cell?_alloc_at _ _ _ _ (by simp)), (h.cell (p := ⟨w.heap.size, 1, none⟩) (by show w.heap.size < _; omega)).trans (World.cell?_alloc_at _ _ _ _ (by simp))⟩)⟩
  have HHV := Lib.hid (heavy_any FA fl fc x w1)
  have HAW := Lib.hid (fun W (_ : Below w1.heap.size w1 W) => awake_any W)
  have HF := Lib.hid hf
  by_cases hh : 60 < fl ∨ 30 < x.n ∨ 30 < x.m
  · rw [decide_eq_true hh] at HHV
    obtain ⟨A, s, c, B, q, d⟩ := x
    unfold WX.v at HHV ⊢
    dsimp only at HHV HS hh ⊢
    clear hX hh hF hf HF
    obtain ⟨y1, y2⟩ := HS.out w1 (Below.refl _ _)
    go_enter Try.func6, Try.ntmps6
    go_upto_region 1 with (fail)
    clear HW1
    go_wp2_with fail
    refine HHV.out.mono ?_
    rintro e2 w2 ⟨rfl, hb2⟩
    have HB2 := Lib.hid (HBZ.out.trans (hb2.mono HBZ.out.size))
    clear hb2 y1 y2
    go_wp2_with fail
    refine (awake_any w2).mono ?_
    rintro e3 w3 ⟨rfl, hb3⟩
    have HB3 := Lib.hid (HB2.out.trans (hb3.mono HB2.out.size))
    clear hb3
    go_wp2
    go_ret
    exact ⟨rfl, HB3.out⟩
  rw [decide_eq_false hh] at HHV
  have hx := hX.small (by omega) (by omega)
  have hfl : fl ≤ 60 := by omega
  have hxn : x.n ≤ 30 := by omega
  have hxm : x.m ≤ 30 := by omega
  clear hh hX
  obtain ⟨n, hn⟩ : ∃ n, x.n + x.m = n := ⟨_, rfl⟩
  have hnl : st.length + lp.length = n := by have := hx.n1; have := hx.n2; omega
  have HTR := Lib.hid (fun W (hW : Below w1.heap.size w1 W) => truth_any e x st lp (st ++ lp) FA fc fl n W hf (by omega) (hF.below (HBZ.out.trans (hW.mono HBZ.out.size))) (hx.below (HBZ.out.trans (hW.mono HBZ.out.size))) hn rfl)
  by_cases hok : okF e x.m = false
  · have HTR2 : Hid (∀ W, Below w1.heap.size w1 W → Calls Try.prog 16 #[.slice FA fl fc, x.v] W (ValP W (.slice none 0 0))) := Lib.hid (fun W hW => (HTR.out W hW).mono (fun r w' h => by
      unfold TruP at h
      rw [if_neg (by rw [hok]; decide)] at h
      exact h))
    clear HTR hok
    obtain ⟨A, s, c, B, q, d⟩ := x
    unfold WX.v at HHV HTR2 ⊢
    dsimp only at HHV HS HTR2 ⊢
    clear hx hF hf HF hxn hxm hn hnl
    obtain ⟨y1, y2⟩ := HS.out w1 (Below.refl _ _)
    go_enter Try.func6, Try.ntmps6
    go_upto_region 1 with (fail)
    clear HW1
    go_wp2_with fail
    refine HHV.out.mono ?_
    rintro e2 w2 ⟨rfl, hb2⟩
    have HB2 := Lib.hid hb2
    obtain ⟨z1, z2⟩ := HS.out w2 HB2.out
    clear hb2 y1 y2
    go_wp2_with fail
    clear z1 z2
    refine (HTR2.out w2 HB2.out).mono ?_
    rintro e4 w4 ⟨rfl, hb4⟩
    have HB4 : Hid (Below w1.heap.size w1 w4) := Lib.hid (HB2.out.trans (hb4.mono HB2.out.size))
    clear hb4
    go_wp2_with fail
    refine (awake_any w4).mono ?_
    rintro e6 w6 ⟨rfl, hb6⟩
    have HB6 := Lib.hid (HBZ.out.trans ((HB4.out.trans (hb6.mono HB4.out.size)).mono HBZ.out.size))
    clear hb6
    go_wp2
    go_ret
    exact ⟨rfl, HB6.out⟩
  have hyes : okF e x.m = true := by simpa using hok
  obtain ⟨hF1, hm0⟩ := okF_iff.1 hyes
  have HWR := Lib.hid (isF_iff.1 hF1)
  have hfpos := (whole_last (isF_iff.1 hF1)).1
  have HTR2 : Hid (∀ W, Below w1.heap.size w1 W → Calls Try.prog 16 #[.slice FA fl fc, x.v] W (RowsP W fl n (fun _ => True) (trJ e (outF e e.length) (st ++ lp) x.n))) := Lib.hid (fun W hW => (HTR.out W hW).mono (fun r w' h => by
    unfold TruP at h
    rw [if_pos hyes] at h
    exact h))
  have HFB : Hid (∀ W, Below w1.heap.size w1 W → PA W FA e) := Lib.hid (fun W hW => hF.below (HBZ.out.trans (hW.mono HBZ.out.size)))
  have HKD : Hid (∀ (i : Nat) W, Below w1.heap.size w1 W → Calls Try.prog 27 #[.slice FA fl fc, .int .i64 i] W fun r w' => r = .returned (.tuple #[.int .i64 (kidsF e i).1, .int .i64 (kidsF e i).2]) ∧ Below W.heap.size W w') := Lib.hid (fun i W hW => refKids_any e i FA fc fl W hf (by omega) (HFB.out W hW))
  have HSL : Hid ((st ++ lp).length = n) := Lib.hid (by rw [List.length_append]; exact hnl)
  have hsn : x.n < n := by omega
  have hn60 : n ≤ 60 := by omega
  have hfne : ((fl : Int) == 0) = false := by simp; omega
  have hflne : ¬ (fl : Int) = 0 := by omega
  have HMN := Lib.hid hn
  have HM0 := Lib.hid hm0
  obtain ⟨sets, hsets⟩ : ∃ sets, st ++ lp = sets := ⟨_, rfl⟩
  rw [hsets] at HTR2 HSL
  obtain ⟨A, s, c, B, q, d⟩ := x
  unfold WX.v at HHV HTR2 ⊢
  dsimp only at HHV HS HTR2 hxn hxm hsn HMN HM0 ⊢
  clear hx hF hf hn hnl hm0 HTR hok hF1 hyes hfpos hsets
  obtain ⟨y1, y2⟩ := HS.out w1 (Below.refl _ _)
  go_enter Try.func6, Try.ntmps6
  go_upto_region 1 with (fail)
  clear HW1
  go_wp2_with fail
  refine HHV.out.mono ?_
  rintro e2 w2 ⟨rfl, hb2⟩
  have HB2 := Lib.hid hb2
  obtain ⟨z1, z2⟩ := HS.out w2 HB2.out
  clear hb2 y1 y2
  go_wp2_with fail
  clear z1 z2
  refine (HTR2.out w2 HB2.out).mono ?_
  rintro e4 w4 ⟨tb, X, rfl, hb4, _, hR⟩
  have HB4 : Hid (Below w1.heap.size w1 w4) := Lib.hid (HB2.out.trans (hb4.mono HB2.out.size))
  have HT : Hid (∀ j, j < fl → ∃ g o c, (trJ e (outF e e.length) sets s j).length = n ∧ ∀ W, Below w4.heap.size w4 W → W.cell? ⟨tb, j, none⟩ = some (.slice (some ⟨g, o, none⟩) n c) ∧ ∀ k, k < n → W.cell? ⟨g, o + k, none⟩ = some (.bool ((trJ e (outF e e.length) sets s j).getD k false))) := Lib.hid (fun j hj => by
    obtain ⟨m1, m2, m3, _⟩ := hR.tru j hj trivial
    have t1 := hR.row.cell (i := j) hj
    obtain ⟨A5, n5, c5, HXP⟩ : ∃ A n c, X j = (A, n, c) := ⟨_, _, _, rfl⟩
    rw [HXP] at m1 m2 t1
    dsimp only at m1 m2
    subst m1
    obtain ⟨g, o, rfl, hg, hc⟩ := m2 (by rw [m3]; omega)
    exact ⟨g, o, c5, m3, fun W hW => ⟨(hW.cell (p := ⟨tb, j, none⟩) hR.row.lt).trans t1, fun k hk => (hW.cell (p := ⟨g, o + k, none⟩) hg).trans (hc k (by rw [m3]; exact hk))⟩⟩)
  clear hb4 hR HTR2 HHV
  have CV : Hid (∀ W, Below w4.heap.size w4 W → Below w1.heap.size w1 W) := Lib.hid (fun W hW => HB4.out.trans (hW.mono HB4.out.size))
  go_wp2
  go_loopw [6] (fun iv wr => ∃ i : Nat, i ≤ fl ∧ iv = .int .i64 i ∧ Hid (Below w4.heap.size w4 wr)) (fun iv _ => fl - (intOf iv).toNat)
  case atStart => exact ⟨0, Nat.zero_le _, rfl, Lib.hid (Below.refl _ _)⟩
  case round =>
    obtain ⟨i, hi, rfl, HB⟩ := hrel
    obtain ⟨wo, rfl⟩ : ∃ wo, wo = wr := ⟨wr, rfl⟩
    by_cases hlt : i < fl
    · have hlti : (i : Int) < fl := by omega
      obtain ⟨op, N, HXY⟩ : ∃ op N, Hid (e.getD i (0, 0) = (op, N)) := ⟨_, _, Lib.hid rfl⟩
      obtain ⟨kl, kr, HKL⟩ : ∃ kl kr, Hid (kidsF e i = (kl, kr)) := ⟨_, _, Lib.hid rfl⟩
      have HKC := Lib.hid (HKD.out i wo (CV.out wo HB.out))
      rw [HKL.out] at HKC
      dsimp only at HKC
      go_wp2_with fail
      refine HKC.out.mono ?_
      rintro e5 w5 ⟨rfl, hb5⟩
      have HB5 : Hid (Below w4.heap.size w4 w5) := Lib.hid (HB.out.trans (hb5.mono HB.out.size))
      clear hb5 HKC
      obtain ⟨ab, ao, rfl, hab, hac⟩ := (HFB.out w5 (CV.out w5 HB5.out)) (by have := HF.out; omega)
      obtain ⟨c1, _⟩ := hac i (by have := HF.out; omega)
      rw [HXY.out] at c1
      dsimp only at c1
      clear hac
      by_cases hop : op = 9 ∨ op = 10 ∨ op = 11 ∨ op = 12
      · obtain ⟨gi, oi, ci, hli, HTI0⟩ := HT.out i hlt
        have HTI := Lib.hid HTI0
        clear HTI0
        have HIE : Hid (i < e.length) := Lib.hid (by have := HF.out; omega)
        go_upto_region 11 with (fail)
        clear c1
        go_cut [57] from 44 to 57 (fun v W => v = .bool false ∧ w5 = W)
        case first =>
          rcases hop with rfl | rfl | rfl | rfl
          all_goals
            go_wp2
            go_meet
            case rel => exact ⟨rfl, rfl⟩
        case rest =>
          obtain ⟨rfl, rfl⟩ := hcut
          obtain ⟨tn, HTN⟩ : ∃ tn, Hid (tnF op = tn) := ⟨_, Lib.hid rfl⟩
          have HNL := Lib.hid hop
          by_cases hun : op = 11 ∨ op = 12
          · have hkd := hun
            obtain ⟨j, bX, hji, hkk, htr⟩ := kid_one HWR.out sets s HIE.out (by rw [HXY.out]; rcases hkd with rfl | rfl <;> rfl)
            rw [HKL.out] at hkk
            injection hkk with hkl hkr
            subst hkl hkr
            rw [HXY.out] at htr
            obtain ⟨gl, ol, cl, hll, HTL0⟩ := HT.out j (by omega)
            have HTL := Lib.hid HTL0
            clear HTL0
            have hjf : (j : Int) < fl := by omega
            obtain ⟨La, HLa⟩ : ∃ La, Hid ((List.range n).map (aF op (trJ e (outF e e.length) sets s j)) = La) := ⟨_, Lib.hid rfl⟩
            obtain ⟨Lb, HLb⟩ : ∃ Lb, Hid ((List.range n).map (bF op (trJ e (outF e e.length) sets s j) bX) = Lb) := ⟨_, Lib.hid rfl⟩
            have HLA : Hid (La.length = n ∧ Lb.length = n ∧ ∀ k, k < n → La.getD k false = aF op (trJ e (outF e e.length) sets s j) k ∧ Lb.getD k false = bF op (trJ e (outF e e.length) sets s j) bX k) := Lib.hid (by
              rw [← HLa.out, ← HLb.out]
              exact ⟨by simp, by simp, fun k hk => ⟨range_get hk, range_get hk⟩⟩)
            have HND : Hid (∀ k, k < n → ((trJ e (outF e e.length) sets s i).getD k false != tn) = untA La Lb s n (2 * n + 1) k) := Lib.hid (fun k hk => by
              rw [htr, ← HLa.out, ← HLb.out, ← HTN.out]
              exact node_least HNL.out hsn HSL.out hll (fun h => by omega) hk)
            clear htr
            have k1 := (HTI.out w5 HB5.out).1
            clear hop
            have HWK : Hid (Below w4.heap.size w4 w5) := HB5
            go_wp2_with fail
            go_upto_region 15 with (fail)
            clear k1
            have hmk := wd_mk n (by omega)
            go_cut [11, 12] from 58 to 165 (fun va vb W => ∃ ba bb : Nat, va = .slice (some ⟨ba, 0, none⟩) n n ∧ vb = .slice (some ⟨bb, 0, none⟩) n n ∧ Hid (TwoR w5 W ba bb n La Lb 0))
            case first =>
              have HO : Hid (TwoR w5 ((w5.alloc (.cells (madeCells #[.bool false] n) 4)).alloc (.cells (madeCells #[.bool false] n) 4)) w5.heap.size (w5.heap.size + 1) n La Lb 0 ∧ TwoR w5 ((w5.alloc (.cells (madeCells #[.bool false] n) 4)).alloc (.cells (madeCells #[.bool false] n) 4)) (w5.heap.size + 1) w5.heap.size n La Lb 0) := Lib.hid (by
                have r1 := (World.rowIs_made w5 (.bool false) n 4).alloc (.cells (madeCells #[.bool false] n) 4)
                have r2 := World.rowIs_made (w5.alloc (.cells (madeCells #[.bool false] n) 4)) (.bool false) n 4
                have e : (w5.alloc (.cells (madeCells #[.bool false] n) 4)).heap.size = w5.heap.size + 1 := by simp
                rw [e] at r2
                have b1 : Below w5.heap.size w5 ((w5.alloc (.cells (madeCells #[.bool false] n) 4)).alloc (.cells (madeCells #[.bool false] n) 4)) := ((Below.refl _ _).alloc (Nat.le_refl _) _).alloc (by simp) _
                have q1 := fun (L : List Bool) => r1.congr (g := fstB L 0) (fun j _ => by simp [fstB])
                have q2 := fun (L : List Bool) => r2.congr (g := fstB L 0) (fun j _ => by simp [fstB])
                exact ⟨⟨q1 La, q2 Lb, by omega, Nat.le_refl _, by omega, b1⟩, ⟨q2 La, q1 Lb, by omega, by omega, Nat.le_refl _, b1⟩⟩)
              go_region
              all_goals
                go_wp2
                go_meet
                case rel => first
                  | exact ⟨_, _, rfl, rfl, Lib.hid HO.out.1⟩
                  | exact ⟨_, _, rfl, rfl, Lib.hid HO.out.2⟩
                  | exact ⟨_, _, rfl, rfl, Lib.hid (HO.out.1.below (Below.refl _ _).drew)⟩
                  | exact ⟨_, _, rfl, rfl, Lib.hid (HO.out.2.below (Below.refl _ _).drew)⟩
            case rest =>
              obtain ⟨ba, bb, rfl, rfl, HTW⟩ := hcut
              go_wp2
              go_loopw [13] (fun kv wq => ∃ k : Nat, k ≤ n ∧ kv = .int .i64 k ∧ Hid (TwoR w5 wq ba bb n La Lb k)) (fun kv _ => n - (intOf kv).toNat)
              case atStart => exact ⟨0, Nat.zero_le _, rfl, HTW⟩
              case round =>
                clear HTW
                obtain ⟨k, hk, rfl, HTW⟩ := hrel
                have HBQ : Hid (Below w4.heap.size w4 wr) := Lib.hid (HB5.out.trans (HTW.out.bl.mono HB5.out.size))
                by_cases hlk : k < n
                · have hlki : (k : Int) < n := by omega
                  go_upto_region 19 with (fail)
                  go_cut [14] from 93 to 98 (fun v W => v = .bool tn ∧ wr = W)
                  case first =>
                    have htn := HTN.out
                    clear HNL
                    rcases hkd with rfl | rfl
                    all_goals
                      go_wp2
                      go_meet
                      case rel => exact ⟨congrArg Value.bool htn, rfl⟩
                  case rest =>
                    obtain ⟨rfl, rfl⟩ := hcut
                    have d1 := HTW.out.a.cell hlk
                    have f1 := HTW.out.a.frozen k
                    generalize fstB La k k = ua at d1
                    have d2 := HTW.out.b.cell hlk
                    have f2 := HTW.out.b.frozen k
                    generalize fstB Lb k k = ub at d2
                    have hne := HTW.out.ne
                    have HE3 : Hid (∀ v, (wr.setCell ⟨ba, k, none⟩ v).cell? ⟨bb, k, none⟩ = some ub ∧ (wr.setCell ⟨ba, k, none⟩ v).frozen? ⟨bb, k, none⟩ = false) := Lib.hid (fun v => ⟨(World.cell?_of_block (Below.heap_setCell wr ⟨ba, k, none⟩ v bb (fun e => hne e.symm))).trans d2, (HTW.out.b.setOther (show bb ≠ (⟨ba, k, none⟩ : Addr).block from fun e => hne e.symm) v).frozen k⟩)
                    have HE4 : Hid (∀ v (b0 o0 : Nat), b0 < w5.heap.size → (wr.setCell ⟨ba, k, none⟩ v).cell? ⟨b0, o0, none⟩ = wr.cell? ⟨b0, o0, none⟩) := Lib.hid (fun v b0 o0 hb => World.cell?_of_block (Below.heap_setCell wr ⟨ba, k, none⟩ v b0 (fun e => by have := HTW.out.la; dsimp only at e; omega)))
                    obtain ⟨t1, t2⟩ := HTL.out wr HBQ.out
                    have t3 := t2 k hlk
                    have HLT : Hid (tb < w5.heap.size ∧ gl < w5.heap.size) := Lib.hid ⟨dcl.lt_of_cell (HTL.out w5 HB5.out).1, dcl.lt_of_cell ((HTL.out w5 HB5.out).2 k hlk)⟩
                    obtain ⟨xl, HXL⟩ : ∃ xl, Hid ((trJ e (outF e e.length) sets s j).getD k false = xl) := ⟨_, Lib.hid rfl⟩
                    rw [HXL.out] at t3
                    clear t2 hne
                    have HVA : Hid (true = La.getD k false) := Lib.hid (show true = La.getD k false by rw [(HLA.out.2.2 k hlk).1]; unfold aF; rw [if_pos hun])
                    have HVB : Hid ((xl != tn) = Lb.getD k false) := Lib.hid (by rw [(HLA.out.2.2 k hlk).2]; unfold bF; rw [if_pos hun, HXL.out, HTN.out])
                    obtain ⟨d3, f3⟩ := HE3.out (.bool true)
                    have s1 := (HE4.out (.bool true) tb j HLT.out.1).trans t1
                    have s3 := (HE4.out (.bool true) gl (ol + k) HLT.out.2).trans t3
                    have HP := Lib.hid (HTW.out.put HVA.out HVB.out)
                    go_upto_region 21 with (fail)
                    clear d1 f1 d2 f2 t1 t3 HE3 HE4
                    generalize wr.setCell ⟨ba, k, none⟩ (.bool true) = w7 at *
                    go_wp2
                    go_roundw
                    case rel => exact ⟨k + 1, by omega, by go_num, HP⟩
                    case measure => simp [intOf]; omega
                · obtain rfl : k = n := by omega
                  have hlki : ¬ (k : Int) < k := by omega
                  go_wp2
                  go_loopw [15] (fun kv wq => ∃ z : Nat, z ≤ k ∧ kv = .int .i64 z ∧ Hid (TwoR w5 wq ba bb k La Lb k)) (fun kv _ => k - (intOf kv).toNat)
                  case atStart => exact ⟨0, Nat.zero_le _, rfl, HTW⟩
                  case round =>
                    clear HTW HBQ
                    obtain ⟨z, hz, rfl, HTW⟩ := hrel
                    have HBQ : Hid (Below w4.heap.size w4 wr) := Lib.hid (HB5.out.trans (HTW.out.bl.mono HB5.out.size))
                    by_cases hlz : z < k
                    · have hlzi : (z : Int) < k := by omega
                      have hz0i : (0 : Int) ≤ (z : Int) := by omega
                      have hlv := HND.out z hlz
                      obtain ⟨ik, HIK⟩ : ∃ ik, Hid ((trJ e (outF e e.length) sets s i).getD z false = ik) := ⟨_, Lib.hid rfl⟩
                      rw [HIK.out] at hlv
                      have HCI : Hid (∀ W, Below wr.heap.size wr W → W.cell? ⟨tb, i, none⟩ = some (.slice (some ⟨gi, oi, none⟩) k ci) ∧ W.cell? ⟨gi, oi + z, none⟩ = some (.bool ik) ∧ W.cell? ⟨w.heap.size, 0, none⟩ = some (.slice A s c) ∧ W.cell? ⟨w.heap.size, 1, none⟩ = some (.slice B q d)) := Lib.hid (fun W hW => by
                        have h4 := HBQ.out.trans (hW.mono HBQ.out.size)
                        obtain ⟨g1, g2⟩ := HTI.out W h4
                        have g3 := g2 z hlz
                        rw [HIK.out] at g3
                        exact ⟨g1, g3, HS.out W (CV.out W h4)⟩)
                      have HLS : Hid (∀ W, Below wr.heap.size wr W → Calls Try.prog 28 #[.slice (some ⟨ba, 0, none⟩) k k, .slice (some ⟨bb, 0, none⟩) k k, .agg #[.slice A s c, .slice B q d], .int .i64 z] W (ValP W (.bool (ik != tn)))) := Lib.hid (fun W hW => by
                        have h5 := HTW.out.below hW
                        have hv : (ik != tn) = untA La Lb s k (2 * k + 1) z := hlv
                        rw [hv]
                        exact least_any La Lb (some ⟨ba, 0, none⟩) (some ⟨bb, 0, none⟩) k k k z ⟨A, s, c, B, q, d⟩ W HMN.out HM0.out (by omega) HLA.out.1 HLA.out.2.1 (bl_row HLA.out.1 (fstB_full h5.a)) (bl_row HLA.out.2.1 (fstB_full h5.b)) hlz)
                      have HWZ : Hid (Below wr.heap.size wr wr) := Lib.hid (Below.refl _ _)
                      clear hlv HIK HND HNL HTI
                      obtain ⟨g1, g2, g3, g4⟩ := HCI.out wr HWZ.out
                      have htn := HTN.out
                      clear HTN HLA HKL
                      rcases hkd with rfl | rfl
                      · obtain rfl : false = tn := htn
                        cases ik
                        · go_wp2_with fail
                          clear g1 g2 g3 g4
                          go_region_held3 (fun W => W.cell? ⟨tb, i, none⟩ = some (.slice (some ⟨gi, oi, none⟩) k ci) ∧ W.cell? ⟨gi, oi + z, none⟩ = some (.bool false) ∧ W.cell? ⟨w.heap.size, 0, none⟩ = some (.slice A s c) ∧ W.cell? ⟨w.heap.size, 1, none⟩ = some (.slice B q d))
                            (first | exact HCI.out _ HWZ.out | exact HCI.out _ HWZ.out.drew | exact HCI.out _ HB8.out | go_keep)
                            (first
                              | (go_at_call 28; refine (HLS.out _ (by first | exact HWZ.out.drew | exact HWZ.out)).mono ?_; rintro e8 w8 ⟨rfl, hb8⟩; have HB8 : Hid (Below wr.heap.size wr w8) := Lib.hid (by first | exact HWZ.out.drew.trans hb8 | exact hb8); clear hb8)
                              | fail)
                          all_goals
                            go_wp2
                            go_roundw
                            case rel => exact ⟨z + 1, by omega, by go_num, Lib.hid (HTW.out.below HB8.out)⟩
                            case measure => simp [intOf]; omega
                        · go_wp2_with fail
                          clear g1 g2 g3 g4
                          go_region_held3 (fun W => W.cell? ⟨tb, i, none⟩ = some (.slice (some ⟨gi, oi, none⟩) k ci) ∧ W.cell? ⟨gi, oi + z, none⟩ = some (.bool true) ∧ W.cell? ⟨w.heap.size, 0, none⟩ = some (.slice A s c) ∧ W.cell? ⟨w.heap.size, 1, none⟩ = some (.slice B q d))
                            (first | exact HCI.out _ HWZ.out | exact HCI.out _ HWZ.out.drew | exact HCI.out _ HB8.out | go_keep)
                            (first
                              | (go_at_call 28; refine (HLS.out _ (by first | exact HWZ.out.drew | exact HWZ.out)).mono ?_; rintro e8 w8 ⟨rfl, hb8⟩; have HB8 : Hid (Below wr.heap.size wr w8) := Lib.hid (by first | exact HWZ.out.drew.trans hb8 | exact hb8); clear hb8)
                              | fail)
                          all_goals
                            go_wp2
                            go_roundw
                            case rel => exact ⟨z + 1, by omega, by go_num, Lib.hid (HTW.out.below HB8.out)⟩
                            case measure => simp [intOf]; omega
                      · obtain rfl : true = tn := htn
                        cases ik
                        · go_wp2_with fail
                          clear g1 g2 g3 g4
                          go_region_held3 (fun W => W.cell? ⟨tb, i, none⟩ = some (.slice (some ⟨gi, oi, none⟩) k ci) ∧ W.cell? ⟨gi, oi + z, none⟩ = some (.bool false) ∧ W.cell? ⟨w.heap.size, 0, none⟩ = some (.slice A s c) ∧ W.cell? ⟨w.heap.size, 1, none⟩ = some (.slice B q d))
                            (first | exact HCI.out _ HWZ.out | exact HCI.out _ HWZ.out.drew | exact HCI.out _ HB8.out | go_keep)
                            (first
                              | (go_at_call 28; refine (HLS.out _ (by first | exact HWZ.out.drew | exact HWZ.out)).mono ?_; rintro e8 w8 ⟨rfl, hb8⟩; have HB8 : Hid (Below wr.heap.size wr w8) := Lib.hid (by first | exact HWZ.out.drew.trans hb8 | exact hb8); clear hb8)
                              | fail)
                          all_goals
                            go_wp2
                            go_roundw
                            case rel => exact ⟨z + 1, by omega, by go_num, Lib.hid (HTW.out.below HB8.out)⟩
                            case measure => simp [intOf]; omega
                        · go_wp2_with fail
                          clear g1 g2 g3 g4
                          go_region_held3 (fun W => W.cell? ⟨tb, i, none⟩ = some (.slice (some ⟨gi, oi, none⟩) k ci) ∧ W.cell? ⟨gi, oi + z, none⟩ = some (.bool true) ∧ W.cell? ⟨w.heap.size, 0, none⟩ = some (.slice A s c) ∧ W.cell? ⟨w.heap.size, 1, none⟩ = some (.slice B q d))
                            (first | exact HCI.out _ HWZ.out | exact HCI.out _ HWZ.out.drew | exact HCI.out _ HB8.out | go_keep)
                            (first
                              | (go_at_call 28; refine (HLS.out _ (by first | exact HWZ.out.drew | exact HWZ.out)).mono ?_; rintro e8 w8 ⟨rfl, hb8⟩; have HB8 : Hid (Below wr.heap.size wr w8) := Lib.hid (by first | exact HWZ.out.drew.trans hb8 | exact hb8); clear hb8)
                              | fail)
                          all_goals
                            go_wp2
                            go_roundw
                            case rel => exact ⟨z + 1, by omega, by go_num, Lib.hid (HTW.out.below HB8.out)⟩
                            case measure => simp [intOf]; omega
                    · have hlzi : ¬ (z : Int) < k := by omega
                      go_wp2
                      exact ⟨⟨i + 1, by omega, by go_num, HBQ⟩, by simp [intOf]; omega⟩
          · have hkd : op = 9 ∨ op = 10 := by have := HNL.out; omega
            obtain ⟨ql, j, hqi, hji, hkk, htr⟩ := kid_two HWR.out sets s HIE.out (by rw [HXY.out]; rcases hkd with rfl | rfl <;> rfl)
            rw [HKL.out] at hkk
            injection hkk with hkl hkr
            subst hkl hkr
            rw [HXY.out] at htr
            obtain ⟨gl, ol, cl, hll, HTL0⟩ := HT.out ql (by omega)
            have HTL := Lib.hid HTL0
            obtain ⟨gr, or_, cr, hlr, HTR0⟩ := HT.out j (by omega)
            have HTRR := Lib.hid HTR0
            clear HTL0 HTR0
            have hqf : (ql : Int) < fl := by omega
            have hjf : (j : Int) < fl := by omega
            have hj0 : ¬ (j : Int) < 0 := by omega
            have hjd : decide ((j : Int) < 0) = false := decide_eq_false hj0
            obtain ⟨La, HLa⟩ : ∃ La, Hid ((List.range n).map (aF op (trJ e (outF e e.length) sets s ql)) = La) := ⟨_, Lib.hid rfl⟩
            obtain ⟨Lb, HLb⟩ : ∃ Lb, Hid ((List.range n).map (bF op (trJ e (outF e e.length) sets s ql) (trJ e (outF e e.length) sets s j)) = Lb) := ⟨_, Lib.hid rfl⟩
            have HLA : Hid (La.length = n ∧ Lb.length = n ∧ ∀ k, k < n → La.getD k false = aF op (trJ e (outF e e.length) sets s ql) k ∧ Lb.getD k false = bF op (trJ e (outF e e.length) sets s ql) (trJ e (outF e e.length) sets s j) k) := Lib.hid (by
              rw [← HLa.out, ← HLb.out]
              exact ⟨by simp, by simp, fun k hk => ⟨range_get hk, range_get hk⟩⟩)
            have HND : Hid (∀ k, k < n → ((trJ e (outF e e.length) sets s i).getD k false != tn) = untA La Lb s n (2 * n + 1) k) := Lib.hid (fun k hk => by
              rw [htr, ← HLa.out, ← HLb.out, ← HTN.out]
              exact node_least HNL.out hsn HSL.out hll (fun _ => hlr) hk)
            clear htr
            have k1 := (HTI.out w5 HB5.out).1
            clear hop
            have HWK : Hid (Below w4.heap.size w4 w5) := HB5
            go_wp2_with fail
            go_upto_region 15 with (fail)
            clear k1
            have hmk := wd_mk n (by omega)
            go_cut [11, 12] from 58 to 165 (fun va vb W => ∃ ba bb : Nat, va = .slice (some ⟨ba, 0, none⟩) n n ∧ vb = .slice (some ⟨bb, 0, none⟩) n n ∧ Hid (TwoR w5 W ba bb n La Lb 0))
            case first =>
              have HO : Hid (TwoR w5 ((w5.alloc (.cells (madeCells #[.bool false] n) 4)).alloc (.cells (madeCells #[.bool false] n) 4)) w5.heap.size (w5.heap.size + 1) n La Lb 0 ∧ TwoR w5 ((w5.alloc (.cells (madeCells #[.bool false] n) 4)).alloc (.cells (madeCells #[.bool false] n) 4)) (w5.heap.size + 1) w5.heap.size n La Lb 0) := Lib.hid (by
                have r1 := (World.rowIs_made w5 (.bool false) n 4).alloc (.cells (madeCells #[.bool false] n) 4)
                have r2 := World.rowIs_made (w5.alloc (.cells (madeCells #[.bool false] n) 4)) (.bool false) n 4
                have e : (w5.alloc (.cells (madeCells #[.bool false] n) 4)).heap.size = w5.heap.size + 1 := by simp
                rw [e] at r2
                have b1 : Below w5.heap.size w5 ((w5.alloc (.cells (madeCells #[.bool false] n) 4)).alloc (.cells (madeCells #[.bool false] n) 4)) := ((Below.refl _ _).alloc (Nat.le_refl _) _).alloc (by simp) _
                have q1 := fun (L : List Bool) => r1.congr (g := fstB L 0) (fun j _ => by simp [fstB])
                have q2 := fun (L : List Bool) => r2.congr (g := fstB L 0) (fun j _ => by simp [fstB])
                exact ⟨⟨q1 La, q2 Lb, by omega, Nat.le_refl _, by omega, b1⟩, ⟨q2 La, q1 Lb, by omega, by omega, Nat.le_refl _, b1⟩⟩)
              go_region
              all_goals
                go_wp2
                go_meet
                case rel => first
                  | exact ⟨_, _, rfl, rfl, Lib.hid HO.out.1⟩
                  | exact ⟨_, _, rfl, rfl, Lib.hid HO.out.2⟩
                  | exact ⟨_, _, rfl, rfl, Lib.hid (HO.out.1.below (Below.refl _ _).drew)⟩
                  | exact ⟨_, _, rfl, rfl, Lib.hid (HO.out.2.below (Below.refl _ _).drew)⟩
            case rest =>
              obtain ⟨ba, bb, rfl, rfl, HTW⟩ := hcut
              go_wp2
              go_loopw [13] (fun kv wq => ∃ k : Nat, k ≤ n ∧ kv = .int .i64 k ∧ Hid (TwoR w5 wq ba bb n La Lb k)) (fun kv _ => n - (intOf kv).toNat)
              case atStart => exact ⟨0, Nat.zero_le _, rfl, HTW⟩
              case round =>
                clear HTW
                obtain ⟨k, hk, rfl, HTW⟩ := hrel
                have HBQ : Hid (Below w4.heap.size w4 wr) := Lib.hid (HB5.out.trans (HTW.out.bl.mono HB5.out.size))
                by_cases hlk : k < n
                · have hlki : (k : Int) < n := by omega
                  go_upto_region 19 with (fail)
                  go_cut [14] from 93 to 98 (fun v W => v = .bool tn ∧ wr = W)
                  case first =>
                    have htn := HTN.out
                    clear HNL
                    rcases hkd with rfl | rfl
                    all_goals
                      go_wp2
                      go_meet
                      case rel => exact ⟨congrArg Value.bool htn, rfl⟩
                  case rest =>
                    obtain ⟨rfl, rfl⟩ := hcut
                    have d1 := HTW.out.a.cell hlk
                    have f1 := HTW.out.a.frozen k
                    generalize fstB La k k = ua at d1
                    have d2 := HTW.out.b.cell hlk
                    have f2 := HTW.out.b.frozen k
                    generalize fstB Lb k k = ub at d2
                    have hne := HTW.out.ne
                    have HE3 : Hid (∀ v, (wr.setCell ⟨ba, k, none⟩ v).cell? ⟨bb, k, none⟩ = some ub ∧ (wr.setCell ⟨ba, k, none⟩ v).frozen? ⟨bb, k, none⟩ = false) := Lib.hid (fun v => ⟨(World.cell?_of_block (Below.heap_setCell wr ⟨ba, k, none⟩ v bb (fun e => hne e.symm))).trans d2, (HTW.out.b.setOther (show bb ≠ (⟨ba, k, none⟩ : Addr).block from fun e => hne e.symm) v).frozen k⟩)
                    have HE4 : Hid (∀ v (b0 o0 : Nat), b0 < w5.heap.size → (wr.setCell ⟨ba, k, none⟩ v).cell? ⟨b0, o0, none⟩ = wr.cell? ⟨b0, o0, none⟩) := Lib.hid (fun v b0 o0 hb => World.cell?_of_block (Below.heap_setCell wr ⟨ba, k, none⟩ v b0 (fun e => by have := HTW.out.la; dsimp only at e; omega)))
                    obtain ⟨t1, t2⟩ := HTL.out wr HBQ.out
                    have t3 := t2 k hlk
                    have HLT : Hid (tb < w5.heap.size ∧ gl < w5.heap.size) := Lib.hid ⟨dcl.lt_of_cell (HTL.out w5 HB5.out).1, dcl.lt_of_cell ((HTL.out w5 HB5.out).2 k hlk)⟩
                    obtain ⟨xl, HXL⟩ : ∃ xl, Hid ((trJ e (outF e e.length) sets s ql).getD k false = xl) := ⟨_, Lib.hid rfl⟩
                    rw [HXL.out] at t3
                    clear t2 hne
                    obtain ⟨t4, t5⟩ := HTRR.out wr HBQ.out
                    have t6 := t5 k hlk
                    have HRT : Hid (gr < w5.heap.size) := Lib.hid (dcl.lt_of_cell ((HTRR.out w5 HB5.out).2 k hlk))
                    obtain ⟨xr, HXR⟩ : ∃ xr, Hid ((trJ e (outF e e.length) sets s j).getD k false = xr) := ⟨_, Lib.hid rfl⟩
                    rw [HXR.out] at t6
                    clear t5
                    have HVA : Hid ((!(xl == tn)) = La.getD k false) := Lib.hid (show (xl != tn) = La.getD k false by rw [(HLA.out.2.2 k hlk).1]; unfold aF; rw [if_neg hun, HXL.out, HTN.out])
                    have HVB : Hid ((xr != tn) = Lb.getD k false) := Lib.hid (by rw [(HLA.out.2.2 k hlk).2]; unfold bF; rw [if_neg hun, HXR.out, HTN.out])
                    obtain ⟨d3, f3⟩ := HE3.out (.bool (!(xl == tn)))
                    have s1 := (HE4.out (.bool (!(xl == tn))) tb ql HLT.out.1).trans t1
                    have s3 := (HE4.out (.bool (!(xl == tn))) gl (ol + k) HLT.out.2).trans t3
                    have s4 := (HE4.out (.bool (!(xl == tn))) tb j HLT.out.1).trans t4
                    have s6 := (HE4.out (.bool (!(xl == tn))) gr (or_ + k) HRT.out).trans t6
                    have HP := Lib.hid (HTW.out.put HVA.out HVB.out)
                    go_upto_region 21 with (fail)
                    clear d1 f1 d2 f2 t1 t3 t4 t6 HE3 HE4
                    generalize wr.setCell ⟨ba, k, none⟩ (.bool (!(xl == tn))) = w7 at *
                    go_wp2
                    go_roundw
                    case rel => exact ⟨k + 1, by omega, by go_num, HP⟩
                    case measure => simp [intOf]; omega
                · obtain rfl : k = n := by omega
                  have hlki : ¬ (k : Int) < k := by omega
                  go_wp2
                  go_loopw [15] (fun kv wq => ∃ z : Nat, z ≤ k ∧ kv = .int .i64 z ∧ Hid (TwoR w5 wq ba bb k La Lb k)) (fun kv _ => k - (intOf kv).toNat)
                  case atStart => exact ⟨0, Nat.zero_le _, rfl, HTW⟩
                  case round =>
                    clear HTW HBQ
                    obtain ⟨z, hz, rfl, HTW⟩ := hrel
                    have HBQ : Hid (Below w4.heap.size w4 wr) := Lib.hid (HB5.out.trans (HTW.out.bl.mono HB5.out.size))
                    by_cases hlz : z < k
                    · have hlzi : (z : Int) < k := by omega
                      have hz0i : (0 : Int) ≤ (z : Int) := by omega
                      have hlv := HND.out z hlz
                      obtain ⟨ik, HIK⟩ : ∃ ik, Hid ((trJ e (outF e e.length) sets s i).getD z false = ik) := ⟨_, Lib.hid rfl⟩
                      rw [HIK.out] at hlv
                      have HCI : Hid (∀ W, Below wr.heap.size wr W → W.cell? ⟨tb, i, none⟩ = some (.slice (some ⟨gi, oi, none⟩) k ci) ∧ W.cell? ⟨gi, oi + z, none⟩ = some (.bool ik) ∧ W.cell? ⟨w.heap.size, 0, none⟩ = some (.slice A s c) ∧ W.cell? ⟨w.heap.size, 1, none⟩ = some (.slice B q d)) := Lib.hid (fun W hW => by
                        have h4 := HBQ.out.trans (hW.mono HBQ.out.size)
                        obtain ⟨g1, g2⟩ := HTI.out W h4
                        have g3 := g2 z hlz
                        rw [HIK.out] at g3
                        exact ⟨g1, g3, HS.out W (CV.out W h4)⟩)
                      have HLS : Hid (∀ W, Below wr.heap.size wr W → Calls Try.prog 28 #[.slice (some ⟨ba, 0, none⟩) k k, .slice (some ⟨bb, 0, none⟩) k k, .agg #[.slice A s c, .slice B q d], .int .i64 z] W (ValP W (.bool (ik != tn)))) := Lib.hid (fun W hW => by
                        have h5 := HTW.out.below hW
                        have hv : (ik != tn) = untA La Lb s k (2 * k + 1) z := hlv
                        rw [hv]
                        exact least_any La Lb (some ⟨ba, 0, none⟩) (some ⟨bb, 0, none⟩) k k k z ⟨A, s, c, B, q, d⟩ W HMN.out HM0.out (by omega) HLA.out.1 HLA.out.2.1 (bl_row HLA.out.1 (fstB_full h5.a)) (bl_row HLA.out.2.1 (fstB_full h5.b)) hlz)
                      have HWZ : Hid (Below wr.heap.size wr wr) := Lib.hid (Below.refl _ _)
                      clear hlv HIK HND HNL HTI
                      obtain ⟨g1, g2, g3, g4⟩ := HCI.out wr HWZ.out
                      have htn := HTN.out
                      clear HTN HLA HKL
                      rcases hkd with rfl | rfl
                      · obtain rfl : false = tn := htn
                        cases ik
                        · go_wp2_with fail
                          clear g1 g2 g3 g4
                          go_region_held3 (fun W => W.cell? ⟨tb, i, none⟩ = some (.slice (some ⟨gi, oi, none⟩) k ci) ∧ W.cell? ⟨gi, oi + z, none⟩ = some (.bool false) ∧ W.cell? ⟨w.heap.size, 0, none⟩ = some (.slice A s c) ∧ W.cell? ⟨w.heap.size, 1, none⟩ = some (.slice B q d))
                            (first | exact HCI.out _ HWZ.out | exact HCI.out _ HWZ.out.drew | exact HCI.out _ HB8.out | go_keep)
                            (first
                              | (go_at_call 28; refine (HLS.out _ (by first | exact HWZ.out.drew | exact HWZ.out)).mono ?_; rintro e8 w8 ⟨rfl, hb8⟩; have HB8 : Hid (Below wr.heap.size wr w8) := Lib.hid (by first | exact HWZ.out.drew.trans hb8 | exact hb8); clear hb8)
                              | fail)
                          all_goals
                            go_wp2
                            go_roundw
                            case rel => exact ⟨z + 1, by omega, by go_num, Lib.hid (HTW.out.below HB8.out)⟩
                            case measure => simp [intOf]; omega
                        · go_wp2_with fail
                          clear g1 g2 g3 g4
                          go_region_held3 (fun W => W.cell? ⟨tb, i, none⟩ = some (.slice (some ⟨gi, oi, none⟩) k ci) ∧ W.cell? ⟨gi, oi + z, none⟩ = some (.bool true) ∧ W.cell? ⟨w.heap.size, 0, none⟩ = some (.slice A s c) ∧ W.cell? ⟨w.heap.size, 1, none⟩ = some (.slice B q d))
                            (first | exact HCI.out _ HWZ.out | exact HCI.out _ HWZ.out.drew | exact HCI.out _ HB8.out | go_keep)
                            (first
                              | (go_at_call 28; refine (HLS.out _ (by first | exact HWZ.out.drew | exact HWZ.out)).mono ?_; rintro e8 w8 ⟨rfl, hb8⟩; have HB8 : Hid (Below wr.heap.size wr w8) := Lib.hid (by first | exact HWZ.out.drew.trans hb8 | exact hb8); clear hb8)
                              | fail)
                          all_goals
                            go_wp2
                            go_roundw
                            case rel => exact ⟨z + 1, by omega, by go_num, Lib.hid (HTW.out.below HB8.out)⟩
                            case measure => simp [intOf]; omega
                      · obtain rfl : true = tn := htn
                        cases ik
                        · go_wp2_with fail
                          clear g1 g2 g3 g4
                          have HLQ : Hid (∀ W, Below wr.heap.size wr W → Calls Try.prog 28 #[.slice (some ⟨ba, 0, none⟩) k k, .slice (some ⟨bb, 0, none⟩) k k, .agg #[.slice A s c, .slice B q d], .int .i64 z] W (ValP W (.bool true))) := Lib.hid HLS.out
                          refine wp_region_held_drew (S := (fun w' => w'.cell? ⟨tb, i, none⟩ = some (.slice (some ⟨gi, oi, none⟩) k ci) ∧ w'.cell? ⟨gi, oi + z, none⟩ = some (.bool false) ∧ w'.cell? ⟨w.heap.size, 0, none⟩ = some (.slice A s c) ∧ w'.cell? ⟨w.heap.size, 1, none⟩ = some (.slice B q d))) (by kernel_rfl) (HCI.out wr.drew HWZ.out.drew) (fun hS0 => ?_)
                          have HS0 := Lib.hid hS0
                          clear hS0
                          simp only [Array.replicate, List.replicate]
                          refine wpAnyH_take (i := 0) (oi := ⟨some 146, _, _, _, _, _⟩) (v := .slice (some ⟨tb, 0, none⟩) fl fl) rfl (by kernel_rfl) (by kernel_rfl) (by kernel_rfl) (fun _ _ _ h => h) (Or.inl ⟨by kernel_rfl, fun w9 hS => ?_⟩) HS0.out ?_
                          · clear hS
                            go_simp
                          try simp only [Act.put, List.setIfInBounds_toArray, List.set_cons_zero, List.set_cons_succ]
                          refine wpAnyH_take (i := 1) (oi := ⟨some 147, _, _, _, _, _⟩) (v := .int .i64 (i : Int)) rfl (by kernel_rfl) (by kernel_rfl) (by kernel_rfl) (fun _ _ _ h => h) (Or.inl ⟨by kernel_rfl, fun w9 hS => ?_⟩) HS0.out ?_
                          · clear hS
                            go_simp
                          try simp only [Act.put, List.setIfInBounds_toArray, List.set_cons_zero, List.set_cons_succ]
                          refine wpAnyH_take (i := 2) (oi := ⟨some 148, _, _, _, _, _⟩) (v := .pointer (some ⟨tb, i, none⟩)) rfl (by kernel_rfl) (by kernel_rfl) (by kernel_rfl) (fun _ _ _ h => h) (Or.inl ⟨by kernel_rfl, fun w9 hS => ?_⟩) HS0.out ?_
                          · clear hS
                            go_simp
                          try simp only [Act.put, List.setIfInBounds_toArray, List.set_cons_zero, List.set_cons_succ]
                          refine wpAnyH_take (i := 3) (oi := ⟨some 149, _, _, _, _, _⟩) (v := .slice (some ⟨gi, oi, none⟩) k ci) rfl (by kernel_rfl) (by kernel_rfl) (by kernel_rfl) (fun _ _ _ h => h) (Or.inl ⟨by kernel_rfl, fun w9 hS => ?_⟩) HS0.out ?_
                          · obtain ⟨s1, s2, s3, s4⟩ := hS
                            go_simp
                          try simp only [Act.put, List.setIfInBounds_toArray, List.set_cons_zero, List.set_cons_succ]
                          refine wpAnyH_take (i := 4) (oi := ⟨some 150, _, _, _, _, _⟩) (v := .int .i64 (z : Int)) rfl (by kernel_rfl) (by kernel_rfl) (by kernel_rfl) (fun _ _ _ h => h) (Or.inl ⟨by kernel_rfl, fun w9 hS => ?_⟩) HS0.out ?_
                          · clear hS
                            go_simp
                          try simp only [Act.put, List.setIfInBounds_toArray, List.set_cons_zero, List.set_cons_succ]
                          refine wpAnyH_take (i := 5) (oi := ⟨some 151, _, _, _, _, _⟩) (v := .pointer (some ⟨gi, oi + z, none⟩)) rfl (by kernel_rfl) (by kernel_rfl) (by kernel_rfl) (fun _ _ _ h => h) (Or.inl ⟨by kernel_rfl, fun w9 hS => ?_⟩) HS0.out ?_
                          · clear hS
                            go_simp
                          try simp only [Act.put, List.setIfInBounds_toArray, List.set_cons_zero, List.set_cons_succ]
                          refine wpAnyH_take (i := 6) (oi := ⟨some 152, _, _, _, _, _⟩) (v := .bool false) rfl (by kernel_rfl) (by kernel_rfl) (by kernel_rfl) (fun _ _ _ h => h) (Or.inl ⟨by kernel_rfl, fun w9 hS => ?_⟩) HS0.out ?_
                          · obtain ⟨s1, s2, s3, s4⟩ := hS
                            go_simp
                          try simp only [Act.put, List.setIfInBounds_toArray, List.set_cons_zero, List.set_cons_succ]
                          refine wpAnyH_take (i := 7) (oi := ⟨some 153, _, _, _, _, _⟩) (v := .int .i64 10) rfl (by kernel_rfl) (by kernel_rfl) (by kernel_rfl) (fun _ _ _ h => h) (Or.inl ⟨by kernel_rfl, fun w9 hS => ?_⟩) HS0.out ?_
                          · clear hS
                            go_simp
                          try simp only [Act.put, List.setIfInBounds_toArray, List.set_cons_zero, List.set_cons_succ]
                          refine wpAnyH_take (i := 8) (oi := ⟨some 154, _, _, _, _, _⟩) (v := .bool true) rfl (by kernel_rfl) (by kernel_rfl) (by kernel_rfl) (fun _ _ _ h => h) (Or.inl ⟨by kernel_rfl, fun w9 hS => ?_⟩) HS0.out ?_
                          · clear hS
                            go_simp
                          try simp only [Act.put, List.setIfInBounds_toArray, List.set_cons_zero, List.set_cons_succ]
                          refine wpAnyH_take (i := 9) (oi := ⟨some 155, _, _, _, _, _⟩) (v := .bool true) rfl (by kernel_rfl) (by kernel_rfl) (by kernel_rfl) (fun _ _ _ h => h) (Or.inl ⟨by kernel_rfl, fun w9 hS => ?_⟩) HS0.out ?_
                          · clear hS
                            go_simp
                          try simp only [Act.put, List.setIfInBounds_toArray, List.set_cons_zero, List.set_cons_succ]
                          refine wpAnyH_take (i := 10) (oi := ⟨some 156, _, _, _, _, _⟩) (v := undef) rfl (by kernel_rfl) (by kernel_rfl) (by kernel_rfl) (fun _ _ _ h => h) (Or.inr ⟨by kernel_rfl, rfl⟩) HS0.out ?_
                          try simp only [Act.put, List.setIfInBounds_toArray, List.set_cons_zero, List.set_cons_succ]
                          refine wpAnyH_take (i := 11) (oi := ⟨some 157, _, _, _, _, _⟩) (v := undef) rfl (by kernel_rfl) (by kernel_rfl) (by kernel_rfl) (fun _ _ _ h => h) (Or.inr ⟨by kernel_rfl, rfl⟩) HS0.out ?_
                          try simp only [Act.put, List.setIfInBounds_toArray, List.set_cons_zero, List.set_cons_succ]
                          refine wpAnyH_take (i := 12) (oi := ⟨some 158, _, _, _, _, _⟩) (v := .bool true) rfl (by kernel_rfl) (by kernel_rfl) (by kernel_rfl) (fun _ _ _ h => h) (Or.inl ⟨by kernel_rfl, fun w9 hS => ?_⟩) HS0.out ?_
                          · clear hS
                            go_simp
                          try simp only [Act.put, List.setIfInBounds_toArray, List.set_cons_zero, List.set_cons_succ]
                          refine wpAnyH_take (i := 13) (oi := ⟨some 159, _, _, _, _, _⟩) (v := .bool true) rfl (by kernel_rfl) (by kernel_rfl) (by kernel_rfl) (fun _ _ _ h => h) (Or.inl ⟨by kernel_rfl, fun w9 hS => ?_⟩) HS0.out ?_
                          · clear hS
                            go_simp
                          try simp only [Act.put, List.setIfInBounds_toArray, List.set_cons_zero, List.set_cons_succ]
                          refine wpAnyH_take (i := 14) (oi := ⟨some 160, _, _, _, _, _⟩) (v := .slice (some ⟨ba, 0, none⟩) k k) rfl (by kernel_rfl) (by kernel_rfl) (by kernel_rfl) (fun _ _ _ h => h) (Or.inl ⟨by kernel_rfl, fun w9 hS => ?_⟩) HS0.out ?_
                          · clear hS
                            go_simp
                          try simp only [Act.put, List.setIfInBounds_toArray, List.set_cons_zero, List.set_cons_succ]
                          refine wpAnyH_take (i := 15) (oi := ⟨some 161, _, _, _, _, _⟩) (v := .slice (some ⟨bb, 0, none⟩) k k) rfl (by kernel_rfl) (by kernel_rfl) (by kernel_rfl) (fun _ _ _ h => h) (Or.inl ⟨by kernel_rfl, fun w9 hS => ?_⟩) HS0.out ?_
                          · clear hS
                            go_simp
                          try simp only [Act.put, List.setIfInBounds_toArray, List.set_cons_zero, List.set_cons_succ]
                          refine wpAnyH_take (i := 16) (oi := ⟨some 162, _, _, _, _, _⟩) (v := .agg #[.slice A s c, .slice B q d]) rfl (by kernel_rfl) (by kernel_rfl) (by kernel_rfl) (fun _ _ _ h => h) (Or.inl ⟨by kernel_rfl, fun w9 hS => ?_⟩) HS0.out ?_
                          · obtain ⟨s1, s2, s3, s4⟩ := hS
                            go_simp
                          try simp only [Act.put, List.setIfInBounds_toArray, List.set_cons_zero, List.set_cons_succ]
                          refine wpAnyH_take (i := 17) (oi := ⟨some 163, _, _, _, _, _⟩) (v := .int .i64 (z : Int)) rfl (by kernel_rfl) (by kernel_rfl) (by kernel_rfl) (fun _ _ _ h => h) (Or.inl ⟨by kernel_rfl, fun w9 hS => ?_⟩) HS0.out ?_
                          · clear hS
                            go_simp
                          try simp only [Act.put, List.setIfInBounds_toArray, List.set_cons_zero, List.set_cons_succ]
                          refine wpAnyH_ready (rs := [18]) (by kernel_rfl) (by simp) ?_
                          refine AllReadyH.cons (o := ⟨some 164, _, _, _, _, _⟩) rfl (fun K hK => ?_) AllReadyH.nil
                          rw [if_pos (by kernel_rfl)]
                          go_simp
                          go_at_call 28
                          refine (HLQ.out _ HWZ.out.drew).mono ?_
                          rintro e8 w8 ⟨rfl, hb8⟩
                          have HB8 : Hid (Below wr.heap.size wr w8) := Lib.hid (HWZ.out.drew.trans hb8)
                          clear hb8
                          have HS1 : Hid _ := Lib.hid (HCI.out w8 HB8.out)
                          refine hK.out _ _ HS1.out (fun _ => ?_)
                          clear hK K
                          try simp only [Act.put, List.setIfInBounds_toArray, List.set_cons_zero, List.set_cons_succ]
                          refine wpAnyH_take (i := 19) (oi := ⟨some 165, _, _, _, _, _⟩) (v := .bool false) rfl (by kernel_rfl) (by kernel_rfl) (by kernel_rfl) (fun _ _ _ h => h) (Or.inl ⟨by kernel_rfl, fun w9 hS => ?_⟩) HS1.out ?_
                          · clear hS
                            go_simp
                          try simp only [Act.put, List.setIfInBounds_toArray, List.set_cons_zero, List.set_cons_succ]
                          refine wpAnyH_done (by kernel_rfl) ?_ _
                          go_wp2
                          go_roundw
                          case rel => exact ⟨z + 1, by omega, by go_num, Lib.hid (HTW.out.below HB8.out)⟩
                          case measure => simp [intOf]; omega
                        · go_wp2_with fail
                          clear g1 g2 g3 g4
                          have HLQ : Hid (∀ W, Below wr.heap.size wr W → Calls Try.prog 28 #[.slice (some ⟨ba, 0, none⟩) k k, .slice (some ⟨bb, 0, none⟩) k k, .agg #[.slice A s c, .slice B q d], .int .i64 z] W (ValP W (.bool false))) := Lib.hid HLS.out
                          refine wp_region_held_drew (S := (fun w' => w'.cell? ⟨tb, i, none⟩ = some (.slice (some ⟨gi, oi, none⟩) k ci) ∧ w'.cell? ⟨gi, oi + z, none⟩ = some (.bool true) ∧ w'.cell? ⟨w.heap.size, 0, none⟩ = some (.slice A s c) ∧ w'.cell? ⟨w.heap.size, 1, none⟩ = some (.slice B q d))) (by kernel_rfl) (HCI.out wr.drew HWZ.out.drew) (fun hS0 => ?_)
                          have HS0 := Lib.hid hS0
                          clear hS0
                          simp only [Array.replicate, List.replicate]
                          refine wpAnyH_take (i := 0) (oi := ⟨some 146, _, _, _, _, _⟩) (v := .slice (some ⟨tb, 0, none⟩) fl fl) rfl (by kernel_rfl) (by kernel_rfl) (by kernel_rfl) (fun _ _ _ h => h) (Or.inl ⟨by kernel_rfl, fun w9 hS => ?_⟩) HS0.out ?_
                          · clear hS
                            go_simp
                          try simp only [Act.put, List.setIfInBounds_toArray, List.set_cons_zero, List.set_cons_succ]
                          refine wpAnyH_take (i := 1) (oi := ⟨some 147, _, _, _, _, _⟩) (v := .int .i64 (i : Int)) rfl (by kernel_rfl) (by kernel_rfl) (by kernel_rfl) (fun _ _ _ h => h) (Or.inl ⟨by kernel_rfl, fun w9 hS => ?_⟩) HS0.out ?_
                          · clear hS
                            go_simp
                          try simp only [Act.put, List.setIfInBounds_toArray, List.set_cons_zero, List.set_cons_succ]
                          refine wpAnyH_take (i := 2) (oi := ⟨some 148, _, _, _, _, _⟩) (v := .pointer (some ⟨tb, i, none⟩)) rfl (by kernel_rfl) (by kernel_rfl) (by kernel_rfl) (fun _ _ _ h => h) (Or.inl ⟨by kernel_rfl, fun w9 hS => ?_⟩) HS0.out ?_
                          · clear hS
                            go_simp
                          try simp only [Act.put, List.setIfInBounds_toArray, List.set_cons_zero, List.set_cons_succ]
                          refine wpAnyH_take (i := 3) (oi := ⟨some 149, _, _, _, _, _⟩) (v := .slice (some ⟨gi, oi, none⟩) k ci) rfl (by kernel_rfl) (by kernel_rfl) (by kernel_rfl) (fun _ _ _ h => h) (Or.inl ⟨by kernel_rfl, fun w9 hS => ?_⟩) HS0.out ?_
                          · obtain ⟨s1, s2, s3, s4⟩ := hS
                            go_simp
                          try simp only [Act.put, List.setIfInBounds_toArray, List.set_cons_zero, List.set_cons_succ]
                          refine wpAnyH_take (i := 4) (oi := ⟨some 150, _, _, _, _, _⟩) (v := .int .i64 (z : Int)) rfl (by kernel_rfl) (by kernel_rfl) (by kernel_rfl) (fun _ _ _ h => h) (Or.inl ⟨by kernel_rfl, fun w9 hS => ?_⟩) HS0.out ?_
                          · clear hS
                            go_simp
                          try simp only [Act.put, List.setIfInBounds_toArray, List.set_cons_zero, List.set_cons_succ]
                          refine wpAnyH_take (i := 5) (oi := ⟨some 151, _, _, _, _, _⟩) (v := .pointer (some ⟨gi, oi + z, none⟩)) rfl (by kernel_rfl) (by kernel_rfl) (by kernel_rfl) (fun _ _ _ h => h) (Or.inl ⟨by kernel_rfl, fun w9 hS => ?_⟩) HS0.out ?_
                          · clear hS
                            go_simp
                          try simp only [Act.put, List.setIfInBounds_toArray, List.set_cons_zero, List.set_cons_succ]
                          refine wpAnyH_take (i := 6) (oi := ⟨some 152, _, _, _, _, _⟩) (v := .bool true) rfl (by kernel_rfl) (by kernel_rfl) (by kernel_rfl) (fun _ _ _ h => h) (Or.inl ⟨by kernel_rfl, fun w9 hS => ?_⟩) HS0.out ?_
                          · obtain ⟨s1, s2, s3, s4⟩ := hS
                            go_simp
                          try simp only [Act.put, List.setIfInBounds_toArray, List.set_cons_zero, List.set_cons_succ]
                          refine wpAnyH_take (i := 7) (oi := ⟨some 153, _, _, _, _, _⟩) (v := .int .i64 10) rfl (by kernel_rfl) (by kernel_rfl) (by kernel_rfl) (fun _ _ _ h => h) (Or.inl ⟨by kernel_rfl, fun w9 hS => ?_⟩) HS0.out ?_
                          · clear hS
                            go_simp
                          try simp only [Act.put, List.setIfInBounds_toArray, List.set_cons_zero, List.set_cons_succ]
                          refine wpAnyH_take (i := 8) (oi := ⟨some 154, _, _, _, _, _⟩) (v := .bool true) rfl (by kernel_rfl) (by kernel_rfl) (by kernel_rfl) (fun _ _ _ h => h) (Or.inl ⟨by kernel_rfl, fun w9 hS => ?_⟩) HS0.out ?_
                          · clear hS
                            go_simp
                          try simp only [Act.put, List.setIfInBounds_toArray, List.set_cons_zero, List.set_cons_succ]
                          refine wpAnyH_take (i := 9) (oi := ⟨some 155, _, _, _, _, _⟩) (v := .bool true) rfl (by kernel_rfl) (by kernel_rfl) (by kernel_rfl) (fun _ _ _ h => h) (Or.inl ⟨by kernel_rfl, fun w9 hS => ?_⟩) HS0.out ?_
                          · clear hS
                            go_simp
                          try simp only [Act.put, List.setIfInBounds_toArray, List.set_cons_zero, List.set_cons_succ]
                          refine wpAnyH_take (i := 10) (oi := ⟨some 156, _, _, _, _, _⟩) (v := undef) rfl (by kernel_rfl) (by kernel_rfl) (by kernel_rfl) (fun _ _ _ h => h) (Or.inr ⟨by kernel_rfl, rfl⟩) HS0.out ?_
                          try simp only [Act.put, List.setIfInBounds_toArray, List.set_cons_zero, List.set_cons_succ]
                          refine wpAnyH_take (i := 11) (oi := ⟨some 157, _, _, _, _, _⟩) (v := undef) rfl (by kernel_rfl) (by kernel_rfl) (by kernel_rfl) (fun _ _ _ h => h) (Or.inr ⟨by kernel_rfl, rfl⟩) HS0.out ?_
                          try simp only [Act.put, List.setIfInBounds_toArray, List.set_cons_zero, List.set_cons_succ]
                          refine wpAnyH_take (i := 12) (oi := ⟨some 158, _, _, _, _, _⟩) (v := .bool true) rfl (by kernel_rfl) (by kernel_rfl) (by kernel_rfl) (fun _ _ _ h => h) (Or.inl ⟨by kernel_rfl, fun w9 hS => ?_⟩) HS0.out ?_
                          · clear hS
                            go_simp
                          try simp only [Act.put, List.setIfInBounds_toArray, List.set_cons_zero, List.set_cons_succ]
                          refine wpAnyH_take (i := 13) (oi := ⟨some 159, _, _, _, _, _⟩) (v := .bool false) rfl (by kernel_rfl) (by kernel_rfl) (by kernel_rfl) (fun _ _ _ h => h) (Or.inl ⟨by kernel_rfl, fun w9 hS => ?_⟩) HS0.out ?_
                          · clear hS
                            go_simp
                          try simp only [Act.put, List.setIfInBounds_toArray, List.set_cons_zero, List.set_cons_succ]
                          refine wpAnyH_take (i := 14) (oi := ⟨some 160, _, _, _, _, _⟩) (v := .slice (some ⟨ba, 0, none⟩) k k) rfl (by kernel_rfl) (by kernel_rfl) (by kernel_rfl) (fun _ _ _ h => h) (Or.inl ⟨by kernel_rfl, fun w9 hS => ?_⟩) HS0.out ?_
                          · clear hS
                            go_simp
                          try simp only [Act.put, List.setIfInBounds_toArray, List.set_cons_zero, List.set_cons_succ]
                          refine wpAnyH_take (i := 15) (oi := ⟨some 161, _, _, _, _, _⟩) (v := .slice (some ⟨bb, 0, none⟩) k k) rfl (by kernel_rfl) (by kernel_rfl) (by kernel_rfl) (fun _ _ _ h => h) (Or.inl ⟨by kernel_rfl, fun w9 hS => ?_⟩) HS0.out ?_
                          · clear hS
                            go_simp
                          try simp only [Act.put, List.setIfInBounds_toArray, List.set_cons_zero, List.set_cons_succ]
                          refine wpAnyH_take (i := 16) (oi := ⟨some 162, _, _, _, _, _⟩) (v := .agg #[.slice A s c, .slice B q d]) rfl (by kernel_rfl) (by kernel_rfl) (by kernel_rfl) (fun _ _ _ h => h) (Or.inl ⟨by kernel_rfl, fun w9 hS => ?_⟩) HS0.out ?_
                          · obtain ⟨s1, s2, s3, s4⟩ := hS
                            go_simp
                          try simp only [Act.put, List.setIfInBounds_toArray, List.set_cons_zero, List.set_cons_succ]
                          refine wpAnyH_take (i := 17) (oi := ⟨some 163, _, _, _, _, _⟩) (v := .int .i64 (z : Int)) rfl (by kernel_rfl) (by kernel_rfl) (by kernel_rfl) (fun _ _ _ h => h) (Or.inl ⟨by kernel_rfl, fun w9 hS => ?_⟩) HS0.out ?_
                          · clear hS
                            go_simp
                          try simp only [Act.put, List.setIfInBounds_toArray, List.set_cons_zero, List.set_cons_succ]
                          refine wpAnyH_ready (rs := [18]) (by kernel_rfl) (by simp) ?_
                          refine AllReadyH.cons (o := ⟨some 164, _, _, _, _, _⟩) rfl (fun K hK => ?_) AllReadyH.nil
                          rw [if_pos (by kernel_rfl)]
                          go_simp
                          go_at_call 28
                          refine (HLQ.out _ HWZ.out.drew).mono ?_
                          rintro e8 w8 ⟨rfl, hb8⟩
                          have HB8 : Hid (Below wr.heap.size wr w8) := Lib.hid (HWZ.out.drew.trans hb8)
                          clear hb8
                          have HS1 : Hid _ := Lib.hid (HCI.out w8 HB8.out)
                          refine hK.out _ _ HS1.out (fun _ => ?_)
                          clear hK K
                          try simp only [Act.put, List.setIfInBounds_toArray, List.set_cons_zero, List.set_cons_succ]
                          refine wpAnyH_take (i := 19) (oi := ⟨some 165, _, _, _, _, _⟩) (v := .bool false) rfl (by kernel_rfl) (by kernel_rfl) (by kernel_rfl) (fun _ _ _ h => h) (Or.inl ⟨by kernel_rfl, fun w9 hS => ?_⟩) HS1.out ?_
                          · clear hS
                            go_simp
                          try simp only [Act.put, List.setIfInBounds_toArray, List.set_cons_zero, List.set_cons_succ]
                          refine wpAnyH_done (by kernel_rfl) ?_ _
                          go_wp2
                          go_roundw
                          case rel => exact ⟨z + 1, by omega, by go_num, Lib.hid (HTW.out.below HB8.out)⟩
                          case measure => simp [intOf]; omega
                    · have hlzi : ¬ (z : Int) < k := by omega
                      go_wp2
                      exact ⟨⟨i + 1, by omega, by go_num, HBQ⟩, by simp [intOf]; omega⟩
      · have h9 : ¬ op = 9 := fun h => hop (.inl h)
        have h10 : ¬ op = 10 := fun h => hop (.inr (.inl h))
        have h11 : ¬ op = 11 := fun h => hop (.inr (.inr (.inl h)))
        have h12 : ¬ op = 12 := fun h => hop (.inr (.inr (.inr h)))
        have b9 : (op != 9) = true := by simpa using h9
        have b10 : (op != 10) = true := by simpa using h10
        have b11 : (op != 11) = true := by simpa using h11
        have b12 : (op != 12) = true := by simpa using h12
        clear hop
        go_wp2
        go_roundw
        case rel => exact ⟨i + 1, by omega, by go_num, HB5⟩
        case measure => simp [intOf]; omega
    · obtain rfl : i = fl := by omega
      have hlti : ¬ (i : Int) < i := by omega
      go_wp2_with fail
      refine (awake_any wo).mono ?_
      rintro e6 w6 ⟨rfl, hb6⟩
      have HB6 := Lib.hid (HBZ.out.trans ((HB4.out.trans ((HB.out.trans (hb6.mono HB.out.size)).mono HB4.out.size)).mono HBZ.out.size))
      clear hb6
      go_wp2
      go_ret
      exact ⟨rfl, HB6.out⟩
set_option maxRecDepth 100000 in
theorem lifted (os : Os) (started : os.Started) (H : Type) (enc : TypeId × Value → H) :
    ReturnsInHanded {} Try.checked os 6 .any (Rows.wordFixpointsSpec.pre6 enc Try.prog Try.f6 Rows.wordFixpointsRow.domain false) (Rows.wordFixpointsSpec.post enc Try.prog Try.f6 false true false false) := by
  refine law_lifted started [33, 24] rfl (by kernel_rfl) Try.func6 rfl (by decide +kernel) rfl (fun ds hl => by
    match ds, hl with
    | [_, _], _ => rfl) (ChangeSpec.witness6 (enc := enc) (C := Try.checked) false ⟨#[], #[.slice none 0 0, .agg #[.slice none 0 0, .slice none 0 0]], []⟩ 8 (by kernel_rfl) (by kernel_rfl) (by kernel_rfl) (by kernel_rfl)) ?_
  intro W base args ds ps hval hA hlt hsz
  obtain ⟨v0, vs0, d0, ds0, p0, q0, hargs, rfl, rfl, h0, r0⟩ := trodAll_cons hA
  obtain ⟨v1, vs1, d1, ds1, p1, q1, rfl, rfl, rfl, h1, r1⟩ := trodAll_cons r0
  obtain ⟨rfl, rfl, rfl⟩ := trodAll_nil r1
  obtain rfl : args = #[v0, v1] := by cases args; simp_all
  obtain ⟨A0, c0, x0, rfl, b0, q0, m0, i0, z0⟩ := open_pairs_arg Try.underlying33 Try.underlying44 (by kernel_rfl) (by kernel_rfl) rfl rfl rfl rfl (hval 0 33 v0 rfl rfl) h0 hsz 0 rfl rfl
  obtain ⟨x1, s1, l1, rfl, f1⟩ := wd.open_word_arg (hval 1 24 v1 rfl rfl) h1 hsz 1 rfl rfl
  exact walk x0 x1 s1 l1 A0 c0 _ W rfl i0 f1

set_option maxRecDepth 100000 in
theorem over : Rows.wordFixpointsRow.holds Try.pinned (OpenSpec.ofChange Rows.wordFixpointsSpec) :=
  OpenClaim.holds_of_wide 6 Try.f6 rfl rfl rfl rfl rfl rfl rfl ⟨rfl, rfl, rfl, rfl, rfl⟩ rfl rfl rfl rfl rfl (by kernel_rfl) Try.func6 (by kernel_rfl)
    (of_decide_eq_true (by kernel_rfl)) (by unfold Func.isWrapper; first | (rw [if_pos (by decide +kernel)]; kernel_rfl) | (rw [if_neg (by decide +kernel)]; exact ⟨rfl, rfl⟩))
    (fun os started H enc _ => lifted os started H enc)

theorem proved : Rows.WordFixpointsSaid := over
#print axioms proved
end Go.Proofs.Ytophajljjnjcdaa.wordFixpoints
