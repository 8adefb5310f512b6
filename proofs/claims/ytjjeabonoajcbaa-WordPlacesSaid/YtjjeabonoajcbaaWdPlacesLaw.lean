/- The law WordPlaces. -/
import Derived.Test.YtjjeabonoajcbaaWdHd
namespace Go.Proofs.Ytjjeabonoajcbaa.wordPlaces
open Go.ChangeShapes Go.WideShapes Go.ChangeAt Go.RowKit Go.Deep sr lt nf wd

/-- What stands behind the word that is gone over once more. -/
structure AftL (w6 W : World) (Z : Nat) (A8 : Option Addr) (n c8 : Nat) (l : List Int) (v : Value) : Prop where
  e0 : W.cell? ⟨Z, 0, none⟩ = some (.slice A8 n c8)
  e1 : W.cell? ⟨Z, 1, none⟩ = some v
  r : UA W A8 l
  le : n ≤ c8
  mx : c8 ≤ 9223372036854775807
  bl : Below w6.heap.size w6 W
  lt : Z < W.heap.size
set_option maxRecDepth 20000 in
set_option maxHeartbeats 16000000 in
theorem walk (e : List (Int × Int)) (x : WX) (st lp : List Int) (i : Int) (FA : Option Addr) (fc fl : Nat) (w : World) (hf : fl = e.length) (hF : PA w FA e) (hX : WdA w x st lp) (hi : 0 ≤ i ∧ i ≤ 255) :
    Calls Try.prog 7 #[.slice FA fl fc, x.v, .int .u8 i] w fun r w' => r = .returned (.bool true) ∧ Below w.heap.size w w' := by
  obtain ⟨w1, HW1, HBZ, HS⟩ : ∃ w1, w.alloc (.cells #[.slice x.A x.n x.c, .slice x.B x.m x.d] 24) = w1 ∧ Hid (Below w.heap.size w w1) ∧ Hid (∀ W, Below w1.heap.size w1 W → W.cell? ⟨w.heap.size, 0, none⟩ = some (.slice x.A x.n x.c) ∧ W.cell? ⟨w.heap.size, 1, none⟩ = some (.slice x.B x.m x.d)) := by
    have e : (w.alloc (.cells #[.slice x.A x.n x.c, .slice x.B x.m x.d] 24)).heap.size = w.heap.size + 1 := by simp
    exact ⟨_, rfl, Lib.hid (below_one _ _), Lib.hid (fun W h => ⟨(h.cell (p := ⟨w.heap.size, 0, none⟩) (by show w.heap.size < _; omega)).trans (World.cell?_alloc_at _ _ _ _ (by simp)), (h.cell (p := ⟨w.heap.size, 1, none⟩) (by show w.heap.size < _; omega)).trans (World.cell?_alloc_at _ _ _ _ (by simp))⟩)⟩
  have HHV := Lib.hid (heavy_any FA fl fc x w1)
  have HAW := Lib.hid (fun W (_ : Below w1.heap.size w1 W) => awake_any W)
  have HF := Lib.hid hf
  by_cases hh : 60 < fl ∨ 30 < x.n ∨ 30 < x.m
  · rw [decide_eq_true hh] at HHV
    obtain ⟨A, s, c, B, q, d⟩ := x
    unfold WX.v at HHV ⊢
    dsimp only at HHV HS hh ⊢
    clear hX hh hi hF hf HF
    obtain ⟨y1, y2⟩ := HS.out w1 (Below.refl _ _)
    go_enter Try.func7, Try.ntmps7
    go_upto_region 1 with (fail)
    clear HW1
    go_wp2_with fail
    refine HHV.out.mono ?_
    rintro e2 w2 ⟨rfl, hb2⟩
    have HB2 := Lib.hid (HBZ.out.trans (hb2.mono HBZ.out.size))
    clear hb2 y1 y2
    go_wp2_with fail
    refine (awake_any w2).mono ?_
    rintro e3 w3 ⟨rfl, hb3⟩
    have HB3 := Lib.hid (HB2.out.trans (hb3.mono HB2.out.size))
    clear hb3
    go_wp2
    go_ret
    exact ⟨rfl, HB3.out⟩
  rw [decide_eq_false hh] at HHV
  have hx := hX.small (by omega) (by omega)
  have hfl : fl ≤ 60 := by omega
  have hxn : x.n ≤ 30 := by omega
  have hxm : x.m ≤ 30 := by omega
  clear hh hX
  have HCK := Lib.hid (fun W (_ : Below w1.heap.size w1 W) => check_any x W hx.b1 hx.b2)
  by_cases h0 : x.m = 0
  · have hk : chkF x.m = 8 := if_pos h0
    rw [hk] at HCK
    clear hk h0
    obtain ⟨A, s, c, B, q, d⟩ := x
    unfold WX.v at HHV HCK ⊢
    dsimp only at HHV HCK HS ⊢
    clear hi hx hF hf HF hxn hxm
    obtain ⟨y1, y2⟩ := HS.out w1 (Below.refl _ _)
    go_enter Try.func7, Try.ntmps7
    go_upto_region 1 with (fail)
    clear HW1
    go_wp2_with fail
    refine HHV.out.mono ?_
    rintro e2 w2 ⟨rfl, hb2⟩
    have HB2 := Lib.hid hb2
    obtain ⟨z1, z2⟩ := HS.out w2 HB2.out
    clear hb2 y1 y2
    go_wp2_with fail
    refine (HCK.out w2 HB2.out).mono ?_
    rintro e3 w3 ⟨rfl, hb3⟩
    have HB3 := Lib.hid (HBZ.out.trans ((HB2.out.trans (hb3.mono HB2.out.size)).mono HBZ.out.size))
    clear hb3 z1 z2
    go_wp2_with fail
    refine (awake_any w3).mono ?_
    rintro e4 w4 ⟨rfl, hb4⟩
    have HB4 := Lib.hid (HB3.out.trans (hb4.mono HB3.out.size))
    clear hb4
    go_wp2
    go_ret
    exact ⟨rfl, HB4.out⟩
  have hk : chkF x.m = 0 := if_neg h0
  rw [hk] at HCK
  clear hk
  have hlp : 0 < lp.length := by have := hx.n2; omega
  have hm0 : 0 < x.m := by omega
  obtain ⟨n, hn⟩ : ∃ n, x.n + x.m = n := ⟨_, rfl⟩
  have hnl : st.length + lp.length = n := by have := hx.n1; have := hx.n2; omega
  have HTR := Lib.hid (fun W (hW : Below w1.heap.size w1 W) => truth_any e x st lp (st ++ lp) FA fc fl n W hf (by omega) (hF.below (HBZ.out.trans (hW.mono HBZ.out.size))) (hx.below (HBZ.out.trans (hW.mono HBZ.out.size))) hn rfl)
  have HH0 := Lib.hid (fun W (hW : Below w1.heap.size w1 W) => holds_any e x st lp (st ++ lp) FA fc fl n W hf (by omega) (hF.below (HBZ.out.trans (hW.mono HBZ.out.size))) (hx.below (HBZ.out.trans (hW.mono HBZ.out.size))) hn rfl)
  obtain ⟨y0, HY0⟩ : ∃ y, Hid (hdF e (st ++ lp) x.n x.m = y) := ⟨_, Lib.hid rfl⟩
  rw [HY0.out] at HH0
  by_cases hok : isF e = false
  · have hno : okF e x.m = false := by unfold okF; rw [hok]; rfl
    have hy : y0 = false := by have := HY0.out; unfold hdF at this; rw [hno] at this; exact this.symm
    subst hy
    have HTR2 : Hid (∀ W, Below w1.heap.size w1 W → Calls Try.prog 16 #[.slice FA fl fc, x.v] W (ValP W (.slice none 0 0))) := Lib.hid (fun W hW => (HTR.out W hW).mono (fun r w' h => by
      unfold TruP at h
      rw [if_neg (by rw [hno]; decide)] at h
      exact h))
    clear HTR hno hok HY0
    obtain ⟨A, s, c, B, q, d⟩ := x
    unfold WX.v at HHV HCK HTR2 HH0 ⊢
    dsimp only at HHV HCK HS HTR2 HH0 ⊢
    clear hi hx hF hf HF hxn hxm hn hnl hm0 h0 hlp
    obtain ⟨y1, y2⟩ := HS.out w1 (Below.refl _ _)
    go_enter Try.func7, Try.ntmps7
    go_upto_region 1 with (fail)
    clear HW1
    go_wp2_with fail
    refine HHV.out.mono ?_
    rintro e2 w2 ⟨rfl, hb2⟩
    have HB2 := Lib.hid hb2
    obtain ⟨z1, z2⟩ := HS.out w2 HB2.out
    clear hb2 y1 y2
    go_wp2_with fail
    refine (HCK.out w2 HB2.out).mono ?_
    rintro e3 w3 ⟨rfl, hb3⟩
    have HB3 : Hid (Below w1.heap.size w1 w3) := Lib.hid (HB2.out.trans (hb3.mono HB2.out.size))
    clear hb3 z1 z2
    obtain ⟨z1, z2⟩ := HS.out w3 HB3.out
    go_wp2_with fail
    clear z1 z2
    refine (HTR2.out w3 HB3.out).mono ?_
    rintro e4 w4 ⟨rfl, hb4⟩
    have HB4 : Hid (Below w1.heap.size w1 w4) := Lib.hid (HB3.out.trans (hb4.mono HB3.out.size))
    clear hb4
    obtain ⟨z1, z2⟩ := HS.out w4 HB4.out
    go_wp2_with fail
    clear z1 z2
    refine (HH0.out w4 HB4.out).mono ?_
    rintro e5 w5 ⟨rfl, hb5⟩
    have HB5 : Hid (Below w1.heap.size w1 w5) := Lib.hid (HB4.out.trans (hb5.mono HB4.out.size))
    clear hb5
    go_wp2_with fail
    refine (awake_any w5).mono ?_
    rintro e6 w6 ⟨rfl, hb6⟩
    have HB6 := Lib.hid (HBZ.out.trans ((HB5.out.trans (hb6.mono HB5.out.size)).mono HBZ.out.size))
    clear hb6
    go_wp2
    go_ret
    exact ⟨rfl, HB6.out⟩
  have hF1 : isF e = true := by simpa using hok
  have hyes : okF e x.m = true := okF_iff.2 ⟨hF1, hm0⟩
  obtain ⟨k, HKK⟩ : ∃ k : Nat, Hid (i.toNat % n = k) := ⟨_, Lib.hid rfl⟩
  have hkn : k < n := by rw [← HKK.out]; exact Nat.mod_lt _ (by omega)
  have hrem : i.tmod (n : Int) = (k : Int) := by
    have h9 : i % (n : Int) = ((i.toNat % n : Nat) : Int) := by rw [Int.natCast_emod, Int.toNat_of_nonneg hi.1]
    rw [Int.tmod_eq_emod_of_nonneg hi.1, ← HKK.out, h9]
  have HLN := Lib.hid (fun W (_ : Below w1.heap.size w1 W) => len_any x W hx.b1 hx.b2)
  rw [hn] at HLN
  have hfpos := (whole_last (isF_iff.1 hF1)).1
  have hy0 : (trJ e (outF e e.length) (st ++ lp) x.n (e.length - 1)).getD 0 false = y0 := by
    have := HY0.out
    unfold hdF at this
    rw [hyes, Bool.true_and] at this
    exact this
  obtain ⟨yk, HYK⟩ : ∃ y, Hid ((trJ e (outF e e.length) (st ++ lp) x.n (e.length - 1)).getD k false = y) := ⟨_, Lib.hid rfl⟩
  have hsn := hx.n1
  have hsm := hx.n2
  have hdw : hdF e (st ++ lp) st.length lp.length = y0 := by rw [← hsn, ← hsm]; exact HY0.out
  have HFB : Hid (∀ W, Below w1.heap.size w1 W → PA W FA e) := Lib.hid (fun W hW => hF.below (HBZ.out.trans (hW.mono HBZ.out.size)))
  have HXB : Hid (∀ W, Below w1.heap.size w1 W → WdR W x st lp) := Lib.hid (fun W hW => hx.below (HBZ.out.trans (hW.mono HBZ.out.size)))
  have HON : Hid (∀ (st2 lp2 : List Int) (y : Bool), hdF e (st2 ++ lp2) st2.length lp2.length = y → ∀ W (X : WX), Below w1.heap.size w1 W → WdR W X st2 lp2 → Calls Try.prog 18 #[.slice FA fl fc, X.v] W (ValP W (.bool y))) := Lib.hid (fun st2 lp2 y hy W X hW hX => by
    have h9 := holds_any e X st2 lp2 (st2 ++ lp2) FA fc fl (X.n + X.m) W hf (by omega) (HFB.out W hW) hX rfl rfl
    rw [hX.n1, hX.n2, hy] at h9
    exact h9)
  have HNM := Lib.hid (fun W (hW : Below w1.heap.size w1 W) => norm_any x st lp W (HXB.out W hW))
  have HSH := Lib.hid (fun W (hW : Below w1.heap.size w1 W) => shift_any x st lp (k : Int) W (HXB.out W hW) (by omega) (by omega))
  have HHN := Lib.hid (HON.out (nrmF st lp).1 (nrmF st lp).2 y0 (by rw [← hdw]; exact hd_eq hF1 hlp (nrm_pos hlp) (nrm_at hlp)))
  have HLO := Lib.hid (HON.out (st ++ lp) lp y0 (by rw [← hdw]; exact hd_eq hF1 hlp hlp (more_at hlp)))
  have HHS := Lib.hid (HON.out (shfF st lp k).1 (shfF st lp k).2 yk (by rw [← HYK.out, hd_shift hF1 hlp (by omega), ← hsn]))
  have HSO : Hid (∀ W (X : WX), Below w1.heap.size w1 W → WdR W X (st ++ lp) lp → Calls Try.prog 25 #[x.v, X.v] W (ValP W (.bool true))) := Lib.hid (fun W X hW hX => by
    rw [← same_more (st := st) hlp]
    exact same_any x X st lp (st ++ lp) lp W (HXB.out W hW) hX)
  obtain ⟨av, HAV⟩ : ∃ av, Hid (atF st lp ((5 + k : Nat) : Int) = av) := ⟨_, Lib.hid rfl⟩
  have HA1 : Hid (∀ W (X : WX), Below w1.heap.size w1 W → WdR W X (shfF st lp k).1 (shfF st lp k).2 → Calls Try.prog 14 #[X.v, .int .i64 5] W (ValP W (.int .u64 av))) := Lib.hid (fun W X _ hX => by
    rw [← HAV.out, ← shf_at hlp k 5]
    exact at_any X _ _ 5 W hX (by decide) (by decide))
  have HA2 : Hid (∀ W, Below w1.heap.size w1 W → Calls Try.prog 14 #[x.v, .int .i64 ((k : Int) + 5)] W (ValP W (.int .u64 av))) := Lib.hid (fun W hW => by
    rw [← HAV.out, show ((5 + k : Nat) : Int) = (k : Int) + 5 by omega]
    exact at_any x st lp _ W (HXB.out W hW) (by omega) (by omega))
  have HTR2 : Hid (∀ W, Below w1.heap.size w1 W → Calls Try.prog 16 #[.slice FA fl fc, x.v] W (RowsP W fl n (fun _ => True) (trJ e (outF e e.length) (st ++ lp) x.n))) := Lib.hid (fun W hW => (HTR.out W hW).mono (fun r w' h => by
    unfold TruP at h
    rw [if_pos hyes] at h
    exact h))
  have HYY : Hid ((trJ e (outF e e.length) (st ++ lp) x.n (e.length - 1)).getD 0 false = y0) := Lib.hid hy0
  obtain ⟨fp, hfp⟩ : ∃ fp, fl = fp + 1 := ⟨fl - 1, by omega⟩
  have HFP : Hid (e.length - 1 = fp) := Lib.hid (by omega)
  rw [HFP.out] at HYY HYK
  have hfi : (fl : Int) - 1 = (fp : Int) := by omega
  have HFPL : Hid (fp < fl) := Lib.hid (by omega)
  have HX0 := Lib.hid hx
  have hi1 := hi.1
  have hi2 := hi.2
  have hfl1 : (fl : Int) > 0 := by omega
  have hfne : ((fl : Int) == 0) = false := by simp; omega
  have HS1 := Lib.hid hsn
  have HSM2 := Lib.hid hsm
  have hn60 : n ≤ 60 := by omega
  have HNLX := Lib.hid hnl
  have hn0 : ¬ (n : Int) = 0 := by omega
  obtain ⟨A, s, c, B, q, d⟩ := x
  unfold WX.v at HHV HCK HTR2 HH0 HLN HNM HSH HSO HA2 ⊢
  dsimp only at HHV HCK HS HTR2 HH0 HLN HS1 HSM2 HYY HYK hxn hxm ⊢
  clear hi hx hF hf HF hn hnl hm0 h0 hlp HTR hok hF1 hyes hfpos hy0 hsn hsm hdw HON hfp HY0 HAV HKK HXB HFB
  obtain ⟨y1, y2⟩ := HS.out w1 (Below.refl _ _)
  go_enter Try.func7, Try.ntmps7
  go_upto_region 1 with (fail)
  clear HW1
  go_wp2_with fail
  refine HHV.out.mono ?_
  rintro e2 w2 ⟨rfl, hb2⟩
  have HB2 := Lib.hid hb2
  obtain ⟨z1, z2⟩ := HS.out w2 HB2.out
  clear hb2 y1 y2
  go_wp2_with fail
  refine (HCK.out w2 HB2.out).mono ?_
  rintro e3 w3 ⟨rfl, hb3⟩
  have HB3 : Hid (Below w1.heap.size w1 w3) := Lib.hid (HB2.out.trans (hb3.mono HB2.out.size))
  clear hb3 z1 z2
  obtain ⟨z1, z2⟩ := HS.out w3 HB3.out
  go_wp2_with fail
  clear z1 z2
  refine (HTR2.out w3 HB3.out).mono ?_
  rintro e4 w4 ⟨tb, X, rfl, hb4, _, hR⟩
  have HB4 : Hid (Below w1.heap.size w1 w4) := Lib.hid (HB3.out.trans (hb4.mono HB3.out.size))
  have t1 := hR.row.cell (i := fp) HFPL.out
  obtain ⟨m1, m2, m3, _⟩ := hR.tru fp HFPL.out trivial
  obtain ⟨A5, n5, c5, HXP⟩ : ∃ A n c, X fp = (A, n, c) := ⟨_, _, _, rfl⟩
  rw [HXP] at m1 m2 t1
  dsimp only at m1 m2
  have m1 := m1.symm
  subst m1
  obtain ⟨g, o, rfl, hg, hc⟩ := m2 (by rw [m3]; omega)
  have c0 := hc 0 (by rw [m3]; omega)
  have ck := hc k (by rw [m3]; exact hkn)
  rw [HYY.out, Nat.add_zero] at c0
  rw [HYK.out] at ck
  have htl := hR.row.lt
  have HT : Hid (∀ W, Below w4.heap.size w4 W → W.cell? ⟨tb, fp, none⟩ = some (.slice (some ⟨g, o, none⟩) n c5) ∧ W.cell? ⟨g, o, none⟩ = some (.bool y0) ∧ W.cell? ⟨g, o + k, none⟩ = some (.bool yk)) := Lib.hid (fun W hW =>
    ⟨(hW.cell (p := ⟨tb, fp, none⟩) htl).trans t1, (hW.cell (p := ⟨g, o, none⟩) hg).trans c0, (hW.cell (p := ⟨g, o + k, none⟩) hg).trans ck⟩)
  clear hb4 hR t1 m2 m3 HXP hg hc c0 ck htl HTR2 HHV HCK HYY HYK
  obtain ⟨z1, z2⟩ := HS.out w4 HB4.out
  go_wp2_with fail
  clear z1 z2
  refine (HLN.out w4 HB4.out).mono ?_
  rintro e6 w6 ⟨rfl, hb6⟩
  have HB6 : Hid (Below w1.heap.size w1 w6) := Lib.hid (HB4.out.trans (hb6.mono HB4.out.size))
  have HD6 := Lib.hid hb6
  clear hb6
  go_upto_region 7 with (fail)
  have HUA : Hid (∀ W, Below w1.heap.size w1 W → UA W A st ∧ UA W B lp) := Lib.hid (fun W hW => ⟨HX0.out.r1.below (HBZ.out.trans (hW.mono HBZ.out.size)), HX0.out.r2.below (HBZ.out.trans (hW.mono HBZ.out.size))⟩)
  have HLE : Hid ((([] ++ st) ++ lp).length = n) := Lib.hid (by simp; exact HNLX.out)
  have HKEEP : Hid (Below w6.heap.size w6 w6) := Lib.hid (Below.refl _ _)
  have HKEEP0 : Hid (w6.heap.size ≤ w6.heap.size) := Lib.hid (Nat.le_refl _)
  go_cut [9] from 39 (fun v9 w' => ∃ (Z : Nat) (A8 : Option Addr) (c8 : Nat), v9 = .pointer (some ⟨Z, 0, none⟩) ∧ Hid (AftL w6 w' Z A8 n c8 (st ++ lp) (.slice B q d)))
  refine wp_region_held_drew (S := (fun W => W.cell? ⟨w.heap.size, 0, none⟩ = some (.slice A s c) ∧ W.cell? ⟨w.heap.size, 1, none⟩ = some (.slice B q d))) (by kernel_rfl) (HS.out w6 HB6.out) (fun hS0 => ?_)
  have HS0 := Lib.hid hS0
  clear hS0
  simp only [Array.replicate, List.replicate]
  refine wpAnyH_take (i := 1) (oi := ⟨some 40, _, _, _, _, _⟩) (v := .pointer (some ⟨w.heap.size, 0, none⟩)) rfl (by kernel_rfl) (by kernel_rfl) (by kernel_rfl) (fun _ _ _ h => h) (Or.inl ⟨by kernel_rfl, fun w9 hS => ?_⟩) HS0.out ?_
  · obtain ⟨s0, s1⟩ := hS
    go_simp
  try simp only [Act.put, List.setIfInBounds_toArray, List.set_cons_zero, List.set_cons_succ]
  refine wpAnyH_take (i := 2) (oi := ⟨some 41, _, _, _, _, _⟩) (v := .slice A s c) rfl (by kernel_rfl) (by kernel_rfl) (by kernel_rfl) (fun _ _ _ h => h) (Or.inl ⟨by kernel_rfl, fun w9 hS => ?_⟩) HS0.out ?_
  · obtain ⟨s0, s1⟩ := hS
    go_simp
  try simp only [Act.put, List.setIfInBounds_toArray, List.set_cons_zero, List.set_cons_succ]
  refine wpAnyH_take (i := 4) (oi := ⟨some 43, _, _, _, _, _⟩) (v := .pointer (some ⟨w.heap.size, 1, none⟩)) rfl (by kernel_rfl) (by kernel_rfl) (by kernel_rfl) (fun _ _ _ h => h) (Or.inl ⟨by kernel_rfl, fun w9 hS => ?_⟩) HS0.out ?_
  · obtain ⟨s0, s1⟩ := hS
    go_simp
  try simp only [Act.put, List.setIfInBounds_toArray, List.set_cons_zero, List.set_cons_succ]
  refine wpAnyH_take (i := 5) (oi := ⟨some 44, _, _, _, _, _⟩) (v := .slice B q d) rfl (by kernel_rfl) (by kernel_rfl) (by kernel_rfl) (fun _ _ _ h => h) (Or.inl ⟨by kernel_rfl, fun w9 hS => ?_⟩) HS0.out ?_
  · obtain ⟨s0, s1⟩ := hS
    go_simp
  try simp only [Act.put, List.setIfInBounds_toArray, List.set_cons_zero, List.set_cons_succ]
  refine wpAnyH_take (i := 7) (oi := ⟨some 46, _, _, _, _, _⟩) (v := .pointer (some ⟨w.heap.size, 1, none⟩)) rfl (by kernel_rfl) (by kernel_rfl) (by kernel_rfl) (fun _ _ _ h => h) (Or.inl ⟨by kernel_rfl, fun w9 hS => ?_⟩) HS0.out ?_
  · obtain ⟨s0, s1⟩ := hS
    go_simp
  try simp only [Act.put, List.setIfInBounds_toArray, List.set_cons_zero, List.set_cons_succ]
  refine wpAnyH_take (i := 8) (oi := ⟨some 47, _, _, _, _, _⟩) (v := .slice B q d) rfl (by kernel_rfl) (by kernel_rfl) (by kernel_rfl) (fun _ _ _ h => h) (Or.inl ⟨by kernel_rfl, fun w9 hS => ?_⟩) HS0.out ?_
  · obtain ⟨s0, s1⟩ := hS
    go_simp
  try simp only [Act.put, List.setIfInBounds_toArray, List.set_cons_zero, List.set_cons_succ]
  refine wpAnyH_ready (rs := [0, 10]) (by kernel_rfl) (by simp) ?_
  refine AllReadyH.cons (o := ⟨some 39, _, _, _, _, _⟩) rfl (fun K hK => ?_) (AllReadyH.cons (o := ⟨some 9, _, _, _, _, _⟩) rfl (fun K hK => ?_) AllReadyH.nil)
  · go_simp
    have hB : Below w6.heap.size w6 (w6.alloc (.cells #[] 30)).drew := (below_one w6 _).drew
    have HKEEP : Hid (Below w6.heap.size w6 (w6.alloc (.cells #[] 30)).drew) := Lib.hid (HKEEP.out.trans (hB.mono HKEEP.out.size))
    have HOR : Hid (OR encU 1 w6.heap.size 30 (w6.alloc (.cells #[] 30)).drew (.slice (some ⟨w6.heap.size, 0, none⟩) 0 0) []) := Lib.hid (OR.below (or_empty w6 0 #[] w6.heap.size HKEEP0.out rfl (by decide)) (Below.refl _ _).drew)
    have HQS1 : Hid _ := Lib.hid (HS.out _ (HB6.out.trans (HKEEP.out.mono HB6.out.size)))
    refine hK.out _ _ HQS1.out (fun _ => ?_)
    clear hK K hB
    try simp only [Act.put, List.setIfInBounds_toArray, List.set_cons_zero, List.set_cons_succ]
    have HKEEP0 : Hid (w6.heap.size ≤ ((w6.alloc (.cells #[] 30)).drew).heap.size) := Lib.hid HKEEP.out.size
    generalize (w6.alloc (.cells #[] 30)).drew = u1 at *
    refine wpAnyH_ready (rs := [3, 10]) (by kernel_rfl) (by simp) ?_
    refine AllReadyH.cons (o := ⟨some 42, _, _, _, _, _⟩) rfl (fun K hK => ?_) (AllReadyH.cons (o := ⟨some 9, _, _, _, _, _⟩) rfl (fun K hK => ?_) AllReadyH.nil)
    · refine step_append_all encU_len encU_one Try.underlying22 infoU rfl (by decide) (by decide) w6.heap.size rfl (.tmp 39) (.tmp 41) rfl rfl (.slice (some ⟨w6.heap.size, 0, none⟩) 0 0) [] rfl HOR.out A s c st rfl HS1.out (ua_rs (HUA.out _ (HB6.out.trans (HKEEP.out.mono HB6.out.size))).1) (by show 0 + s ≤ 100000; omega) HKEEP0.out ?_
      intro v3 u2 ho hb hg
      have HKEEP : Hid (Below w6.heap.size w6 u2) := Lib.hid (HKEEP.out.trans hb)
      have HKEEP0 : Hid (w6.heap.size ≤ u2.heap.size) := Lib.hid HKEEP.out.size
      have HOR := Lib.hid ho
      clear ho hb hg
      have HQS2 : Hid _ := Lib.hid (HS.out _ (HB6.out.trans (HKEEP.out.mono HB6.out.size)))
      refine hK.out _ _ HQS2.out (fun _ => ?_)
      clear hK K
      try simp only [Act.put, List.setIfInBounds_toArray, List.set_cons_zero, List.set_cons_succ]
      refine wpAnyH_ready (rs := [6, 10]) (by kernel_rfl) (by simp) ?_
      refine AllReadyH.cons (o := ⟨some 45, _, _, _, _, _⟩) rfl (fun K hK => ?_) (AllReadyH.cons (o := ⟨some 9, _, _, _, _, _⟩) rfl (fun K hK => ?_) AllReadyH.nil)
      · refine step_append_all encU_len encU_one Try.underlying22 infoU rfl (by decide) (by decide) w6.heap.size rfl (.tmp 42) (.tmp 44) rfl rfl v3 ([] ++ st) rfl HOR.out B q d lp rfl HSM2.out (ua_rs (HUA.out _ (HB6.out.trans (HKEEP.out.mono HB6.out.size))).2) (by have h1 := HS1.out; show st.length + q ≤ 100000; omega) HKEEP0.out ?_
        intro v6 u3 ho hb hg
        have HKEEP : Hid (Below w6.heap.size w6 u3) := Lib.hid (HKEEP.out.trans hb)
        have HKEEP0 : Hid (w6.heap.size ≤ u3.heap.size) := Lib.hid HKEEP.out.size
        have HOR := Lib.hid ho
        clear ho hb hg
        obtain ⟨A8, c8, hv8, g81, g82, g83, g84⟩ := or_ua HOR.out
        rw [HLE.out] at hv8 g81
        subst hv8
        have HQS3 : Hid _ := Lib.hid (HS.out _ (HB6.out.trans (HKEEP.out.mono HB6.out.size)))
        refine hK.out _ _ HQS3.out (fun _ => ?_)
        clear hK K
        try simp only [Act.put, List.setIfInBounds_toArray, List.set_cons_zero, List.set_cons_succ]
        refine wpAnyH_take (i := 9) (oi := ⟨some 48, _, _, _, _, _⟩) (v := .agg #[.slice A8 n c8, .slice B q d]) rfl (by kernel_rfl) (by kernel_rfl) (by kernel_rfl) (fun _ _ _ h => h) (Or.inl ⟨by kernel_rfl, fun w9 hS => ?_⟩) HQS3.out ?_
        · clear hS
          go_simp
        try simp only [Act.put, List.setIfInBounds_toArray, List.set_cons_zero, List.set_cons_succ]
        refine wpAnyH_ready (rs := [10]) (by kernel_rfl) (by simp) ?_
        refine AllReadyH.cons (o := ⟨some 9, _, _, _, _, _⟩) rfl (fun K hK => ?_) AllReadyH.nil
        go_simp
        have hB : Below u3.heap.size u3 (u3.alloc (.cells #[.slice none 0 0, .slice none 0 0] 24)) := (below_one u3 _)
        have HKEEP : Hid (Below w6.heap.size w6 (u3.alloc (.cells #[.slice none 0 0, .slice none 0 0] 24))) := Lib.hid (HKEEP.out.trans (hB.mono HKEEP.out.size))
        have HZ : Hid ((u3.alloc (.cells #[.slice none 0 0, .slice none 0 0] 24)).rowIs u3.heap.size 24 2 (fun _ => .slice none 0 0)) := Lib.hid (World.rowIs.of_block (w := u3.alloc (.cells #[.slice none 0 0, .slice none 0 0] 24)) (World.rowIs_alloc u3 #[.slice none 0 0, .slice none 0 0] _ (fun _ => .slice none 0 0) (fun i hi => by
          have : i = 0 ∨ i = 1 := by simp at hi; omega
          rcases this with rfl | rfl <;> rfl)) rfl)
        have HZW : Hid (w6.heap.size ≤ u3.heap.size) := Lib.hid HKEEP0.out
        have HOR : Hid (OR encU 1 w6.heap.size 30 (u3.alloc (.cells #[.slice none 0 0, .slice none 0 0] 24)) _ _) := Lib.hid (HOR.out.below hB)
        have HQS4 : Hid _ := Lib.hid (HS.out _ (HB6.out.trans (HKEEP.out.mono HB6.out.size)))
        refine hK.out _ _ HQS4.out (fun _ => ?_)
        clear hK K hB
        try simp only [Act.put, List.setIfInBounds_toArray, List.set_cons_zero, List.set_cons_succ]
        have HKEEP0 : Hid (w6.heap.size ≤ ((u3.alloc (.cells #[.slice none 0 0, .slice none 0 0] 24))).heap.size) := Lib.hid HKEEP.out.size
        generalize (u3.alloc (.cells #[.slice none 0 0, .slice none 0 0] 24)) = u4 at *
        have g83 : UA u4 A8 (([] ++ st) ++ lp) := (by first | exact g83 | (obtain ⟨A9, c9, hv9, _, _, g9, _⟩ := or_ua HOR.out; injection hv9 with q1 q2 q3; rw [q1]; exact g9))
        obtain ⟨w9, HW9, e0, e1, ht9, d0, d1, f0, f1, d2, f2⟩ := put_word HZ.out (.slice A8 n c8) (.slice B q d)
        have HKE : Hid (Below w6.heap.size w6 w9) := Lib.hid (HKEEP.out.trans (ht9.below (B := w6.heap.size) (fun k hk => by have := HZW.out; omega) HKEEP.out.size))
        refine wpAnyH_ready (rs := [11]) (by kernel_rfl) (by simp) ?_
        refine AllReadyH.cons (o := ⟨none, _, _, _, _, _⟩) rfl (fun K hK => ?_) AllReadyH.nil
        go_simp
        try rw [HW9]
        refine hK.out _ _ (HS.out _ (HB6.out.trans (HKE.out.mono HB6.out.size))) (fun _ => ?_)
        clear hK K HW9 d0 d1 d2 f0 f1 f2
        try dsimp only
        refine wpAnyH_done (by kernel_rfl) ?_ _
        have HFIN : Hid (AftL w6 w9 u3.heap.size A8 n c8 (st ++ lp) (.slice B q d)) := Lib.hid ⟨e0, e1, g83.turn ht9 (fun a ha => by
          have h1 := or_box HOR.out HZ.out
          intro h2
          have h2 : a.block = u3.heap.size := h2
          refine h1 ?_
          rw [ha, ← h2]
          rfl), g81, g82, HKE.out, Nat.lt_of_lt_of_le HZ.out.lt ht9.size⟩
        go_wp2
        go_meet
        case rel => exact ⟨u3.heap.size, A8, c8, rfl, HFIN⟩
      · go_simp
        have hB : Below u2.heap.size u2 (u2.alloc (.cells #[.slice none 0 0, .slice none 0 0] 24)) := (below_one u2 _)
        have HKEEP : Hid (Below w6.heap.size w6 (u2.alloc (.cells #[.slice none 0 0, .slice none 0 0] 24))) := Lib.hid (HKEEP.out.trans (hB.mono HKEEP.out.size))
        have HZ : Hid ((u2.alloc (.cells #[.slice none 0 0, .slice none 0 0] 24)).rowIs u2.heap.size 24 2 (fun _ => .slice none 0 0)) := Lib.hid (World.rowIs.of_block (w := u2.alloc (.cells #[.slice none 0 0, .slice none 0 0] 24)) (World.rowIs_alloc u2 #[.slice none 0 0, .slice none 0 0] _ (fun _ => .slice none 0 0) (fun i hi => by
          have : i = 0 ∨ i = 1 := by simp at hi; omega
          rcases this with rfl | rfl <;> rfl)) rfl)
        have HZW : Hid (w6.heap.size ≤ u2.heap.size) := Lib.hid HKEEP0.out
        have HOR : Hid (OR encU 1 w6.heap.size 30 (u2.alloc (.cells #[.slice none 0 0, .slice none 0 0] 24)) _ _) := Lib.hid (HOR.out.below hB)
        have HQS5 : Hid _ := Lib.hid (HS.out _ (HB6.out.trans (HKEEP.out.mono HB6.out.size)))
        refine hK.out _ _ HQS5.out (fun _ => ?_)
        clear hK K hB
        try simp only [Act.put, List.setIfInBounds_toArray, List.set_cons_zero, List.set_cons_succ]
        have HKEEP0 : Hid (w6.heap.size ≤ ((u2.alloc (.cells #[.slice none 0 0, .slice none 0 0] 24))).heap.size) := Lib.hid HKEEP.out.size
        generalize (u2.alloc (.cells #[.slice none 0 0, .slice none 0 0] 24)) = u5 at *
        refine wpAnyH_ready (rs := [6]) (by kernel_rfl) (by simp) ?_
        refine AllReadyH.cons (o := ⟨some 45, _, _, _, _, _⟩) rfl (fun K hK => ?_) AllReadyH.nil
        refine step_append_all encU_len encU_one Try.underlying22 infoU rfl (by decide) (by decide) w6.heap.size rfl (.tmp 42) (.tmp 44) rfl rfl v3 ([] ++ st) rfl HOR.out B q d lp rfl HSM2.out (ua_rs (HUA.out _ (HB6.out.trans (HKEEP.out.mono HB6.out.size))).2) (by have h1 := HS1.out; show st.length + q ≤ 100000; omega) HKEEP0.out ?_
        intro v6 u6 ho hb hg
        have HZ : Hid (u6.rowIs u2.heap.size 24 2 (fun _ => .slice none 0 0)) := Lib.hid (rowIs_grown HZ.out hg (or_box HOR.out HZ.out))
        have HKEEP : Hid (Below w6.heap.size w6 u6) := Lib.hid (HKEEP.out.trans hb)
        have HKEEP0 : Hid (w6.heap.size ≤ u6.heap.size) := Lib.hid HKEEP.out.size
        have HOR := Lib.hid ho
        clear ho hb hg
        obtain ⟨A8, c8, hv8, g81, g82, g83, g84⟩ := or_ua HOR.out
        rw [HLE.out] at hv8 g81
        subst hv8
        have HQS6 : Hid _ := Lib.hid (HS.out _ (HB6.out.trans (HKEEP.out.mono HB6.out.size)))
        refine hK.out _ _ HQS6.out (fun _ => ?_)
        clear hK K
        try simp only [Act.put, List.setIfInBounds_toArray, List.set_cons_zero, List.set_cons_succ]
        refine wpAnyH_take (i := 9) (oi := ⟨some 48, _, _, _, _, _⟩) (v := .agg #[.slice A8 n c8, .slice B q d]) rfl (by kernel_rfl) (by kernel_rfl) (by kernel_rfl) (fun _ _ _ h => h) (Or.inl ⟨by kernel_rfl, fun w9 hS => ?_⟩) HQS6.out ?_
        · clear hS
          go_simp
        try simp only [Act.put, List.setIfInBounds_toArray, List.set_cons_zero, List.set_cons_succ]
        have g83 : UA u6 A8 (([] ++ st) ++ lp) := (by first | exact g83 | (obtain ⟨A9, c9, hv9, _, _, g9, _⟩ := or_ua HOR.out; injection hv9 with q1 q2 q3; rw [q1]; exact g9))
        obtain ⟨w9, HW9, e0, e1, ht9, d0, d1, f0, f1, d2, f2⟩ := put_word HZ.out (.slice A8 n c8) (.slice B q d)
        have HKE : Hid (Below w6.heap.size w6 w9) := Lib.hid (HKEEP.out.trans (ht9.below (B := w6.heap.size) (fun k hk => by have := HZW.out; omega) HKEEP.out.size))
        refine wpAnyH_ready (rs := [11]) (by kernel_rfl) (by simp) ?_
        refine AllReadyH.cons (o := ⟨none, _, _, _, _, _⟩) rfl (fun K hK => ?_) AllReadyH.nil
        go_simp
        try rw [HW9]
        refine hK.out _ _ (HS.out _ (HB6.out.trans (HKE.out.mono HB6.out.size))) (fun _ => ?_)
        clear hK K HW9 d0 d1 d2 f0 f1 f2
        try dsimp only
        refine wpAnyH_done (by kernel_rfl) ?_ _
        have HFIN : Hid (AftL w6 w9 u2.heap.size A8 n c8 (st ++ lp) (.slice B q d)) := Lib.hid ⟨e0, e1, g83.turn ht9 (fun a ha => by
          have h1 := or_box HOR.out HZ.out
          intro h2
          have h2 : a.block = u2.heap.size := h2
          refine h1 ?_
          rw [ha, ← h2]
          rfl), g81, g82, HKE.out, Nat.lt_of_lt_of_le HZ.out.lt ht9.size⟩
        go_wp2
        go_meet
        case rel => exact ⟨u2.heap.size, A8, c8, rfl, HFIN⟩
    · go_simp
      have hB : Below u1.heap.size u1 (u1.alloc (.cells #[.slice none 0 0, .slice none 0 0] 24)) := (below_one u1 _)
      have HKEEP : Hid (Below w6.heap.size w6 (u1.alloc (.cells #[.slice none 0 0, .slice none 0 0] 24))) := Lib.hid (HKEEP.out.trans (hB.mono HKEEP.out.size))
      have HZ : Hid ((u1.alloc (.cells #[.slice none 0 0, .slice none 0 0] 24)).rowIs u1.heap.size 24 2 (fun _ => .slice none 0 0)) := Lib.hid (World.rowIs.of_block (w := u1.alloc (.cells #[.slice none 0 0, .slice none 0 0] 24)) (World.rowIs_alloc u1 #[.slice none 0 0, .slice none 0 0] _ (fun _ => .slice none 0 0) (fun i hi => by
        have : i = 0 ∨ i = 1 := by simp at hi; omega
        rcases this with rfl | rfl <;> rfl)) rfl)
      have HZW : Hid (w6.heap.size ≤ u1.heap.size) := Lib.hid HKEEP0.out
      have HOR : Hid (OR encU 1 w6.heap.size 30 (u1.alloc (.cells #[.slice none 0 0, .slice none 0 0] 24)) _ _) := Lib.hid (HOR.out.below hB)
      have HQS7 : Hid _ := Lib.hid (HS.out _ (HB6.out.trans (HKEEP.out.mono HB6.out.size)))
      refine hK.out _ _ HQS7.out (fun _ => ?_)
      clear hK K hB
      try simp only [Act.put, List.setIfInBounds_toArray, List.set_cons_zero, List.set_cons_succ]
      have HKEEP0 : Hid (w6.heap.size ≤ ((u1.alloc (.cells #[.slice none 0 0, .slice none 0 0] 24))).heap.size) := Lib.hid HKEEP.out.size
      generalize (u1.alloc (.cells #[.slice none 0 0, .slice none 0 0] 24)) = u7 at *
      refine wpAnyH_ready (rs := [3]) (by kernel_rfl) (by simp) ?_
      refine AllReadyH.cons (o := ⟨some 42, _, _, _, _, _⟩) rfl (fun K hK => ?_) AllReadyH.nil
      refine step_append_all encU_len encU_one Try.underlying22 infoU rfl (by decide) (by decide) w6.heap.size rfl (.tmp 39) (.tmp 41) rfl rfl (.slice (some ⟨w6.heap.size, 0, none⟩) 0 0) [] rfl HOR.out A s c st rfl HS1.out (ua_rs (HUA.out _ (HB6.out.trans (HKEEP.out.mono HB6.out.size))).1) (by show 0 + s ≤ 100000; omega) HKEEP0.out ?_
      intro v3 u8 ho hb hg
      have HZ : Hid (u8.rowIs u1.heap.size 24 2 (fun _ => .slice none 0 0)) := Lib.hid (rowIs_grown HZ.out hg (or_box HOR.out HZ.out))
      have HKEEP : Hid (Below w6.heap.size w6 u8) := Lib.hid (HKEEP.out.trans hb)
      have HKEEP0 : Hid (w6.heap.size ≤ u8.heap.size) := Lib.hid HKEEP.out.size
      have HOR := Lib.hid ho
      clear ho hb hg
      have HQS8 : Hid _ := Lib.hid (HS.out _ (HB6.out.trans (HKEEP.out.mono HB6.out.size)))
      refine hK.out _ _ HQS8.out (fun _ => ?_)
      clear hK K
      try simp only [Act.put, List.setIfInBounds_toArray, List.set_cons_zero, List.set_cons_succ]
      refine wpAnyH_ready (rs := [6]) (by kernel_rfl) (by simp) ?_
      refine AllReadyH.cons (o := ⟨some 45, _, _, _, _, _⟩) rfl (fun K hK => ?_) AllReadyH.nil
      refine step_append_all encU_len encU_one Try.underlying22 infoU rfl (by decide) (by decide) w6.heap.size rfl (.tmp 42) (.tmp 44) rfl rfl v3 ([] ++ st) rfl HOR.out B q d lp rfl HSM2.out (ua_rs (HUA.out _ (HB6.out.trans (HKEEP.out.mono HB6.out.size))).2) (by have h1 := HS1.out; show st.length + q ≤ 100000; omega) HKEEP0.out ?_
      intro v6 u9 ho hb hg
      have HZ : Hid (u9.rowIs u1.heap.size 24 2 (fun _ => .slice none 0 0)) := Lib.hid (rowIs_grown HZ.out hg (or_box HOR.out HZ.out))
      have HKEEP : Hid (Below w6.heap.size w6 u9) := Lib.hid (HKEEP.out.trans hb)
      have HKEEP0 : Hid (w6.heap.size ≤ u9.heap.size) := Lib.hid HKEEP.out.size
      have HOR := Lib.hid ho
      clear ho hb hg
      obtain ⟨A8, c8, hv8, g81, g82, g83, g84⟩ := or_ua HOR.out
      rw [HLE.out] at hv8 g81
      subst hv8
      have HQS9 : Hid _ := Lib.hid (HS.out _ (HB6.out.trans (HKEEP.out.mono HB6.out.size)))
      refine hK.out _ _ HQS9.out (fun _ => ?_)
      clear hK K
      try simp only [Act.put, List.setIfInBounds_toArray, List.set_cons_zero, List.set_cons_succ]
      refine wpAnyH_take (i := 9) (oi := ⟨some 48, _, _, _, _, _⟩) (v := .agg #[.slice A8 n c8, .slice B q d]) rfl (by kernel_rfl) (by kernel_rfl) (by kernel_rfl) (fun _ _ _ h => h) (Or.inl ⟨by kernel_rfl, fun w9 hS => ?_⟩) HQS9.out ?_
      · clear hS
        go_simp
      try simp only [Act.put, List.setIfInBounds_toArray, List.set_cons_zero, List.set_cons_succ]
      have g83 : UA u9 A8 (([] ++ st) ++ lp) := (by first | exact g83 | (obtain ⟨A9, c9, hv9, _, _, g9, _⟩ := or_ua HOR.out; injection hv9 with q1 q2 q3; rw [q1]; exact g9))
      obtain ⟨w9, HW9, e0, e1, ht9, d0, d1, f0, f1, d2, f2⟩ := put_word HZ.out (.slice A8 n c8) (.slice B q d)
      have HKE : Hid (Below w6.heap.size w6 w9) := Lib.hid (HKEEP.out.trans (ht9.below (B := w6.heap.size) (fun k hk => by have := HZW.out; omega) HKEEP.out.size))
      refine wpAnyH_ready (rs := [11]) (by kernel_rfl) (by simp) ?_
      refine AllReadyH.cons (o := ⟨none, _, _, _, _, _⟩) rfl (fun K hK => ?_) AllReadyH.nil
      go_simp
      try rw [HW9]
      refine hK.out _ _ (HS.out _ (HB6.out.trans (HKE.out.mono HB6.out.size))) (fun _ => ?_)
      clear hK K HW9 d0 d1 d2 f0 f1 f2
      try dsimp only
      refine wpAnyH_done (by kernel_rfl) ?_ _
      have HFIN : Hid (AftL w6 w9 u1.heap.size A8 n c8 (st ++ lp) (.slice B q d)) := Lib.hid ⟨e0, e1, g83.turn ht9 (fun a ha => by
        have h1 := or_box HOR.out HZ.out
        intro h2
        have h2 : a.block = u1.heap.size := h2
        refine h1 ?_
        rw [ha, ← h2]
        rfl), g81, g82, HKE.out, Nat.lt_of_lt_of_le HZ.out.lt ht9.size⟩
      go_wp2
      go_meet
      case rel => exact ⟨u1.heap.size, A8, c8, rfl, HFIN⟩
  · go_simp
    have hB : Below w6.heap.size w6 (w6.alloc (.cells #[.slice none 0 0, .slice none 0 0] 24)).drew := (below_one w6 _).drew
    have HKEEP : Hid (Below w6.heap.size w6 (w6.alloc (.cells #[.slice none 0 0, .slice none 0 0] 24)).drew) := Lib.hid (HKEEP.out.trans (hB.mono HKEEP.out.size))
    have HZ : Hid ((w6.alloc (.cells #[.slice none 0 0, .slice none 0 0] 24)).drew.rowIs w6.heap.size 24 2 (fun _ => .slice none 0 0)) := Lib.hid (World.rowIs.of_block (w := w6.alloc (.cells #[.slice none 0 0, .slice none 0 0] 24)) (World.rowIs_alloc w6 #[.slice none 0 0, .slice none 0 0] _ (fun _ => .slice none 0 0) (fun i hi => by
      have : i = 0 ∨ i = 1 := by simp at hi; omega
      rcases this with rfl | rfl <;> rfl)) rfl)
    have HZW : Hid (w6.heap.size ≤ w6.heap.size) := Lib.hid HKEEP0.out
    have HQS10 : Hid _ := Lib.hid (HS.out _ (HB6.out.trans (HKEEP.out.mono HB6.out.size)))
    refine hK.out _ _ HQS10.out (fun _ => ?_)
    clear hK K hB
    try simp only [Act.put, List.setIfInBounds_toArray, List.set_cons_zero, List.set_cons_succ]
    have HKEEP0 : Hid (w6.heap.size ≤ ((w6.alloc (.cells #[.slice none 0 0, .slice none 0 0] 24)).drew).heap.size) := Lib.hid HKEEP.out.size
    generalize (w6.alloc (.cells #[.slice none 0 0, .slice none 0 0] 24)).drew = u10 at *
    refine wpAnyH_ready (rs := [0]) (by kernel_rfl) (by simp) ?_
    refine AllReadyH.cons (o := ⟨some 39, _, _, _, _, _⟩) rfl (fun K hK => ?_) AllReadyH.nil
    go_simp
    have hB : Below u10.heap.size u10 (u10.alloc (.cells #[] 30)) := (below_one u10 _)
    have HKEEP : Hid (Below w6.heap.size w6 (u10.alloc (.cells #[] 30))) := Lib.hid (HKEEP.out.trans (hB.mono HKEEP.out.size))
    have HOR : Hid (OR encU 1 w6.heap.size 30 (u10.alloc (.cells #[] 30)) (.slice (some ⟨u10.heap.size, 0, none⟩) 0 0) []) := Lib.hid (OR.below (or_empty u10 0 #[] w6.heap.size HKEEP0.out rfl (by decide)) (Below.refl _ _))
    have HZ : Hid ((u10.alloc (.cells #[] 30)).rowIs w6.heap.size 24 2 (fun _ => .slice none 0 0)) := Lib.hid (HZ.out.of_block (hB.block _ HZ.out.lt))
    have HQS11 : Hid _ := Lib.hid (HS.out _ (HB6.out.trans (HKEEP.out.mono HB6.out.size)))
    refine hK.out _ _ HQS11.out (fun _ => ?_)
    clear hK K hB
    try simp only [Act.put, List.setIfInBounds_toArray, List.set_cons_zero, List.set_cons_succ]
    have HKEEP0 : Hid (w6.heap.size ≤ ((u10.alloc (.cells #[] 30))).heap.size) := Lib.hid HKEEP.out.size
    generalize (u10.alloc (.cells #[] 30)) = u11 at *
    refine wpAnyH_ready (rs := [3]) (by kernel_rfl) (by simp) ?_
    refine AllReadyH.cons (o := ⟨some 42, _, _, _, _, _⟩) rfl (fun K hK => ?_) AllReadyH.nil
    refine step_append_all encU_len encU_one Try.underlying22 infoU rfl (by decide) (by decide) w6.heap.size rfl (.tmp 39) (.tmp 41) rfl rfl (.slice (some ⟨u10.heap.size, 0, none⟩) 0 0) [] rfl HOR.out A s c st rfl HS1.out (ua_rs (HUA.out _ (HB6.out.trans (HKEEP.out.mono HB6.out.size))).1) (by show 0 + s ≤ 100000; omega) HKEEP0.out ?_
    intro v3 u12 ho hb hg
    have HZ : Hid (u12.rowIs w6.heap.size 24 2 (fun _ => .slice none 0 0)) := Lib.hid (rowIs_grown HZ.out hg (or_box HOR.out HZ.out))
    have HKEEP : Hid (Below w6.heap.size w6 u12) := Lib.hid (HKEEP.out.trans hb)
    have HKEEP0 : Hid (w6.heap.size ≤ u12.heap.size) := Lib.hid HKEEP.out.size
    have HOR := Lib.hid ho
    clear ho hb hg
    have HQS12 : Hid _ := Lib.hid (HS.out _ (HB6.out.trans (HKEEP.out.mono HB6.out.size)))
    refine hK.out _ _ HQS12.out (fun _ => ?_)
    clear hK K
    try simp only [Act.put, List.setIfInBounds_toArray, List.set_cons_zero, List.set_cons_succ]
    refine wpAnyH_ready (rs := [6]) (by kernel_rfl) (by simp) ?_
    refine AllReadyH.cons (o := ⟨some 45, _, _, _, _, _⟩) rfl (fun K hK => ?_) AllReadyH.nil
    refine step_append_all encU_len encU_one Try.underlying22 infoU rfl (by decide) (by decide) w6.heap.size rfl (.tmp 42) (.tmp 44) rfl rfl v3 ([] ++ st) rfl HOR.out B q d lp rfl HSM2.out (ua_rs (HUA.out _ (HB6.out.trans (HKEEP.out.mono HB6.out.size))).2) (by have h1 := HS1.out; show st.length + q ≤ 100000; omega) HKEEP0.out ?_
    intro v6 u13 ho hb hg
    have HZ : Hid (u13.rowIs w6.heap.size 24 2 (fun _ => .slice none 0 0)) := Lib.hid (rowIs_grown HZ.out hg (or_box HOR.out HZ.out))
    have HKEEP : Hid (Below w6.heap.size w6 u13) := Lib.hid (HKEEP.out.trans hb)
    have HKEEP0 : Hid (w6.heap.size ≤ u13.heap.size) := Lib.hid HKEEP.out.size
    have HOR := Lib.hid ho
    clear ho hb hg
    obtain ⟨A8, c8, hv8, g81, g82, g83, g84⟩ := or_ua HOR.out
    rw [HLE.out] at hv8 g81
    subst hv8
    have HQS13 : Hid _ := Lib.hid (HS.out _ (HB6.out.trans (HKEEP.out.mono HB6.out.size)))
    refine hK.out _ _ HQS13.out (fun _ => ?_)
    clear hK K
    try simp only [Act.put, List.setIfInBounds_toArray, List.set_cons_zero, List.set_cons_succ]
    refine wpAnyH_take (i := 9) (oi := ⟨some 48, _, _, _, _, _⟩) (v := .agg #[.slice A8 n c8, .slice B q d]) rfl (by kernel_rfl) (by kernel_rfl) (by kernel_rfl) (fun _ _ _ h => h) (Or.inl ⟨by kernel_rfl, fun w9 hS => ?_⟩) HQS13.out ?_
    · clear hS
      go_simp
    try simp only [Act.put, List.setIfInBounds_toArray, List.set_cons_zero, List.set_cons_succ]
    have g83 : UA u13 A8 (([] ++ st) ++ lp) := (by first | exact g83 | (obtain ⟨A9, c9, hv9, _, _, g9, _⟩ := or_ua HOR.out; injection hv9 with q1 q2 q3; rw [q1]; exact g9))
    obtain ⟨w9, HW9, e0, e1, ht9, d0, d1, f0, f1, d2, f2⟩ := put_word HZ.out (.slice A8 n c8) (.slice B q d)
    have HKE : Hid (Below w6.heap.size w6 w9) := Lib.hid (HKEEP.out.trans (ht9.below (B := w6.heap.size) (fun k hk => by have := HZW.out; omega) HKEEP.out.size))
    refine wpAnyH_ready (rs := [11]) (by kernel_rfl) (by simp) ?_
    refine AllReadyH.cons (o := ⟨none, _, _, _, _, _⟩) rfl (fun K hK => ?_) AllReadyH.nil
    go_simp
    try rw [HW9]
    refine hK.out _ _ (HS.out _ (HB6.out.trans (HKE.out.mono HB6.out.size))) (fun _ => ?_)
    clear hK K HW9 d0 d1 d2 f0 f1 f2
    try dsimp only
    refine wpAnyH_done (by kernel_rfl) ?_ _
    have HFIN : Hid (AftL w6 w9 w6.heap.size A8 n c8 (st ++ lp) (.slice B q d)) := Lib.hid ⟨e0, e1, g83.turn ht9 (fun a ha => by
      have h1 := or_box HOR.out HZ.out
      intro h2
      have h2 : a.block = w6.heap.size := h2
      refine h1 ?_
      rw [ha, ← h2]
      rfl), g81, g82, HKE.out, Nat.lt_of_lt_of_le HZ.out.lt ht9.size⟩
    go_wp2
    go_meet
    case rel => exact ⟨w6.heap.size, A8, c8, rfl, HFIN⟩
  obtain ⟨Z, A8, c8, rfl, HAF⟩ := hcut
  have HBC : Hid (Below w1.heap.size w1 wc) := Lib.hid (HB6.out.trans (HAF.out.bl.mono HB6.out.size))
  have HDC : Hid (Below w4.heap.size w4 wc) := Lib.hid (HD6.out.trans (HAF.out.bl.mono HD6.out.size))
  have CV : Hid (∀ W, Below wc.heap.size wc W → Below w1.heap.size w1 W) := Lib.hid (fun W hW => HBC.out.trans (hW.mono HBC.out.size))
  have HLX : Hid (∀ W, Below wc.heap.size wc W → WdR W ⟨A8, n, c8, B, q, d⟩ (st ++ lp) lp) := Lib.hid (fun W hW => ⟨by rw [List.length_append]; exact HNLX.out.symm, HSM2.out, HAF.out.r.below hW, (HUA.out _ (CV.out W hW)).2, HAF.out.le, HX0.out.c2, HAF.out.mx, HX0.out.k2, by show n ≤ 1000; omega, HX0.out.b2, u64_app HX0.out.u1 HX0.out.u2, HX0.out.u2⟩)
  have H8 : Hid (∀ W, Below wc.heap.size wc W → W.cell? ⟨tb, fp, none⟩ = some (.slice (some ⟨g, o, none⟩) n c5) ∧ W.cell? ⟨w.heap.size, 0, none⟩ = some (.slice A s c) ∧ W.cell? ⟨w.heap.size, 1, none⟩ = some (.slice B q d)) := Lib.hid (fun W hW => ⟨(HT.out W (HDC.out.trans (hW.mono HDC.out.size))).1, HS.out W (CV.out W hW)⟩)
  have H9 : Hid (∀ W, Below wc.heap.size wc W → W.cell? ⟨g, o, none⟩ = some (.bool y0) ∧ W.cell? ⟨g, o + k, none⟩ = some (.bool yk) ∧ W.cell? ⟨w.heap.size, 0, none⟩ = some (.slice A s c) ∧ W.cell? ⟨w.heap.size, 1, none⟩ = some (.slice B q d)) := Lib.hid (fun W hW => ⟨(HT.out W (HDC.out.trans (hW.mono HDC.out.size))).2.1, (HT.out W (HDC.out.trans (hW.mono HDC.out.size))).2.2, HS.out W (CV.out W hW)⟩)
  have H11 : Hid (∀ W, Below wc.heap.size wc W → (W.cell? ⟨Z, 0, none⟩ = some (.slice A8 n c8) ∧ W.cell? ⟨Z, 1, none⟩ = some (.slice B q d)) ∧ W.cell? ⟨w.heap.size, 0, none⟩ = some (.slice A s c) ∧ W.cell? ⟨w.heap.size, 1, none⟩ = some (.slice B q d)) := Lib.hid (fun W hW => ⟨⟨(hW.cell (p := ⟨Z, 0, none⟩) HAF.out.lt).trans HAF.out.e0, (hW.cell (p := ⟨Z, 1, none⟩) HAF.out.lt).trans HAF.out.e1⟩, HS.out W (CV.out W hW)⟩)
  have HLG := Lib.hid (fun W (hW : Below wc.heap.size wc W) => HLO.out W ⟨A8, n, c8, B, q, d⟩ (CV.out W hW) (HLX.out W hW))
  have HSM := Lib.hid (fun W (hW : Below wc.heap.size wc W) => HSO.out W ⟨A8, n, c8, B, q, d⟩ (CV.out W hW) (HLX.out W hW))
  unfold WX.v at HLG HSM
  dsimp only at HLG HSM
  have HH0 := Lib.hid (fun W (hW : Below wc.heap.size wc W) => HH0.out W (CV.out W hW))
  have HLN := Lib.hid (fun W (hW : Below wc.heap.size wc W) => HLN.out W (CV.out W hW))
  have HSH := Lib.hid (fun W (hW : Below wc.heap.size wc W) => HSH.out W (CV.out W hW))
  have HNM := Lib.hid (fun W (hW : Below wc.heap.size wc W) => HNM.out W (CV.out W hW))
  have HHN := Lib.hid (fun W X (hW : Below wc.heap.size wc W) => HHN.out W X (CV.out W hW))
  have HHS := Lib.hid (fun W X (hW : Below wc.heap.size wc W) => HHS.out W X (CV.out W hW))
  have HA1 := Lib.hid (fun W X (hW : Below wc.heap.size wc W) => HA1.out W X (CV.out W hW))
  have HA2 := Lib.hid (fun W (hW : Below wc.heap.size wc W) => HA2.out W (CV.out W hW))
  have HAW := Lib.hid (fun W (hW : Below wc.heap.size wc W) => HAW.out W (CV.out W hW))
  have HB15 : Hid (Below wc.heap.size wc wc) := Lib.hid (Below.refl _ _)
  clear HUA HT HLO HSO
  have hfpl : fp < fl := HFPL.out
  have hfpli : (fp : Int) < (fl : Int) := by omega
  have hkni : (k : Int) < (n : Int) := by omega
  have hn0n : 0 < n := by omega
  have hn0i : (0 : Int) < (n : Int) := by omega
  have hk0i : (0 : Int) ≤ (k : Int) := by omega
  have hwr1 : IntKind.i64.wrap ((fl : Int) - 1) = (fp : Int) := by rw [IntKind.wrap_i64]; omega
  have hwr2 : IntKind.i64.wrap (fp : Int) = (fp : Int) := by rw [IntKind.wrap_i64]; omega
  have hwr3 : IntKind.i64.wrap ((k : Int) + 5) = (k : Int) + 5 := by rw [IntKind.wrap_i64]; omega
  go_wp2_with fail
  go_region_held3 (fun W => W.cell? ⟨tb, fp, none⟩ = some (.slice (some ⟨g, o, none⟩) n c5) ∧ W.cell? ⟨w.heap.size, 0, none⟩ = some (.slice A s c) ∧ W.cell? ⟨w.heap.size, 1, none⟩ = some (.slice B q d))
      (first | exact H8.out _ HB15.out | exact H8.out _ HB16.out | exact H8.out _ HB15.out.drew | exact H8.out _ HB16.out.drew | go_keep)
      (first
        | (have hk := HB15; go_at_call 18; refine (HH0.out _ (by first | exact HB15.out.drew | exact HB15.out)).mono ?_; rintro e16 w16 ⟨rfl, hb16⟩; have HB16 : Hid (Below wc.heap.size wc w16) := Lib.hid (by first | exact HB15.out.drew.trans (hb16.mono HB15.out.size) | exact HB15.out.trans (hb16.mono HB15.out.size)); clear hk hb16)
        | fail)
  all_goals
    go_wp2_with fail
    go_region_held3 (fun W => W.cell? ⟨g, o, none⟩ = some (.bool y0) ∧ W.cell? ⟨g, o + k, none⟩ = some (.bool yk) ∧ W.cell? ⟨w.heap.size, 0, none⟩ = some (.slice A s c) ∧ W.cell? ⟨w.heap.size, 1, none⟩ = some (.slice B q d))
      (first | exact H9.out _ HB16.out | exact H9.out _ HB17.out | exact H9.out _ HB18.out | exact H9.out _ HB20.out | exact H9.out _ HB16.out.drew | exact H9.out _ HB17.out.drew | exact H9.out _ HB18.out.drew | exact H9.out _ HB20.out.drew | go_keep)
      (first
        | (have hk := HB18; go_at_call 18; refine (HHS.out _ ⟨A18, n18, c18, B18, m18, d18⟩ (by first | exact HB18.out.drew | exact HB18.out) (by first | exact HX18.out | exact HX18.out.below (by first | exact HB18.out.drew | exact Below.refl _ _))).mono ?_; rintro e20 w20 ⟨rfl, hb20⟩; have HB20 : Hid (Below wc.heap.size wc w20) := Lib.hid (by first | exact HB18.out.drew.trans (hb20.mono HB18.out.size) | exact HB18.out.trans (hb20.mono HB18.out.size)); clear hk hb20)
        | (have hk := HB17; go_at_call 23; refine (HSH.out _ (by first | exact HB17.out.drew | exact HB17.out)).mono ?_; rintro e18 w18 ⟨X18, rfl, hx18, hb18, na18, nb18⟩; have HB18 : Hid (Below wc.heap.size wc w18) := Lib.hid (by first | exact HB17.out.drew.trans (hb18.mono HB17.out.size) | exact HB17.out.trans (hb18.mono HB17.out.size)); have HX18 := Lib.hid hx18; clear hk hb18 hx18 na18 nb18; obtain ⟨A18, n18, c18, B18, m18, d18⟩ := X18; unfold WX.v; dsimp only)
        | (have hk := HB16; go_at_call 12; refine (HLN.out _ (by first | exact HB16.out.drew | exact HB16.out)).mono ?_; rintro e17 w17 ⟨rfl, hb17⟩; have HB17 : Hid (Below wc.heap.size wc w17) := Lib.hid (by first | exact HB16.out.drew.trans (hb17.mono HB16.out.size) | exact HB16.out.trans (hb17.mono HB16.out.size)); clear hk hb17)
        | fail)
  all_goals
    go_wp2_with fail
    go_region_held3 (fun W => (W.cell? ⟨Z, 0, none⟩ = some (.slice A8 n c8) ∧ W.cell? ⟨Z, 1, none⟩ = some (.slice B q d)) ∧ W.cell? ⟨w.heap.size, 0, none⟩ = some (.slice A s c) ∧ W.cell? ⟨w.heap.size, 1, none⟩ = some (.slice B q d))
      (first | exact H11.out _ HB20.out | exact H11.out _ HB30.out | exact H11.out _ HB31.out | exact H11.out _ HB32.out | exact H11.out _ HB33.out | exact H11.out _ HB34.out | exact H11.out _ HB35.out | exact H11.out _ HB36.out | exact H11.out _ HB37.out | exact H11.out _ HB20.out.drew | exact H11.out _ HB30.out.drew | exact H11.out _ HB31.out.drew | exact H11.out _ HB32.out.drew | exact H11.out _ HB33.out.drew | exact H11.out _ HB34.out.drew | exact H11.out _ HB35.out.drew | exact H11.out _ HB36.out.drew | exact H11.out _ HB37.out.drew | go_keep)
      (first
        | (have hk := HB36; go_at_call 9; refine (HAW.out _ (by first | exact HB36.out.drew | exact HB36.out)).mono ?_; rintro e37 w37 ⟨rfl, hb37⟩; have HB37 : Hid (Below wc.heap.size wc w37) := Lib.hid (by first | exact HB36.out.drew.trans (hb37.mono HB36.out.size) | exact HB36.out.trans (hb37.mono HB36.out.size)); clear hk hb37)
        | (have hk := HB35; go_at_call 14; refine (HA2.out _ (by first | exact HB35.out.drew | exact HB35.out)).mono ?_; rintro e36 w36 ⟨rfl, hb36⟩; have HB36 : Hid (Below wc.heap.size wc w36) := Lib.hid (by first | exact HB35.out.drew.trans (hb36.mono HB35.out.size) | exact HB35.out.trans (hb36.mono HB35.out.size)); clear hk hb36)
        | (have hk := HB34; go_at_call 14; refine (HA1.out _ ⟨A34, n34, c34, B34, m34, d34⟩ (by first | exact HB34.out.drew | exact HB34.out) (by first | exact HX34.out | exact HX34.out.below (by first | exact HB34.out.drew | exact Below.refl _ _))).mono ?_; rintro e35 w35 ⟨rfl, hb35⟩; have HB35 : Hid (Below wc.heap.size wc w35) := Lib.hid (by first | exact HB34.out.drew.trans (hb35.mono HB34.out.size) | exact HB34.out.trans (hb35.mono HB34.out.size)); clear hk hb35)
        | (have hk := HB33; go_at_call 23; refine (HSH.out _ (by first | exact HB33.out.drew | exact HB33.out)).mono ?_; rintro e34 w34 ⟨X34, rfl, hx34, hb34, na34, nb34⟩; have HB34 : Hid (Below wc.heap.size wc w34) := Lib.hid (by first | exact HB33.out.drew.trans (hb34.mono HB33.out.size) | exact HB33.out.trans (hb34.mono HB33.out.size)); have HX34 := Lib.hid hx34; clear hk hb34 hx34 na34 nb34; obtain ⟨A34, n34, c34, B34, m34, d34⟩ := X34; unfold WX.v; dsimp only)
        | (have hk := HB32; go_at_call 25; refine (HSM.out _ (by first | exact HB32.out.drew | exact HB32.out)).mono ?_; rintro e33 w33 ⟨rfl, hb33⟩; have HB33 : Hid (Below wc.heap.size wc w33) := Lib.hid (by first | exact HB32.out.drew.trans (hb33.mono HB32.out.size) | exact HB32.out.trans (hb33.mono HB32.out.size)); clear hk hb33)
        | (have hk := HB31; go_at_call 18; refine (HLG.out _ (by first | exact HB31.out.drew | exact HB31.out)).mono ?_; rintro e32 w32 ⟨rfl, hb32⟩; have HB32 : Hid (Below wc.heap.size wc w32) := Lib.hid (by first | exact HB31.out.drew.trans (hb32.mono HB31.out.size) | exact HB31.out.trans (hb32.mono HB31.out.size)); clear hk hb32)
        | (have hk := HB30; go_at_call 18; refine (HHN.out _ ⟨A30, n30, c30, B30, m30, d30⟩ (by first | exact HB30.out.drew | exact HB30.out) (by first | exact HX30.out | exact HX30.out.below (by first | exact HB30.out.drew | exact Below.refl _ _))).mono ?_; rintro e31 w31 ⟨rfl, hb31⟩; have HB31 : Hid (Below wc.heap.size wc w31) := Lib.hid (by first | exact HB30.out.drew.trans (hb31.mono HB30.out.size) | exact HB30.out.trans (hb31.mono HB30.out.size)); clear hk hb31)
        | (have hk := HB20; go_at_call 20; refine (HNM.out _ (by first | exact HB20.out.drew | exact HB20.out)).mono ?_; rintro e30 w30 ⟨X30, rfl, hx30, hb30, na30, nb30⟩; have HB30 : Hid (Below wc.heap.size wc w30) := Lib.hid (by first | exact HB20.out.drew.trans (hb30.mono HB20.out.size) | exact HB20.out.trans (hb30.mono HB20.out.size)); have HX30 := Lib.hid hx30; clear hk hb30 hx30 na30 nb30; obtain ⟨A30, n30, c30, B30, m30, d30⟩ := X30; unfold WX.v; dsimp only)
        | fail)
  all_goals
    go_wp2
    go_ret
    exact ⟨rfl, HBZ.out.trans ((HBC.out.trans (HB37.out.mono HBC.out.size)).mono HBZ.out.size)⟩
set_option maxRecDepth 100000 in
theorem lifted (os : Os) (started : os.Started) (H : Type) (enc : TypeId × Value → H) :
    ReturnsInHanded {} Try.checked os 7 .any (Rows.wordPlacesSpec.pre6 enc Try.prog Try.f7 Rows.wordPlacesRow.domain false) (Rows.wordPlacesSpec.post enc Try.prog Try.f7 false true false false) := by
  refine law_lifted started [33, 24, 5] rfl (by kernel_rfl) Try.func7 rfl (by decide +kernel) rfl (fun ds hl => by
    match ds, hl with
    | [_, _, _], _ => rfl) (ChangeSpec.witness6 (enc := enc) (C := Try.checked) false ⟨#[], #[.slice none 0 0, .agg #[.slice none 0 0, .slice none 0 0], .int .u8 0], []⟩ 8 (by kernel_rfl) (by kernel_rfl) (by kernel_rfl) (by kernel_rfl)) ?_
  intro W base args ds ps hval hA hlt hsz
  obtain ⟨v0, vs0, d0, ds0, p0, q0, hargs, rfl, rfl, h0, r0⟩ := trodAll_cons hA
  obtain ⟨v1, vs1, d1, ds1, p1, q1, rfl, rfl, rfl, h1, r1⟩ := trodAll_cons r0
  obtain ⟨v2, vs2, d2, ds2, p2, q2, rfl, rfl, rfl, h2, r2⟩ := trodAll_cons r1
  obtain ⟨rfl, rfl, rfl⟩ := trodAll_nil r2
  obtain rfl : args = #[v0, v1, v2] := by cases args; simp_all
  obtain ⟨A0, c0, x0, rfl, b0, q0, m0, i0, z0⟩ := open_pairs_arg Try.underlying33 Try.underlying44 (by kernel_rfl) (by kernel_rfl) rfl rfl rfl rfl (hval 0 33 v0 rfl rfl) h0 hsz 0 rfl rfl
  obtain ⟨x1, s1, l1, rfl, f1⟩ := wd.open_word_arg (hval 1 24 v1 rfl rfl) h1 hsz 1 rfl rfl
  obtain ⟨x2, rfl, rfl, rfl, w2⟩ := open_int Try.underlying5 (hval 2 5 v2 rfl rfl) h2
  exact walk x0 x1 s1 l1 x2 A0 c0 _ W rfl i0 f1 (fitsU8 w2)

set_option maxRecDepth 100000 in
theorem over : Rows.wordPlacesRow.holds Try.pinned (OpenSpec.ofChange Rows.wordPlacesSpec) :=
  OpenClaim.holds_of_wide 7 Try.f7 rfl rfl rfl rfl rfl rfl rfl ⟨rfl, rfl, rfl, rfl, rfl⟩ rfl rfl rfl rfl rfl (by kernel_rfl) Try.func7 (by kernel_rfl)
    (of_decide_eq_true (by kernel_rfl)) (by unfold Func.isWrapper; first | (rw [if_pos (by decide +kernel)]; kernel_rfl) | (rw [if_neg (by decide +kernel)]; exact ⟨rfl, rfl⟩))
    (fun os started H enc _ => lifted os started H enc)

theorem proved : Rows.WordPlacesSaid := over
#print axioms proved
end Go.Proofs.Ytjjeabonoajcbaa.wordPlaces
