/- The program's Norm. -/
import Derived.Test.YtophajljjnjcdaaWdPer
namespace Go.Proofs.Ytophajljjnjcdaa.wd
open Go.ChangeShapes Go.WideShapes Go.ChangeAt Go.RowKit Go.Deep sr lt nf

theorem rol_on {st lo : List Int} {ns k : Nat} (h : st.getD k 0 = patF lo ((k : Int) - ns)) : rolF st lo ns (k + 1) = rolF st lo ns k := by
  conv => lhs; unfold rolF
  rw [if_pos h]
theorem rol_stop {st lo : List Int} {ns k : Nat} (h : ¬ st.getD k 0 = patF lo ((k : Int) - ns)) : rolF st lo ns (k + 1) = k + 1 := by
  unfold rolF
  rw [if_neg h]
theorem u64_lo {lp : List Int} (h : U64 lp) : U64 (loF lp) := u64_take h _
set_option maxRecDepth 20000 in
set_option maxHeartbeats 4000000 in
theorem norm_any (x : WX) (st lp : List Int) (w : World) (hX : WdR w x st lp) : Calls Try.prog 20 #[x.v] w (WordP w (nrmF st lp).1 (nrmF st lp).2) := by
  have HX := Lib.hid hX
  have b1 := hX.b1
  have b2 := hX.b2
  have hlp := hX.n2
  have HCK := Lib.hid (fun W => check_any x W b1 b2)
  have HCP := Lib.hid (fun W (hW : Below w.heap.size w W) => copied_any x st lp W (hX.below hW))
  clear hX
  obtain ⟨A, n, c, B, m, d⟩ := x
  unfold WX.v at HCK HCP ⊢
  dsimp only at b1 b2 hlp HCK ⊢
  obtain ⟨w2, HW2, HB2, HS2, HC2⟩ := two_blocks w (.slice A n c) (.slice B m d)
  by_cases h0 : m = 0
  · have e : nrmF st lp = (st, lp) := if_pos (by omega)
    rw [e]
    have hk : chkF m = 8 := if_pos h0
    rw [hk] at HCK
    clear e hk h0 hlp
    obtain ⟨y1, y2, _⟩ := HC2.out w2 (Below.refl _ _)
    go_enter Try.func20, Try.ntmps20
    go_upto_region 1 with (fail)
    clear HW2
    go_wp2_with fail
    refine (HCK.out _).mono ?_
    rintro e3 w3 ⟨rfl, hb3⟩
    have HB3 := Lib.hid hb3
    obtain ⟨z1, z2, _⟩ := HC2.out w3 HB3.out
    clear hb3 y1 y2
    go_wp2_with fail
    refine (HCP.out _ (HB2.out.trans (HB3.out.mono HB2.out.size))).mono ?_
    rintro e4 w4 ⟨X4, rfl, hx4, hb4, na4, nb4⟩
    have HX4 := Lib.hid hx4
    have HB4 : Hid (Below w2.heap.size w2 w4) := Lib.hid (HB3.out.trans (hb4.mono HB3.out.size))
    have NA4 : Hid (∀ a, X4.A = some a → w2.heap.size ≤ a.block) := Lib.hid (fun a ha => Nat.le_trans HB3.out.size (na4 a ha))
    have NB4 : Hid (∀ a, X4.B = some a → w2.heap.size ≤ a.block) := Lib.hid (fun a ha => Nat.le_trans HB3.out.size (nb4 a ha))
    clear hx4 hb4 z1 z2 na4 nb4
    obtain ⟨A4, n4, c4, B4, m4, d4⟩ := X4
    unfold WX.v
    dsimp only at NA4 NB4 ⊢
    obtain ⟨w5, HW5, e0, e1, ht5, d0, d1, f0, f1, d2, f2⟩ := put_word ((HC2.out _ HB4.out).2.2) (.slice A4 n4 c4) (.slice B4 m4 d4)
    have HT5 := Lib.hid ht5
    clear ht5
    go_wp2
    try rw [HW5]
    clear HW5 d0 d1 d2 f0 f1 f2
    (try simp only [Exit.inBlock, Exit.then])
    refine bodyPost_ret (v := .agg #[.slice A4 n4 c4, .slice B4 m4 d4]) ?_ rfl ?_
    · rw [results_cell rfl]; go_simp
    · exact word_end HB2.out HS2.out HB4.out HT5.out HX4.out NA4.out NB4.out
  · have hk : chkF m = 0 := if_neg h0
    rw [hk] at HCK
    have hm0 : 0 < m := by omega
    have HLP := Lib.hid (perF_spec (l := lp) (by omega))
    obtain ⟨p, HPP⟩ : ∃ p, Hid (perF lp = p) := ⟨_, Lib.hid rfl⟩
    rw [HPP.out] at HLP
    obtain ⟨t, HT⟩ : ∃ t, Hid (m = p + t) := ⟨m - p, Lib.hid (by have := HLP.out.2.1; omega)⟩
    have HE : Hid (nrmF st lp = (st.take (nrS st lp), fromF (loF lp) ((nrS st lp : Int) - st.length))) := Lib.hid (if_neg (by omega))
    rw [HE.out]
    dsimp only
    have HNL := Lib.hid hlp
    have HN1 := Lib.hid HX.out.n1
    rw [← HN1.out]
    have EH := head_ru B p t d (by have := HX.out.c2; have := HT.out; dsimp only at *; omega)
    rw [← HT.out] at EH
    have hpm : p ≤ 1000 ∧ 0 < p ∧ p ≤ m := by have := HLP.out; omega
    have hp1 := hpm.1
    have hp2 := hpm.2.1
    have hp3 := hpm.2.2
    have HUL : Hid (∀ W, Below w.heap.size w W → UA W B (loF lp)) := Lib.hid (fun W hW => by
      have := ua_head (HX.out.r2.below hW) p
      unfold loF
      rw [HPP.out]
      exact this)
    have HLL : Hid ((loF lp).length = p) := Lib.hid (by rw [lo_len (by omega), HPP.out])
    have HPE : Hid (∀ W, Below w2.heap.size w2 W → Calls Try.prog 36 #[.slice B m d] W (ValP W (.int .i64 p))) := Lib.hid (fun W hW => by
      rw [← HPP.out]
      exact period_any B m d lp W HNL.out hm0 b2 HX.out.c2 (HX.out.r2.below (HB2.out.trans (hW.mono HB2.out.size))))
    have HS : Hid (∀ W, Below w2.heap.size w2 W → W.cell? ⟨w.heap.size, 0, none⟩ = some (.slice A n c) ∧ W.cell? ⟨w.heap.size, 1, none⟩ = some (.slice B m d)) := Lib.hid (fun W hW => ⟨(HC2.out W hW).1, (HC2.out W hW).2.1⟩)
    clear hk hlp hpm h0
    obtain ⟨y1, y2⟩ := HS.out w2 (Below.refl _ _)
    go_enter Try.func20, Try.ntmps20
    go_upto_region 1 with (fail)
    clear HW2
    go_wp2_with fail
    refine (HCK.out _).mono ?_
    rintro e3 w3 ⟨rfl, hb3⟩
    have HB3 := Lib.hid hb3
    obtain ⟨z1, z2⟩ := HS.out w3 HB3.out
    clear hb3 y1 y2
    go_wp2_with fail
    clear z1 z2
    go_region_held3 (fun W => W.cell? ⟨w.heap.size, 0, none⟩ = some (.slice A n c) ∧ W.cell? ⟨w.heap.size, 1, none⟩ = some (.slice B m d))
      (first | exact HS.out _ HB3.out | exact HS.out _ HB3.out.drew | exact HS.out _ HB4.out | go_keep)
      (first
        | (go_at_call 36; refine (HPE.out _ (by first | exact HB3.out.drew | exact HB3.out)).mono ?_; rintro e4 w4 ⟨rfl, hb4⟩; have HB4 : Hid (Below w2.heap.size w2 w4) := Lib.hid (by first | exact HB3.out.drew.trans (hb4.mono HB3.out.size) | exact HB3.out.trans (hb4.mono HB3.out.size)); clear hb4)
        | fail)
    all_goals
      obtain ⟨z1, z2⟩ := HS.out w4 HB4.out
      go_wp2
      clear z1 z2 EH
      go_loopw [4, 5] (fun sv tv wr => ∃ k : Nat, k ≤ n ∧ sv = .int .i64 k ∧ tv = .int .i64 ((k : Int) - n) ∧ Hid (nrS st lp = rolF st (loF lp) n k) ∧ Hid (∃ j, wr = w4.drewN j)) (fun sv _ _ => (intOf sv).toNat)
      case atStart => exact ⟨n, Nat.le_refl _, rfl, by simp, Lib.hid (by rw [nrS_def, ← HN1.out]), Lib.hid ⟨0, rfl⟩⟩
      case round =>
        obtain ⟨k, hkn, rfl, rfl, HR, HJ⟩ := hrel
        have HWR : Hid (Below w2.heap.size w2 wr ∧ wr.heap.size = w4.heap.size) := Lib.hid (by obtain ⟨j, hj⟩ := HJ.out; rw [hj]; exact ⟨below_drewN HB4.out _, rfl⟩)
        have HW0 : Hid (Below w.heap.size w wr) := Lib.hid (HB2.out.trans (HWR.out.1.mono HB2.out.size))
        obtain ⟨z1, z2⟩ := HS.out wr HWR.out.1
        by_cases hstop : k = 0 ∨ ∃ q, k = q + 1 ∧ ¬ st.getD q 0 = patF (loF lp) ((q : Int) - n)
        · have HNR : Hid (nrS st lp = k) := Lib.hid (by
            rw [HR.out]
            rcases hstop with h | ⟨q, h, h2⟩
            · rw [h]; rfl
            · rw [h]; exact rol_stop h2)
          obtain ⟨u, HU⟩ : ∃ u, Hid (n = k + u) := ⟨n - k, Lib.hid (by omega)⟩
          have HCL : Hid (∀ W, Below w2.heap.size w2 W → Calls Try.prog 37 #[.slice A k c] W (NewU W k (st.take k))) := Lib.hid (fun W hW => clone_any A c k (st.take k) W (by rw [List.length_take, ← HN1.out]; omega) (ua_head (HX.out.r1.below (HB2.out.trans (hW.mono HB2.out.size))) k) (by omega))
          have HFR : Hid (∀ W, Below w2.heap.size w2 W → Calls Try.prog 38 #[.slice B p d, .int .i64 ((k : Int) - n)] W (NewU W p (fromF (loF lp) ((k : Int) - n)))) := Lib.hid (fun W hW => from_any B p d (loF lp) _ W HLL.out.symm hp2 hp1 (by have := HX.out.c2; dsimp only at this; omega) (HUL.out W (HB2.out.trans (hW.mono HB2.out.size))) (by omega) (by omega))
          have EH2 := head_ru A k u c (by have := HX.out.c1; have := HU.out; dsimp only at *; omega)
          rw [← HU.out] at EH2
          by_cases hk0 : k = 0
          · have hk1 : ¬ (k : Int) > 0 := by omega
            have hk2 : decide ((k : Int) > 0) = false := decide_eq_false hk1
            have hk3 : decide (0 < k) = false := decide_eq_false (by omega)
            have hk4 : decide ((0 : Int) < (k : Int)) = false := decide_eq_false hk1
            clear hk0 hstop
            go_wp2
            go_quiet (fail)
            go_wp2_with fail
            generalize hw9 : wr.drewN _ = w9
            have HB9 : Hid (Below w2.heap.size w2 w9) := Lib.hid (by rw [← hw9]; exact below_drewN HWR.out.1 _)
            clear hw9 z1 z2
            obtain ⟨z1, z2⟩ := HS.out w9 HB9.out
            go_wp2_with fail
            refine (HCL.out _ HB9.out).mono ?_
            rintro e5 w5 ⟨hl5, A5, c5, rfl, hu5, hc5, hm5, hb5, hn5⟩
            have HL5 := Lib.hid hl5
            have HU5 := Lib.hid hu5
            have HC5 := Lib.hid hc5
            have HM5 := Lib.hid hm5
            have HN5 := Lib.hid hn5
            have HB5 := Lib.hid hb5
            have HBB5 : Hid (Below w2.heap.size w2 w5) := Lib.hid (HB9.out.trans (hb5.mono HB9.out.size))
            clear hl5 hu5 hc5 hm5 hb5 hn5 z1 z2
            go_wp2_with fail
            refine (HFR.out _ HBB5.out).mono ?_
            rintro e6 w6 ⟨hl6, A6, c6, rfl, hu6, hc6, hm6, hb6, hn6⟩
            have HL6 := Lib.hid hl6
            have HU6 := Lib.hid hu6
            have HC6 := Lib.hid hc6
            have HM6 := Lib.hid hm6
            have HN6 := Lib.hid hn6
            have HU56 := Lib.hid (HU5.out.below hb6)
            have HB6 : Hid (Below w2.heap.size w2 w6) := Lib.hid (HBB5.out.trans (hb6.mono HBB5.out.size))
            clear hl6 hu6 hc6 hm6 hb6 hn6
            obtain ⟨w7, HW7, e0, e1, ht7, d0, d1, f0, f1, d2, f2⟩ := put_word ((HC2.out _ HB6.out).2.2) (.slice A5 k c5) (.slice A6 p c6)
            have HT7 := Lib.hid ht7
            clear ht7
            go_wp2
            try rw [HW7]
            clear HW7 d0 d1 d2 f0 f1 f2
            (try simp only [Exit.inBlock, Exit.then])
            refine bodyPost_ret (v := .agg #[.slice A5 k c5, .slice A6 p c6]) ?_ rfl ?_
            · rw [results_cell rfl]; go_simp
            · rw [HNR.out]; exact word_end HB2.out HS2.out HB6.out HT7.out (NewU.word (w0 := w) (w1 := w) HL5.out HL6.out HU56.out HU6.out HC5.out HC6.out HM5.out HM6.out (by omega) hp1 (u64_take HX.out.u1 k) (u64_from (u64_lo HX.out.u2) _)) (fun a ha => Nat.le_trans HB9.out.size (HN5.out a ha)) (fun a ha => Nat.le_trans HBB5.out.size (HN6.out a ha))
          · obtain ⟨q, hq, hqe⟩ : ∃ q, k = q + 1 ∧ ¬ st.getD q 0 = patF (loF lp) ((q : Int) - n) := by
              rcases hstop with h | ⟨q, h1, h2⟩
              · exact absurd h hk0
              · exact ⟨q, h1, h2⟩
            have HQ := Lib.hid hqe
            have hkq : (k : Int) - 1 = (q : Int) := by omega
            have hqn : q < n := by omega
            have hkk : (k : Int) > 0 := by omega
            have hk1 : 0 < k := by omega
            have hk2 : decide ((k : Int) > 0) = true := decide_eq_true hkk
            have hk3 : decide (0 < k) = true := decide_eq_true hk1
            have hk4 : decide ((0 : Int) < (k : Int)) = true := decide_eq_true hkk
            clear hqe hstop hq hk0
            obtain ⟨zz, hzz, HZZ⟩ : ∃ zz : Int, (k : Int) - n - 1 = zz ∧ Hid (zz = (q : Int) - n) := ⟨_, rfl, Lib.hid (by omega)⟩
            have hzb : -1001 ≤ zz ∧ zz ≤ 1000 := by omega
            have hzb1 := hzb.1
            have hzb2 := hzb.2
            obtain ⟨f, HF⟩ : ∃ f : Nat, Hid (zz % (p : Int) = f) := ⟨(zz % (p : Int)).toNat, Lib.hid (by have := Int.emod_nonneg zz (show (p : Int) ≠ 0 by omega); omega)⟩
            have hfp : f < p := by have := Int.emod_lt_of_pos zz (show (0 : Int) < p by omega); have := HF.out; omega
            have HMD : Hid (∀ w, Calls Try.prog 29 #[.int .i64 zz, .int .i64 p] w fun e w' => e = .returned (.int .i64 f) ∧ w' = w) := Lib.hid (fun w => by
              refine (mod_any zz p w (by omega) (by omega) (by omega) (by omega)).mono ?_
              rintro e w' ⟨rfl, rfl⟩
              unfold modF
              rw [if_neg (by omega), HF.out]
              exact ⟨rfl, rfl⟩)
            obtain ⟨ab, ao, rfl, _, hca⟩ := ua_at (HX.out.r1.below HW0.out) (i := q) (by have := HN1.out; omega)
            obtain ⟨bb, bo, rfl, _, hcb⟩ := ua_at (HUL.out wr HW0.out) (i := f) (by rw [HLL.out]; exact hfp)
            have x1 := hca wr (Below.refl _ _)
            have x2 := hcb wr (Below.refl _ _)
            have hv : ¬ st.getD q 0 = (loF lp).getD f 0 := by
              have h9 := HQ.out
              rw [← HZZ.out] at h9
              unfold patF at h9
              rw [HLL.out, HF.out] at h9
              exact h9
            generalize st.getD q 0 = v at x1 hv
            generalize (loF lp).getD f 0 = v2 at x2 hv
            have hv2 : (v == v2) = false := by simpa using hv
            clear hca hcb hzb
            go_wp2
            go_quiet ((go_at_call 29; exact Calls.quiet_of_same (HMD.out _)))
            clear x1 x2
            go_wp2_with fail
            generalize hw9 : wr.drewN _ = w9
            have HB9 : Hid (Below w2.heap.size w2 w9) := Lib.hid (by rw [← hw9]; exact below_drewN HWR.out.1 _)
            clear hw9 z1 z2
            obtain ⟨z1, z2⟩ := HS.out w9 HB9.out
            go_wp2_with fail
            refine (HCL.out _ HB9.out).mono ?_
            rintro e5 w5 ⟨hl5, A5, c5, rfl, hu5, hc5, hm5, hb5, hn5⟩
            have HL5 := Lib.hid hl5
            have HU5 := Lib.hid hu5
            have HC5 := Lib.hid hc5
            have HM5 := Lib.hid hm5
            have HN5 := Lib.hid hn5
            have HB5 := Lib.hid hb5
            have HBB5 : Hid (Below w2.heap.size w2 w5) := Lib.hid (HB9.out.trans (hb5.mono HB9.out.size))
            clear hl5 hu5 hc5 hm5 hb5 hn5 z1 z2
            go_wp2_with fail
            refine (HFR.out _ HBB5.out).mono ?_
            rintro e6 w6 ⟨hl6, A6, c6, rfl, hu6, hc6, hm6, hb6, hn6⟩
            have HL6 := Lib.hid hl6
            have HU6 := Lib.hid hu6
            have HC6 := Lib.hid hc6
            have HM6 := Lib.hid hm6
            have HN6 := Lib.hid hn6
            have HU56 := Lib.hid (HU5.out.below hb6)
            have HB6 : Hid (Below w2.heap.size w2 w6) := Lib.hid (HBB5.out.trans (hb6.mono HBB5.out.size))
            clear hl6 hu6 hc6 hm6 hb6 hn6
            obtain ⟨w7, HW7, e0, e1, ht7, d0, d1, f0, f1, d2, f2⟩ := put_word ((HC2.out _ HB6.out).2.2) (.slice A5 k c5) (.slice A6 p c6)
            have HT7 := Lib.hid ht7
            clear ht7
            go_wp2
            try rw [HW7]
            clear HW7 d0 d1 d2 f0 f1 f2
            (try simp only [Exit.inBlock, Exit.then])
            refine bodyPost_ret (v := .agg #[.slice A5 k c5, .slice A6 p c6]) ?_ rfl ?_
            · rw [results_cell rfl]; go_simp
            · rw [HNR.out]; exact word_end HB2.out HS2.out HB6.out HT7.out (NewU.word (w0 := w) (w1 := w) HL5.out HL6.out HU56.out HU6.out HC5.out HC6.out HM5.out HM6.out (by omega) hp1 (u64_take HX.out.u1 k) (u64_from (u64_lo HX.out.u2) _)) (fun a ha => Nat.le_trans HB9.out.size (HN5.out a ha)) (fun a ha => Nat.le_trans HBB5.out.size (HN6.out a ha))
        · obtain ⟨q, hq, hqe⟩ : ∃ q, k = q + 1 ∧ st.getD q 0 = patF (loF lp) ((q : Int) - n) := by
            refine ⟨k - 1, by omega, ?_⟩
            refine Classical.byContradiction (fun h => hstop (.inr ⟨k - 1, by omega, h⟩))
          have HR2 : Hid (nrS st lp = rolF st (loF lp) n q) := Lib.hid (by rw [HR.out, hq]; exact rol_on hqe)
          have HQ := Lib.hid hqe
          have hkq : (k : Int) - 1 = (q : Int) := by omega
          have hqn : q < n := by omega
          have hk0 : (k : Int) > 0 := by omega
          have hk1 : 0 < k := by omega
          have hk2 : decide ((k : Int) > 0) = true := decide_eq_true hk0
          have hk3 : decide (0 < k) = true := decide_eq_true hk1
          have hk4 : decide ((0 : Int) < (k : Int)) = true := decide_eq_true hk0
          clear hqe hstop hq
          obtain ⟨zz, hzz, HZZ⟩ : ∃ zz : Int, (k : Int) - n - 1 = zz ∧ Hid (zz = (q : Int) - n) := ⟨_, rfl, Lib.hid (by omega)⟩
          have hzb : -1001 ≤ zz ∧ zz ≤ 1000 := by omega
          have hzb1 := hzb.1
          have hzb2 := hzb.2
          obtain ⟨f, HF⟩ : ∃ f : Nat, Hid (zz % (p : Int) = f) := ⟨(zz % (p : Int)).toNat, Lib.hid (by have := Int.emod_nonneg zz (show (p : Int) ≠ 0 by omega); omega)⟩
          have hfp : f < p := by have := Int.emod_lt_of_pos zz (show (0 : Int) < p by omega); have := HF.out; omega
          have HMD : Hid (∀ w, Calls Try.prog 29 #[.int .i64 zz, .int .i64 p] w fun e w' => e = .returned (.int .i64 f) ∧ w' = w) := Lib.hid (fun w => by
            refine (mod_any zz p w (by omega) (by omega) (by omega) (by omega)).mono ?_
            rintro e w' ⟨rfl, rfl⟩
            unfold modF
            rw [if_neg (by omega), HF.out]
            exact ⟨rfl, rfl⟩)
          obtain ⟨ab, ao, rfl, _, hca⟩ := ua_at (HX.out.r1.below HW0.out) (i := q) (by have := HN1.out; omega)
          obtain ⟨bb, bo, rfl, _, hcb⟩ := ua_at (HUL.out wr HW0.out) (i := f) (by rw [HLL.out]; exact hfp)
          have x1 := hca wr (Below.refl _ _)
          have x2 := hcb wr (Below.refl _ _)
          have HV : Hid ((loF lp).getD f 0 = st.getD q 0) := Lib.hid (by
            rw [HQ.out, ← HZZ.out]
            unfold patF
            rw [HLL.out, HF.out]
            rfl)
          rw [HV.out] at x2
          generalize st.getD q 0 = v at x1 x2
          clear hca hcb hzb
          go_wp2
          go_quiet ((go_at_call 29; exact Calls.quiet_of_same (HMD.out _)))
          go_wp2
          go_roundw
          case rel => exact ⟨q, by omega, by go_num, by rw [← HZZ.out], HR2, Lib.hid (by obtain ⟨j, hj⟩ := HJ.out; rw [hj]; exact ⟨_, World.drewN_drewN _ _ _⟩)⟩
          case measure => simp [intOf]; omega
end Go.Proofs.Ytophajljjnjcdaa.wd
