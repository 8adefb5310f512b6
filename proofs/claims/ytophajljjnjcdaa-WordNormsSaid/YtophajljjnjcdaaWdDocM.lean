/- The document's Norm. -/
import Derived.Test.YtophajljjnjcdaaWdDocN
namespace Go.Proofs.Ytophajljjnjcdaa.wd
open Go.ChangeShapes Go.WideShapes Go.ChangeAt Go.RowKit Go.Deep sr lt nf

theorem part_take {st lp : List Int} {r : Nat} (h : r ≤ st.length) : partF st lp 0 r = st.take r := by
  refine ext_getD (by rw [part_len, List.length_take]; omega) (fun i hi => ?_)
  rw [part_len] at hi
  rw [part_get hi, Nat.zero_add, at_in (by omega)]
  simp [List.getD, List.getElem?_take, hi]
theorem part_stem {st lp : List Int} {n : Nat} (h : n ≤ st.length) : partF st lp n (st.length - n) = st.drop n := by
  refine ext_getD (by rw [part_len, List.length_drop]) (fun i hi => ?_)
  rw [part_len] at hi
  rw [part_get hi, at_in (by omega)]
  simp [List.getD]
theorem part_loop {st lp : List Int} (h0 : 0 < lp.length) : partF st lp st.length lp.length = lp := by
  refine ext_getD (by rw [part_len]) (fun i hi => ?_)
  rw [part_len] at hi
  rw [part_get hi, at_loop (by omega) h0, Nat.add_sub_cancel_left, Nat.mod_eq_of_lt hi]
theorem part_roll {st lp : List Int} (h0 : 0 < lp.length) : partF st lp (nrS st lp) (perF lp) = fromF (loF lp) ((nrS st lp : Int) - st.length) := by
  have hl := lo_len h0
  refine ext_getD (by rw [part_len, from_len, hl]) (fun i hi => ?_)
  rw [part_len] at hi
  rw [part_get hi, at_pat h0 (by omega), from_get (by omega)]
  congr 1
  omega
theorem part_shift {st lp : List Int} (h0 : 0 < lp.length) {q : Nat} (z : Int) (hz : z % (lp.length : Int) = (q : Int)) : partF st lp (st.length + q) lp.length = fromF lp z := by
  refine ext_getD (by rw [part_len, from_len]) (fun i hi => ?_)
  rw [part_len] at hi
  rw [part_get hi, at_loop (by omega) h0, from_get hi]
  unfold patF
  have e : (z + (i : Int)) % (lp.length : Int) = (((q + i) % lp.length : Nat) : Int) := by
    rw [← Int.emod_add_emod, hz, ← Int.natCast_add, ← Int.natCast_emod]
  rw [e, Int.toNat_natCast]
  congr 2
  omega
/-- What a call leaves that hands back a word, new or as it came in. -/
def WordQ (w : World) (st lp : List Int) (e : Ending) (w' : World) : Prop := ∃ X : WX, e = .returned X.v ∧ WdR w' X st lp ∧ Below w.heap.size w w'
theorem WordP.q {w w' : World} {st lp : List Int} {e : Ending} (h : WordP w st lp e w') : WordQ w st lp e w' := by
  obtain ⟨X, h1, h2, h3, _⟩ := h
  exact ⟨X, h1, h2, h3⟩
theorem word_back {w w2 W W5 : World} {st lp : List Int} {A B : Option Addr} {n c m d : Nat} (hB2 : Below w.heap.size w w2) (hS2 : w2.heap.size = w.heap.size + 2) (hW : Below w2.heap.size w2 W) (ht : Turn (· = w.heap.size + 1) W W5) (hX : WdR w ⟨A, n, c, B, m, d⟩ st lp) : WordQ w st lp (.returned (.agg #[.slice A n c, .slice B m d])) W5 := by
  have hb : Below w.heap.size w W5 := hB2.trans ((hW.mono hB2.size).trans ((ht.below (B := w.heap.size) (fun q hq => by omega) (by have := hW.size; omega)).mono (by have := hW.size; omega)))
  exact ⟨⟨A, n, c, B, m, d⟩, rfl, hX.below hb, hb⟩
set_option maxRecDepth 20000 in
set_option maxHeartbeats 4000000 in
theorem refNorm_new (x : WX) (st lp : List Int) (w : World) (hX : WdR w x st lp) (h0 : ¬ x.m = 0) : Calls Try.prog 22 #[x.v] w (WordP w (nrmF st lp).1 (nrmF st lp).2) := by
  have HX := Lib.hid hX
  have b1 := hX.b1
  have b2 := hX.b2
  have hlp := hX.n2
  have HCK := Lib.hid (fun W => refCheck_any x W b1 b2)
  clear hX
  obtain ⟨A, n, c, B, m, d⟩ := x
  unfold WX.v at HCK ⊢
  dsimp only at b1 b2 hlp HCK h0 ⊢
  obtain ⟨w2, HW2, HB2, HS2, HC2⟩ := two_blocks w (.slice A n c) (.slice B m d)
  · have hk : chkF m = 0 := if_neg h0
    rw [hk] at HCK
    have hm0 : 0 < m := by omega
    have HLP := Lib.hid (perF_spec (l := lp) (by omega))
    obtain ⟨p, HPP⟩ : ∃ p, Hid (perF lp = p) := ⟨_, Lib.hid rfl⟩
    rw [HPP.out] at HLP
    have HE : Hid (nrmF st lp = (st.take (nrS st lp), fromF (loF lp) ((nrS st lp : Int) - st.length))) := Lib.hid (if_neg (by omega))
    rw [HE.out]
    dsimp only
    have HNL := Lib.hid hlp
    have HN1 := Lib.hid HX.out.n1
    dsimp only at HN1
    rw [← HN1.out]
    have hpm : p ≤ 1000 ∧ 0 < p ∧ p ≤ m := by have := HLP.out; omega
    have hp1 := hpm.1
    have hp2 := hpm.2.1
    have HLL : Hid ((loF lp).length = p) := Lib.hid (by rw [lo_len (by omega), HPP.out])
    have HPE : Hid (∀ W, Below w2.heap.size w2 W → Calls Try.prog 40 #[.slice B m d] W (ValP W (.int .i64 p))) := Lib.hid (fun W hW => by
      rw [← HPP.out]
      exact refPeriod_any B m d lp W HNL.out hm0 b2 (HX.out.r2.below (HB2.out.trans (hW.mono HB2.out.size))))
    have HAT : Hid (∀ (z : Int) W, Below w2.heap.size w2 W → -2000 ≤ z → z ≤ 4000 → Calls Try.prog 15 #[.agg #[.slice A n c, .slice B m d], .int .i64 z] W (ValP W (.int .u64 (atF st lp z)))) := Lib.hid (fun z W hW h1 h2 => refAt_any ⟨A, n, c, B, m, d⟩ st lp z W (HX.out.below (HB2.out.trans (hW.mono HB2.out.size))) (by omega) (by omega))
    have HS : Hid (∀ W, Below w2.heap.size w2 W → W.cell? ⟨w.heap.size, 0, none⟩ = some (.slice A n c) ∧ W.cell? ⟨w.heap.size, 1, none⟩ = some (.slice B m d)) := Lib.hid (fun W hW => ⟨(HC2.out W hW).1, (HC2.out W hW).2.1⟩)
    clear hk hlp hpm h0
    obtain ⟨y1, y2⟩ := HS.out w2 (Below.refl _ _)
    go_enter Try.func22, Try.ntmps22
    go_upto_region 1 with (fail)
    clear HW2
    go_wp2_with fail
    refine (HCK.out _).mono ?_
    rintro e3 w3 ⟨rfl, hb3⟩
    have HB3 := Lib.hid hb3
    obtain ⟨z1, z2⟩ := HS.out w3 HB3.out
    clear hb3 y1 y2
    go_wp2_with fail
    clear z1 z2
    refine (HPE.out _ HB3.out).mono ?_
    rintro e4 w4 ⟨rfl, hb4⟩
    have HB4 : Hid (Below w2.heap.size w2 w4) := Lib.hid (HB3.out.trans (hb4.mono HB3.out.size))
    clear hb4
    obtain ⟨z1, z2⟩ := HS.out w4 HB4.out
    go_wp2
    clear z1 z2
    go_loopw [4] (fun sv wr => ∃ k : Nat, k ≤ n ∧ sv = .int .i64 k ∧ Hid (nrS st lp = rolF st (loF lp) n k) ∧ Hid (Below w2.heap.size w2 wr)) (fun sv _ => (intOf sv).toNat)
    case atStart => exact ⟨n, Nat.le_refl _, rfl, Lib.hid (by rw [nrS_def, ← HN1.out]), HB4⟩
    case round =>
      obtain ⟨k, hkn, rfl, HR, HWR⟩ := hrel
      obtain ⟨wo, rfl⟩ : ∃ wo, wo = wr := ⟨wr, rfl⟩
      obtain ⟨z1, z2⟩ := HS.out wo HWR.out
      by_cases hk0 : k = 0
      · have HNR : Hid (nrS st lp = k) := Lib.hid (by rw [HR.out, hk0]; rfl)
        have hk1 : ¬ (k : Int) > 0 := by omega
        have hk2 : decide ((k : Int) > 0) = false := decide_eq_false hk1
        have hk3 : decide (0 < k) = false := decide_eq_false (by omega)
        have hk4 : decide ((0 : Int) < (k : Int)) = false := decide_eq_false hk1
        clear hk0
        go_wp2
        go_quiet (fail)
        go_wp2_with fail
        generalize hw9 : wo.drewN _ = w9
        have HB9 : Hid (Below w2.heap.size w2 w9) := Lib.hid (by rw [← hw9]; exact below_drewN HWR.out _)
        clear hw9 hk1 hk2 hk3 hk4
        have HP1 : Hid (∀ W, Below w2.heap.size w2 W → Calls Try.prog 41 #[.agg #[.slice A n c, .slice B m d], .int .i64 0, .int .i64 k] W (NewU W k (st.take k))) := Lib.hid (fun W hW => by
          have h5 := refPart_any ⟨A, n, c, B, m, d⟩ st lp 0 k W (HX.out.below (HB2.out.trans (hW.mono HB2.out.size))) (Nat.zero_le _) (by omega)
          rw [Nat.sub_zero, part_take (by rw [← HN1.out]; exact hkn)] at h5
          exact h5)
        have HP2 : Hid (∀ W, Below w2.heap.size w2 W → Calls Try.prog 41 #[.agg #[.slice A n c, .slice B m d], .int .i64 k, .int .i64 ((k : Int) + (p : Int))] W (NewU W p (fromF (loF lp) ((k : Int) - n)))) := Lib.hid (fun W hW => by
          have h5 := refPart_any ⟨A, n, c, B, m, d⟩ st lp k (k + p) W (HX.out.below (HB2.out.trans (hW.mono HB2.out.size))) (Nat.le_add_right _ _) (by omega)
          have e1 := part_roll (st := st) (lp := lp) (by rw [← HNL.out]; exact hm0)
          rw [HNR.out, HPP.out, ← HN1.out] at e1
          rw [Nat.add_sub_cancel_left, e1, Int.natCast_add] at h5
          exact h5)
        have hkb : k ≤ 1000 := by omega
        have hwr9 : IntKind.i64.wrap ((k : Int) + (p : Int)) = (k : Int) + (p : Int) := by rw [IntWalk.i64_left]; unfold wrap64; omega
        go_wp2_with fail
        clear z1 z2
        obtain ⟨z1, z2⟩ := HS.out w9 HB9.out
        go_region_held3 (fun W => W.cell? ⟨w.heap.size, 0, none⟩ = some (.slice A n c) ∧ W.cell? ⟨w.heap.size, 1, none⟩ = some (.slice B m d))
          (first | exact HS.out _ HB9.out | exact HS.out _ HB9.out.drew | exact HS.out _ HB5.out | exact HS.out _ HB6.out | exact HS7.out | go_keep)
          (first
            | (have hk5 := HB5.out; go_at_call 41; refine (HP2.out _ HB5.out).mono ?_; rintro e6 w6 ⟨hl6, A6, c6, rfl, hu6, hc6, hm6, hb6, hn6⟩; have HL6 := Lib.hid hl6; have HU6 := Lib.hid hu6; have HC6 := Lib.hid hc6; have HM6 := Lib.hid hm6; have HN6 : Hid (∀ a, A6 = some a → w2.heap.size ≤ a.block) := Lib.hid (fun a ha => Nat.le_trans HB5.out.size (hn6 a ha)); have HU56 := Lib.hid (HU5.out.below hb6); have HB6 : Hid (Below w2.heap.size w2 w6) := Lib.hid (HB5.out.trans (hb6.mono HB5.out.size)); clear hl6 hu6 hc6 hm6 hb6 hn6 hk5; obtain ⟨w7, HW7, e0, e1, ht7, d0, d1, f0, f1, d2, f2⟩ := put_word ((HC2.out _ HB6.out).2.2) (.slice A5 k c5) (.slice A6 p c6); have HT7 := Lib.hid ht7; clear ht7; have HS7 : Hid (w7.cell? ⟨w.heap.size, 0, none⟩ = some (.slice A n c) ∧ w7.cell? ⟨w.heap.size, 1, none⟩ = some (.slice B m d)) := Lib.hid ⟨(HT7.out.cell (p := ⟨w.heap.size, 0, none⟩) (by have := HB6.out.size; have := HS2.out; show w.heap.size < _; omega) (by show ¬ w.heap.size = w.heap.size + 1; omega)).trans (HS.out _ HB6.out).1, (HT7.out.cell (p := ⟨w.heap.size, 1, none⟩) (by have := HB6.out.size; have := HS2.out; show w.heap.size < _; omega) (by show ¬ w.heap.size = w.heap.size + 1; omega)).trans (HS.out _ HB6.out).2⟩)
            | (go_at_call 41; refine (HP1.out _ (by first | exact HB9.out.drew | exact HB9.out)).mono ?_; rintro e5 w5 ⟨hl5, A5, c5, rfl, hu5, hc5, hm5, hb5, hn5⟩; have HL5 := Lib.hid hl5; have HU5 := Lib.hid hu5; have HC5 := Lib.hid hc5; have HM5 := Lib.hid hm5; have HB5 : Hid (Below w2.heap.size w2 w5) := Lib.hid (by first | exact HB9.out.drew.trans (hb5.mono HB9.out.drew.size) | exact HB9.out.trans (hb5.mono HB9.out.size)); have HN5 : Hid (∀ a, A5 = some a → w2.heap.size ≤ a.block) := Lib.hid (fun a ha => Nat.le_trans (by first | exact HB9.out.size | exact HB9.out.drew.size) (hn5 a ha)); clear hl5 hu5 hc5 hm5 hb5 hn5)
            | fail)
        all_goals
          try rw [HW7]
          clear HW7 d0 d1 d2 f0 f1 f2
          go_wp2
          (try simp only [Exit.inBlock, Exit.then])
          refine bodyPost_ret (v := .agg #[.slice A5 k c5, .slice A6 p c6]) ?_ rfl ?_
          · rw [results_cell rfl]; go_simp
          · rw [HNR.out]; exact (word_end HB2.out HS2.out HB6.out HT7.out (NewU.word (w0 := w) (w1 := w) HL5.out HL6.out HU56.out HU6.out HC5.out HC6.out HM5.out HM6.out (by omega) hp1 (u64_take HX.out.u1 k) (u64_from (u64_lo HX.out.u2) _)) HN5.out HN6.out)
      · obtain ⟨q, hq⟩ : ∃ q, k = q + 1 := ⟨k - 1, by omega⟩
        have HKQ := Lib.hid hq
        have hkq : (k : Int) - 1 = (q : Int) := by omega
        have hqn : q < n := by omega
        have hq1000 : q ≤ 1000 := by omega
        have hkk : (k : Int) > 0 := by omega
        have hk1 : 0 < k := by omega
        have hk2 : decide ((k : Int) > 0) = true := decide_eq_true hkk
        have hk3 : decide (0 < k) = true := decide_eq_true hk1
        have hk4 : decide ((0 : Int) < (k : Int)) = true := decide_eq_true hkk
        have hwr1 : IntKind.i64.wrap (q : Int) = (q : Int) := by rw [IntWalk.i64_left]; unfold wrap64; omega
        have hwr2 : IntKind.i64.wrap ((q : Int) + (p : Int)) = (q : Int) + (p : Int) := by rw [IntWalk.i64_left]; unfold wrap64; omega
        clear hk0 hq
        have HA1 : Hid (atF st lp (q : Int) = st.getD q 0) := Lib.hid (at_in (by rw [← HN1.out]; exact hqn))
        have HA2 : Hid (atF st lp ((q : Int) + (p : Int)) = patF (loF lp) ((q : Int) - n)) := Lib.hid (by
          have hle : nrS st lp ≤ k := by rw [HR.out]; exact (rol_spec st (loF lp) n k).1
          rw [← Int.natCast_add, at_pat (by rw [← HNL.out]; exact hm0) (by have := HKQ.out; omega), ← HN1.out]
          have h5 := pat_per (loF lp) ((q : Int) - n) 1
          rw [HLL.out] at h5
          rw [← h5]
          congr 1
          omega)
        have HC1 := Lib.hid (fun W (hW : Below w2.heap.size w2 W) => HAT.out (q : Int) W hW (by omega) (by omega))
        have HC3 := Lib.hid (fun W (hW : Below w2.heap.size w2 W) => HAT.out ((q : Int) + (p : Int)) W hW (by omega) (by omega))
        rw [HA1.out] at HC1
        rw [HA2.out] at HC3
        obtain ⟨u1, HU1⟩ : ∃ u, Hid (st.getD q 0 = u) := ⟨_, Lib.hid rfl⟩
        obtain ⟨u2, HU2⟩ : ∃ u, Hid (patF (loF lp) ((q : Int) - n) = u) := ⟨_, Lib.hid rfl⟩
        rw [HU1.out] at HC1
        rw [HU2.out] at HC3
        by_cases hu : u1 = u2
        · have HR2 : Hid (nrS st lp = rolF st (loF lp) n q) := Lib.hid (by rw [HR.out, HKQ.out]; exact rol_on (by rw [HU1.out, HU2.out]; exact hu))
          subst hu
          go_wp2_with fail
          clear z1 z2
          obtain ⟨z1, z2⟩ := HS.out wo HWR.out
          go_region_held3 (fun W => W.cell? ⟨w.heap.size, 0, none⟩ = some (.slice A n c) ∧ W.cell? ⟨w.heap.size, 1, none⟩ = some (.slice B m d))
            (first | exact HS.out _ HWR.out | exact HS.out _ HWR.out.drew | exact HS.out _ HB5.out | exact HS.out _ HB6.out | go_keep)
            (first
              | (go_at_call 15; refine (HC3.out _ HB5.out).mono ?_; rintro e6 w6 ⟨rfl, hb6⟩; have HB6 : Hid (Below w2.heap.size w2 w6) := Lib.hid (HB5.out.trans (hb6.mono HB5.out.size)); clear hb6)
              | (go_at_call 15; refine (HC1.out _ (by first | exact HWR.out.drew | exact HWR.out)).mono ?_; rintro e5 w5 ⟨rfl, hb5⟩; have HB5 : Hid (Below w2.heap.size w2 w5) := Lib.hid (by first | exact HWR.out.drew.trans (hb5.mono HWR.out.drew.size) | exact HWR.out.trans (hb5.mono HWR.out.size)); clear hb5)
              | fail)
          all_goals
            go_wp2
            go_roundw
            case rel => exact ⟨q, by omega, by go_num, HR2, HB6⟩
            case measure => simp [intOf]; omega
        · have hub : (u1 == u2) = false := by simpa using hu
          have HNR : Hid (nrS st lp = k) := Lib.hid (by rw [HR.out, HKQ.out]; exact rol_stop (by rw [HU1.out, HU2.out]; exact hu))
          go_wp2_with fail
          clear z1 z2
          obtain ⟨z1, z2⟩ := HS.out wo HWR.out
          go_region_held3 (fun W => W.cell? ⟨w.heap.size, 0, none⟩ = some (.slice A n c) ∧ W.cell? ⟨w.heap.size, 1, none⟩ = some (.slice B m d))
            (first | exact HS.out _ HWR.out | exact HS.out _ HWR.out.drew | exact HS.out _ HB5.out | exact HS.out _ HB6.out | go_keep)
            (first
              | (go_at_call 15; refine (HC3.out _ HB5.out).mono ?_; rintro e6 w6 ⟨rfl, hb6⟩; have HB6 : Hid (Below w2.heap.size w2 w6) := Lib.hid (HB5.out.trans (hb6.mono HB5.out.size)); clear hb6)
              | (go_at_call 15; refine (HC1.out _ (by first | exact HWR.out.drew | exact HWR.out)).mono ?_; rintro e5 w5 ⟨rfl, hb5⟩; have HB5 : Hid (Below w2.heap.size w2 w5) := Lib.hid (by first | exact HWR.out.drew.trans (hb5.mono HWR.out.drew.size) | exact HWR.out.trans (hb5.mono HWR.out.size)); clear hb5)
              | fail)
          all_goals
            obtain ⟨w9, hw9⟩ : ∃ w9, w6 = w9 := ⟨_, rfl⟩
            subst hw9
            have HB9 := HB6
            clear HB6 HB5 z1 z2 hk2 hk3 hk4 hub
            obtain ⟨z1, z2⟩ := HS.out w6 HB9.out
            have HP1 : Hid (∀ W, Below w2.heap.size w2 W → Calls Try.prog 41 #[.agg #[.slice A n c, .slice B m d], .int .i64 0, .int .i64 k] W (NewU W k (st.take k))) := Lib.hid (fun W hW => by
              have h5 := refPart_any ⟨A, n, c, B, m, d⟩ st lp 0 k W (HX.out.below (HB2.out.trans (hW.mono HB2.out.size))) (Nat.zero_le _) (by omega)
              rw [Nat.sub_zero, part_take (by rw [← HN1.out]; exact hkn)] at h5
              exact h5)
            have HP2 : Hid (∀ W, Below w2.heap.size w2 W → Calls Try.prog 41 #[.agg #[.slice A n c, .slice B m d], .int .i64 k, .int .i64 ((k : Int) + (p : Int))] W (NewU W p (fromF (loF lp) ((k : Int) - n)))) := Lib.hid (fun W hW => by
              have h5 := refPart_any ⟨A, n, c, B, m, d⟩ st lp k (k + p) W (HX.out.below (HB2.out.trans (hW.mono HB2.out.size))) (Nat.le_add_right _ _) (by omega)
              have e1 := part_roll (st := st) (lp := lp) (by rw [← HNL.out]; exact hm0)
              rw [HNR.out, HPP.out, ← HN1.out] at e1
              rw [Nat.add_sub_cancel_left, e1, Int.natCast_add] at h5
              exact h5)
            have hkb : k ≤ 1000 := by omega
            have hwr9 : IntKind.i64.wrap ((k : Int) + (p : Int)) = (k : Int) + (p : Int) := by rw [IntWalk.i64_left]; unfold wrap64; omega
            go_wp2_with fail
            clear z1 z2
            obtain ⟨z1, z2⟩ := HS.out w6 HB9.out
            go_region_held3 (fun W => W.cell? ⟨w.heap.size, 0, none⟩ = some (.slice A n c) ∧ W.cell? ⟨w.heap.size, 1, none⟩ = some (.slice B m d))
              (first | exact HS.out _ HB9.out | exact HS.out _ HB9.out.drew | exact HS.out _ HB5.out | exact HS.out _ HB6.out | exact HS7.out | go_keep)
              (first
                | (have hk5 := HB5.out; go_at_call 41; refine (HP2.out _ HB5.out).mono ?_; rintro e6 w6 ⟨hl6, A6, c6, rfl, hu6, hc6, hm6, hb6, hn6⟩; have HL6 := Lib.hid hl6; have HU6 := Lib.hid hu6; have HC6 := Lib.hid hc6; have HM6 := Lib.hid hm6; have HN6 : Hid (∀ a, A6 = some a → w2.heap.size ≤ a.block) := Lib.hid (fun a ha => Nat.le_trans HB5.out.size (hn6 a ha)); have HU56 := Lib.hid (HU5.out.below hb6); have HB6 : Hid (Below w2.heap.size w2 w6) := Lib.hid (HB5.out.trans (hb6.mono HB5.out.size)); clear hl6 hu6 hc6 hm6 hb6 hn6 hk5; obtain ⟨w7, HW7, e0, e1, ht7, d0, d1, f0, f1, d2, f2⟩ := put_word ((HC2.out _ HB6.out).2.2) (.slice A5 k c5) (.slice A6 p c6); have HT7 := Lib.hid ht7; clear ht7; have HS7 : Hid (w7.cell? ⟨w.heap.size, 0, none⟩ = some (.slice A n c) ∧ w7.cell? ⟨w.heap.size, 1, none⟩ = some (.slice B m d)) := Lib.hid ⟨(HT7.out.cell (p := ⟨w.heap.size, 0, none⟩) (by have := HB6.out.size; have := HS2.out; show w.heap.size < _; omega) (by show ¬ w.heap.size = w.heap.size + 1; omega)).trans (HS.out _ HB6.out).1, (HT7.out.cell (p := ⟨w.heap.size, 1, none⟩) (by have := HB6.out.size; have := HS2.out; show w.heap.size < _; omega) (by show ¬ w.heap.size = w.heap.size + 1; omega)).trans (HS.out _ HB6.out).2⟩)
                | (go_at_call 41; refine (HP1.out _ (by first | exact HB9.out.drew | exact HB9.out)).mono ?_; rintro e5 w5 ⟨hl5, A5, c5, rfl, hu5, hc5, hm5, hb5, hn5⟩; have HL5 := Lib.hid hl5; have HU5 := Lib.hid hu5; have HC5 := Lib.hid hc5; have HM5 := Lib.hid hm5; have HB5 : Hid (Below w2.heap.size w2 w5) := Lib.hid (by first | exact HB9.out.drew.trans (hb5.mono HB9.out.drew.size) | exact HB9.out.trans (hb5.mono HB9.out.size)); have HN5 : Hid (∀ a, A5 = some a → w2.heap.size ≤ a.block) := Lib.hid (fun a ha => Nat.le_trans (by first | exact HB9.out.size | exact HB9.out.drew.size) (hn5 a ha)); clear hl5 hu5 hc5 hm5 hb5 hn5)
                | fail)
            all_goals
              try rw [HW7]
              clear HW7 d0 d1 d2 f0 f1 f2
              go_wp2
              (try simp only [Exit.inBlock, Exit.then])
              refine bodyPost_ret (v := .agg #[.slice A5 k c5, .slice A6 p c6]) ?_ rfl ?_
              · rw [results_cell rfl]; go_simp
              · rw [HNR.out]; exact (word_end HB2.out HS2.out HB6.out HT7.out (NewU.word (w0 := w) (w1 := w) HL5.out HL6.out HU56.out HU6.out HC5.out HC6.out HM5.out HM6.out (by omega) hp1 (u64_take HX.out.u1 k) (u64_from (u64_lo HX.out.u2) _)) HN5.out HN6.out)
set_option maxRecDepth 20000 in
set_option maxHeartbeats 4000000 in
theorem refNorm_any (x : WX) (st lp : List Int) (w : World) (hX : WdR w x st lp) : Calls Try.prog 22 #[x.v] w (WordQ w (nrmF st lp).1 (nrmF st lp).2) := by
  have HX := Lib.hid hX
  have b1 := hX.b1
  have b2 := hX.b2
  have hlp := hX.n2
  by_cases hx0 : ¬ x.m = 0
  · exact (refNorm_new x st lp w hX hx0).mono (fun _ _ h => h.q)
  have hx0 : x.m = 0 := by omega
  have HCK := Lib.hid (fun W => refCheck_any x W b1 b2)
  clear hX
  obtain ⟨A, n, c, B, m, d⟩ := x
  unfold WX.v at HCK ⊢
  dsimp only at b1 b2 hlp HCK hx0 ⊢
  obtain ⟨w2, HW2, HB2, HS2, HC2⟩ := two_blocks w (.slice A n c) (.slice B m d)
  have h0 : m = 0 := hx0
  · have e : nrmF st lp = (st, lp) := if_pos (by omega)
    rw [e]
    have hk : chkF m = 8 := if_pos h0
    rw [hk] at HCK
    clear hx0
    subst h0
    clear e hk hlp
    obtain ⟨y1, y2, _⟩ := HC2.out w2 (Below.refl _ _)
    go_enter Try.func22, Try.ntmps22
    go_upto_region 1 with (fail)
    clear HW2
    go_wp2_with fail
    refine (HCK.out _).mono ?_
    rintro e3 w3 ⟨rfl, hb3⟩
    have HB3 := Lib.hid hb3
    obtain ⟨z1, z2, _⟩ := HC2.out w3 HB3.out
    clear hb3 y1 y2
    obtain ⟨w5, HW5, e0, e1, ht5, d0, d1, f0, f1, d2, f2⟩ := put_word ((HC2.out _ HB3.out).2.2) (.slice A n c) (.slice B 0 d)
    have HT5 := Lib.hid ht5
    clear ht5
    go_wp2
    try rw [HW5]
    clear HW5 d0 d1 d2 f0 f1 f2
    (try simp only [Exit.inBlock, Exit.then])
    refine bodyPost_ret (v := .agg #[.slice A n c, .slice B 0 d]) ?_ rfl ?_
    · rw [results_cell rfl]; go_simp
    · exact word_back HB2.out HS2.out HB3.out HT5.out HX.out
end Go.Proofs.Ytophajljjnjcdaa.wd
