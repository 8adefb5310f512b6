/- The document's Shift. -/
import Derived.Test.YtophajljjnjcdaaWdDocM
namespace Go.Proofs.Ytophajljjnjcdaa.wd
open Go.ChangeShapes Go.WideShapes Go.ChangeAt Go.RowKit Go.Deep sr lt nf

set_option maxRecDepth 20000 in
set_option maxHeartbeats 4000000 in
theorem refShift_any (x : WX) (st lp : List Int) (z : Int) (w : World) (hX : WdR w x st lp) (hz1 : -9223372036854775808 ≤ z) (hz2 : z ≤ 9223372036854775807) : Calls Try.prog 24 #[x.v, .int .i64 z] w (WordQ w (shfF st lp z).1 (shfF st lp z).2) := by
  have HX := Lib.hid hX
  have b1 := hX.b1
  have b2 := hX.b2
  have hlp := hX.n2
  have HCK := Lib.hid (fun W => refCheck_any x W b1 b2)
  clear hX
  obtain ⟨A, n, c, B, m, d⟩ := x
  unfold WX.v at HCK ⊢
  dsimp only at b1 b2 hlp HCK ⊢
  obtain ⟨w2, HW2, HB2, HS2, HC2⟩ := two_blocks w (.slice A n c) (.slice B m d)
  by_cases h0 : m = 0
  · have e : shfF st lp z = (st, lp) := if_pos (.inl (by omega))
    rw [e]
    have hk : chkF m = 8 := if_pos h0
    rw [hk] at HCK
    subst h0
    clear e hk hlp
    obtain ⟨y1, y2, _⟩ := HC2.out w2 (Below.refl _ _)
    go_enter Try.func24, Try.ntmps24
    go_upto_region 1 with (fail)
    clear HW2
    go_wp2_with fail
    refine (HCK.out _).mono ?_
    rintro e3 w3 ⟨rfl, hb3⟩
    have HB3 := Lib.hid hb3
    obtain ⟨z1, z2, _⟩ := HC2.out w3 HB3.out
    clear hb3 y1 y2
    obtain ⟨w5, HW5, e0, e1, ht5, d0, d1, f0, f1, d2, f2⟩ := put_word ((HC2.out _ HB3.out).2.2) (.slice A n c) (.slice B 0 d)
    have HT5 := Lib.hid ht5
    clear ht5
    go_wp2
    try rw [HW5]
    clear HW5 d0 d1 d2 f0 f1 f2
    (try simp only [Exit.inBlock, Exit.then])
    refine bodyPost_ret (v := .agg #[.slice A n c, .slice B 0 d]) ?_ rfl ?_
    · rw [results_cell rfl]; go_simp
    · exact word_back HB2.out HS2.out HB3.out HT5.out HX.out
  · have hk : chkF m = 0 := if_neg h0
    rw [hk] at HCK
    have hm0 : 0 < m := by omega
    have HNL := Lib.hid hlp
    have HN1 := Lib.hid HX.out.n1
    dsimp only at HN1
    have HS : Hid (∀ W, Below w2.heap.size w2 W → W.cell? ⟨w.heap.size, 0, none⟩ = some (.slice A n c) ∧ W.cell? ⟨w.heap.size, 1, none⟩ = some (.slice B m d)) := Lib.hid (fun W hW => ⟨(HC2.out W hW).1, (HC2.out W hW).2.1⟩)
    have hwr9 : IntKind.i64.wrap ((n : Int) + (m : Int)) = (n : Int) + (m : Int) := by rw [IntWalk.i64_left]; unfold wrap64; omega
    clear hk h0
    obtain ⟨y1, y2⟩ := HS.out w2 (Below.refl _ _)
    by_cases hz0 : z < 0
    · have e : shfF st lp z = (st, lp) := if_pos (.inr hz0)
      rw [e]
      dsimp only
      clear e hlp
      go_enter Try.func24, Try.ntmps24
      go_upto_region 1 with (fail)
      clear HW2
      go_wp2_with fail
      refine (HCK.out _).mono ?_
      rintro e3 w9 ⟨rfl, hb3⟩
      have HB9 : Hid (Below w2.heap.size w2 w9) := Lib.hid hb3
      clear hb3 y1 y2
      obtain ⟨z1, z2⟩ := HS.out w9 HB9.out
      have HLQ : Hid (∀ W, Below w2.heap.size w2 W → Calls Try.prog 13 #[.agg #[.slice A n c, .slice B m d]] W (ValP W (.int .i64 ((n : Int) + (m : Int))))) := Lib.hid (fun W hW => by
        have h5 := refLen_any ⟨A, n, c, B, m, d⟩ W b1 b2
        dsimp only at h5
        rw [Int.natCast_add] at h5
        exact h5)
      have HP1 : Hid (∀ W, Below w2.heap.size w2 W → Calls Try.prog 41 #[.agg #[.slice A n c, .slice B m d], .int .i64 0, .int .i64 n] W (NewU W n (st))) := Lib.hid (fun W hW => by
        have h5 := refPart_any ⟨A, n, c, B, m, d⟩ st lp 0 n W (HX.out.below (HB2.out.trans (hW.mono HB2.out.size))) (by omega) (by omega)
        have e1 := part_stem (st := st) (lp := lp) (n := 0) (by rw [← HN1.out]; omega)
        rw [← HN1.out] at e1
        rw [e1, Nat.sub_zero, List.drop_zero] at h5
        exact h5)
      have HP2 : Hid (∀ W, Below w2.heap.size w2 W → Calls Try.prog 41 #[.agg #[.slice A n c, .slice B m d], .int .i64 n, .int .i64 ((n : Int) + (m : Int))] W (NewU W m lp)) := Lib.hid (fun W hW => by
        have h5 := refPart_any ⟨A, n, c, B, m, d⟩ st lp n (n + m) W (HX.out.below (HB2.out.trans (hW.mono HB2.out.size))) (Nat.le_add_right _ _) (by omega)
        have e1 := part_loop (st := st) (lp := lp) (by rw [← HNL.out]; exact hm0)
        rw [← HN1.out, ← HNL.out] at e1
        rw [Nat.add_sub_cancel_left, e1, Int.natCast_add] at h5
        exact h5)
      go_wp2_with fail
      clear z1 z2
      obtain ⟨z1, z2⟩ := HS.out w9 HB9.out
      go_region_held3 (fun W => W.cell? ⟨w.heap.size, 0, none⟩ = some (.slice A n c) ∧ W.cell? ⟨w.heap.size, 1, none⟩ = some (.slice B m d))
        (first | exact HS.out _ HB9.out | exact HS.out _ HB9.out.drew | exact HS.out _ HB5.out | exact HS.out _ HB8.out | exact HS.out _ HB6.out | exact HS7.out | go_keep)
        (first
          | (have hk5 := HB8.out; go_at_call 41; refine (HP2.out _ HB8.out).mono ?_; rintro e6 w6 ⟨hl6, A6, c6, rfl, hu6, hc6, hm6, hb6, hn6⟩; have HL6 := Lib.hid hl6; have HU6 := Lib.hid hu6; have HC6 := Lib.hid hc6; have HM6 := Lib.hid hm6; have HN6 : Hid (∀ a, A6 = some a → w2.heap.size ≤ a.block) := Lib.hid (fun a ha => Nat.le_trans HB8.out.size (hn6 a ha)); have HU56 := Lib.hid (HU58.out.below hb6); have HB6 : Hid (Below w2.heap.size w2 w6) := Lib.hid (HB8.out.trans (hb6.mono HB8.out.size)); clear hl6 hu6 hc6 hm6 hb6 hn6 hk5; obtain ⟨w7, HW7, e0, e1, ht7, d0, d1, f0, f1, d2, f2⟩ := put_word ((HC2.out _ HB6.out).2.2) (.slice A5 n c5) (.slice A6 m c6); have HT7 := Lib.hid ht7; clear ht7; have HS7 : Hid (w7.cell? ⟨w.heap.size, 0, none⟩ = some (.slice A n c) ∧ w7.cell? ⟨w.heap.size, 1, none⟩ = some (.slice B m d)) := Lib.hid ⟨(HT7.out.cell (p := ⟨w.heap.size, 0, none⟩) (by have := HB6.out.size; have := HS2.out; show w.heap.size < _; omega) (by show ¬ w.heap.size = w.heap.size + 1; omega)).trans (HS.out _ HB6.out).1, (HT7.out.cell (p := ⟨w.heap.size, 1, none⟩) (by have := HB6.out.size; have := HS2.out; show w.heap.size < _; omega) (by show ¬ w.heap.size = w.heap.size + 1; omega)).trans (HS.out _ HB6.out).2⟩)
          | (have hk5 := HB5.out; go_at_call 13; refine (HLQ.out _ HB5.out).mono ?_; rintro e8 w8 ⟨rfl, hb8⟩; have HB8 : Hid (Below w2.heap.size w2 w8) := Lib.hid (HB5.out.trans (hb8.mono HB5.out.size)); have HU58 := Lib.hid (HU5.out.below hb8); clear hb8 hk5)
          | (go_at_call 41; refine (HP1.out _ (by first | exact HB9.out.drew | exact HB9.out)).mono ?_; rintro e5 w5 ⟨hl5, A5, c5, rfl, hu5, hc5, hm5, hb5, hn5⟩; have HL5 := Lib.hid hl5; have HU5 := Lib.hid hu5; have HC5 := Lib.hid hc5; have HM5 := Lib.hid hm5; have HB5 : Hid (Below w2.heap.size w2 w5) := Lib.hid (by first | exact HB9.out.drew.trans (hb5.mono HB9.out.drew.size) | exact HB9.out.trans (hb5.mono HB9.out.size)); have HN5 : Hid (∀ a, A5 = some a → w2.heap.size ≤ a.block) := Lib.hid (fun a ha => Nat.le_trans (by first | exact HB9.out.size | exact HB9.out.drew.size) (hn5 a ha)); clear hl5 hu5 hc5 hm5 hb5 hn5)
          | fail)
      all_goals
        try rw [HW7]
        clear HW7 d0 d1 d2 f0 f1 f2
        go_wp2
        (try simp only [Exit.inBlock, Exit.then])
        refine bodyPost_ret (v := .agg #[.slice A5 n c5, .slice A6 m c6]) ?_ rfl ?_
        · rw [results_cell rfl]; go_simp
        · exact WordP.q (word_end HB2.out HS2.out HB6.out HT7.out (NewU.word (w0 := w) (w1 := w) HL5.out HL6.out HU56.out HU6.out HC5.out HC6.out HM5.out HM6.out (by omega) b2 (HX.out.u1) HX.out.u2) HN5.out HN6.out)
    · by_cases hzn : z ≤ n
      · obtain ⟨k, rfl⟩ : ∃ k : Nat, z = (k : Int) := ⟨z.toNat, by omega⟩
        have hkn : k ≤ n := by omega
        have e : shfF st lp (k : Int) = (st.drop k, lp) := by
          unfold shfF
          rw [if_neg (by omega), if_pos (by rw [← HN1.out]; exact hzn)]
          rfl
        rw [e]
        dsimp only
        clear e hlp
        go_enter Try.func24, Try.ntmps24
        go_upto_region 1 with (fail)
        clear HW2
        go_wp2_with fail
        refine (HCK.out _).mono ?_
        rintro e3 w9 ⟨rfl, hb3⟩
        have HB9 : Hid (Below w2.heap.size w2 w9) := Lib.hid hb3
        clear hb3 y1 y2
        obtain ⟨z1, z2⟩ := HS.out w9 HB9.out
        have HLQ : Hid (∀ W, Below w2.heap.size w2 W → Calls Try.prog 13 #[.agg #[.slice A n c, .slice B m d]] W (ValP W (.int .i64 ((n : Int) + (m : Int))))) := Lib.hid (fun W hW => by
          have h5 := refLen_any ⟨A, n, c, B, m, d⟩ W b1 b2
          dsimp only at h5
          rw [Int.natCast_add] at h5
          exact h5)
        have HP1 : Hid (∀ W, Below w2.heap.size w2 W → Calls Try.prog 41 #[.agg #[.slice A n c, .slice B m d], .int .i64 k, .int .i64 n] W (NewU W (n - k) (st.drop k))) := Lib.hid (fun W hW => by
          have h5 := refPart_any ⟨A, n, c, B, m, d⟩ st lp k n W (HX.out.below (HB2.out.trans (hW.mono HB2.out.size))) (by omega) (by omega)
          have e1 := part_stem (st := st) (lp := lp) (n := k) (by rw [← HN1.out]; omega)
          rw [← HN1.out] at e1
          rw [e1] at h5
          exact h5)
        have HP2 : Hid (∀ W, Below w2.heap.size w2 W → Calls Try.prog 41 #[.agg #[.slice A n c, .slice B m d], .int .i64 n, .int .i64 ((n : Int) + (m : Int))] W (NewU W m lp)) := Lib.hid (fun W hW => by
          have h5 := refPart_any ⟨A, n, c, B, m, d⟩ st lp n (n + m) W (HX.out.below (HB2.out.trans (hW.mono HB2.out.size))) (Nat.le_add_right _ _) (by omega)
          have e1 := part_loop (st := st) (lp := lp) (by rw [← HNL.out]; exact hm0)
          rw [← HN1.out, ← HNL.out] at e1
          rw [Nat.add_sub_cancel_left, e1, Int.natCast_add] at h5
          exact h5)
        go_wp2_with fail
        clear z1 z2
        obtain ⟨z1, z2⟩ := HS.out w9 HB9.out
        go_region_held3 (fun W => W.cell? ⟨w.heap.size, 0, none⟩ = some (.slice A n c) ∧ W.cell? ⟨w.heap.size, 1, none⟩ = some (.slice B m d))
          (first | exact HS.out _ HB9.out | exact HS.out _ HB9.out.drew | exact HS.out _ HB5.out | exact HS.out _ HB8.out | exact HS.out _ HB6.out | exact HS7.out | go_keep)
          (first
            | (have hk5 := HB8.out; go_at_call 41; refine (HP2.out _ HB8.out).mono ?_; rintro e6 w6 ⟨hl6, A6, c6, rfl, hu6, hc6, hm6, hb6, hn6⟩; have HL6 := Lib.hid hl6; have HU6 := Lib.hid hu6; have HC6 := Lib.hid hc6; have HM6 := Lib.hid hm6; have HN6 : Hid (∀ a, A6 = some a → w2.heap.size ≤ a.block) := Lib.hid (fun a ha => Nat.le_trans HB8.out.size (hn6 a ha)); have HU56 := Lib.hid (HU58.out.below hb6); have HB6 : Hid (Below w2.heap.size w2 w6) := Lib.hid (HB8.out.trans (hb6.mono HB8.out.size)); clear hl6 hu6 hc6 hm6 hb6 hn6 hk5; obtain ⟨w7, HW7, e0, e1, ht7, d0, d1, f0, f1, d2, f2⟩ := put_word ((HC2.out _ HB6.out).2.2) (.slice A5 (n - k) c5) (.slice A6 m c6); have HT7 := Lib.hid ht7; clear ht7; have HS7 : Hid (w7.cell? ⟨w.heap.size, 0, none⟩ = some (.slice A n c) ∧ w7.cell? ⟨w.heap.size, 1, none⟩ = some (.slice B m d)) := Lib.hid ⟨(HT7.out.cell (p := ⟨w.heap.size, 0, none⟩) (by have := HB6.out.size; have := HS2.out; show w.heap.size < _; omega) (by show ¬ w.heap.size = w.heap.size + 1; omega)).trans (HS.out _ HB6.out).1, (HT7.out.cell (p := ⟨w.heap.size, 1, none⟩) (by have := HB6.out.size; have := HS2.out; show w.heap.size < _; omega) (by show ¬ w.heap.size = w.heap.size + 1; omega)).trans (HS.out _ HB6.out).2⟩)
            | (have hk5 := HB5.out; go_at_call 13; refine (HLQ.out _ HB5.out).mono ?_; rintro e8 w8 ⟨rfl, hb8⟩; have HB8 : Hid (Below w2.heap.size w2 w8) := Lib.hid (HB5.out.trans (hb8.mono HB5.out.size)); have HU58 := Lib.hid (HU5.out.below hb8); clear hb8 hk5)
            | (go_at_call 41; refine (HP1.out _ (by first | exact HB9.out.drew | exact HB9.out)).mono ?_; rintro e5 w5 ⟨hl5, A5, c5, rfl, hu5, hc5, hm5, hb5, hn5⟩; have HL5 := Lib.hid hl5; have HU5 := Lib.hid hu5; have HC5 := Lib.hid hc5; have HM5 := Lib.hid hm5; have HB5 : Hid (Below w2.heap.size w2 w5) := Lib.hid (by first | exact HB9.out.drew.trans (hb5.mono HB9.out.drew.size) | exact HB9.out.trans (hb5.mono HB9.out.size)); have HN5 : Hid (∀ a, A5 = some a → w2.heap.size ≤ a.block) := Lib.hid (fun a ha => Nat.le_trans (by first | exact HB9.out.size | exact HB9.out.drew.size) (hn5 a ha)); clear hl5 hu5 hc5 hm5 hb5 hn5)
            | fail)
        all_goals
          try rw [HW7]
          clear HW7 d0 d1 d2 f0 f1 f2
          go_wp2
          (try simp only [Exit.inBlock, Exit.then])
          refine bodyPost_ret (v := .agg #[.slice A5 (n - k) c5, .slice A6 m c6]) ?_ rfl ?_
          · rw [results_cell rfl]; go_simp
          · exact WordP.q (word_end HB2.out HS2.out HB6.out HT7.out (NewU.word (w0 := w) (w1 := w) HL5.out HL6.out HU56.out HU6.out HC5.out HC6.out HM5.out HM6.out (by omega) b2 (u64_drop HX.out.u1 _) HX.out.u2) HN5.out HN6.out)
      · have e : shfF st lp z = ([], fromF lp (z - n)) := by
          unfold shfF
          rw [if_neg (by omega), if_neg (by rw [← HN1.out]; exact hzn), HN1.out]
        rw [e]
        dsimp only
        obtain ⟨D, hD⟩ : ∃ D : Nat, z - (n : Int) = (D : Int) := ⟨(z - n).toNat, by omega⟩
        obtain ⟨q, HQ⟩ : ∃ q : Nat, Hid (D % m = q) := ⟨_, Lib.hid rfl⟩
        have hqm : q < m := by rw [← HQ.out]; exact Nat.mod_lt _ hm0
        have hq1 : (D : Int).tmod (m : Int) = (q : Int) := by
          rw [Int.tmod_eq_emod_of_nonneg (by omega), ← HQ.out]
          rfl
        have hq2 : (z - (n : Int)).tmod (m : Int) = (q : Int) := by rw [hD]; exact hq1
        have hwr1 : IntKind.i64.wrap (D : Int) = (D : Int) := by rw [IntWalk.i64_left]; unfold wrap64; omega
        have hwr2 : IntKind.i64.wrap ((n : Int) + (q : Int)) = (n : Int) + (q : Int) := by rw [IntWalk.i64_left]; unfold wrap64; omega
        have hwr3 : IntKind.i64.wrap (z - (n : Int)) = (D : Int) := by rw [hD]; exact hwr1
        have hmz : ¬ (m : Int) = 0 := by omega
        have HP1 : Hid (∀ W, Below w2.heap.size w2 W → Calls Try.prog 41 #[.agg #[.slice A n c, .slice B m d], .int .i64 ((n : Int) + (q : Int)), .int .i64 ((n : Int) + (q : Int) + (m : Int))] W (NewU W m (fromF lp (z - n)))) := Lib.hid (fun W hW => by
          have h5 := refPart_any ⟨A, n, c, B, m, d⟩ st lp (n + q) (n + q + m) W (HX.out.below (HB2.out.trans (hW.mono HB2.out.size))) (Nat.le_add_right _ _) (by omega)
          have e1 := part_shift (st := st) (lp := lp) (by rw [← HNL.out]; exact hm0) (q := q) (z - n) (by rw [hD, ← HNL.out, ← HQ.out]; rfl)
          rw [← HN1.out, ← HNL.out] at e1
          rw [Nat.add_sub_cancel_left, e1, Int.natCast_add, Int.natCast_add] at h5
          exact h5)
        clear e hlp
        go_enter Try.func24, Try.ntmps24
        go_upto_region 1 with (fail)
        clear HW2
        go_wp2_with fail
        refine (HCK.out _).mono ?_
        rintro e3 w9 ⟨rfl, hb3⟩
        have HB9 : Hid (Below w2.heap.size w2 w9) := Lib.hid hb3
        clear hb3 y1 y2
        obtain ⟨z1, z2⟩ := HS.out w9 HB9.out
        go_wp2
        go_quiet (fail)
        generalize hw4 : w9.drewN _ = w4
        have HB4 : Hid (Below w2.heap.size w2 w4) := Lib.hid (by rw [← hw4]; exact below_drewN HB9.out _)
        clear hw4 z1 z2
        obtain ⟨z1, z2⟩ := HS.out w4 HB4.out
        go_wp2_with fail
        refine (HP1.out _ HB4.out).mono ?_
        rintro e6 w6 ⟨hl6, A6, c6, rfl, hu6, hc6, hm6, hb6, hn6⟩
        have HL6 := Lib.hid hl6
        have HU6 := Lib.hid hu6
        have HC6 := Lib.hid hc6
        have HM6 := Lib.hid hm6
        have HN6 : Hid (∀ a, A6 = some a → w2.heap.size ≤ a.block) := Lib.hid (fun a ha => Nat.le_trans HB4.out.size (hn6 a ha))
        have HB6 : Hid (Below w2.heap.size w2 w6) := Lib.hid (HB4.out.trans (hb6.mono HB4.out.size))
        clear hl6 hu6 hc6 hm6 hb6 hn6 z1 z2
        obtain ⟨w7, HW7, e0, e1, ht7, d0, d1, f0, f1, d2, f2⟩ := put_word ((HC2.out _ HB6.out).2.2) (.slice none 0 0) (.slice A6 m c6)
        have HT7 := Lib.hid ht7
        clear ht7
        go_wp2
        try rw [HW7]
        clear HW7 d0 d1 d2 f0 f1 f2
        (try simp only [Exit.inBlock, Exit.then])
        refine bodyPost_ret (v := .agg #[.slice none 0 0, .slice A6 m c6]) ?_ rfl ?_
        · rw [results_cell rfl]; go_simp
        · exact WordP.q (word_end HB2.out HS2.out HB6.out HT7.out (NewU.word (w0 := w) (w1 := w) (st := []) rfl HL6.out (fun h => absurd h (by simp)) HU6.out (Nat.le_refl _) HC6.out (by decide) HM6.out (by omega) b2 (fun i hi => absurd hi (by simp)) (u64_from HX.out.u2 _)) (fun a ha => by cases ha) HN6.out)
end Go.Proofs.Ytophajljjnjcdaa.wd
