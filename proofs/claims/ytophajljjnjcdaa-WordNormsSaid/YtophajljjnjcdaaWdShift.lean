/- The program's Shift and Same. -/
import Derived.Test.YtophajljjnjcdaaWdNorm
namespace Go.Proofs.Ytophajljjnjcdaa.wd
open Go.ChangeShapes Go.WideShapes Go.ChangeAt Go.RowKit Go.Deep sr lt nf

set_option maxRecDepth 20000 in
set_option maxHeartbeats 4000000 in
theorem shift_any (x : WX) (st lp : List Int) (i : Int) (w : World) (hX : WdR w x st lp) (hi1 : -9223372036854775808 ≤ i) (hi2 : i ≤ 9223372036854775807) : Calls Try.prog 23 #[x.v, .int .i64 i] w (WordP w (shfF st lp i).1 (shfF st lp i).2) := by
  have HX := Lib.hid hX
  have b1 := hX.b1
  have b2 := hX.b2
  have hlp := hX.n2
  have hst := hX.n1
  have HCK := Lib.hid (fun W => check_any x W b1 b2)
  have HCP := Lib.hid (fun W (hW : Below w.heap.size w W) => copied_any x st lp W (hX.below hW))
  clear hX
  obtain ⟨A, n, c, B, m, d⟩ := x
  unfold WX.v at HCK HCP ⊢
  dsimp only at b1 b2 hlp hst HCK ⊢
  obtain ⟨w2, HW2, HB2, HS2, HC2⟩ := two_blocks w (.slice A n c) (.slice B m d)
  have HS : Hid (∀ W, Below w2.heap.size w2 W → W.cell? ⟨w.heap.size, 0, none⟩ = some (.slice A n c) ∧ W.cell? ⟨w.heap.size, 1, none⟩ = some (.slice B m d)) := Lib.hid (fun W hW => ⟨(HC2.out W hW).1, (HC2.out W hW).2.1⟩)
  obtain ⟨y1, y2⟩ := HS.out w2 (Below.refl _ _)
  by_cases hA : m = 0 ∨ i < 0
  · have e : shfF st lp i = (st, lp) := if_pos (by omega)
    rw [e]
    clear e
    by_cases h0 : m = 0
    · have hk : chkF m = 8 := if_pos h0
      rw [hk] at HCK
      clear hk h0
      clear hlp hst hA
      go_enter Try.func23, Try.ntmps23
      go_upto_region 1 with (fail)
      clear HW2
      go_wp2_with fail
      refine (HCK.out _).mono ?_
      rintro e3 w3 ⟨rfl, hb3⟩
      have HB3 := Lib.hid hb3
      obtain ⟨z1, z2⟩ := HS.out w3 HB3.out
      clear hb3 y1 y2
      go_wp2_with fail
      refine (HCP.out _ (HB2.out.trans (HB3.out.mono HB2.out.size))).mono ?_
      rintro e4 w4 ⟨X4, rfl, hx4, hb4, na4, nb4⟩
      have HX4 := Lib.hid hx4
      have HB4 : Hid (Below w2.heap.size w2 w4) := Lib.hid (HB3.out.trans (hb4.mono HB3.out.size))
      have NA4 : Hid (∀ a, X4.A = some a → w2.heap.size ≤ a.block) := Lib.hid (fun a ha => Nat.le_trans HB3.out.size (na4 a ha))
      have NB4 : Hid (∀ a, X4.B = some a → w2.heap.size ≤ a.block) := Lib.hid (fun a ha => Nat.le_trans HB3.out.size (nb4 a ha))
      clear hx4 hb4 z1 z2 na4 nb4
      obtain ⟨A4, n4, c4, B4, m4, d4⟩ := X4
      unfold WX.v
      dsimp only at NA4 NB4 ⊢
      obtain ⟨w5, HW5, e0, e1, ht5, d0, d1, f0, f1, d2, f2⟩ := put_word ((HC2.out _ HB4.out).2.2) (.slice A4 n4 c4) (.slice B4 m4 d4)
      have HT5 := Lib.hid ht5
      clear ht5
      go_wp2
      try rw [HW5]
      clear HW5 d0 d1 d2 f0 f1 f2
      (try simp only [Exit.inBlock, Exit.then])
      refine bodyPost_ret (v := .agg #[.slice A4 n4 c4, .slice B4 m4 d4]) ?_ rfl ?_
      · rw [results_cell rfl]; go_simp
      · exact word_end HB2.out HS2.out HB4.out HT5.out HX4.out NA4.out NB4.out
    · have hk : chkF m = 0 := if_neg h0
      rw [hk] at HCK
      have hi : i < 0 := by omega
      have hib : decide (i < 0) = true := decide_eq_true hi
      clear hk h0
      clear hlp hst hA
      go_enter Try.func23, Try.ntmps23
      go_upto_region 1 with (fail)
      clear HW2
      go_wp2_with fail
      refine (HCK.out _).mono ?_
      rintro e3 w3 ⟨rfl, hb3⟩
      have HB3 := Lib.hid hb3
      obtain ⟨z1, z2⟩ := HS.out w3 HB3.out
      clear hb3 y1 y2
      go_wp2_with fail
      refine (HCP.out _ (HB2.out.trans (HB3.out.mono HB2.out.size))).mono ?_
      rintro e4 w4 ⟨X4, rfl, hx4, hb4, na4, nb4⟩
      have HX4 := Lib.hid hx4
      have HB4 : Hid (Below w2.heap.size w2 w4) := Lib.hid (HB3.out.trans (hb4.mono HB3.out.size))
      have NA4 : Hid (∀ a, X4.A = some a → w2.heap.size ≤ a.block) := Lib.hid (fun a ha => Nat.le_trans HB3.out.size (na4 a ha))
      have NB4 : Hid (∀ a, X4.B = some a → w2.heap.size ≤ a.block) := Lib.hid (fun a ha => Nat.le_trans HB3.out.size (nb4 a ha))
      clear hx4 hb4 z1 z2 na4 nb4
      obtain ⟨A4, n4, c4, B4, m4, d4⟩ := X4
      unfold WX.v
      dsimp only at NA4 NB4 ⊢
      obtain ⟨w5, HW5, e0, e1, ht5, d0, d1, f0, f1, d2, f2⟩ := put_word ((HC2.out _ HB4.out).2.2) (.slice A4 n4 c4) (.slice B4 m4 d4)
      have HT5 := Lib.hid ht5
      clear ht5
      go_wp2
      try rw [HW5]
      clear HW5 d0 d1 d2 f0 f1 f2
      (try simp only [Exit.inBlock, Exit.then])
      refine bodyPost_ret (v := .agg #[.slice A4 n4 c4, .slice B4 m4 d4]) ?_ rfl ?_
      · rw [results_cell rfl]; go_simp
      · exact word_end HB2.out HS2.out HB4.out HT5.out HX4.out NA4.out NB4.out
  · have hk : chkF m = 0 := if_neg (by omega)
    rw [hk] at HCK
    obtain ⟨k, rfl⟩ : ∃ k : Nat, i = (k : Int) := ⟨i.toNat, by omega⟩
    have hm0 : 0 < m := by omega
    have hi : ¬ (k : Int) < 0 := by omega
    have hib : decide ((k : Int) < 0) = false := decide_eq_false hi
    clear hk hA
    by_cases hB : k ≤ n
    · have e : shfF st lp k = (st.drop k, lp) := by
        unfold shfF
        rw [if_neg (by omega), if_pos (by omega), Int.toNat_natCast]
      rw [e]
      dsimp only
      have hkn : ¬ (k : Int) > n := by omega
      obtain ⟨t, HT⟩ : ∃ t : Nat, Hid (n = k + t) := ⟨n - k, Lib.hid (by omega)⟩
      obtain ⟨A2, HA2, ET⟩ := tail_ru A k t c (by omega)
      rw [← HT.out] at ET
      have HU2 : Hid (∀ W, Below w2.heap.size w2 W → UA W A2 (st.drop k)) := Lib.hid (fun W hW => by
        rw [HA2]
        exact ua_tail (HX.out.r1.below (HB2.out.trans (hW.mono HB2.out.size))) (by have := HX.out.c1; dsimp only at this; omega))
      have HLD : Hid (t = (st.drop k).length) := Lib.hid (by rw [List.length_drop, ← hst]; have := HT.out; omega)
      have htb : t ≤ 1000 := by have := HT.out; omega
      have HK1 : Hid (∀ W, Below w2.heap.size w2 W → Calls Try.prog 37 #[.slice A2 t (c - k)] W (NewU W t (st.drop k))) := Lib.hid (fun W hW => clone_any A2 (c - k) t (st.drop k) W HLD.out (HU2.out W hW) (by omega))
      have HK2 : Hid (∀ W, Below w2.heap.size w2 W → Calls Try.prog 37 #[.slice B m d] W (NewU W m lp)) := Lib.hid (fun W hW => clone_any B d m lp W HX.out.n2 (HX.out.r2.below (HB2.out.trans (hW.mono HB2.out.size))) (by omega))
      clear hlp hst HA2 e hB
      go_enter Try.func23, Try.ntmps23
      go_upto_region 1 with (fail)
      clear HW2
      go_wp2_with fail
      refine (HCK.out _).mono ?_
      rintro e0 w9 ⟨rfl, hb9⟩
      have HB9 := Lib.hid hb9
      clear hb9 y1 y2
      go_wp2_with fail
      go_region_held3 (fun W => W.cell? ⟨w.heap.size, 0, none⟩ = some (.slice A n c) ∧ W.cell? ⟨w.heap.size, 1, none⟩ = some (.slice B m d))
        (first | exact HS.out _ HB9.out | exact HS.out _ HB9.out.drew | exact HS.out _ HB4.out | exact HS.out _ HB3.out | exact HS5.out | go_keep)
        (first
          | (have hk3 := HB3.out; go_at_call 37; refine (HK2.out _ (by exact HB3.out)).mono ?_; rintro e4 w4 ⟨hl4, A4, c4, rfl, hu4, hc4, hm4, hb4, hn4⟩; have HU4 := Lib.hid hu4; have HC4 := Lib.hid hc4; have HM4 := Lib.hid hm4; have HB4 : Hid (Below w2.heap.size w2 w4) := Lib.hid (HB3.out.trans (hb4.mono HB3.out.size)); have HN4 := Lib.hid hn4; have HU34 := Lib.hid (HU3.out.below hb4); have HSZ := Lib.hid HB3.out.size; clear hl4 hu4 hc4 hm4 hb4 hn4 hk3; obtain ⟨w5, HW5, e0, e1, ht5, d0, d1, f0, f1, d2, f2⟩ := put_word ((HC2.out _ HB4.out).2.2) (.slice A3 t c3) (.slice A4 m c4); have HT5 := Lib.hid ht5; clear ht5; have HS5 : Hid (w5.cell? ⟨w.heap.size, 0, none⟩ = some (.slice A n c) ∧ w5.cell? ⟨w.heap.size, 1, none⟩ = some (.slice B m d)) := Lib.hid ⟨(HT5.out.cell (p := ⟨w.heap.size, 0, none⟩) (by have := HB4.out.size; have := HS2.out; show w.heap.size < _; omega) (by show ¬ w.heap.size = w.heap.size + 1; omega)).trans (HS.out _ HB4.out).1, (HT5.out.cell (p := ⟨w.heap.size, 1, none⟩) (by have := HB4.out.size; have := HS2.out; show w.heap.size < _; omega) (by show ¬ w.heap.size = w.heap.size + 1; omega)).trans (HS.out _ HB4.out).2⟩)
          | (go_at_call 37; refine (HK1.out _ (by first | exact HB9.out.drew | exact HB9.out)).mono ?_; rintro e3 w3 ⟨hl3, A3, c3, rfl, hu3, hc3, hm3, hb3, hn3⟩; have HU3 := Lib.hid hu3; have HC3 := Lib.hid hc3; have HM3 := Lib.hid hm3; have HB3 : Hid (Below w2.heap.size w2 w3) := Lib.hid (by first | exact HB9.out.drew.trans (hb3.mono HB9.out.size) | exact HB9.out.trans (hb3.mono HB9.out.size)); have HN3 : Hid (∀ a, A3 = some a → w2.heap.size ≤ a.block) := Lib.hid (fun a ha => Nat.le_trans HB9.out.size (hn3 a ha)); clear hl3 hu3 hc3 hm3 hb3 hn3)
          | fail)
      all_goals
        try rw [HW5]
        clear HW5 d0 d1 d2 f0 f1 f2
        go_wp2
        (try simp only [Exit.inBlock, Exit.then])
        refine bodyPost_ret (v := .agg #[.slice A3 t c3, .slice A4 m c4]) ?_ rfl ?_
        · rw [results_cell rfl]; go_simp
        · exact word_end HB2.out HS2.out HB4.out HT5.out (NewU.word (w0 := w) (w1 := w) HLD.out HX.out.n2 HU34.out HU4.out HC3.out HC4.out HM3.out HM4.out htb b2 (u64_drop HX.out.u1 k) HX.out.u2) HN3.out (fun a ha => by have := HN4.out a ha; have := HSZ.out; omega)
    · have e : shfF st lp k = ([], fromF lp ((k : Int) - st.length)) := by
        unfold shfF
        rw [if_neg (by omega), if_neg (by omega)]
      rw [e, ← hst]
      dsimp only
      have hkn : (k : Int) > n := by omega
      have HFR : Hid (∀ W, Below w2.heap.size w2 W → Calls Try.prog 38 #[.slice B m d, .int .i64 ((k : Int) - n)] W (NewU W m (fromF lp ((k : Int) - n)))) := Lib.hid (fun W hW => from_any B m d lp _ W HX.out.n2 hm0 b2 HX.out.c2 (HX.out.r2.below (HB2.out.trans (hW.mono HB2.out.size))) (by omega) (by omega))
      clear hlp hst e hB
      go_enter Try.func23, Try.ntmps23
      go_upto_region 1 with (fail)
      clear HW2
      go_wp2_with fail
      refine (HCK.out _).mono ?_
      rintro e0 w9 ⟨rfl, hb9⟩
      have HB9 := Lib.hid hb9
      obtain ⟨z1, z2⟩ := HS.out w9 HB9.out
      clear hb9 y1 y2
      go_wp2_with fail
      refine (HFR.out _ HB9.out).mono ?_
      rintro e6 w6 ⟨hl6, A6, c6, rfl, hu6, hc6, hm6, hb6, hn6⟩
      have HL6 := Lib.hid hl6
      have HU6 := Lib.hid hu6
      have HC6 := Lib.hid hc6
      have HM6 := Lib.hid hm6
      have HN6 := Lib.hid hn6
      have HB6 : Hid (Below w2.heap.size w2 w6) := Lib.hid (HB9.out.trans (hb6.mono HB9.out.size))
      clear hl6 hu6 hc6 hm6 hb6 hn6 z1 z2
      obtain ⟨w7, HW7, e0, e1, ht7, d0, d1, f0, f1, d2, f2⟩ := put_word ((HC2.out _ HB6.out).2.2) (.slice none 0 0) (.slice A6 m c6)
      have HT7 := Lib.hid ht7
      clear ht7
      go_wp2
      try rw [HW7]
      clear HW7 d0 d1 d2 f0 f1 f2
      (try simp only [Exit.inBlock, Exit.then])
      refine bodyPost_ret (v := .agg #[.slice none 0 0, .slice A6 m c6]) ?_ rfl ?_
      · rw [results_cell rfl]; go_simp
      · exact word_end HB2.out HS2.out HB6.out HT7.out (NewU.word (w0 := w) (w1 := w) rfl HL6.out (fun h => absurd h (by simp)) HU6.out (Nat.le_refl _) HC6.out (by omega) HM6.out (by omega) b2 (fun i hi => absurd hi (by simp)) (u64_from HX.out.u2 _)) (fun a ha => by cases ha) (fun a ha => Nat.le_trans HB9.out.size (HN6.out a ha))
end Go.Proofs.Ytophajljjnjcdaa.wd
