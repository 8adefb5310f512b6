/- The program's Same. -/
import Derived.Test.YtophajljjnjcdaaWdShift
import Derived.Deep.RegionLaw
namespace Go.Proofs.Ytophajljjnjcdaa.wd
open Go.ChangeShapes Go.WideShapes Go.ChangeAt Go.RowKit Go.Deep sr lt nf

def pairV (v0 v1 : Value) (j : Nat) : Value := if j = 0 then v0 else v1
/-- Two words in their boxes. -/
theorem two_boxes (w : World) (v0 v1 u0 u1 : Value) : ∃ w2, (w.alloc (.cells #[v0, v1] 24)).alloc (.cells #[u0, u1] 24) = w2 ∧ Hid (Below w.heap.size w w2) ∧ Hid (w2.heap.size = w.heap.size + 2) ∧
    Hid (∀ W, Below w2.heap.size w2 W → W.rowIs w.heap.size 24 2 (pairV v0 v1) ∧ W.rowIs (w.heap.size + 1) 24 2 (pairV u0 u1)) := by
  obtain ⟨a1, ha1⟩ : ∃ a1, w.alloc (.cells #[v0, v1] 24) = a1 := ⟨_, rfl⟩
  obtain ⟨a2, ha2⟩ : ∃ a2, a1.alloc (.cells #[u0, u1] 24) = a2 := ⟨_, rfl⟩
  have z1 : a1.heap.size = w.heap.size + 1 := by rw [← ha1]; simp
  have z2 : a2.heap.size = w.heap.size + 2 := by rw [← ha2]; simp [z1]
  have b1 : Below w.heap.size w a1 := by rw [← ha1]; exact below_one _ _
  have b2 : Below a1.heap.size a1 a2 := by rw [← ha2]; exact below_one _ _
  have r1 : a1.rowIs w.heap.size 24 2 (pairV v0 v1) := by
    rw [← ha1]
    exact World.rowIs_alloc w #[v0, v1] _ _ (fun i hi => by
      have : i = 0 ∨ i = 1 := by simp at hi; omega
      rcases this with rfl | rfl <;> rfl)
  have r2 : a2.rowIs (w.heap.size + 1) 24 2 (pairV u0 u1) := by
    rw [← z1, ← ha2]
    exact World.rowIs_alloc a1 #[u0, u1] _ _ (fun i hi => by
      have : i = 0 ∨ i = 1 := by simp at hi; omega
      rcases this with rfl | rfl <;> rfl)
  refine ⟨a2, by rw [ha1, ha2], Lib.hid (b1.trans (b2.mono (by omega))), Lib.hid z2, Lib.hid (fun W hW => ⟨?_, r2.of_block (hW.block _ r2.lt)⟩)⟩
  have k1 : Below a1.heap.size a1 W := b2.trans (hW.mono (by omega))
  exact r1.of_block (k1.block _ r1.lt)
theorem same_no1 {st lp st2 lp2 : List Int} (h : lp.length = 0 ∨ lp2.length = 0) : sameF st lp st2 lp2 = false := by
  unfold sameF
  rcases h with h | h
  · rw [decide_eq_false (p := 0 < lp.length) (by omega)]; rfl
  · rw [decide_eq_false (p := 0 < lp2.length) (by omega), Bool.and_false]; rfl
theorem same_yes {st lp st2 lp2 : List Int} (h1 : 0 < lp.length) (h2 : 0 < lp2.length) : sameF st lp st2 lp2 = (eqB (nrmF st lp).1 (nrmF st2 lp2).1 && eqB (nrmF st lp).2 (nrmF st2 lp2).2) := by
  unfold sameF eqB
  rw [decide_eq_true h1, decide_eq_true h2, Bool.true_and, Bool.true_and]
  by_cases h : nrmF st lp = nrmF st2 lp2
  · rw [decide_eq_true h, h]
    simp
  · rw [decide_eq_false h]
    by_cases h3 : (nrmF st lp).1 = (nrmF st2 lp2).1
    · have h4 : ¬ (nrmF st lp).2 = (nrmF st2 lp2).2 := fun h5 => h (Prod.ext h3 h5)
      rw [decide_eq_false h4, Bool.and_false]
    · rw [decide_eq_false h3]; rfl
set_option maxRecDepth 20000 in
set_option maxHeartbeats 4000000 in
theorem same_any (x y : WX) (st lp st2 lp2 : List Int) (w : World) (hX : WdR w x st lp) (hY : WdR w y st2 lp2) : Calls Try.prog 25 #[x.v, y.v] w (ValP w (.bool (sameF st lp st2 lp2))) := by
  have HX := Lib.hid hX
  have HY := Lib.hid hY
  have hlp := hX.n2
  have hlp2 := hY.n2
  have HC1 := Lib.hid (fun W => check_any x W HX.out.b1 HX.out.b2)
  have HC2 := Lib.hid (fun W => check_any y W HY.out.b1 HY.out.b2)
  clear hX hY
  obtain ⟨A, n, c, B, m, d⟩ := x
  obtain ⟨C, n2, c2, D, m2, d2⟩ := y
  unfold WX.v at HC1 HC2 ⊢
  dsimp only at hlp hlp2 HC1 HC2 ⊢
  obtain ⟨w2, HW2, HB2, HS2, HRR⟩ := two_boxes w (.slice A n c) (.slice B m d) (.slice C n2 c2) (.slice D m2 d2)
  have HS : Hid (∀ W, Below w2.heap.size w2 W → W.cell? ⟨w.heap.size, 0, none⟩ = some (.slice A n c) ∧ W.cell? ⟨w.heap.size, 1, none⟩ = some (.slice B m d) ∧ W.cell? ⟨w.heap.size + 1, 0, none⟩ = some (.slice C n2 c2) ∧ W.cell? ⟨w.heap.size + 1, 1, none⟩ = some (.slice D m2 d2)) := Lib.hid (fun W hW => by
    obtain ⟨r1, r2⟩ := HRR.out W hW
    exact ⟨r1.cell (i := 0) (by decide), r1.cell (i := 1) (by decide), r2.cell (i := 0) (by decide), r2.cell (i := 1) (by decide)⟩)
  obtain ⟨p1, p2, p3, p4⟩ := HS.out w2 (Below.refl _ _)
  obtain ⟨z, HZ⟩ : ∃ z, Hid (sameF st lp st2 lp2 = z) := ⟨_, Lib.hid rfl⟩
  rw [HZ.out]
  by_cases h0 : m = 0
  · have hz : z = false := by rw [← HZ.out]; exact same_no1 (.inl (by omega))
    subst hz
    have hk : chkF m = 8 := if_pos h0
    rw [hk] at HC1
    clear hk h0 hlp hlp2
    go_enter Try.func25, Try.ntmps25
    go_upto_region 1 with (fail)
    clear HW2
    go_wp2_with fail
    refine (HC1.out _).mono ?_
    rintro e3 w3 ⟨rfl, hb3⟩
    have HB3 := Lib.hid (HB2.out.trans (hb3.mono HB2.out.size))
    clear hb3 p1 p2 p3 p4
    go_wp2
    go_ret
    exact ⟨rfl, HB3.out⟩
  have hk : chkF m = 0 := if_neg h0
  rw [hk] at HC1
  by_cases h02 : m2 = 0
  · have hz : z = false := by rw [← HZ.out]; exact same_no1 (.inr (by omega))
    subst hz
    have hk2 : chkF m2 = 8 := if_pos h02
    rw [hk2] at HC2
    clear hk hk2 h0 h02 hlp hlp2
    go_enter Try.func25, Try.ntmps25
    go_upto_region 1 with (fail)
    clear HW2
    go_wp2_with fail
    refine (HC1.out _).mono ?_
    rintro e3 w3 ⟨rfl, hb3⟩
    have HB3 := Lib.hid hb3
    clear p1 p2 p3 p4
    obtain ⟨p1, p2, p3, p4⟩ := HS.out w3 HB3.out
    clear hb3
    go_wp2_with fail
    refine (HC2.out _).mono ?_
    rintro e4 w4 ⟨rfl, hb4⟩
    have HB4 := Lib.hid (HB2.out.trans ((HB3.out.trans (hb4.mono HB3.out.size)).mono HB2.out.size))
    clear hb4 p1 p2 p3 p4
    go_wp2
    go_ret
    exact ⟨rfl, HB4.out⟩
  have hk2 : chkF m2 = 0 := if_neg h02
  rw [hk2] at HC2
  have HZ2 : Hid ((eqB (nrmF st lp).1 (nrmF st2 lp2).1 && eqB (nrmF st lp).2 (nrmF st2 lp2).2) = z) := Lib.hid (by rw [← HZ.out]; exact (same_yes (by omega) (by omega)).symm)
  have HN1 : Hid (∀ W, Below w2.heap.size w2 W → Calls Try.prog 20 #[.agg #[.slice A n c, .slice B m d]] W (WordP W (nrmF st lp).1 (nrmF st lp).2)) := Lib.hid (fun W hW => norm_any ⟨A, n, c, B, m, d⟩ st lp W (HX.out.below (HB2.out.trans (hW.mono HB2.out.size))))
  have HN2 : Hid (∀ W, Below w2.heap.size w2 W → Calls Try.prog 20 #[.agg #[.slice C n2 c2, .slice D m2 d2]] W (WordP W (nrmF st2 lp2).1 (nrmF st2 lp2).2)) := Lib.hid (fun W hW => norm_any ⟨C, n2, c2, D, m2, d2⟩ st2 lp2 W (HY.out.below (HB2.out.trans (hW.mono HB2.out.size))))
  obtain ⟨L1, HL1⟩ : ∃ L1, Hid (nrmF st lp = L1) := ⟨_, Lib.hid rfl⟩
  obtain ⟨L2, HL2⟩ : ∃ L2, Hid (nrmF st2 lp2 = L2) := ⟨_, Lib.hid rfl⟩
  rw [HL1.out] at HN1 HZ2
  rw [HL2.out] at HN2 HZ2
  clear hk hk2 h0 h02 hlp hlp2 HZ
  go_enter Try.func25, Try.ntmps25
  go_upto_region 1 with (fail)
  clear HW2
  go_wp2_with fail
  refine (HC1.out _).mono ?_
  rintro e3 w7 ⟨rfl, hb3⟩
  have HB7 := Lib.hid hb3
  clear p1 p2 p3 p4
  obtain ⟨p1, p2, p3, p4⟩ := HS.out w7 HB7.out
  clear hb3
  go_wp2_with fail
  refine (HC2.out _).mono ?_
  rintro e4 w9 ⟨rfl, hb4⟩
  have HB9 := Lib.hid (HB7.out.trans (hb4.mono HB7.out.size))
  clear p1 p2 p3 p4
  obtain ⟨p1, p2, p3, p4⟩ := HS.out w9 HB9.out
  clear hb4
  go_upto_region 3 with (fail)
  refine wp_region_noPanic ?_
  go_region_law
    (first
      | (rw [if_pos (by kernel_rfl)]; go_simp; have hk3 := HB3.out; go_at_call 20; refine (HN2.out _ (by exact HB3.out)).mono ?_; rintro e4 w4 ⟨X4, rfl, hx4, hb4, na4, nb4⟩; have HX4 := Lib.hid hx4; have HX34 := Lib.hid (HX3.out.below hb4); have HB4 : Hid (Below w2.heap.size w2 w4) := Lib.hid (HB3.out.trans (hb4.mono HB3.out.size)); have NA4 : Hid (∀ a, X4.A = some a → w2.heap.size ≤ a.block) := Lib.hid (fun a ha => Nat.le_trans HB3.out.size (na4 a ha)); have NB4 : Hid (∀ a, X4.B = some a → w2.heap.size ≤ a.block) := Lib.hid (fun a ha => Nat.le_trans HB3.out.size (nb4 a ha)); clear hx4 hb4 na4 nb4 hk3; (try clear q1 q2 q3 q4); obtain ⟨A4, n4, c4, B4, m4, d4⟩ := X4; unfold WX.v; dsimp only at NA4 NB4 ⊢; obtain ⟨w5, HW5, s0, s1, ht5, d0, d1, f0, f1, _, _⟩ := put_word (HRR.out _ HB4.out).1 (.slice A3 n3 c3) (.slice B3 m3 d3); have HR5 : w5.rowIs (w.heap.size + 1) 24 2 (pairV (.slice C n2 c2) (.slice D m2 d2)) := (by rw [← HW5]; exact (((HRR.out _ HB4.out).2.setOther (by simp) _).setOther (by simp) _)); obtain ⟨w6, HW6, t0, t1, ht6, g0, g1, k0, k1, _, _⟩ := put_word HR5 (.slice A4 n4 c4) (.slice B4 m4 d4); have HT5 := Lib.hid ht5; have HT6 := Lib.hid ht6; have HS0 := Lib.hid s0; have HS1 := Lib.hid s1; have HT0 := Lib.hid t0; have HT1 := Lib.hid t1; clear s0 s1 t0 t1 ht5 ht6 HR5; (try simp only [pairV] at d0 d1 g0 g1))
      | (rw [if_pos (by kernel_rfl)]; go_simp; go_at_call 20; refine (HN1.out _ (by first | exact HB9.out.drew | exact HB9.out)).mono ?_; rintro e3 w3 ⟨X3, rfl, hx3, hb3, na3, nb3⟩; have HX3 := Lib.hid hx3; have HB3 : Hid (Below w2.heap.size w2 w3) := Lib.hid (by first | exact HB9.out.drew.trans (hb3.mono HB9.out.size) | exact HB9.out.trans (hb3.mono HB9.out.size)); have NA3 : Hid (∀ a, X3.A = some a → w2.heap.size ≤ a.block) := Lib.hid (fun a ha => Nat.le_trans HB9.out.size (na3 a ha)); have NB3 : Hid (∀ a, X3.B = some a → w2.heap.size ≤ a.block) := Lib.hid (fun a ha => Nat.le_trans HB9.out.size (nb3 a ha)); clear hx3 hb3 na3 nb3; obtain ⟨q1, q2, q3, q4⟩ := HS.out w3 HB3.out; obtain ⟨A3, n3, c3, B3, m3, d3⟩ := X3; unfold WX.v; dsimp only at NA3 NB3 ⊢)
      | fail)
  all_goals
    refine NoPanic.normal ?_
    clear p1 p2 p3 p4 HW5 HW6 d0 d1 f0 f1 g0 g1 k0 k1
    (try clear q1 q2 q3 q4)
    have hs4 : w2.heap.size ≤ w4.heap.size := HB4.out.size
    have hs2 := HS2.out
    have HX6 : Hid (WdR w6 ⟨A3, n3, c3, B3, m3, d3⟩ L1.1 L1.2) := Lib.hid { HX34.out with r1 := (HX34.out.r1.turn HT5.out (fun a ha => by have := NA3.out a ha; omega)).turn HT6.out (fun a ha => by have := NA3.out a ha; omega), r2 := (HX34.out.r2.turn HT5.out (fun a ha => by have := NB3.out a ha; omega)).turn HT6.out (fun a ha => by have := NB3.out a ha; omega) }
    have HY6 : Hid (WdR w6 ⟨A4, n4, c4, B4, m4, d4⟩ L2.1 L2.2) := Lib.hid { HX4.out with r1 := (HX4.out.r1.turn HT5.out (fun a ha => by have := NA4.out a ha; omega)).turn HT6.out (fun a ha => by have := NA4.out a ha; omega), r2 := (HX4.out.r2.turn HT5.out (fun a ha => by have := NB4.out a ha; omega)).turn HT6.out (fun a ha => by have := NB4.out a ha; omega) }
    have HB6 : Hid (Below w.heap.size w w6) := Lib.hid (HB2.out.trans ((HB4.out.mono HB2.out.size).trans (((HT5.out.trans (Turn.refl _ _)).below (B := w.heap.size) (fun q hq => by omega) (by omega)).mono (by omega) |>.trans ((HT6.out.below (B := w.heap.size) (fun q hq => by omega) (by have := HT5.out.size; omega)).mono (by have := HT5.out.size; omega)))))
    have hs5 := HT5.out.size
    have y0 : w6.cell? ⟨w.heap.size, 0, none⟩ = some (.slice A3 n3 c3) := (HT6.out.cell (p := ⟨w.heap.size, 0, none⟩) (by show w.heap.size < _; omega) (by show ¬ w.heap.size = w.heap.size + 1; omega)).trans HS0.out
    have y1 : w6.cell? ⟨w.heap.size, 1, none⟩ = some (.slice B3 m3 d3) := (HT6.out.cell (p := ⟨w.heap.size, 1, none⟩) (by show w.heap.size < _; omega) (by show ¬ w.heap.size = w.heap.size + 1; omega)).trans HS1.out
    have y2 := HT0.out
    have y3 := HT1.out
    have HE1 : Hid (∀ j, Calls Try.prog 42 #[.slice A3 n3 c3, .slice A4 n4 c4] (w6.drewN j) fun e w' => e = .returned (.bool (eqB L1.1 L2.1)) ∧ ∃ n, w' = (w6.drewN j).drewN n) := Lib.hid (fun j => by
      have k1 := HX6.out.n1; have k2 := HY6.out.n1; have k3 := HX6.out.b1; have k4 := HY6.out.b1
      dsimp only at k1 k2 k3 k4
      exact equal_words A3 A4 c3 c4 n3 n4 L1.1 L2.1 (w6.drewN j) k1 k2 HX6.out.r1 HY6.out.r1 (by unfold maxLen; omega) (by unfold maxLen; omega))
    have HE2 : Hid (∀ j, Calls Try.prog 42 #[.slice B3 m3 d3, .slice B4 m4 d4] (w6.drewN j) fun e w' => e = .returned (.bool (eqB L1.2 L2.2)) ∧ ∃ n, w' = (w6.drewN j).drewN n) := Lib.hid (fun j => by
      have k1 := HX6.out.n2; have k2 := HY6.out.n2; have k3 := HX6.out.b2; have k4 := HY6.out.b2
      dsimp only at k1 k2 k3 k4
      exact equal_words B3 B4 d3 d4 m3 m4 L1.2 L2.2 (w6.drewN j) k1 k2 HX6.out.r2 HY6.out.r2 (by unfold maxLen; omega) (by unfold maxLen; omega))
    obtain ⟨b1, HBB1⟩ : ∃ b, Hid (eqB L1.1 L2.1 = b) := ⟨_, Lib.hid rfl⟩
    obtain ⟨b2, HBB2⟩ : ∃ b, Hid (eqB L1.2 L2.2 = b) := ⟨_, Lib.hid rfl⟩
    have hz := HZ2.out
    rw [HBB1.out] at HE1 hz
    rw [HBB2.out] at HE2 hz
    subst hz
    clear hs4 hs2 hs5
    have HE10 := HE1.out 0
    have HE10 := Lib.hid (show Calls Try.prog 42 #[.slice A3 n3 c3, .slice A4 n4 c4] w6 fun e w' => e = .returned (.bool b1) ∧ ∃ n, w' = w6.drewN n from HE10)
    cases b1
    · go_wp2_with fail
      refine HE10.out.mono ?_
      rintro e8 w8 ⟨rfl, j, rfl⟩
      go_wp2
      go_ret
      exact ⟨rfl, below_drewN HB6.out _⟩
    · go_wp2_with fail
      refine HE10.out.mono ?_
      rintro e8 w8 ⟨rfl, j, rfl⟩
      go_wp2_with fail
      refine (HE2.out _).mono ?_
      rintro e8 w8 ⟨rfl, j, rfl⟩
      go_wp2
      go_ret
      exact ⟨rfl, by first | exact below_drewN HB6.out _ | exact below_drewN (below_drewN HB6.out _) _⟩
end Go.Proofs.Ytophajljjnjcdaa.wd
