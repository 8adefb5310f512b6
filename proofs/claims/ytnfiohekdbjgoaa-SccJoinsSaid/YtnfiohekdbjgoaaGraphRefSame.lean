/- Graphs: the document's Same. -/
import Derived.Test.YtnfiohekdbjgoaaGraphSame
namespace Go.Proofs.Ytnfiohekdbjgoaa
open Go.ChangeShapes Go.WideShapes Go.ChangeAt Go.RowKit

theorem sameB_false1 {G H : Gr} (h : eqB G.init H.init = false) : sameB G H = false := by unfold sameB; rw [h]; rfl
theorem sameB_rows {G H : Gr} (h : G.rows.length ≠ H.rows.length) : sameB G H = false := by
  have e : eqR G.rows H.rows = false := decide_eq_false (fun e => h (by rw [e]))
  unfold sameB; rw [e]; simp
theorem sameB_labels {G H : Gr} (h : G.labels.length ≠ H.labels.length) : sameB G H = false := by
  have e : eqB G.labels H.labels = false := decide_eq_false (fun e => h (by rw [e]))
  unfold sameB; rw [e]; simp
theorem sameB_label {G H : Gr} {k : Nat} (h : G.labels.getD k 0 ≠ H.labels.getD k 0) : sameB G H = false := by
  have e : eqB G.labels H.labels = false := decide_eq_false (fun e => h (by rw [e]))
  unfold sameB; rw [e]; simp
theorem sameB_row {G H : Gr} {k : Nat} (h : G.rows.getD k [] ≠ H.rows.getD k []) : sameB G H = false := by
  have e : eqR G.rows H.rows = false := decide_eq_false (fun e => h (by rw [e]))
  unfold sameB; rw [e]; simp
theorem sameB_true {G H : Gr} (h1 : eqB G.init H.init = true) (hr : G.rows.length = H.rows.length) (h2 : ∀ i, i < G.rows.length → G.rows.getD i [] = H.rows.getD i []) (hl : G.labels.length = H.labels.length) (h3 : ∀ i, i < G.labels.length → G.labels.getD i 0 = H.labels.getD i 0) : sameB G H = true := by
  have e2 : eqR G.rows H.rows = true := decide_eq_true (getR_ext hr h2)
  have e3 : eqB G.labels H.labels = true := decide_eq_true (getD_ext' hl h3)
  unfold sameB; rw [h1, e2, e3]; rfl

set_option maxRecDepth 20000 in
set_option maxHeartbeats 4000000 in
theorem refSame_any {w : World} {v u : Value} {G H : Gr} (hv : GV w v G) (hu : GV w u H) : Calls Try.prog 20 #[v, u] w fun e w' => e = .returned (.bool (sameB G H)) ∧ Below w.heap.size w w' := by
  obtain ⟨A1, c1, A2, c2, A3, c3, rfl, ⟨a1, b1, d1⟩, ⟨a2, b2, d2⟩, ⟨a3, b3, d3⟩⟩ := hv
  obtain ⟨A4, c4, A5, c5, A6, c6, rfl, ⟨a4, b4, d4⟩, ⟨a5, b5, d5⟩, ⟨a6, b6, d6⟩⟩ := hu
  have HI : Hid (∀ W, Below w.heap.size w W → ∀ m1 m2, m1 = G.init.length → m2 = H.init.length → Calls Try.prog 55 #[.slice A1 m1 c1, .slice A4 m2 c4] W fun e w' => e = .returned (.bool (eqB G.init H.init)) ∧ ∃ n, w' = W.drewN n) := Lib.hid (fun W hW m1 m2 e1 e2 => refInts_any _ _ _ _ _ _ G.init H.init W e1 e2 (LA.below d1 hW) (LA.below d4 hW) (by omega) (by omega))
  have hb2 : G.rows.length ≤ 9223372036854775807 := by unfold maxLen at b2; omega
  have hb3 : G.labels.length ≤ 9223372036854775807 := by unfold maxLen at b3; omega
  have D2 := Lib.hid d2
  have D5 := Lib.hid d5
  have D3 := Lib.hid d3
  have D6 := Lib.hid d6
  clear a1 b1 d1 a2 b2 d2 a3 b3 d3 a4 b4 d4 a5 b5 d5 a6 b6 d6
  obtain ⟨m1, M1⟩ : ∃ m1, Hid (G.init.length = m1) := ⟨_, Lib.hid rfl⟩
  obtain ⟨m2, M2⟩ : ∃ m2, Hid (G.rows.length = m2) := ⟨_, Lib.hid rfl⟩
  obtain ⟨m3, M3⟩ : ∃ m3, Hid (G.labels.length = m3) := ⟨_, Lib.hid rfl⟩
  obtain ⟨m4, M4⟩ : ∃ m4, Hid (H.init.length = m4) := ⟨_, Lib.hid rfl⟩
  obtain ⟨m5, M5⟩ : ∃ m5, Hid (H.rows.length = m5) := ⟨_, Lib.hid rfl⟩
  obtain ⟨m6, M6⟩ : ∃ m6, Hid (H.labels.length = m6) := ⟨_, Lib.hid rfl⟩
  rw [M2.out] at hb2
  rw [M3.out] at hb3
  rw [M1.out, M2.out, M3.out, M4.out, M5.out, M6.out]
  obtain ⟨z, HZ⟩ : ∃ z, Hid (sameB G H = z) := ⟨_, Lib.hid rfl⟩
  rw [HZ.out]
  have hBB : Below w.heap.size w ((w.alloc (.cells #[.slice A1 m1 c1, .slice A2 m2 c2, .slice A3 m3 c3] 26)).alloc (.cells #[.slice A4 m4 c4, .slice A5 m5 c5, .slice A6 m6 c6] 26)) := ((Below.refl _ w).alloc (Nat.le_refl _) _).alloc (by simp) _
  have HBB := Lib.hid hBB
  clear hBB
  obtain ⟨q, HQ⟩ : ∃ q, Hid (eqB G.init H.init = q) := ⟨_, Lib.hid rfl⟩
  go_enter Try.func20, Try.ntmps20
  go_wp2_with fail
  refine (HI.out _ HBB.out _ _ M1.out.symm M4.out.symm).mono ?_
  rintro e w1 ⟨rfl, j1, rfl⟩
  rw [HQ.out]
  have HB1 := Lib.hid (below_drewN HBB.out j1)
  cases q with
  | false =>
    have HE : Hid (z = false) := Lib.hid (by rw [← HZ.out]; exact sameB_false1 HQ.out)
    go_wp2_with fail
    go_ret
    exact ⟨by rw [HE.out]; rfl, HB1.out⟩
  | true =>
    by_cases hr : m2 = m5
    · subst hr
      by_cases hl : m3 = m6
      · subst hl
        have hr0 : ((m2 : Int) != (m2 : Int)) = false := by simp
        go_wp2_with fail
        have p1 : (((w.alloc (.cells #[.slice A1 m1 c1, .slice A2 m2 c2, .slice A3 m3 c3] 26)).alloc (.cells #[.slice A4 m4 c4, .slice A5 m2 c5, .slice A6 m3 c6] 26)).drewN j1).cell? ⟨w.heap.size, 1, none⟩ = some (.slice A2 m2 c2) := (((Below.refl _ (w.alloc (.cells #[.slice A1 m1 c1, .slice A2 m2 c2, .slice A3 m3 c3] 26))).alloc (Nat.le_refl _) (.cells #[.slice A4 m4 c4, .slice A5 m2 c5, .slice A6 m3 c6] 26)).cell (p := ⟨w.heap.size, 1, none⟩) (by simp)).trans (box3 w _ _ _ _).2.1
        have p2 : (((w.alloc (.cells #[.slice A1 m1 c1, .slice A2 m2 c2, .slice A3 m3 c3] 26)).alloc (.cells #[.slice A4 m4 c4, .slice A5 m2 c5, .slice A6 m3 c6] 26)).drewN j1).cell? ⟨w.heap.size, 2, none⟩ = some (.slice A3 m3 c3) := (((Below.refl _ (w.alloc (.cells #[.slice A1 m1 c1, .slice A2 m2 c2, .slice A3 m3 c3] 26))).alloc (Nat.le_refl _) (.cells #[.slice A4 m4 c4, .slice A5 m2 c5, .slice A6 m3 c6] 26)).cell (p := ⟨w.heap.size, 2, none⟩) (by simp)).trans (box3 w _ _ _ _).2.2
        have r1 : (((w.alloc (.cells #[.slice A1 m1 c1, .slice A2 m2 c2, .slice A3 m3 c3] 26)).alloc (.cells #[.slice A4 m4 c4, .slice A5 m2 c5, .slice A6 m3 c6] 26)).drewN j1).cell? ⟨w.heap.size + 1, 1, none⟩ = some (.slice A5 m2 c5) := by
          have e := (box3 (w.alloc (.cells #[.slice A1 m1 c1, .slice A2 m2 c2, .slice A3 m3 c3] 26)) (.slice A4 m4 c4) (.slice A5 m2 c5) (.slice A6 m3 c6) 26).2.1
          rw [World.size_alloc] at e
          exact e
        have r2 : (((w.alloc (.cells #[.slice A1 m1 c1, .slice A2 m2 c2, .slice A3 m3 c3] 26)).alloc (.cells #[.slice A4 m4 c4, .slice A5 m2 c5, .slice A6 m3 c6] 26)).drewN j1).cell? ⟨w.heap.size + 1, 2, none⟩ = some (.slice A6 m3 c6) := by
          have e := (box3 (w.alloc (.cells #[.slice A1 m1 c1, .slice A2 m2 c2, .slice A3 m3 c3] 26)) (.slice A4 m4 c4) (.slice A5 m2 c5) (.slice A6 m3 c6) 26).2.2
          rw [World.size_alloc] at e
          exact e
        have E2 := Lib.hid (D2.out.below HB1.out)
        have E5 := Lib.hid (D5.out.below HB1.out)
        have E3 := Lib.hid (D3.out.below HB1.out)
        have E6 := Lib.hid (D6.out.below HB1.out)
        clear HBB HI D2 D5 D3 D6 hr0
        generalize (((w.alloc (.cells #[.slice A1 m1 c1, .slice A2 m2 c2, .slice A3 m3 c3] 26)).alloc (.cells #[.slice A4 m4 c4, .slice A5 m2 c5, .slice A6 m3 c6] 26)).drewN j1) = W at *
        go_loopw [5] (fun i wr => ∃ k j : Nat, k ≤ m3 ∧ i = .int .i64 k ∧ wr = W.drewN j ∧ Hid (∀ i, i < k → G.labels.getD i 0 = H.labels.getD i 0)) (fun i _ => m3 - (intOf i).toNat)
        case atStart => exact ⟨0, 0, by omega, rfl, rfl, Lib.hid (fun i hi => absurd hi (by omega))⟩
        case round =>
          obtain ⟨k, j, hk, rfl, rfl, HV⟩ := hrel
          by_cases hlt : k < m3
          · obtain ⟨bA, oA, rfl, hbA, hcA⟩ := E3.out (by rw [M3.out]; omega)
            obtain ⟨bB, oB, rfl, hbB, hcB⟩ := E6.out (by rw [M6.out]; omega)
            have e1 := hcA k (by rw [M3.out]; exact hlt)
            have e2 := hcB k (by rw [M6.out]; exact hlt)
            have HS : Hid (G.labels.getD k 0 = H.labels.getD k 0 → ∀ i, i < k + 1 → G.labels.getD i 0 = H.labels.getD i 0) := Lib.hid (fun e i hi => by
              by_cases hik : i = k
              · subst hik; exact e
              · exact HV.out i (by omega))
            have HF : Hid (G.labels.getD k 0 ≠ H.labels.getD k 0 → z = false) := Lib.hid (fun e => by rw [← HZ.out]; exact sameB_label e)
            generalize G.labels.getD k 0 = x at e1 HS HF
            generalize H.labels.getD k 0 = y at e2 HS HF
            clear hcA hcB HV
            by_cases t1 : x = y
            · subst t1
              have HS2 := Lib.hid (HS.out rfl)
              clear HS HF
              go_wp2
              go_quiet (fail)
              go_wp2
              go_roundw
              case rel => exact ⟨k + 1, _, by omega, by go_num, rfl, HS2⟩
              case measure => simp [intOf]; omega
            · have HE := Lib.hid (HF.out t1)
              have t2 : (x != y) = true := by simpa using t1
              clear HS HF t1
              have HB5 := fun q => Lib.hid (below_drewN HB1.out q)
              go_wp2
              go_quiet (fail)
              go_wp2
              go_ret
              exact ⟨by rw [HE.out]; rfl, by first | exact (HB5 _).out | (rw [World.drewN_drewN]; exact (HB5 _).out)⟩
          · obtain rfl : m3 = k := by omega
            have HVL := Lib.hid HV.out
            clear hlt hk HV
            go_wp2
            go_loopw [6, 7] (fun i _ wr => ∃ k j : Nat, k ≤ m2 ∧ i = .int .i64 k ∧ wr = W.drewN j ∧ Hid (∀ i, i < k → G.rows.getD i [] = H.rows.getD i [])) (fun i _ _ => m2 - (intOf i).toNat)
            case atStart => exact ⟨0, _, by omega, rfl, rfl, Lib.hid (fun i hi => absurd hi (by omega))⟩
            case round =>
              obtain ⟨k, j, hk, rfl, rfl, HV⟩ := hrel
              by_cases hlt : k < m2
              · obtain ⟨bA, oA, rfl, hbA, hcA⟩ := E2.out (by rw [M2.out]; omega)
                obtain ⟨bB, oB, rfl, hbB, hcB⟩ := E5.out (by rw [M5.out]; omega)
                obtain ⟨A', c', s1, s2, s3, s4⟩ := hcA k (by rw [M2.out]; exact hlt)
                obtain ⟨B', d', u1, u2, u3, u4⟩ := hcB k (by rw [M5.out]; exact hlt)
                have HS : Hid (G.rows.getD k [] = H.rows.getD k [] → ∀ i, i < k + 1 → G.rows.getD i [] = H.rows.getD i []) := Lib.hid (fun e i hi => by
                  by_cases hik : i = k
                  · subst hik; exact e
                  · exact HV.out i (by omega))
                have HF : Hid (G.rows.getD k [] ≠ H.rows.getD k [] → z = false) := Lib.hid (fun e => by rw [← HZ.out]; exact sameB_row e)
                have P1 := Lib.hid s4
                have P2 := Lib.hid u4
                unfold maxLen at s3
                unfold maxLen at u3
                generalize G.rows.getD k [] = rx at s1 s2 HS HF P1
                generalize H.rows.getD k [] = ry at u1 u2 HS HF P2
                obtain ⟨l1, L1⟩ : ∃ l1, Hid (rx.length = l1) := ⟨_, Lib.hid rfl⟩
                obtain ⟨l2, L2⟩ : ∃ l2, Hid (ry.length = l2) := ⟨_, Lib.hid rfl⟩
                rw [L1.out] at s1 s2
                rw [L2.out] at u1 u2
                clear hcA hcB HV s4 u4
                by_cases hll : l1 = l2
                · subst hll
                  have hl0 : ((l1 : Int) != (l1 : Int)) = false := by simp
                  go_wp2
                  go_quiet (fail)
                  go_wp2
                  clear hl0
                  go_loopw [7] (fun i wr => ∃ k' j' : Nat, k' ≤ l1 ∧ i = .int .i64 k' ∧ wr = W.drewN j' ∧ Hid (∀ i, i < k' → rx.getD i (0, 0) = ry.getD i (0, 0))) (fun i _ => l1 - (intOf i).toNat)
                  case atStart => exact ⟨0, _, by omega, rfl, by first | rfl | exact World.drewN_drewN _ _ _, Lib.hid (fun i hi => absurd hi (by omega))⟩
                  case round =>
                    obtain ⟨i, j', hi, rfl, rfl, HV⟩ := hrel
                    by_cases hil : i < l1
                    · obtain ⟨bC, oC, rfl, hbC, hcC⟩ := P1.out (by rw [L1.out]; omega)
                      obtain ⟨bD, oD, rfl, hbD, hcD⟩ := P2.out (by rw [L2.out]; omega)
                      obtain ⟨e1, e3⟩ := hcC i (by rw [L1.out]; exact hil)
                      obtain ⟨e2, e4⟩ := hcD i (by rw [L2.out]; exact hil)
                      have HS3 : Hid (rx.getD i (0, 0) = ry.getD i (0, 0) → ∀ q, q < i + 1 → rx.getD q (0, 0) = ry.getD q (0, 0)) := Lib.hid (fun e q hq => by
                        by_cases hik : q = i
                        · subst hik; exact e
                        · exact HV.out q (by omega))
                      have HF3 : Hid (rx.getD i (0, 0) ≠ ry.getD i (0, 0) → z = false) := Lib.hid (fun e => HF.out (fun e2 => e (by rw [e2])))
                      obtain ⟨⟨x, y⟩, HX⟩ : ∃ p, Hid (rx.getD i (0, 0) = p) := ⟨_, Lib.hid rfl⟩
                      obtain ⟨⟨x', y'⟩, HY⟩ : ∃ p, Hid (ry.getD i (0, 0) = p) := ⟨_, Lib.hid rfl⟩
                      rw [HX.out] at e1 e3 HS3 HF3
                      rw [HY.out] at e2 e4 HS3 HF3
                      clear hcC hcD HV HX HY
                      by_cases hx : x = x'
                      · subst hx
                        by_cases hy : y = y'
                        · subst hy
                          have HS4 := Lib.hid (HS3.out rfl)
                          clear HS3 HF3
                          go_wp2
                          go_quiet (fail)
                          go_wp2
                          go_roundw
                          case rel => exact ⟨i + 1, _, by omega, by go_num, by first | rfl | exact World.drewN_drewN _ _ _, HS4⟩
                          case measure => simp [intOf]; omega
                        · have HE := Lib.hid (HF3.out (fun e => hy (by injection e)))
                          have hy2 : (y == y') = false := by simpa using hy
                          have HB5 := fun q => Lib.hid (below_drewN HB1.out q)
                          clear HS3 HF3 hy
                          go_wp2
                          go_quiet (fail)
                          go_wp2
                          go_ret
                          exact ⟨by rw [HE.out]; rfl, by first | exact (HB5 _).out | (rw [World.drewN_drewN]; exact (HB5 _).out)⟩
                      · have HE := Lib.hid (HF3.out (fun e => hx (by injection e)))
                        have hx2 : (x == x') = false := by simpa using hx
                        have HB5 := fun q => Lib.hid (below_drewN HB1.out q)
                        clear HS3 HF3 hx
                        go_wp2
                        go_quiet (fail)
                        go_wp2
                        go_ret
                        exact ⟨by rw [HE.out]; rfl, by first | exact (HB5 _).out | (rw [World.drewN_drewN]; exact (HB5 _).out)⟩
                    · obtain rfl : l1 = i := by omega
                      have HS4 := Lib.hid (HS.out (getP_ext (by rw [L1.out, L2.out]) (by rw [L1.out]; exact HV.out)))
                      clear hil hi HS HF HV
                      go_wp2
                      go_roundw
                      case rel => exact ⟨k + 1, _, by omega, by go_num, rfl, HS4⟩
                      case measure => simp [intOf]; omega
                · have hl2 : ((l1 : Int) != (l2 : Int)) = true := by simp; omega
                  have HE : Hid (z = false) := Lib.hid (HF.out (fun e => hll (by rw [← L1.out, ← L2.out, e])))
                  have HB5 := fun q => Lib.hid (below_drewN HB1.out q)
                  clear hll HS HF
                  go_wp2
                  go_quiet (fail)
                  go_wp2
                  go_ret
                  exact ⟨by rw [HE.out]; rfl, by first | exact (HB5 _).out | (rw [World.drewN_drewN]; exact (HB5 _).out)⟩
              · obtain rfl : m2 = k := by omega
                have HE : Hid (z = true) := Lib.hid (by rw [← HZ.out]; exact sameB_true HQ.out (by rw [M2.out, M5.out]) (by rw [M2.out]; exact HV.out) (by rw [M3.out, M6.out]) (by rw [M3.out]; exact HVL.out))
                have HB5 := fun q => Lib.hid (below_drewN HB1.out q)
                clear hlt HV
                go_wp2
                go_ret
                exact ⟨by rw [HE.out]; rfl, by first | exact (HB5 _).out | (rw [World.drewN_drewN]; exact (HB5 _).out)⟩
      · have hl2 : ((m3 : Int) != (m6 : Int)) = true := by simp; omega
        have HE : Hid (z = false) := Lib.hid (by rw [← HZ.out]; exact sameB_labels (by rw [M3.out, M6.out]; exact hl))
        clear hl
        go_wp2_with fail
        go_ret
        exact ⟨by rw [HE.out]; rfl, HB1.out⟩
    · have hr2 : ((m2 : Int) != (m5 : Int)) = true := by simp; omega
      have HE : Hid (z = false) := Lib.hid (by rw [← HZ.out]; exact sameB_rows (by rw [M2.out, M5.out]; exact hr))
      clear hr
      go_wp2_with fail
      go_ret
      exact ⟨by rw [HE.out]; rfl, HB1.out⟩
end Go.Proofs.Ytnfiohekdbjgoaa
