/- The document's Chans. -/
import Derived.Test.YtjciamefkacchaaDeclRefVar
import Derived.Test.YtjciamefkacchaaDeclAll
import Derived.Test.YtjciamefkacchaaLexRefName
namespace Go.Proofs.Ytjciamefkacchaa.dcl
open Go.ChangeShapes Go.WideShapes Go.ChangeAt Go.RowKit Go.Proofs.Ytjciamefkacchaa.lx

theorem seenC_no {l : List ChR} {k : Nat} {x : ByteArray} (hk : k ≤ l.length) (h : ∀ z, z < k → ((l.getD z default).name.toList == x.toList) = false) : seenB ((l.take k).map ChR.name) x = false := by
  unfold seenB
  rw [List.any_eq_false]
  intro y hy
  obtain ⟨v, hv, rfl⟩ := List.mem_map.1 hy
  obtain ⟨i, hi, rfl⟩ := List.getElem_of_mem hv
  simp only [List.length_take] at hi
  have := h i (by omega)
  rw [ByteArray.toList_eq, ByteArray.toList_eq] at this
  simp only [List.getElem_take]
  have e : l.getD i default = l[i]'(by omega) := by simp [List.getD, show i < l.length by omega]
  rw [e] at this
  simpa using this
theorem seenC_yes {l : List ChR} {k z : Nat} {x : ByteArray} (hz : z < k) (hk : k ≤ l.length) (h : ((l.getD z default).name.toList == x.toList) = true) : seenB ((l.take k).map ChR.name) x = true := by
  unfold seenB
  rw [List.any_eq_true]
  have e : l.getD z default = l[z]'(by omega) := by simp [List.getD, show z < l.length by omega]
  refine ⟨(l.getD z default).name, List.mem_map.2 ⟨l.getD z default, ?_, rfl⟩, ?_⟩
  · rw [e, show l[z]'(by omega) = (l.take k)[z]'(by simp; omega) by simp]
    exact List.getElem_mem _
  · rw [ByteArray.toList_eq, ByteArray.toList_eq] at h
    simpa using h

set_option maxRecDepth 100000 in
set_option maxHeartbeats 8000000 in
theorem refChans_any (X : SX) (s : List ScR) (l : List ChR) (A : Option Addr) (c m : Nat) (w : World) (hS : SL w X s) (hm : m = l.length) (hmm : m ≤ 1000000000000000) (hA : DC w A l) :
    Calls Try.prog 33 #[.slice A m c, X.v] w (PairC w (chansF s l)) := by
  have HM := Lib.hid hm
  have HA := Lib.hid hA
  have HS := Lib.hid hS
  obtain ⟨r1, r2, HR⟩ : ∃ r1 r2, Hid (declAt ChR.name (whyC s) 4 l 0 = (r1, r2)) := ⟨_, _, Lib.hid rfl⟩
  rw [show chansF s l = (r1, r2) from HR.out]
  clear hm hA hS
  unfold SX.v
  go_enter Try.func33, Try.ntmps33
  go_wp2
  go_loopw [6] (fun i wr => ∃ k : Nat, k ≤ m ∧ i = .int .i64 k ∧ (k : Int) ≤ 4 ∧ Hid (Below w.heap.size w wr) ∧ Hid (declAt ChR.name (whyC s) 4 l k = (r1, r2))) (fun i _ => m - (intOf i).toNat)
  case atStart => exact ⟨0, Nat.zero_le _, rfl, by omega, Lib.hid (Below.refl _ _), HR⟩
  case round =>
    obtain ⟨k, hk, rfl, hkm, HB, HD⟩ := hrel
    by_cases hlt : k < m
    · obtain ⟨b, o, rfl, hb0, hc0⟩ := HA.out (by rw [← HM.out]; omega)
      have HC0 := Lib.hid hc0
      have HLT : Hid (k < l.length) := Lib.hid (by rw [← HM.out]; exact hlt)
      have HST := Lib.hid (declAt_step default ChR.name (whyC s) 4 l k HLT.out)
      obtain ⟨x, HX⟩ : ∃ x, Hid (l.getD k default = x) := ⟨_, Lib.hid rfl⟩
      obtain ⟨x0, x1, x2, x3, x4, x5⟩ := x
      have HST2 : Hid (declAt ChR.name (whyC s) 4 l k = if 4 ≤ (k : Int) then ((k : Int), 11) else if nameB x0 = false then ((k : Int), 6) else if seenB ((l.take k).map ChR.name) x0 = true then ((k : Int), 7) else if (whyC s) ⟨x0, x1, x2, x3, x4, x5⟩ ≠ 0 then ((k : Int), (whyC s) ⟨x0, x1, x2, x3, x4, x5⟩) else declAt ChR.name (whyC s) 4 l (k + 1)) := Lib.hid (by
        have := HST.out
        rw [HX.out] at this
        exact this)
      have HCW : Hid (∀ W, Below w.heap.size w W → ∀ i, i < l.length → W.cell? ⟨b, o + i * 6, none⟩ = some (.string (l.getD i default).name) ∧ W.cell? ⟨b, o + i * 6 + 1, none⟩ = some (.int .i64 (l.getD i default).sc) ∧ W.cell? ⟨b, o + i * 6 + 2, none⟩ = some (.int .i64 (l.getD i default).cap) ∧ W.cell? ⟨b, o + i * 6 + 3, none⟩ = some (.int .i64 (l.getD i default).lo) ∧ W.cell? ⟨b, o + i * 6 + 4, none⟩ = some (.int .i64 (l.getD i default).hi) ∧ W.cell? ⟨b, o + i * 6 + 5, none⟩ = some (.bool (l.getD i default).lossy)) := Lib.hid (fun W hW i hi => by
        obtain ⟨h0, h1, h2, h3, h4, h5⟩ := HC0.out i hi
        exact ⟨(hW.cell (p := ⟨b, o + i * 6, none⟩) hb0).trans h0, (hW.cell (p := ⟨b, o + i * 6 + 1, none⟩) hb0).trans h1, (hW.cell (p := ⟨b, o + i * 6 + 2, none⟩) hb0).trans h2, (hW.cell (p := ⟨b, o + i * 6 + 3, none⟩) hb0).trans h3, (hW.cell (p := ⟨b, o + i * 6 + 4, none⟩) hb0).trans h4, (hW.cell (p := ⟨b, o + i * 6 + 5, none⟩) hb0).trans h5⟩)
      have HCK : Hid (∀ W, Below w.heap.size w W → W.cell? ⟨b, o + k * 6, none⟩ = some (.string x0) ∧ W.cell? ⟨b, o + k * 6 + 1, none⟩ = some (.int .i64 x1) ∧ W.cell? ⟨b, o + k * 6 + 2, none⟩ = some (.int .i64 x2) ∧ W.cell? ⟨b, o + k * 6 + 3, none⟩ = some (.int .i64 x3) ∧ W.cell? ⟨b, o + k * 6 + 4, none⟩ = some (.int .i64 x4) ∧ W.cell? ⟨b, o + k * 6 + 5, none⟩ = some (.bool x5)) := Lib.hid (fun W hW => by
        have := HCW.out W hW k HLT.out
        rw [HX.out] at this
        exact this)
      clear hc0 HST
      by_cases hmost : (k : Int) = 4
      · have HRE : Hid ((r1, r2) = ((k : Int), (11 : Int))) := Lib.hid (HD.out.symm.trans (HST2.out.trans (if_pos (by omega))))
        obtain rfl : k = 4 := by omega
        go_wp2
        go_ret2
        exact ⟨by rw [pairC_of HRE.out]; rfl, HB.out⟩
      · have HST3 : Hid (declAt ChR.name (whyC s) 4 l k = if nameB x0 = false then ((k : Int), 6) else if seenB ((l.take k).map ChR.name) x0 = true then ((k : Int), 7) else if (whyC s) ⟨x0, x1, x2, x3, x4, x5⟩ ≠ 0 then ((k : Int), (whyC s) ⟨x0, x1, x2, x3, x4, x5⟩) else declAt ChR.name (whyC s) 4 l (k + 1)) := Lib.hid (HST2.out.trans (if_neg (by omega)))
        have hk9 : (k : Int) + 1 ≤ 4 := by omega
        have hm9 : ((k : Int) == 4) = false := by simpa using hmost
        obtain ⟨c0, c1, c2, c3, c4, c5⟩ := HCK.out wr HB.out
        go_wp2_with fail
        refine (refName_any x0 wr).mono ?_
        obtain ⟨bn, HBNM⟩ : ∃ bn, Hid (nameB x0 = bn) := ⟨_, Lib.hid rfl⟩
        rw [HBNM.out]
        rintro e w2 ⟨rfl, hb2⟩
        have HB2 : Hid (Below w.heap.size w w2) := Lib.hid (bthen HB.out hb2)
        clear hb2 c0 c1 c2 c3 c4 c5
        cases bn with
        | false =>
          have HRE : Hid ((r1, r2) = ((k : Int), (6 : Int))) := Lib.hid (HD.out.symm.trans (HST3.out.trans (if_pos HBNM.out)))
          go_wp2
          go_ret2
          exact ⟨by rw [pairC_of HRE.out]; rfl, HB2.out⟩
        | true =>
          have HST4 : Hid (declAt ChR.name (whyC s) 4 l k = if seenB ((l.take k).map ChR.name) x0 = true then ((k : Int), 7) else if (whyC s) ⟨x0, x1, x2, x3, x4, x5⟩ ≠ 0 then ((k : Int), (whyC s) ⟨x0, x1, x2, x3, x4, x5⟩) else declAt ChR.name (whyC s) 4 l (k + 1)) := Lib.hid (HST3.out.trans (if_neg (by rw [HBNM.out]; decide)))
          have HBN : Hid (∀ n, Below w.heap.size w (w2.drewN n)) := Lib.hid (fun n => below_drewN HB2.out n)
          go_wp2
          go_loopw [7] (fun i wi => ∃ (z j : Nat), z ≤ k ∧ i = .int .i64 z ∧ wi = w2.drewN j ∧ Hid (∀ y, y < z → ((l.getD y default).name.toList == x0.toList) = false)) (fun i _ => k - (intOf i).toNat)
          case atStart => exact ⟨0, 0, Nat.zero_le _, rfl, rfl, Lib.hid (fun y hy => absurd hy (Nat.not_lt_zero _))⟩
          case round =>
            obtain ⟨z, j, hz, rfl, rfl, HV⟩ := hrel
            obtain ⟨d0, d1, d2, d3, d4, d5⟩ := HCK.out w2 HB2.out
            by_cases hzk : z < k
            · have g0 := (HCW.out w2 HB2.out z (by have := HLT.out; omega)).1
              obtain ⟨y, HY⟩ : ∃ y, Hid ((l.getD z default).name = y) := ⟨_, Lib.hid rfl⟩
              rw [HY.out] at g0
              have hzm : z < m := by omega
              obtain ⟨bb, hbb⟩ : ∃ bb, (y.toList == x0.toList) = bb := ⟨_, rfl⟩
              cases bb with
              | true =>
                have HSN : Hid (seenB ((l.take k).map ChR.name) x0 = true) := Lib.hid (seenC_yes hzk (Nat.le_of_lt HLT.out) (by rw [HY.out]; exact hbb))
                have HRE : Hid ((r1, r2) = ((k : Int), (7 : Int))) := Lib.hid (HD.out.symm.trans (HST4.out.trans (if_pos HSN.out)))
                go_wp2
                go_quiet (fail)
                go_wp2
                go_ret2
                exact ⟨by rw [pairC_of HRE.out]; rfl, by first | exact HBN.out _ | (rw [World.drewN_drewN]; exact HBN.out _)⟩
              | false =>
                have HV2 : Hid (∀ y, y < z + 1 → ((l.getD y default).name.toList == x0.toList) = false) := Lib.hid (fun v hv => by
                  by_cases hvz : v = z
                  · rw [hvz, HY.out]; exact hbb
                  · exact HV.out v (by omega))
                go_wp2
                go_quiet (fail)
                go_wp2
                go_roundw
                case rel => exact ⟨z + 1, _, by omega, by go_num, by first | rfl | exact World.drewN_drewN _ _ _, HV2⟩
                case measure => simp [intOf]; omega
            · obtain rfl : z = k := by omega
              have HSN : Hid (seenB ((l.take z).map ChR.name) x0 = false) := Lib.hid (seenC_no (Nat.le_of_lt HLT.out) HV.out)
              have HST5 : Hid (declAt ChR.name (whyC s) 4 l z = if (whyC s) ⟨x0, x1, x2, x3, x4, x5⟩ ≠ 0 then ((z : Int), (whyC s) ⟨x0, x1, x2, x3, x4, x5⟩) else declAt ChR.name (whyC s) 4 l (z + 1)) := Lib.hid (HST4.out.trans (if_neg (by rw [HSN.out]; decide)))
              obtain ⟨q, HQ⟩ : ∃ q, Hid (sizeF s x1 = q) := ⟨_, Lib.hid rfl⟩
              obtain ⟨b3, HB3⟩ : ∃ b3, Hid (rangeB x3 x4 = b3) := ⟨_, Lib.hid rfl⟩
              by_cases hs : x1 = 0
              · subst hs
                have hs0 : ((0 : Int) != 0) = false := rfl
                by_cases hz1 : x2 < 1
                · have hz1d : decide (x2 < 1) = true := decide_eq_true hz1
                  have HWY : Hid ((whyC s) ⟨x0, 0, x2, x3, x4, x5⟩ = 10) := Lib.hid (by unfold whyC; rw [if_neg (by simp only [namedB_zero]; decide), if_pos (.inl hz1)])
                  have HRE : Hid ((r1, r2) = ((z : Int), (10 : Int))) := Lib.hid (HD.out.symm.trans (HST5.out.trans ((if_pos (by rw [HWY.out]; decide)).trans (by rw [HWY.out]))))
                  go_wp2
                  go_quiet (fail)
                  go_wp2
                  go_ret2
                  exact ⟨by rw [pairC_of HRE.out]; rfl, by first | exact HBN.out _ | (rw [World.drewN_drewN]; exact HBN.out _)⟩
                · have hz1d : decide (x2 < 1) = false := decide_eq_false hz1
                  by_cases hz2 : 4 < x2
                  · have hz2d : decide (4 < x2) = true := decide_eq_true hz2
                    have HWY : Hid ((whyC s) ⟨x0, 0, x2, x3, x4, x5⟩ = 10) := Lib.hid (by unfold whyC; rw [if_neg (by simp only [namedB_zero]; decide), if_pos (.inr (.inl hz2))])
                    have HRE : Hid ((r1, r2) = ((z : Int), (10 : Int))) := Lib.hid (HD.out.symm.trans (HST5.out.trans ((if_pos (by rw [HWY.out]; decide)).trans (by rw [HWY.out]))))
                    go_wp2
                    go_quiet (fail)
                    go_wp2
                    go_ret2
                    exact ⟨by rw [pairC_of HRE.out]; rfl, by first | exact HBN.out _ | (rw [World.drewN_drewN]; exact HBN.out _)⟩
                  · have hz2d : decide (4 < x2) = false := decide_eq_false hz2
                    cases b3 with
                    | false =>
                      have HWY : Hid ((whyC s) ⟨x0, 0, x2, x3, x4, x5⟩ = 10) := Lib.hid (by unfold whyC; rw [if_neg (by simp only [namedB_zero]; decide), if_pos (.inr (.inr ⟨rfl, HB3.out⟩))])
                      have HRE : Hid ((r1, r2) = ((z : Int), (10 : Int))) := Lib.hid (HD.out.symm.trans (HST5.out.trans ((if_pos (by rw [HWY.out]; decide)).trans (by rw [HWY.out]))))
                      go_wp2
                      go_region_held3 (fun w' => w'.cell? ⟨b, o + z * 6 + 1, none⟩ = some (.int .i64 0) ∧ w'.cell? ⟨b, o + z * 6 + 2, none⟩ = some (.int .i64 x2) ∧ w'.cell? ⟨b, o + z * 6 + 3, none⟩ = some (.int .i64 x3) ∧ w'.cell? ⟨b, o + z * 6 + 4, none⟩ = some (.int .i64 x4)) (first | exact ⟨d1, d2, d3, d4⟩ | go_keep) ((go_at_call 76; refine (refSpan_any _ _ _).mono ?_; rw [HB3.out]; rintro e w' ⟨rfl, rfl⟩))
                      go_wp2
                      go_ret2
                      exact ⟨by rw [pairC_of HRE.out]; rfl, by first | exact HBN.out _ | (rw [World.drewN_drewN]; exact HBN.out _)⟩
                    | true =>
                      have HWY : Hid ((whyC s) ⟨x0, 0, x2, x3, x4, x5⟩ = 0) := Lib.hid (by unfold whyC; rw [if_neg (by simp only [namedB_zero]; decide), if_neg (by simp only [HB3.out]; simp; omega)])
                      have HST6 : Hid (declAt ChR.name (whyC s) 4 l z = declAt ChR.name (whyC s) 4 l (z + 1)) := Lib.hid (HST5.out.trans (if_neg (by rw [HWY.out]; simp)))
                      go_wp2
                      go_region_held3 (fun w' => w'.cell? ⟨b, o + z * 6 + 1, none⟩ = some (.int .i64 0) ∧ w'.cell? ⟨b, o + z * 6 + 2, none⟩ = some (.int .i64 x2) ∧ w'.cell? ⟨b, o + z * 6 + 3, none⟩ = some (.int .i64 x3) ∧ w'.cell? ⟨b, o + z * 6 + 4, none⟩ = some (.int .i64 x4)) (first | exact ⟨d1, d2, d3, d4⟩ | go_keep) ((go_at_call 76; refine (refSpan_any _ _ _).mono ?_; rw [HB3.out]; rintro e w' ⟨rfl, rfl⟩))
                      go_wp2
                      go_roundw
                      case rel => exact ⟨z + 1, by omega, by go_num, by omega, Lib.hid (by first | exact HBN.out _ | exact HBN.out (j + 1) | (rw [World.drewN_drewN]; exact HBN.out _)), Lib.hid (HST6.out.symm.trans HD.out)⟩
                      case measure => simp [intOf]; omega
              · have hs1 : (x1 != 0) = true := by simpa using hs
                have hs2 : (x1 == 0) = false := by simpa using hs
                by_cases hq : q = 0
                · subst hq
                  have HWY : Hid ((whyC s) ⟨x0, x1, x2, x3, x4, x5⟩ = 8) := Lib.hid (by unfold whyC; rw [if_pos (namedB_no hs HQ.out)])
                  have HRE : Hid ((r1, r2) = ((z : Int), (8 : Int))) := Lib.hid (HD.out.symm.trans (HST5.out.trans ((if_pos (by rw [HWY.out]; decide)).trans (by rw [HWY.out]))))
                  go_wp2_with fail
                  refine (refSize_any x1 X.A X.m X.c s _ HS.out.m HS.out.small (HS.out.ds.below (HBN.out j))).mono ?_
                  rw [HQ.out]
                  rintro e w' ⟨rfl, rfl⟩
                  go_wp2
                  go_ret2
                  exact ⟨by rw [pairC_of HRE.out]; rfl, HBN.out _⟩
                · have hq2 : (q == 0) = false := by simpa using hq
                  have HN : Hid (namedB s x1 = true) := Lib.hid (namedB_yes (by rw [HQ.out]; exact hq))
                  by_cases hz1 : x2 < 1
                  · have hz1d : decide (x2 < 1) = true := decide_eq_true hz1
                    have HWY : Hid ((whyC s) ⟨x0, x1, x2, x3, x4, x5⟩ = 10) := Lib.hid (by unfold whyC; rw [if_neg (by simp only [HN.out]; decide), if_pos (.inl hz1)])
                    have HRE : Hid ((r1, r2) = ((z : Int), (10 : Int))) := Lib.hid (HD.out.symm.trans (HST5.out.trans ((if_pos (by rw [HWY.out]; decide)).trans (by rw [HWY.out]))))
                    go_wp2_with fail
                    refine (refSize_any x1 X.A X.m X.c s _ HS.out.m HS.out.small (HS.out.ds.below (HBN.out j))).mono ?_
                    rw [HQ.out]
                    rintro e w' ⟨rfl, rfl⟩
                    go_wp2
                    go_quiet (fail)
                    go_wp2
                    go_ret2
                    exact ⟨by rw [pairC_of HRE.out]; rfl, by first | exact HBN.out _ | (rw [World.drewN_drewN]; exact HBN.out _)⟩
                  · have hz1d : decide (x2 < 1) = false := decide_eq_false hz1
                    by_cases hz2 : 4 < x2
                    · have hz2d : decide (4 < x2) = true := decide_eq_true hz2
                      have HWY : Hid ((whyC s) ⟨x0, x1, x2, x3, x4, x5⟩ = 10) := Lib.hid (by unfold whyC; rw [if_neg (by simp only [HN.out]; decide), if_pos (.inr (.inl hz2))])
                      have HRE : Hid ((r1, r2) = ((z : Int), (10 : Int))) := Lib.hid (HD.out.symm.trans (HST5.out.trans ((if_pos (by rw [HWY.out]; decide)).trans (by rw [HWY.out]))))
                      go_wp2_with fail
                      refine (refSize_any x1 X.A X.m X.c s _ HS.out.m HS.out.small (HS.out.ds.below (HBN.out j))).mono ?_
                      rw [HQ.out]
                      rintro e w' ⟨rfl, rfl⟩
                      go_wp2
                      go_quiet (fail)
                      go_wp2
                      go_ret2
                      exact ⟨by rw [pairC_of HRE.out]; rfl, by first | exact HBN.out _ | (rw [World.drewN_drewN]; exact HBN.out _)⟩
                    · have hz2d : decide (4 < x2) = false := decide_eq_false hz2
                      have HWY : Hid ((whyC s) ⟨x0, x1, x2, x3, x4, x5⟩ = 0) := Lib.hid (by unfold whyC; rw [if_neg (by simp only [HN.out]; decide), if_neg (by simp [hs]; omega)])
                      have HST6 : Hid (declAt ChR.name (whyC s) 4 l z = declAt ChR.name (whyC s) 4 l (z + 1)) := Lib.hid (HST5.out.trans (if_neg (by rw [HWY.out]; simp)))
                      go_wp2_with fail
                      refine (refSize_any x1 X.A X.m X.c s _ HS.out.m HS.out.small (HS.out.ds.below (HBN.out j))).mono ?_
                      rw [HQ.out]
                      rintro e w' ⟨rfl, rfl⟩
                      go_wp2
                      go_quiet (fail)
                      go_wp2
                      go_roundw
                      case rel => exact ⟨z + 1, by omega, by go_num, by omega, Lib.hid (by first | exact HBN.out _ | exact HBN.out (j + 1) | (rw [World.drewN_drewN]; exact HBN.out _)), Lib.hid (HST6.out.symm.trans HD.out)⟩
                      case measure => simp [intOf]; omega
    · obtain rfl : k = m := by omega
      have HRE : Hid ((r1, r2) = ((0 : Int), (0 : Int))) := Lib.hid (HD.out.symm.trans (declAt_end _ _ _ _ _ (by rw [← HM.out]; exact Nat.le_refl _)))
      go_wp2
      go_ret2
      exact ⟨by rw [pairC_of HRE.out]; rfl, HB.out⟩
end Go.Proofs.Ytjciamefkacchaa.dcl
