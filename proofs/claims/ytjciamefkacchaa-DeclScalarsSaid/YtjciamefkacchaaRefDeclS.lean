/- The document's Scalars. -/
import Derived.Test.YtjciamefkacchaaDeclRefVar
import Derived.Test.YtjciamefkacchaaDeclAll
import Derived.Test.YtjciamefkacchaaLexRefName
namespace Go.Proofs.Ytjciamefkacchaa.dcl
open Go.ChangeShapes Go.WideShapes Go.ChangeAt Go.RowKit Go.Proofs.Ytjciamefkacchaa.lx

theorem seenS_no {l : List ScR} {k : Nat} {x : ByteArray} (hk : k ≤ l.length) (h : ∀ z, z < k → ((l.getD z default).name.toList == x.toList) = false) : seenB ((l.take k).map ScR.name) x = false := by
  unfold seenB
  rw [List.any_eq_false]
  intro y hy
  obtain ⟨v, hv, rfl⟩ := List.mem_map.1 hy
  obtain ⟨i, hi, rfl⟩ := List.getElem_of_mem hv
  simp only [List.length_take] at hi
  have := h i (by omega)
  rw [ByteArray.toList_eq, ByteArray.toList_eq] at this
  simp only [List.getElem_take]
  have e : l.getD i default = l[i]'(by omega) := by simp [List.getD, show i < l.length by omega]
  rw [e] at this
  simpa using this
theorem seenS_yes {l : List ScR} {k z : Nat} {x : ByteArray} (hz : z < k) (hk : k ≤ l.length) (h : ((l.getD z default).name.toList == x.toList) = true) : seenB ((l.take k).map ScR.name) x = true := by
  unfold seenB
  rw [List.any_eq_true]
  have e : l.getD z default = l[z]'(by omega) := by simp [List.getD, show z < l.length by omega]
  refine ⟨(l.getD z default).name, List.mem_map.2 ⟨l.getD z default, ?_, rfl⟩, ?_⟩
  · rw [e, show l[z]'(by omega) = (l.take k)[z]'(by simp; omega) by simp]
    exact List.getElem_mem _
  · rw [ByteArray.toList_eq, ByteArray.toList_eq] at h
    simpa using h

set_option maxRecDepth 100000 in
set_option maxHeartbeats 8000000 in
theorem refScalars_any (l : List ScR) (A : Option Addr) (c m : Nat) (w : World) (hm : m = l.length) (hmm : m ≤ 1000000000000000) (hA : DS w A l) :
    Calls Try.prog 29 #[.slice A m c] w (PairS w (scalarsF l)) := by
  have HM := Lib.hid hm
  have HA := Lib.hid hA
  obtain ⟨r1, r2, HR⟩ : ∃ r1 r2, Hid (declAt ScR.name whyS 2 l 0 = (r1, r2)) := ⟨_, _, Lib.hid rfl⟩
  rw [show scalarsF l = (r1, r2) from HR.out]
  clear hm hA
  go_enter Try.func29, Try.ntmps29
  go_wp2
  go_loopw [4] (fun i wr => ∃ k : Nat, k ≤ m ∧ i = .int .i64 k ∧ (k : Int) ≤ 2 ∧ Hid (Below w.heap.size w wr) ∧ Hid (declAt ScR.name whyS 2 l k = (r1, r2))) (fun i _ => m - (intOf i).toNat)
  case atStart => exact ⟨0, Nat.zero_le _, rfl, by omega, Lib.hid (Below.refl _ _), HR⟩
  case round =>
    obtain ⟨k, hk, rfl, hkm, HB, HD⟩ := hrel
    by_cases hlt : k < m
    · obtain ⟨b, o, rfl, hb0, hc0⟩ := HA.out (by rw [← HM.out]; omega)
      have HC0 := Lib.hid hc0
      have HLT : Hid (k < l.length) := Lib.hid (by rw [← HM.out]; exact hlt)
      have HST := Lib.hid (declAt_step default ScR.name whyS 2 l k HLT.out)
      obtain ⟨x, HX⟩ : ∃ x, Hid (l.getD k default = x) := ⟨_, Lib.hid rfl⟩
      obtain ⟨x0, x1⟩ := x
      have HST2 : Hid (declAt ScR.name whyS 2 l k = if 2 ≤ (k : Int) then ((k : Int), 11) else if nameB x0 = false then ((k : Int), 6) else if seenB ((l.take k).map ScR.name) x0 = true then ((k : Int), 7) else if whyS ⟨x0, x1⟩ ≠ 0 then ((k : Int), whyS ⟨x0, x1⟩) else declAt ScR.name whyS 2 l (k + 1)) := Lib.hid (by
        have := HST.out
        rw [HX.out] at this
        exact this)
      have HCW : Hid (∀ W, Below w.heap.size w W → ∀ i, i < l.length → W.cell? ⟨b, o + i * 2, none⟩ = some (.string (l.getD i default).name) ∧ W.cell? ⟨b, o + i * 2 + 1, none⟩ = some (.int .i64 (l.getD i default).size)) := Lib.hid (fun W hW i hi => by
        obtain ⟨h0, h1⟩ := HC0.out i hi
        exact ⟨(hW.cell (p := ⟨b, o + i * 2, none⟩) hb0).trans h0, (hW.cell (p := ⟨b, o + i * 2 + 1, none⟩) hb0).trans h1⟩)
      have HCK : Hid (∀ W, Below w.heap.size w W → W.cell? ⟨b, o + k * 2, none⟩ = some (.string x0) ∧ W.cell? ⟨b, o + k * 2 + 1, none⟩ = some (.int .i64 x1)) := Lib.hid (fun W hW => by
        have := HCW.out W hW k HLT.out
        rw [HX.out] at this
        exact this)
      clear hc0 HST
      by_cases hmost : (k : Int) = 2
      · have HRE : Hid ((r1, r2) = ((k : Int), (11 : Int))) := Lib.hid (HD.out.symm.trans (HST2.out.trans (if_pos (by omega))))
        obtain rfl : k = 2 := by omega
        go_wp2
        go_ret2
        exact ⟨by rw [pairS_of HRE.out]; rfl, HB.out⟩
      · have HST3 : Hid (declAt ScR.name whyS 2 l k = if nameB x0 = false then ((k : Int), 6) else if seenB ((l.take k).map ScR.name) x0 = true then ((k : Int), 7) else if whyS ⟨x0, x1⟩ ≠ 0 then ((k : Int), whyS ⟨x0, x1⟩) else declAt ScR.name whyS 2 l (k + 1)) := Lib.hid (HST2.out.trans (if_neg (by omega)))
        have hk9 : (k : Int) + 1 ≤ 2 := by omega
        have hm9 : ((k : Int) == 2) = false := by simpa using hmost
        obtain ⟨c0, c1⟩ := HCK.out wr HB.out
        go_wp2_with fail
        refine (refName_any x0 wr).mono ?_
        obtain ⟨bn, HBNM⟩ : ∃ bn, Hid (nameB x0 = bn) := ⟨_, Lib.hid rfl⟩
        rw [HBNM.out]
        rintro e w2 ⟨rfl, hb2⟩
        have HB2 : Hid (Below w.heap.size w w2) := Lib.hid (bthen HB.out hb2)
        clear hb2 c0 c1
        cases bn with
        | false =>
          have HRE : Hid ((r1, r2) = ((k : Int), (6 : Int))) := Lib.hid (HD.out.symm.trans (HST3.out.trans (if_pos HBNM.out)))
          go_wp2
          go_ret2
          exact ⟨by rw [pairS_of HRE.out]; rfl, HB2.out⟩
        | true =>
          have HST4 : Hid (declAt ScR.name whyS 2 l k = if seenB ((l.take k).map ScR.name) x0 = true then ((k : Int), 7) else if whyS ⟨x0, x1⟩ ≠ 0 then ((k : Int), whyS ⟨x0, x1⟩) else declAt ScR.name whyS 2 l (k + 1)) := Lib.hid (HST3.out.trans (if_neg (by rw [HBNM.out]; decide)))
          have HBN : Hid (∀ n, Below w.heap.size w (w2.drewN n)) := Lib.hid (fun n => below_drewN HB2.out n)
          go_wp2
          go_loopw [5] (fun i wi => ∃ (z j : Nat), z ≤ k ∧ i = .int .i64 z ∧ wi = w2.drewN j ∧ Hid (∀ y, y < z → ((l.getD y default).name.toList == x0.toList) = false)) (fun i _ => k - (intOf i).toNat)
          case atStart => exact ⟨0, 0, Nat.zero_le _, rfl, rfl, Lib.hid (fun y hy => absurd hy (Nat.not_lt_zero _))⟩
          case round =>
            obtain ⟨z, j, hz, rfl, rfl, HV⟩ := hrel
            obtain ⟨d0, d1⟩ := HCK.out w2 HB2.out
            by_cases hzk : z < k
            · have g0 := (HCW.out w2 HB2.out z (by have := HLT.out; omega)).1
              obtain ⟨y, HY⟩ : ∃ y, Hid ((l.getD z default).name = y) := ⟨_, Lib.hid rfl⟩
              rw [HY.out] at g0
              have hzm : z < m := by omega
              obtain ⟨bb, hbb⟩ : ∃ bb, (y.toList == x0.toList) = bb := ⟨_, rfl⟩
              cases bb with
              | true =>
                have HSN : Hid (seenB ((l.take k).map ScR.name) x0 = true) := Lib.hid (seenS_yes hzk (Nat.le_of_lt HLT.out) (by rw [HY.out]; exact hbb))
                have HRE : Hid ((r1, r2) = ((k : Int), (7 : Int))) := Lib.hid (HD.out.symm.trans (HST4.out.trans (if_pos HSN.out)))
                go_wp2
                go_quiet (fail)
                go_wp2
                go_ret2
                exact ⟨by rw [pairS_of HRE.out]; rfl, by first | exact HBN.out _ | (rw [World.drewN_drewN]; exact HBN.out _)⟩
              | false =>
                have HV2 : Hid (∀ y, y < z + 1 → ((l.getD y default).name.toList == x0.toList) = false) := Lib.hid (fun v hv => by
                  by_cases hvz : v = z
                  · rw [hvz, HY.out]; exact hbb
                  · exact HV.out v (by omega))
                go_wp2
                go_quiet (fail)
                go_wp2
                go_roundw
                case rel => exact ⟨z + 1, _, by omega, by go_num, by first | rfl | exact World.drewN_drewN _ _ _, HV2⟩
                case measure => simp [intOf]; omega
            · obtain rfl : z = k := by omega
              have HSN : Hid (seenB ((l.take z).map ScR.name) x0 = false) := Lib.hid (seenS_no (Nat.le_of_lt HLT.out) HV.out)
              have HST5 : Hid (declAt ScR.name whyS 2 l z = if whyS ⟨x0, x1⟩ ≠ 0 then ((z : Int), whyS ⟨x0, x1⟩) else declAt ScR.name whyS 2 l (z + 1)) := Lib.hid (HST4.out.trans (if_neg (by rw [HSN.out]; decide)))
              have HBN2 : Hid (Below w.heap.size w (w2.drewN j)) := Lib.hid (HBN.out j)
              by_cases hz1 : x1 < 1
              · have HWY : Hid (whyS ⟨x0, x1⟩ = 10) := Lib.hid (by unfold whyS; rw [show fitB x1 1 4 = false from decide_eq_false (by omega)]; rfl)
                have HRE : Hid ((r1, r2) = ((z : Int), (10 : Int))) := Lib.hid (HD.out.symm.trans (HST5.out.trans ((if_pos (by rw [HWY.out]; decide)).trans (by rw [HWY.out]))))
                go_wp2
                go_ret2
                exact ⟨by rw [pairS_of HRE.out]; rfl, HBN.out _⟩
              · by_cases hz2 : 4 < x1
                · have HWY : Hid (whyS ⟨x0, x1⟩ = 10) := Lib.hid (by unfold whyS; rw [show fitB x1 1 4 = false from decide_eq_false (by omega)]; rfl)
                  have HRE : Hid ((r1, r2) = ((z : Int), (10 : Int))) := Lib.hid (HD.out.symm.trans (HST5.out.trans ((if_pos (by rw [HWY.out]; decide)).trans (by rw [HWY.out]))))
                  go_wp2
                  go_ret2
                  exact ⟨by rw [pairS_of HRE.out]; rfl, HBN.out _⟩
                · have HWY : Hid (whyS ⟨x0, x1⟩ = 0) := Lib.hid (by unfold whyS; rw [show fitB x1 1 4 = true from decide_eq_true (by omega)]; rfl)
                  have HST6 : Hid (declAt ScR.name whyS 2 l z = declAt ScR.name whyS 2 l (z + 1)) := Lib.hid (HST5.out.trans (if_neg (by rw [HWY.out]; simp)))
                  go_wp2
                  go_roundw
                  case rel => exact ⟨z + 1, by omega, by go_num, by omega, HBN2, Lib.hid (HST6.out.symm.trans HD.out)⟩
                  case measure => simp [intOf]; omega
    · obtain rfl : k = m := by omega
      have HRE : Hid ((r1, r2) = ((0 : Int), (0 : Int))) := Lib.hid (HD.out.symm.trans (declAt_end _ _ _ _ _ (by rw [← HM.out]; exact Nat.le_refl _)))
      go_wp2
      go_ret2
      exact ⟨by rw [pairS_of HRE.out]; rfl, HB.out⟩
end Go.Proofs.Ytjciamefkacchaa.dcl
