/- Declarations: what declared tells of Scalars. -/
import Derived.Test.YtodloljpfbkkjaaRRRRDeclPure
namespace Go.Proofs.YtodloljpfbkkjaaRRRR.dcl
open Go.ChangeShapes Go.WideShapes Go.ChangeAt Go.RowKit Go.Proofs.YtodloljpfbkkjaaRRRR.lx

theorem nameS_any (x : ScR) (w : World) : Calls Try.prog 25 #[x.v] w fun e w' => e = .returned (.string x.name) ∧ Below w.heap.size w w' := by
  obtain ⟨x0, x1⟩ := x
  unfold ScR.v
  go_enter Try.func25, Try.ntmps25
  go_wp2
  go_ret
  exact ⟨rfl, below_alloc1 _ _⟩

/-- What a call leaves that hands back a place and why. -/
def PairS (w : World) (r : Int × Int) (e : Ending) (w' : World) : Prop := e = .returned (.tuple #[.int .i64 r.1, .int .i64 r.2]) ∧ Below w.heap.size w w'
theorem pairS_of {a b : Int} {r : Int × Int} (h : r = (a, b)) : Ending.returned (.tuple #[.int .i64 r.1, .int .i64 r.2]) = .returned (.tuple #[.int .i64 a, .int .i64 b]) := by rw [h]

set_option maxRecDepth 100000 in
set_option maxHeartbeats 4000000 in
theorem declaredS_any (g : Nat) (lb : Array Value) (eg : ∀ args w, (callFunc g args).run Try.prog w = .ok (.enter g args) w) (why : ScR → Int) (l : List ScR) (A : Option Addr) (c m : Nat) (most : Int) (w : World)
    (hm : m = l.length) (hmm : m ≤ 1000000000000000) (hA : DS w A l) (hN : ∀ x ∈ l, x.name.size ≤ maxLen) (h0 : 0 ≤ most)
    (hP : ∀ (W : World) (x : ScR), Below w.heap.size w W → Calls Try.prog g (#[x.v] ++ lb) W fun e w' => e = .returned (.int .i64 (why x)) ∧ Below W.heap.size W w') :
    Calls Try.prog 39 #[.slice A m c, .int .i64 most, .func (.func 25) #[] #[], .func (.func g) #[] lb] w (PairS w (declAt ScR.name why most l 0)) := by
  have HM := Lib.hid hm
  have HA := Lib.hid hA
  have HNM := Lib.hid hN
  have HP := Lib.hid hP
  obtain ⟨r1, r2, HR⟩ : ∃ r1 r2, Hid (declAt ScR.name why most l 0 = (r1, r2)) := ⟨_, _, Lib.hid rfl⟩
  rw [HR.out]
  clear hm hA hN hP
  have hmk := @run_makeMap Try.prog
  go_enter Try.func39, Try.ntmps39
  go_wp2
  clear hmk
  go_loopw [17] (fun i wr => ∃ k : Nat, k ≤ m ∧ i = .int .i64 k ∧ (k : Int) ≤ most ∧ Hid (MSet wr w.heap.size ((l.take k).map ScR.name)) ∧ Hid (Below w.heap.size w wr) ∧ Hid (declAt ScR.name why most l k = (r1, r2))) (fun i _ => m - (intOf i).toNat)
  case atStart => exact ⟨0, Nat.zero_le _, rfl, h0, Lib.hid (MSet.made w), Lib.hid ((Below.refl _ _).alloc (Nat.le_refl _) _), HR⟩
  case round =>
    obtain ⟨k, hk, rfl, hkm, HS, HB, HD⟩ := hrel
    by_cases hlt : k < m
    · obtain ⟨b, o, rfl, hb, hc⟩ := HA.out.below HB.out (by rw [← HM.out]; omega)
      obtain ⟨c0, c1⟩ := hc k (by rw [← HM.out]; exact hlt)
      have HST := Lib.hid (declAt_step default ScR.name why most l k (by rw [← HM.out]; exact hlt))
      have HTK := Lib.hid (take_at (default : ScR) (l := l) (k := k) (by rw [← HM.out]; exact hlt))
      have HNK : Hid ((l.getD k default).name.size ≤ maxLen) := Lib.hid (HNM.out _ (by rw [show l.getD k default = l[k]'(by rw [← HM.out]; exact hlt) by simp [List.getD, show k < l.length by rw [← HM.out]; exact hlt]]; exact List.getElem_mem _))
      obtain ⟨x, HX⟩ : ∃ x, Hid (l.getD k default = x) := ⟨_, Lib.hid rfl⟩
      obtain ⟨x0, x1⟩ := x
      rw [HX.out] at c0 c1
      simp only at c0 c1
      have HST2 : Hid (declAt ScR.name why most l k = if most ≤ k then ((k : Int), 11) else if nameB x0 = false then ((k : Int), 6) else if seenB ((l.take k).map ScR.name) x0 = true then ((k : Int), 7) else if why ⟨x0, x1⟩ ≠ 0 then ((k : Int), why ⟨x0, x1⟩) else declAt ScR.name why most l (k + 1)) := Lib.hid (by
        have := HST.out
        rw [HX.out] at this
        exact this)
      have HSZ : Hid (x0.size ≤ maxLen) := Lib.hid (by have := HNK.out; rw [HX.out] at this; exact this)
      have HSN : Hid ((l.take (k + 1)).map ScR.name = (l.take k).map ScR.name ++ [x0]) := Lib.hid (by rw [HTK.out, HX.out, List.map_append]; rfl)
      have HLN : Hid (((l.take k).map ScR.name).length < maxLen) := Lib.hid (by simp; unfold maxLen; omega)
      clear hc HST HTK HNK
      generalize (l.take k).map ScR.name = seen at *
      by_cases heq : (k : Int) = most
      · have HRE : Hid ((r1, r2) = ((k : Int), (11 : Int))) := Lib.hid (HD.out.symm.trans (HST2.out.trans (if_pos (by omega))))
        have HBZ : Hid (Below w.heap.size w (wr.alloc (.cells #[.string x0, .int .i64 x1] 41))) := Lib.hid (HB.out.alloc HB.out.size _)
        have heq' := heq.symm
        clear heq
        subst heq'
        go_wp2
        go_ret2
        exact ⟨by rw [pairS_of HRE.out]; rfl, HBZ.out⟩
      · have HST3 : Hid (declAt ScR.name why most l k = if nameB x0 = false then ((k : Int), 6) else if seenB seen x0 = true then ((k : Int), 7) else if why ⟨x0, x1⟩ ≠ 0 then ((k : Int), why ⟨x0, x1⟩) else declAt ScR.name why most l (k + 1)) := Lib.hid (HST2.out.trans (if_neg (by omega)))
        go_wp2_with fail
        obtain ⟨w1, HW1⟩ : ∃ w1, w1 = wr.alloc (.cells #[.string x0, .int .i64 x1] 41) := ⟨_, rfl⟩
        obtain ⟨bz, HBZ⟩ : ∃ bz, Hid (wr.heap.size = bz) := ⟨_, Lib.hid rfl⟩
        have d0 : w1.cell? ⟨bz, 0, none⟩ = some (.string x0) := by rw [HW1, ← HBZ.out]; exact World.cell?_alloc_at _ _ _ _ rfl
        have d1 : w1.cell? ⟨bz, 1, none⟩ = some (.int .i64 x1) := by rw [HW1, ← HBZ.out]; exact World.cell?_alloc_at _ _ _ _ rfl
        have HZ : Hid (bz < w1.heap.size) := Lib.hid (by rw [HW1, ← HBZ.out]; simp)
        have HB1 : Hid (Below w.heap.size w w1) := Lib.hid (by rw [HW1]; exact HB.out.alloc HB.out.size _)
        have HS1 : Hid (MSet w1 w.heap.size seen) := Lib.hid (by rw [HW1]; exact HS.out.below (below_alloc1 _ _))
        rw [← HW1, HBZ.out]
        clear HW1 c0 c1 HS
        refine (nameS_any ⟨x0, x1⟩ w1).mono ?_
        rintro e w2 ⟨rfl, hb2⟩
        simp only
        have HQ2 := Lib.hid hb2
        clear hb2
        go_wp2_with fail
        refine (name_any x0 w2).mono ?_
        obtain ⟨bn, HBN⟩ : ∃ bn, Hid (nameB x0 = bn) := ⟨_, Lib.hid rfl⟩
        rw [HBN.out]
        rintro e w3 ⟨rfl, hb3⟩
        have HQ3 : Hid (Below w1.heap.size w1 w3) := Lib.hid (bthen HQ2.out hb3)
        clear hb3
        cases bn with
        | false =>
          have HRE : Hid ((r1, r2) = ((k : Int), (6 : Int))) := Lib.hid (HD.out.symm.trans (HST3.out.trans (if_pos HBN.out)))
          have HBZ3 : Hid (Below w.heap.size w w3) := Lib.hid (bthen HB1.out HQ3.out)
          clear d0 d1
          go_wp2
          go_ret2
          exact ⟨by rw [pairS_of HRE.out]; rfl, HBZ3.out⟩
        | true =>
          have HST4 : Hid (declAt ScR.name why most l k = if seenB seen x0 = true then ((k : Int), 7) else if why ⟨x0, x1⟩ ≠ 0 then ((k : Int), why ⟨x0, x1⟩) else declAt ScR.name why most l (k + 1)) := Lib.hid (HST3.out.trans (if_neg (by rw [HBN.out]; decide)))
          have e0 := (HQ3.out.cell (p := ⟨bz, 0, none⟩) HZ.out).trans d0
          have e1 := (HQ3.out.cell (p := ⟨bz, 1, none⟩) HZ.out).trans d1
          have HZ3 : Hid (bz < w3.heap.size) := Lib.hid (Nat.lt_of_lt_of_le HZ.out HQ3.out.size)
          have HS3 : Hid (MSet w3 w.heap.size seen) := Lib.hid (HS1.out.below HQ3.out)
          have HB3 : Hid (Below w.heap.size w w3) := Lib.hid (bthen HB1.out HQ3.out)
          clear d0 d1 HS1 HB1 HQ3 HQ2
          go_wp2_with fail
          refine (nameS_any ⟨x0, x1⟩ w3).mono ?_
          rintro e w4 ⟨rfl, hb4⟩
          simp only
          obtain ⟨bs, HBS⟩ : ∃ bs, Hid (seenB seen x0 = bs) := ⟨_, Lib.hid rfl⟩
          have hlk := (HS3.out.below hb4).lookup HSZ.out
          rw [HBS.out] at hlk
          have HQ4 := Lib.hid hb4
          clear hb4
          cases bs with
          | true =>
            have HRE : Hid ((r1, r2) = ((k : Int), (7 : Int))) := Lib.hid (HD.out.symm.trans (HST4.out.trans (if_pos HBS.out)))
            have HB4 : Hid (Below w.heap.size w w4) := Lib.hid (bthen HB3.out HQ4.out)
            clear e0 e1
            go_wp2
            go_ret2
            exact ⟨by rw [pairS_of HRE.out]; rfl, HB4.out⟩
          | false =>
            have HST5 : Hid (declAt ScR.name why most l k = if why ⟨x0, x1⟩ ≠ 0 then ((k : Int), why ⟨x0, x1⟩) else declAt ScR.name why most l (k + 1)) := Lib.hid (HST4.out.trans (if_neg (by rw [HBS.out]; decide)))
            have d0 := (HQ4.out.cell (p := ⟨bz, 0, none⟩) HZ3.out).trans e0
            have d1 := (HQ4.out.cell (p := ⟨bz, 1, none⟩) HZ3.out).trans e1
            have HZ4 : Hid (bz < w4.heap.size) := Lib.hid (Nat.lt_of_lt_of_le HZ3.out HQ4.out.size)
            have HS4 : Hid (MSet w4 w.heap.size seen) := Lib.hid (HS3.out.below HQ4.out)
            have HB4 : Hid (Below w.heap.size w w4) := Lib.hid (bthen HB3.out HQ4.out)
            clear e0 e1 HS3 HB3 HQ4
            go_wp2_with fail
            refine (HP.out w4 ⟨x0, x1⟩ HB4.out).mono ?_
            obtain ⟨wz, HWZ⟩ : ∃ wz, Hid (why ⟨x0, x1⟩ = wz) := ⟨_, Lib.hid rfl⟩
            rw [HWZ.out]
            rintro e w5 ⟨rfl, hb5⟩
            have e0 := (hb5.cell (p := ⟨bz, 0, none⟩) HZ4.out).trans d0
            have e1 := (hb5.cell (p := ⟨bz, 1, none⟩) HZ4.out).trans d1
            have HS5 : Hid (MSet w5 w.heap.size seen) := Lib.hid (HS4.out.below hb5)
            have HB5 : Hid (Below w.heap.size w w5) := Lib.hid (bthen HB4.out hb5)
            clear hb5 hlk d0 d1 HS4 HB4
            by_cases hw : wz = 0
            · subst hw
              have HST6 : Hid (declAt ScR.name why most l k = declAt ScR.name why most l (k + 1)) := Lib.hid (HST5.out.trans (if_neg (by rw [HWZ.out]; simp)))
              go_wp2_with fail
              refine (nameS_any ⟨x0, x1⟩ w5).mono ?_
              rintro e w6 ⟨rfl, hb6⟩
              simp only
              obtain ⟨w7, hup, hs7, hg7⟩ := (HS5.out.below hb6).update HSZ.out HLN.out
              have HS7 : Hid (MSet w7 w.heap.size ((l.take (k + 1)).map ScR.name)) := Lib.hid (by rw [HSN.out]; exact hs7)
              have HB6 := bthen HB5.out hb6
              have HB7 : Hid (Below w.heap.size w w7) := Lib.hid (HB6.grown hg7 HB6.size (fun j hj => by cases hj; exact Nat.le_refl _))
              clear hs7 hg7 hb6 HB6 e0 e1
              go_wp2
              go_roundw
              case rel => exact ⟨k + 1, by omega, by go_num, by omega, HS7, HB7, Lib.hid (HST6.out.symm.trans HD.out)⟩
              case measure => simp [intOf]; omega
            · have hw2 : (wz != 0) = true := by simpa using hw
              have HRE : Hid ((r1, r2) = ((k : Int), wz)) := Lib.hid (HD.out.symm.trans (HST5.out.trans ((if_pos (by rw [HWZ.out]; exact hw)).trans (by rw [HWZ.out]))))
              clear e0 e1
              go_wp2
              go_ret2
              exact ⟨by rw [pairS_of HRE.out]; rfl, HB5.out⟩
    · obtain rfl : k = m := by omega
      have HRE : Hid ((r1, r2) = ((0 : Int), (0 : Int))) := Lib.hid (HD.out.symm.trans (declAt_end _ _ _ _ _ (by rw [← HM.out]; exact Nat.le_refl _)))
      go_wp2
      go_ret2
      exact ⟨by rw [pairS_of HRE.out]; rfl, HB.out⟩
end Go.Proofs.YtodloljpfbkkjaaRRRR.dcl
