/- Declarations: what declared tells of Vars. -/
import Derived.Test.YtodloljpfbkkjaaRRRRDeclPure
namespace Go.Proofs.YtodloljpfbkkjaaRRRR.dcl
open Go.ChangeShapes Go.WideShapes Go.ChangeAt Go.RowKit Go.Proofs.YtodloljpfbkkjaaRRRR.lx

/-- A slice of api.Var at address A (nil let in) reads as l. -/
def DV (w : World) (A : Option Addr) (l : List VarR) : Prop :=
  0 < l.length → ∃ b off, A = some ⟨b, off, none⟩ ∧ b < w.heap.size ∧ ∀ i, i < l.length → w.cell? ⟨b, off + i * 6, none⟩ = some (.string (l.getD i default).name) ∧ w.cell? ⟨b, off + i * 6 + 1, none⟩ = some (.int .i64 (l.getD i default).sc) ∧ w.cell? ⟨b, off + i * 6 + 2, none⟩ = some (.int .i64 (l.getD i default).over) ∧ w.cell? ⟨b, off + i * 6 + 3, none⟩ = some (.int .i64 (l.getD i default).lo) ∧ w.cell? ⟨b, off + i * 6 + 4, none⟩ = some (.int .i64 (l.getD i default).hi) ∧ w.cell? ⟨b, off + i * 6 + 5, none⟩ = some (.int .i64 (l.getD i default).init)
theorem DV.below {w w' : World} {A : Option Addr} {l : List VarR} (h : DV w A l) (hk : Below w.heap.size w w') : DV w' A l := fun hn => by
  obtain ⟨b, off, e, hb, hc⟩ := h hn
  refine ⟨b, off, e, Nat.lt_of_lt_of_le hb hk.size, fun i hi => ?_⟩
  obtain ⟨h0, h1, h2, h3, h4, h5⟩ := hc i hi
  exact ⟨(hk.cell (p := ⟨b, off + i * 6, none⟩) hb).trans h0, (hk.cell (p := ⟨b, off + i * 6 + 1, none⟩) hb).trans h1, (hk.cell (p := ⟨b, off + i * 6 + 2, none⟩) hb).trans h2, (hk.cell (p := ⟨b, off + i * 6 + 3, none⟩) hb).trans h3, (hk.cell (p := ⟨b, off + i * 6 + 4, none⟩) hb).trans h4, (hk.cell (p := ⟨b, off + i * 6 + 5, none⟩) hb).trans h5⟩
theorem DV.nil (w : World) (A : Option Addr) : DV w A [] := fun h => absurd h (by simp)
theorem nameV_any (x : VarR) (w : World) : Calls Try.prog 27 #[x.v] w fun e w' => e = .returned (.string x.name) ∧ Below w.heap.size w w' := by
  obtain ⟨x0, x1, x2, x3, x4, x5⟩ := x
  unfold VarR.v
  go_enter Try.func27, Try.ntmps27
  go_wp2
  go_ret
  exact ⟨rfl, below_alloc1 _ _⟩

/-- What a call leaves that hands back a place and why. -/
def PairV (w : World) (r : Int × Int) (e : Ending) (w' : World) : Prop := e = .returned (.tuple #[.int .i64 r.1, .int .i64 r.2]) ∧ Below w.heap.size w w'
theorem pairV_of {a b : Int} {r : Int × Int} (h : r = (a, b)) : Ending.returned (.tuple #[.int .i64 r.1, .int .i64 r.2]) = .returned (.tuple #[.int .i64 a, .int .i64 b]) := by rw [h]

set_option maxRecDepth 100000 in
set_option maxHeartbeats 4000000 in
theorem declaredV_any (g : Nat) (lb : Array Value) (eg : ∀ args w, (callFunc g args).run Try.prog w = .ok (.enter g args) w) (why : VarR → Int) (l : List VarR) (A : Option Addr) (c m : Nat) (most : Int) (w : World)
    (hm : m = l.length) (hmm : m ≤ 1000000000000000) (hA : DV w A l) (hN : ∀ x ∈ l, x.name.size ≤ maxLen) (h0 : 0 ≤ most)
    (hP : ∀ (W : World) (x : VarR), Below w.heap.size w W → Calls Try.prog g (#[x.v] ++ lb) W fun e w' => e = .returned (.int .i64 (why x)) ∧ Below W.heap.size W w') :
    Calls Try.prog 35 #[.slice A m c, .int .i64 most, .func (.func 27) #[] #[], .func (.func g) #[] lb] w (PairV w (declAt VarR.name why most l 0)) := by
  have HM := Lib.hid hm
  have HA := Lib.hid hA
  have HNM := Lib.hid hN
  have HP := Lib.hid hP
  obtain ⟨r1, r2, HR⟩ : ∃ r1 r2, Hid (declAt VarR.name why most l 0 = (r1, r2)) := ⟨_, _, Lib.hid rfl⟩
  rw [HR.out]
  clear hm hA hN hP
  have hmk := @run_makeMap Try.prog
  go_enter Try.func35, Try.ntmps35
  go_wp2
  clear hmk
  go_loopw [17] (fun i wr => ∃ k : Nat, k ≤ m ∧ i = .int .i64 k ∧ (k : Int) ≤ most ∧ Hid (MSet wr w.heap.size ((l.take k).map VarR.name)) ∧ Hid (Below w.heap.size w wr) ∧ Hid (declAt VarR.name why most l k = (r1, r2))) (fun i _ => m - (intOf i).toNat)
  case atStart => exact ⟨0, Nat.zero_le _, rfl, h0, Lib.hid (MSet.made w), Lib.hid ((Below.refl _ _).alloc (Nat.le_refl _) _), HR⟩
  case round =>
    obtain ⟨k, hk, rfl, hkm, HS, HB, HD⟩ := hrel
    by_cases hlt : k < m
    · obtain ⟨b, o, rfl, hb, hc⟩ := HA.out.below HB.out (by rw [← HM.out]; omega)
      obtain ⟨c0, c1, c2, c3, c4, c5⟩ := hc k (by rw [← HM.out]; exact hlt)
      have HST := Lib.hid (declAt_step default VarR.name why most l k (by rw [← HM.out]; exact hlt))
      have HTK := Lib.hid (take_at (default : VarR) (l := l) (k := k) (by rw [← HM.out]; exact hlt))
      have HNK : Hid ((l.getD k default).name.size ≤ maxLen) := Lib.hid (HNM.out _ (by rw [show l.getD k default = l[k]'(by rw [← HM.out]; exact hlt) by simp [List.getD, show k < l.length by rw [← HM.out]; exact hlt]]; exact List.getElem_mem _))
      obtain ⟨x, HX⟩ : ∃ x, Hid (l.getD k default = x) := ⟨_, Lib.hid rfl⟩
      obtain ⟨x0, x1, x2, x3, x4, x5⟩ := x
      rw [HX.out] at c0 c1 c2 c3 c4 c5
      simp only at c0 c1 c2 c3 c4 c5
      have HST2 : Hid (declAt VarR.name why most l k = if most ≤ k then ((k : Int), 11) else if nameB x0 = false then ((k : Int), 6) else if seenB ((l.take k).map VarR.name) x0 = true then ((k : Int), 7) else if why ⟨x0, x1, x2, x3, x4, x5⟩ ≠ 0 then ((k : Int), why ⟨x0, x1, x2, x3, x4, x5⟩) else declAt VarR.name why most l (k + 1)) := Lib.hid (by
        have := HST.out
        rw [HX.out] at this
        exact this)
      have HSZ : Hid (x0.size ≤ maxLen) := Lib.hid (by have := HNK.out; rw [HX.out] at this; exact this)
      have HSN : Hid ((l.take (k + 1)).map VarR.name = (l.take k).map VarR.name ++ [x0]) := Lib.hid (by rw [HTK.out, HX.out, List.map_append]; rfl)
      have HLN : Hid (((l.take k).map VarR.name).length < maxLen) := Lib.hid (by simp; unfold maxLen; omega)
      clear hc HST HTK HNK
      generalize (l.take k).map VarR.name = seen at *
      by_cases heq : (k : Int) = most
      · have HRE : Hid ((r1, r2) = ((k : Int), (11 : Int))) := Lib.hid (HD.out.symm.trans (HST2.out.trans (if_pos (by omega))))
        have HBZ : Hid (Below w.heap.size w (wr.alloc (.cells #[.string x0, .int .i64 x1, .int .i64 x2, .int .i64 x3, .int .i64 x4, .int .i64 x5] 53))) := Lib.hid (HB.out.alloc HB.out.size _)
        have heq' := heq.symm
        clear heq
        subst heq'
        go_wp2
        go_ret2
        exact ⟨by rw [pairV_of HRE.out]; rfl, HBZ.out⟩
      · have HST3 : Hid (declAt VarR.name why most l k = if nameB x0 = false then ((k : Int), 6) else if seenB seen x0 = true then ((k : Int), 7) else if why ⟨x0, x1, x2, x3, x4, x5⟩ ≠ 0 then ((k : Int), why ⟨x0, x1, x2, x3, x4, x5⟩) else declAt VarR.name why most l (k + 1)) := Lib.hid (HST2.out.trans (if_neg (by omega)))
        go_wp2_with fail
        obtain ⟨w1, HW1⟩ : ∃ w1, w1 = wr.alloc (.cells #[.string x0, .int .i64 x1, .int .i64 x2, .int .i64 x3, .int .i64 x4, .int .i64 x5] 53) := ⟨_, rfl⟩
        obtain ⟨bz, HBZ⟩ : ∃ bz, Hid (wr.heap.size = bz) := ⟨_, Lib.hid rfl⟩
        have d0 : w1.cell? ⟨bz, 0, none⟩ = some (.string x0) := by rw [HW1, ← HBZ.out]; exact World.cell?_alloc_at _ _ _ _ rfl
        have d1 : w1.cell? ⟨bz, 1, none⟩ = some (.int .i64 x1) := by rw [HW1, ← HBZ.out]; exact World.cell?_alloc_at _ _ _ _ rfl
        have d2 : w1.cell? ⟨bz, 2, none⟩ = some (.int .i64 x2) := by rw [HW1, ← HBZ.out]; exact World.cell?_alloc_at _ _ _ _ rfl
        have d3 : w1.cell? ⟨bz, 3, none⟩ = some (.int .i64 x3) := by rw [HW1, ← HBZ.out]; exact World.cell?_alloc_at _ _ _ _ rfl
        have d4 : w1.cell? ⟨bz, 4, none⟩ = some (.int .i64 x4) := by rw [HW1, ← HBZ.out]; exact World.cell?_alloc_at _ _ _ _ rfl
        have d5 : w1.cell? ⟨bz, 5, none⟩ = some (.int .i64 x5) := by rw [HW1, ← HBZ.out]; exact World.cell?_alloc_at _ _ _ _ rfl
        have HZ : Hid (bz < w1.heap.size) := Lib.hid (by rw [HW1, ← HBZ.out]; simp)
        have HB1 : Hid (Below w.heap.size w w1) := Lib.hid (by rw [HW1]; exact HB.out.alloc HB.out.size _)
        have HS1 : Hid (MSet w1 w.heap.size seen) := Lib.hid (by rw [HW1]; exact HS.out.below (below_alloc1 _ _))
        rw [← HW1, HBZ.out]
        clear HW1 c0 c1 c2 c3 c4 c5 HS
        refine (nameV_any ⟨x0, x1, x2, x3, x4, x5⟩ w1).mono ?_
        rintro e w2 ⟨rfl, hb2⟩
        simp only
        have HQ2 := Lib.hid hb2
        clear hb2
        go_wp2_with fail
        refine (name_any x0 w2).mono ?_
        obtain ⟨bn, HBN⟩ : ∃ bn, Hid (nameB x0 = bn) := ⟨_, Lib.hid rfl⟩
        rw [HBN.out]
        rintro e w3 ⟨rfl, hb3⟩
        have HQ3 : Hid (Below w1.heap.size w1 w3) := Lib.hid (bthen HQ2.out hb3)
        clear hb3
        cases bn with
        | false =>
          have HRE : Hid ((r1, r2) = ((k : Int), (6 : Int))) := Lib.hid (HD.out.symm.trans (HST3.out.trans (if_pos HBN.out)))
          have HBZ3 : Hid (Below w.heap.size w w3) := Lib.hid (bthen HB1.out HQ3.out)
          clear d0 d1 d2 d3 d4 d5
          go_wp2
          go_ret2
          exact ⟨by rw [pairV_of HRE.out]; rfl, HBZ3.out⟩
        | true =>
          have HST4 : Hid (declAt VarR.name why most l k = if seenB seen x0 = true then ((k : Int), 7) else if why ⟨x0, x1, x2, x3, x4, x5⟩ ≠ 0 then ((k : Int), why ⟨x0, x1, x2, x3, x4, x5⟩) else declAt VarR.name why most l (k + 1)) := Lib.hid (HST3.out.trans (if_neg (by rw [HBN.out]; decide)))
          have e0 := (HQ3.out.cell (p := ⟨bz, 0, none⟩) HZ.out).trans d0
          have e1 := (HQ3.out.cell (p := ⟨bz, 1, none⟩) HZ.out).trans d1
          have e2 := (HQ3.out.cell (p := ⟨bz, 2, none⟩) HZ.out).trans d2
          have e3 := (HQ3.out.cell (p := ⟨bz, 3, none⟩) HZ.out).trans d3
          have e4 := (HQ3.out.cell (p := ⟨bz, 4, none⟩) HZ.out).trans d4
          have e5 := (HQ3.out.cell (p := ⟨bz, 5, none⟩) HZ.out).trans d5
          have HZ3 : Hid (bz < w3.heap.size) := Lib.hid (Nat.lt_of_lt_of_le HZ.out HQ3.out.size)
          have HS3 : Hid (MSet w3 w.heap.size seen) := Lib.hid (HS1.out.below HQ3.out)
          have HB3 : Hid (Below w.heap.size w w3) := Lib.hid (bthen HB1.out HQ3.out)
          clear d0 d1 d2 d3 d4 d5 HS1 HB1 HQ3 HQ2
          go_wp2_with fail
          refine (nameV_any ⟨x0, x1, x2, x3, x4, x5⟩ w3).mono ?_
          rintro e w4 ⟨rfl, hb4⟩
          simp only
          obtain ⟨bs, HBS⟩ : ∃ bs, Hid (seenB seen x0 = bs) := ⟨_, Lib.hid rfl⟩
          have hlk := (HS3.out.below hb4).lookup HSZ.out
          rw [HBS.out] at hlk
          have HQ4 := Lib.hid hb4
          clear hb4
          cases bs with
          | true =>
            have HRE : Hid ((r1, r2) = ((k : Int), (7 : Int))) := Lib.hid (HD.out.symm.trans (HST4.out.trans (if_pos HBS.out)))
            have HB4 : Hid (Below w.heap.size w w4) := Lib.hid (bthen HB3.out HQ4.out)
            clear e0 e1 e2 e3 e4 e5
            go_wp2
            go_ret2
            exact ⟨by rw [pairV_of HRE.out]; rfl, HB4.out⟩
          | false =>
            have HST5 : Hid (declAt VarR.name why most l k = if why ⟨x0, x1, x2, x3, x4, x5⟩ ≠ 0 then ((k : Int), why ⟨x0, x1, x2, x3, x4, x5⟩) else declAt VarR.name why most l (k + 1)) := Lib.hid (HST4.out.trans (if_neg (by rw [HBS.out]; decide)))
            have d0 := (HQ4.out.cell (p := ⟨bz, 0, none⟩) HZ3.out).trans e0
            have d1 := (HQ4.out.cell (p := ⟨bz, 1, none⟩) HZ3.out).trans e1
            have d2 := (HQ4.out.cell (p := ⟨bz, 2, none⟩) HZ3.out).trans e2
            have d3 := (HQ4.out.cell (p := ⟨bz, 3, none⟩) HZ3.out).trans e3
            have d4 := (HQ4.out.cell (p := ⟨bz, 4, none⟩) HZ3.out).trans e4
            have d5 := (HQ4.out.cell (p := ⟨bz, 5, none⟩) HZ3.out).trans e5
            have HZ4 : Hid (bz < w4.heap.size) := Lib.hid (Nat.lt_of_lt_of_le HZ3.out HQ4.out.size)
            have HS4 : Hid (MSet w4 w.heap.size seen) := Lib.hid (HS3.out.below HQ4.out)
            have HB4 : Hid (Below w.heap.size w w4) := Lib.hid (bthen HB3.out HQ4.out)
            clear e0 e1 e2 e3 e4 e5 HS3 HB3 HQ4
            go_wp2_with fail
            refine (HP.out w4 ⟨x0, x1, x2, x3, x4, x5⟩ HB4.out).mono ?_
            obtain ⟨wz, HWZ⟩ : ∃ wz, Hid (why ⟨x0, x1, x2, x3, x4, x5⟩ = wz) := ⟨_, Lib.hid rfl⟩
            rw [HWZ.out]
            rintro e w5 ⟨rfl, hb5⟩
            have e0 := (hb5.cell (p := ⟨bz, 0, none⟩) HZ4.out).trans d0
            have e1 := (hb5.cell (p := ⟨bz, 1, none⟩) HZ4.out).trans d1
            have e2 := (hb5.cell (p := ⟨bz, 2, none⟩) HZ4.out).trans d2
            have e3 := (hb5.cell (p := ⟨bz, 3, none⟩) HZ4.out).trans d3
            have e4 := (hb5.cell (p := ⟨bz, 4, none⟩) HZ4.out).trans d4
            have e5 := (hb5.cell (p := ⟨bz, 5, none⟩) HZ4.out).trans d5
            have HS5 : Hid (MSet w5 w.heap.size seen) := Lib.hid (HS4.out.below hb5)
            have HB5 : Hid (Below w.heap.size w w5) := Lib.hid (bthen HB4.out hb5)
            clear hb5 hlk d0 d1 d2 d3 d4 d5 HS4 HB4
            by_cases hw : wz = 0
            · subst hw
              have HST6 : Hid (declAt VarR.name why most l k = declAt VarR.name why most l (k + 1)) := Lib.hid (HST5.out.trans (if_neg (by rw [HWZ.out]; simp)))
              go_wp2_with fail
              refine (nameV_any ⟨x0, x1, x2, x3, x4, x5⟩ w5).mono ?_
              rintro e w6 ⟨rfl, hb6⟩
              simp only
              obtain ⟨w7, hup, hs7, hg7⟩ := (HS5.out.below hb6).update HSZ.out HLN.out
              have HS7 : Hid (MSet w7 w.heap.size ((l.take (k + 1)).map VarR.name)) := Lib.hid (by rw [HSN.out]; exact hs7)
              have HB6 := bthen HB5.out hb6
              have HB7 : Hid (Below w.heap.size w w7) := Lib.hid (HB6.grown hg7 HB6.size (fun j hj => by cases hj; exact Nat.le_refl _))
              clear hs7 hg7 hb6 HB6 e0 e1 e2 e3 e4 e5
              go_wp2
              go_roundw
              case rel => exact ⟨k + 1, by omega, by go_num, by omega, HS7, HB7, Lib.hid (HST6.out.symm.trans HD.out)⟩
              case measure => simp [intOf]; omega
            · have hw2 : (wz != 0) = true := by simpa using hw
              have HRE : Hid ((r1, r2) = ((k : Int), wz)) := Lib.hid (HD.out.symm.trans (HST5.out.trans ((if_pos (by rw [HWZ.out]; exact hw)).trans (by rw [HWZ.out]))))
              clear e0 e1 e2 e3 e4 e5
              go_wp2
              go_ret2
              exact ⟨by rw [pairV_of HRE.out]; rfl, HB5.out⟩
    · obtain rfl : k = m := by omega
      have HRE : Hid ((r1, r2) = ((0 : Int), (0 : Int))) := Lib.hid (HD.out.symm.trans (declAt_end _ _ _ _ _ (by rw [← HM.out]; exact Nat.le_refl _)))
      go_wp2
      go_ret2
      exact ⟨by rw [pairV_of HRE.out]; rfl, HB.out⟩
end Go.Proofs.YtodloljpfbkkjaaRRRR.dcl
