/- The document's Names. -/
import Derived.Test.YtodloljpfbkkjaaRRRRNames
namespace Go.Proofs.YtodloljpfbkkjaaRRRR.nms
open Go.ChangeShapes Go.WideShapes Go.ChangeAt Go.RowKit

theorem OS.len {base : Nat} {w : World} {P : Option Addr} {N Z : Nat} {l : List ByteArray} (h : OS base w (.slice P N Z) l) : N = l.length := by
  obtain ⟨A, c, e, _⟩ := h.form
  injection e
/-- What a call leaves that hands back a row of texts. -/
def TextsP (w : World) (L : List ByteArray) (e : Ending) (w' : World) : Prop := ∃ A c, e = .returned (.slice A L.length c) ∧ TA w' A L ∧ Below w.heap.size w w'
set_option maxRecDepth 100000 in
set_option maxHeartbeats 8000000 in
theorem refNames_any (X : MdX) (M : Md) (w : World) (h : MR w X M) (hall : M.all.length ≤ 100000) : Calls Try.prog 13 #[X.v] w (TextsP w M.all) := by
  have HS := Lib.hid h
  have HALL := Lib.hid hall
  have s1 := h.s1
  have s2 := h.s2
  have s3 := h.s3
  have s4 := h.s4
  have s5 := h.s5
  clear h hall
  go_enter Try.func13, Try.ntmps13
  go_wp2
  obtain ⟨w1, HW1⟩ : ∃ w1, w1 = w.alloc (.cells #[.slice X.a1 X.n1 X.c1, .slice X.a2 X.n2 X.c2, .slice X.a3 X.n3 X.c3, .slice X.a4 X.n4 X.c4, .slice X.a5 X.n5 X.c5] 45) := ⟨_, rfl⟩
  have HM1 : Hid (BM w1 w.heap.size X) := Lib.hid (by rw [HW1]; exact BM.new _ _ _)
  have HBW : Hid (Below w.heap.size w w1) := Lib.hid (by rw [HW1]; exact below_alloc1 _ _)
  rw [← HW1]
  clear HW1
  have HS1 := Lib.hid (HS.out.below HBW.out)
  have HO0 : Hid (OS w1.heap.size w1 (.slice none 0 0) []) := Lib.hid (OS.nil _ _)
  have HB0 : Hid (Below w1.heap.size w1 w1) := Lib.hid (Below.refl _ _)
  have HACC0 : Hid (([] : List ByteArray).length + M.scs.length ≤ 100000) := Lib.hid (by have := HALL.out; simp only [Md.all, List.length_append, List.length_nil] at this ⊢; omega)
  go_loopw [3, 4] (fun ov iv wr => ∃ (k N : Nat) (P : Option Addr) (Z : Nat), k ≤ X.n1 ∧ iv = .int .i64 k ∧ ov = .slice P N Z ∧ Hid (OS w1.heap.size wr (.slice P N Z) ([] ++ (M.scs).take k)) ∧ Hid (Below w1.heap.size w1 wr)) (fun _ iv _ => X.n1 - (intOf iv).toNat)
  case atStart => exact ⟨0, 0, none, 0, Nat.zero_le _, rfl, rfl, Lib.hid (by rw [List.take_zero, List.append_nil]; exact HO0.out), HB0⟩
  case round =>
    obtain ⟨k1, N1, P1, Z1, hk1, rfl, rfl, HO1, HB1⟩ := hrel
    obtain ⟨W1, hW1⟩ : ∃ W, W = wr := ⟨_, rfl⟩
    subst hW1
    obtain ⟨⟨m0, m1, m2, m3, m4⟩, mz⟩ := HM1.out.below HB1.out
    by_cases hlt1 : k1 < X.n1
    · obtain ⟨b, o, hAA, hb, hc⟩ := ((HS1.out.below HB1.out).r1) (by rw [← HS.out.l1]; omega)
      have g0 := hc k1 (by rw [← HS.out.l1]; exact hlt1)
      obtain ⟨x, HXX⟩ : ∃ x, Hid ((M.scs).getD k1 default = x) := ⟨_, Lib.hid rfl⟩
      rw [HXX.out] at g0
      have HAA := Lib.hid hAA
      clear hAA hc
      have HN := Lib.hid HO1.out.len
      have hi0 : (0 : Int) ≤ (k1 : Int) := by omega
      have hi9 : (k1 : Int) < (X.n1 : Int) := by omega
      have HSN : Hid ((M.scs).take (k1 + 1) = (M.scs).take k1 ++ [x]) := Lib.hid (by rw [take_snoc (by rw [← HS.out.l1]; exact hlt1), HXX.out])
      have HNS : Hid (([] ++ (M.scs).take k1).length ≤ 100000) := Lib.hid (by
        have h8 := HACC0.out
        have h9 : ((M.scs).take k1).length ≤ (M.scs).length := by rw [List.length_take]; omega
        rw [List.length_append]
        omega)
      have hbz := HB1.out.size
      rw [HAA.out] at m0
      go_wp2_with (at_builtin; refine append_txt rfl (.tmp 18) (.tmp 25) rfl w1.heap.size (.slice P1 N1 Z1) ([] ++ (M.scs).take k1) rfl HO1.out x rfl HNS.out hbz (N1 + 1) (by have := HN.out; omega) ?_; intro A6 c6 w6 ho6 hb6; have HO6 : Hid (OS w1.heap.size w6 (.slice A6 (N1 + 1) c6) ([] ++ (M.scs).take (k1 + 1))) := Lib.hid (by rw [HSN.out, ← List.append_assoc]; exact ho6); have HB6 : Hid (Below w1.heap.size w1 w6) := Lib.hid (HB1.out.trans hb6); clear ho6 hb6 m0 m1 m2 m3 m4 g0)
      go_roundw
      case rel => exact ⟨k1 + 1, _, _, _, by omega, by go_num, rfl, HO6, HB6⟩
      case measure => simp [intOf]; omega
    · obtain rfl : k1 = X.n1 := by omega
      have HOE1 : Hid (OS w1.heap.size W1 (.slice P1 N1 Z1) ([] ++ M.scs)) := Lib.hid (by
        have := HO1.out
        rwa [HS.out.l1, List.take_length] at this)
      have HACC1 : Hid (([] ++ M.scs).length + M.vars.length ≤ 100000) := Lib.hid (by have := HALL.out; simp only [Md.all, List.length_append, List.length_nil] at this ⊢; omega)
      go_wp2
      clear m0 m1 m2 m3 m4 mz
      go_loopw [3, 5] (fun ov iv wr => ∃ (k N : Nat) (P : Option Addr) (Z : Nat), k ≤ X.n2 ∧ iv = .int .i64 k ∧ ov = .slice P N Z ∧ Hid (OS w1.heap.size wr (.slice P N Z) (([] ++ M.scs) ++ (M.vars).take k)) ∧ Hid (Below w1.heap.size w1 wr)) (fun _ iv _ => X.n2 - (intOf iv).toNat)
      case atStart => exact ⟨0, N1, P1, Z1, Nat.zero_le _, rfl, rfl, Lib.hid (by rw [List.take_zero, List.append_nil]; exact HOE1.out), HB1⟩
      case round =>
        obtain ⟨k2, N2, P2, Z2, hk2, rfl, rfl, HO2, HB2⟩ := hrel
        obtain ⟨W2, hW2⟩ : ∃ W, W = wr := ⟨_, rfl⟩
        subst hW2
        obtain ⟨⟨m0, m1, m2, m3, m4⟩, mz⟩ := HM1.out.below HB2.out
        by_cases hlt2 : k2 < X.n2
        · obtain ⟨b, o, hAA, hb, hc⟩ := ((HS1.out.below HB2.out).r2) (by rw [← HS.out.l2]; omega)
          have g0 := hc k2 (by rw [← HS.out.l2]; exact hlt2)
          obtain ⟨x, HXX⟩ : ∃ x, Hid ((M.vars).getD k2 default = x) := ⟨_, Lib.hid rfl⟩
          rw [HXX.out] at g0
          have HAA := Lib.hid hAA
          clear hAA hc
          have HN := Lib.hid HO2.out.len
          have hi0 : (0 : Int) ≤ (k2 : Int) := by omega
          have hi9 : (k2 : Int) < (X.n2 : Int) := by omega
          have HSN : Hid ((M.vars).take (k2 + 1) = (M.vars).take k2 ++ [x]) := Lib.hid (by rw [take_snoc (by rw [← HS.out.l2]; exact hlt2), HXX.out])
          have HNS : Hid ((([] ++ M.scs) ++ (M.vars).take k2).length ≤ 100000) := Lib.hid (by
            have h8 := HACC1.out
            have h9 : ((M.vars).take k2).length ≤ (M.vars).length := by rw [List.length_take]; omega
            rw [List.length_append]
            omega)
          have hbz := HB2.out.size
          rw [HAA.out] at m1
          go_wp2_with (at_builtin; refine append_txt rfl (.tmp 34) (.tmp 41) rfl w1.heap.size (.slice P2 N2 Z2) (([] ++ M.scs) ++ (M.vars).take k2) rfl HO2.out x rfl HNS.out hbz (N2 + 1) (by have := HN.out; omega) ?_; intro A6 c6 w6 ho6 hb6; have HO6 : Hid (OS w1.heap.size w6 (.slice A6 (N2 + 1) c6) (([] ++ M.scs) ++ (M.vars).take (k2 + 1))) := Lib.hid (by rw [HSN.out, ← List.append_assoc]; exact ho6); have HB6 : Hid (Below w1.heap.size w1 w6) := Lib.hid (HB2.out.trans hb6); clear ho6 hb6 m0 m1 m2 m3 m4 g0)
          go_roundw
          case rel => exact ⟨k2 + 1, _, _, _, by omega, by go_num, rfl, HO6, HB6⟩
          case measure => simp [intOf]; omega
        · obtain rfl : k2 = X.n2 := by omega
          have HOE2 : Hid (OS w1.heap.size W2 (.slice P2 N2 Z2) (([] ++ M.scs) ++ M.vars)) := Lib.hid (by
            have := HO2.out
            rwa [HS.out.l2, List.take_length] at this)
          have HACC2 : Hid (([] ++ M.scs ++ M.vars).length + M.chans.length ≤ 100000) := Lib.hid (by have := HALL.out; simp only [Md.all, List.length_append, List.length_nil] at this ⊢; omega)
          go_wp2
          clear m0 m1 m2 m3 m4 mz
          go_loopw [3, 6] (fun ov iv wr => ∃ (k N : Nat) (P : Option Addr) (Z : Nat), k ≤ X.n3 ∧ iv = .int .i64 k ∧ ov = .slice P N Z ∧ Hid (OS w1.heap.size wr (.slice P N Z) (([] ++ M.scs ++ M.vars) ++ (M.chans).take k)) ∧ Hid (Below w1.heap.size w1 wr)) (fun _ iv _ => X.n3 - (intOf iv).toNat)
          case atStart => exact ⟨0, N2, P2, Z2, Nat.zero_le _, rfl, rfl, Lib.hid (by rw [List.take_zero, List.append_nil]; exact HOE2.out), HB2⟩
          case round =>
            obtain ⟨k3, N3, P3, Z3, hk3, rfl, rfl, HO3, HB3⟩ := hrel
            obtain ⟨W3, hW3⟩ : ∃ W, W = wr := ⟨_, rfl⟩
            subst hW3
            obtain ⟨⟨m0, m1, m2, m3, m4⟩, mz⟩ := HM1.out.below HB3.out
            by_cases hlt3 : k3 < X.n3
            · obtain ⟨b, o, hAA, hb, hc⟩ := ((HS1.out.below HB3.out).r3) (by rw [← HS.out.l3]; omega)
              have g0 := hc k3 (by rw [← HS.out.l3]; exact hlt3)
              obtain ⟨x, HXX⟩ : ∃ x, Hid ((M.chans).getD k3 default = x) := ⟨_, Lib.hid rfl⟩
              rw [HXX.out] at g0
              have HAA := Lib.hid hAA
              clear hAA hc
              have HN := Lib.hid HO3.out.len
              have hi0 : (0 : Int) ≤ (k3 : Int) := by omega
              have hi9 : (k3 : Int) < (X.n3 : Int) := by omega
              have HSN : Hid ((M.chans).take (k3 + 1) = (M.chans).take k3 ++ [x]) := Lib.hid (by rw [take_snoc (by rw [← HS.out.l3]; exact hlt3), HXX.out])
              have HNS : Hid ((([] ++ M.scs ++ M.vars) ++ (M.chans).take k3).length ≤ 100000) := Lib.hid (by
                have h8 := HACC2.out
                have h9 : ((M.chans).take k3).length ≤ (M.chans).length := by rw [List.length_take]; omega
                rw [List.length_append]
                omega)
              have hbz := HB3.out.size
              rw [HAA.out] at m2
              go_wp2_with (at_builtin; refine append_txt rfl (.tmp 50) (.tmp 57) rfl w1.heap.size (.slice P3 N3 Z3) (([] ++ M.scs ++ M.vars) ++ (M.chans).take k3) rfl HO3.out x rfl HNS.out hbz (N3 + 1) (by have := HN.out; omega) ?_; intro A6 c6 w6 ho6 hb6; have HO6 : Hid (OS w1.heap.size w6 (.slice A6 (N3 + 1) c6) (([] ++ M.scs ++ M.vars) ++ (M.chans).take (k3 + 1))) := Lib.hid (by rw [HSN.out, ← List.append_assoc]; exact ho6); have HB6 : Hid (Below w1.heap.size w1 w6) := Lib.hid (HB3.out.trans hb6); clear ho6 hb6 m0 m1 m2 m3 m4 g0)
              go_roundw
              case rel => exact ⟨k3 + 1, _, _, _, by omega, by go_num, rfl, HO6, HB6⟩
              case measure => simp [intOf]; omega
            · obtain rfl : k3 = X.n3 := by omega
              have HOE3 : Hid (OS w1.heap.size W3 (.slice P3 N3 Z3) (([] ++ M.scs ++ M.vars) ++ M.chans)) := Lib.hid (by
                have := HO3.out
                rwa [HS.out.l3, List.take_length] at this)
              go_wp2
              clear m0 m1 m2 m3 m4 mz
              go_loopw [3, 7] (fun ov iv wr => ∃ (k N : Nat) (P : Option Addr) (Z : Nat), k ≤ X.n4 ∧ iv = .int .i64 k ∧ ov = .slice P N Z ∧ Hid (OS w1.heap.size wr (.slice P N Z) (([] ++ M.scs ++ M.vars ++ M.chans) ++ (M.procs.take k).flatMap PN.all)) ∧ Hid (Below w1.heap.size w1 wr)) (fun _ iv _ => X.n4 - (intOf iv).toNat)
              case atStart => exact ⟨0, N3, P3, Z3, Nat.zero_le _, rfl, rfl, Lib.hid (by rw [List.take_zero, List.flatMap_nil, List.append_nil]; exact HOE3.out), HB3⟩
              case round =>
                obtain ⟨k4, N4, P4, Z4, hk4, rfl, rfl, HO4, HB4⟩ := hrel
                obtain ⟨W4, hW4⟩ : ∃ W, W = wr := ⟨_, rfl⟩
                subst hW4
                by_cases hlt4 : k4 < X.n4
                · obtain ⟨b, o, hAA, hb, hc⟩ := HS1.out.r4 (by rw [← HS.out.l4]; omega)
                  obtain ⟨e0, e3, e4, hpl⟩ := hc k4 (by rw [← HS.out.l4]; exact hlt4)
                  obtain ⟨p, HPP⟩ : ∃ p, Hid (M.procs.getD k4 default = p) := ⟨_, Lib.hid rfl⟩
                  rw [HPP.out] at e0 e3 e4 hpl
                  obtain ⟨nm, D1, n1, d1, D2, n2, d2, vs, cs⟩ := p
                  simp only at e0 e3 e4
                  have HPL := Lib.hid hpl
                  have hpl1 : n1 = vs.length := hpl.l1
                  have hpl2 : n2 = cs.length := hpl.l2
                  have HV1 := Lib.hid hpl1
                  have HV2 := Lib.hid hpl2
                  have hs8 : n1 ≤ 1000 := hpl.s1
                  have hs9 : n2 ≤ 1000 := hpl.s2
                  have HE0 := Lib.hid e0
                  have HE3 := Lib.hid e3
                  have HE4 := Lib.hid e4
                  have HAA := Lib.hid hAA
                  have HSZ : Hid ((([] ++ M.scs ++ M.vars ++ M.chans) ++ (M.procs.take k4).flatMap PN.all).length + (1 + (vs.length + cs.length)) ≤ 100000) := Lib.hid (by
                    have h1 := HALL.out
                    have h2 := flat_take_le (l := M.procs) (f := PN.all) (k := k4) (by rw [← HS.out.l4]; exact hlt4)
                    rw [HPP.out] at h2
                    simp only [PN.all, List.length_cons, List.length_append] at h2
                    simp only [Md.all, List.length_append, List.length_nil] at h1 ⊢
                    omega)
                  have HSN : Hid (([] ++ M.scs ++ M.vars ++ M.chans) ++ (M.procs.take (k4 + 1)).flatMap PN.all = ([] ++ M.scs ++ M.vars ++ M.chans) ++ (M.procs.take k4).flatMap PN.all ++ [nm] ++ vs ++ cs) := Lib.hid (by
                    rw [flat_take_snoc (by rw [← HS.out.l4]; exact hlt4), HPP.out]
                    simp [PN.all, List.append_assoc])
                  clear hAA hc hpl hpl1 hpl2 e0 e3 e4
                  have hi0 : (0 : Int) ≤ (k4 : Int) := by omega
                  have hi9 : (k4 : Int) < (X.n4 : Int) := by omega
                  obtain ⟨⟨m0, m1, m2, m3, m4⟩, mz⟩ := HM1.out.below HB4.out
                  rw [HAA.out] at m3
                  have g0 := (HB4.out.cell (p := ⟨b, o + k4 * 5, none⟩) hb).trans HE0.out
                  have g3 := (HB4.out.cell (p := ⟨b, o + k4 * 5 + 3, none⟩) hb).trans HE3.out
                  have hbz := HB4.out.size
                  have HN := Lib.hid HO4.out.len
                  go_wp2_with (at_builtin; refine append_txt rfl (.tmp 66) (.tmp 73) rfl w1.heap.size (.slice P4 N4 Z4) (([] ++ M.scs ++ M.vars ++ M.chans) ++ (M.procs.take k4).flatMap PN.all) rfl HO4.out nm rfl (by have := HSZ.out; omega) hbz (N4 + 1) (by have := HN.out; omega) ?_; intro A6 c6 w6 ho6 hb6; have HO40 := Lib.hid ho6; have HB40 : Hid (Below w1.heap.size w1 w6) := Lib.hid (HB4.out.trans hb6); clear ho6 hb6 m0 m1 m2 m3 m4 mz g0 g3)
                  go_loopw [3, 8] (fun ov iv wr => ∃ (k N : Nat) (P : Option Addr) (Z : Nat), k ≤ n1 ∧ iv = .int .i64 k ∧ ov = .slice P N Z ∧ Hid (OS w1.heap.size wr (.slice P N Z) (([] ++ M.scs ++ M.vars ++ M.chans) ++ (M.procs.take k4).flatMap PN.all ++ [nm] ++ vs.take k)) ∧ Hid (Below w1.heap.size w1 wr)) (fun _ iv _ => n1 - (intOf iv).toNat)
                  case atStart => exact ⟨0, N4 + 1, A6, c6, Nat.zero_le _, rfl, rfl, Lib.hid (by rw [List.take_zero, List.append_nil]; exact HO40.out), HB40⟩
                  case round =>
                    obtain ⟨k5, N5, P5, Z5, hk5, rfl, rfl, HO5, HB5⟩ := hrel
                    obtain ⟨W5, hW5⟩ : ∃ W, W = wr := ⟨_, rfl⟩
                    subst hW5
                    obtain ⟨⟨m0, m1, m2, m3, m4⟩, mz⟩ := HM1.out.below HB5.out
                    rw [HAA.out] at m3
                    have g3 := (HB5.out.cell (p := ⟨b, o + k4 * 5 + 3, none⟩) hb).trans HE3.out
                    by_cases hlt5 : k5 < n1
                    · obtain ⟨b2, o2, hD, hb2, hc2⟩ := (HPL.out.r1.below HB5.out) (by show 0 < vs.length; rw [← HV1.out]; omega)
                      have g0 : _ = _ := hc2 k5 (by show k5 < vs.length; rw [← HV1.out]; exact hlt5)
                      obtain ⟨x, HXX⟩ : ∃ x, Hid (vs.getD k5 default = x) := ⟨_, Lib.hid rfl⟩
                      simp only at g0 hD
                      rw [HXX.out] at g0
                      rw [hD] at g3
                      have HD := Lib.hid hD
                      clear hD hc2
                      have HN := Lib.hid HO5.out.len
                      have hj0 : (0 : Int) ≤ (k5 : Int) := by omega
                      have hj9 : (k5 : Int) < (n1 : Int) := by omega
                      have HSX : Hid (vs.take (k5 + 1) = vs.take k5 ++ [x]) := Lib.hid (by rw [take_snoc (by rw [← HV1.out]; exact hlt5), HXX.out])
                      have HNS : Hid ((([] ++ M.scs ++ M.vars ++ M.chans) ++ (M.procs.take k4).flatMap PN.all ++ [nm] ++ vs.take k5).length ≤ 100000) := Lib.hid (by
                        have := HSZ.out
                        simp only [List.length_append, List.length_take, List.length_cons, List.length_nil] at this ⊢
                        omega)
                      have hbz := HB5.out.size
                      go_wp2_with (at_builtin; refine append_txt rfl (.tmp 86) (.tmp 97) rfl w1.heap.size (.slice P5 N5 Z5) (([] ++ M.scs ++ M.vars ++ M.chans) ++ (M.procs.take k4).flatMap PN.all ++ [nm] ++ vs.take k5) rfl HO5.out x rfl HNS.out hbz (N5 + 1) (by have := HN.out; omega) ?_; intro A6 c6 w6 ho6 hb6; have HO6 : Hid (OS w1.heap.size w6 (.slice A6 (N5 + 1) c6) (([] ++ M.scs ++ M.vars ++ M.chans) ++ (M.procs.take k4).flatMap PN.all ++ [nm] ++ vs.take (k5 + 1))) := Lib.hid (by rw [HSX.out, ← List.append_assoc]; exact ho6); have HB6 : Hid (Below w1.heap.size w1 w6) := Lib.hid (HB5.out.trans hb6); clear ho6 hb6 m0 m1 m2 m3 m4 g0 g3)
                      go_roundw
                      case rel => exact ⟨k5 + 1, _, _, _, by omega, by go_num, rfl, HO6, HB6⟩
                      case measure => simp [intOf]; omega
                    · obtain rfl : k5 = n1 := by omega
                      have HOE5 : Hid (OS w1.heap.size W5 (.slice P5 N5 Z5) (([] ++ M.scs ++ M.vars ++ M.chans) ++ (M.procs.take k4).flatMap PN.all ++ [nm] ++ vs)) := Lib.hid (by
                        have := HO5.out
                        rwa [HV1.out, List.take_length] at this)
                      go_wp2
                      clear m0 m1 m2 m3 m4 mz g3
                      go_loopw [3, 9] (fun ov iv wr => ∃ (k N : Nat) (P : Option Addr) (Z : Nat), k ≤ n2 ∧ iv = .int .i64 k ∧ ov = .slice P N Z ∧ Hid (OS w1.heap.size wr (.slice P N Z) (([] ++ M.scs ++ M.vars ++ M.chans) ++ (M.procs.take k4).flatMap PN.all ++ [nm] ++ vs ++ cs.take k)) ∧ Hid (Below w1.heap.size w1 wr)) (fun _ iv _ => n2 - (intOf iv).toNat)
                      case atStart => exact ⟨0, N5, P5, Z5, Nat.zero_le _, rfl, rfl, Lib.hid (by rw [List.take_zero, List.append_nil]; exact HOE5.out), HB5⟩
                      case round =>
                        obtain ⟨k6, N6, P6, Z6, hk6, rfl, rfl, HO6, HB6⟩ := hrel
                        obtain ⟨W6, hW6⟩ : ∃ W, W = wr := ⟨_, rfl⟩
                        subst hW6
                        obtain ⟨⟨m0, m1, m2, m3, m4⟩, mz⟩ := HM1.out.below HB6.out
                        rw [HAA.out] at m3
                        have g4 := (HB6.out.cell (p := ⟨b, o + k4 * 5 + 4, none⟩) hb).trans HE4.out
                        by_cases hlt6 : k6 < n2
                        · obtain ⟨b2, o2, hD, hb2, hc2⟩ := (HPL.out.r2.below HB6.out) (by show 0 < cs.length; rw [← HV2.out]; omega)
                          have g0 : _ = _ := hc2 k6 (by show k6 < cs.length; rw [← HV2.out]; exact hlt6)
                          obtain ⟨x, HXX⟩ : ∃ x, Hid (cs.getD k6 default = x) := ⟨_, Lib.hid rfl⟩
                          simp only at g0 hD
                          rw [HXX.out] at g0
                          rw [hD] at g4
                          have HD := Lib.hid hD
                          clear hD hc2
                          have HN := Lib.hid HO6.out.len
                          have hj0 : (0 : Int) ≤ (k6 : Int) := by omega
                          have hj9 : (k6 : Int) < (n2 : Int) := by omega
                          have HSX : Hid (cs.take (k6 + 1) = cs.take k6 ++ [x]) := Lib.hid (by rw [take_snoc (by rw [← HV2.out]; exact hlt6), HXX.out])
                          have HNS : Hid ((([] ++ M.scs ++ M.vars ++ M.chans) ++ (M.procs.take k4).flatMap PN.all ++ [nm] ++ vs ++ cs.take k6).length ≤ 100000) := Lib.hid (by
                            have := HSZ.out
                            simp only [List.length_append, List.length_take, List.length_cons, List.length_nil] at this ⊢
                            omega)
                          have hbz := HB6.out.size
                          go_wp2_with (at_builtin; refine append_txt rfl (.tmp 110) (.tmp 121) rfl w1.heap.size (.slice P6 N6 Z6) (([] ++ M.scs ++ M.vars ++ M.chans) ++ (M.procs.take k4).flatMap PN.all ++ [nm] ++ vs ++ cs.take k6) rfl HO6.out x rfl HNS.out hbz (N6 + 1) (by have := HN.out; omega) ?_; intro A6 c6 w6 ho6 hb6; have HO6 : Hid (OS w1.heap.size w6 (.slice A6 (N6 + 1) c6) (([] ++ M.scs ++ M.vars ++ M.chans) ++ (M.procs.take k4).flatMap PN.all ++ [nm] ++ vs ++ cs.take (k6 + 1))) := Lib.hid (by rw [HSX.out, ← List.append_assoc]; exact ho6); have HB6 : Hid (Below w1.heap.size w1 w6) := Lib.hid (HB6.out.trans hb6); clear ho6 hb6 m0 m1 m2 m3 m4 g0 g4)
                          go_roundw
                          case rel => exact ⟨k6 + 1, _, _, _, by omega, by go_num, rfl, HO6, HB6⟩
                          case measure => simp [intOf]; omega
                        · obtain rfl : k6 = n2 := by omega
                          have HOE6 : Hid (OS w1.heap.size W6 (.slice P6 N6 Z6) (([] ++ M.scs ++ M.vars ++ M.chans) ++ (M.procs.take k4).flatMap PN.all ++ [nm] ++ vs ++ cs)) := Lib.hid (by
                            have := HO6.out
                            rwa [HV2.out, List.take_length] at this)
                          have HOX : Hid (OS w1.heap.size W6 (.slice P6 N6 Z6) (([] ++ M.scs ++ M.vars ++ M.chans) ++ (M.procs.take (k4 + 1)).flatMap PN.all)) := Lib.hid (by rw [HSN.out]; exact HOE6.out)
                          go_wp2
                          go_roundw
                          case rel => exact ⟨k4 + 1, N6, P6, Z6, by omega, by go_num, rfl, HOX, HB6⟩
                          case measure => simp [intOf]; omega
                · obtain rfl : k4 = X.n4 := by omega
                  have HOE4 : Hid (OS w1.heap.size W4 (.slice P4 N4 Z4) (([] ++ M.scs ++ M.vars ++ M.chans) ++ M.procs.flatMap PN.all)) := Lib.hid (by
                    have := HO4.out
                    rwa [HS.out.l4, List.take_length] at this)
                  obtain ⟨⟨m0, m1, m2, m3, m4⟩, mz⟩ := HM1.out.below HB4.out
                  have HACC4 : Hid ((([] ++ M.scs ++ M.vars ++ M.chans) ++ M.procs.flatMap PN.all).length + M.props.length ≤ 100000) := Lib.hid (by have := HALL.out; simp only [Md.all, List.length_append, List.length_nil] at this ⊢; omega)
                  go_wp2
                  clear m0 m1 m2 m3 m4 mz
                  go_loopw [3, 10] (fun ov iv wr => ∃ (k N : Nat) (P : Option Addr) (Z : Nat), k ≤ X.n5 ∧ iv = .int .i64 k ∧ ov = .slice P N Z ∧ Hid (OS w1.heap.size wr (.slice P N Z) ((([] ++ M.scs ++ M.vars ++ M.chans) ++ M.procs.flatMap PN.all) ++ (M.props).take k)) ∧ Hid (Below w1.heap.size w1 wr)) (fun _ iv _ => X.n5 - (intOf iv).toNat)
                  case atStart => exact ⟨0, N4, P4, Z4, Nat.zero_le _, rfl, rfl, Lib.hid (by rw [List.take_zero, List.append_nil]; exact HOE4.out), HB4⟩
                  case round =>
                    obtain ⟨k7, N7, P7, Z7, hk7, rfl, rfl, HO7, HB7⟩ := hrel
                    obtain ⟨W7, hW7⟩ : ∃ W, W = wr := ⟨_, rfl⟩
                    subst hW7
                    obtain ⟨⟨m0, m1, m2, m3, m4⟩, mz⟩ := HM1.out.below HB7.out
                    by_cases hlt7 : k7 < X.n5
                    · obtain ⟨b, o, hAA, hb, hc⟩ := ((HS1.out.below HB7.out).r5) (by rw [← HS.out.l5]; omega)
                      have g0 := hc k7 (by rw [← HS.out.l5]; exact hlt7)
                      obtain ⟨x, HXX⟩ : ∃ x, Hid ((M.props).getD k7 default = x) := ⟨_, Lib.hid rfl⟩
                      rw [HXX.out] at g0
                      have HAA := Lib.hid hAA
                      clear hAA hc
                      have HN := Lib.hid HO7.out.len
                      have hi0 : (0 : Int) ≤ (k7 : Int) := by omega
                      have hi9 : (k7 : Int) < (X.n5 : Int) := by omega
                      have HSN : Hid ((M.props).take (k7 + 1) = (M.props).take k7 ++ [x]) := Lib.hid (by rw [take_snoc (by rw [← HS.out.l5]; exact hlt7), HXX.out])
                      have HNS : Hid (((([] ++ M.scs ++ M.vars ++ M.chans) ++ M.procs.flatMap PN.all) ++ (M.props).take k7).length ≤ 100000) := Lib.hid (by
                        have h8 := HACC4.out
                        have h9 : ((M.props).take k7).length ≤ (M.props).length := by rw [List.length_take]; omega
                        rw [List.length_append]
                        omega)
                      have hbz := HB7.out.size
                      rw [HAA.out] at m4
                      go_wp2_with (at_builtin; refine append_txt rfl (.tmp 130) (.tmp 137) rfl w1.heap.size (.slice P7 N7 Z7) ((([] ++ M.scs ++ M.vars ++ M.chans) ++ M.procs.flatMap PN.all) ++ (M.props).take k7) rfl HO7.out x rfl HNS.out hbz (N7 + 1) (by have := HN.out; omega) ?_; intro A6 c6 w6 ho6 hb6; have HO6 : Hid (OS w1.heap.size w6 (.slice A6 (N7 + 1) c6) ((([] ++ M.scs ++ M.vars ++ M.chans) ++ M.procs.flatMap PN.all) ++ (M.props).take (k7 + 1))) := Lib.hid (by rw [HSN.out, ← List.append_assoc]; exact ho6); have HB6 : Hid (Below w1.heap.size w1 w6) := Lib.hid (HB7.out.trans hb6); clear ho6 hb6 m0 m1 m2 m3 m4 g0)
                      go_roundw
                      case rel => exact ⟨k7 + 1, _, _, _, by omega, by go_num, rfl, HO6, HB6⟩
                      case measure => simp [intOf]; omega
                    · obtain rfl : k7 = X.n5 := by omega
                      have HOE7 : Hid (OS w1.heap.size W7 (.slice P7 N7 Z7) ((([] ++ M.scs ++ M.vars ++ M.chans) ++ M.procs.flatMap PN.all) ++ M.props)) := Lib.hid (by
                        have := HO7.out
                        rwa [HS.out.l5, List.take_length] at this)
                      have HOX : Hid (OS w1.heap.size W7 (.slice P7 N7 Z7) M.all) := Lib.hid (by
                        have := HOE7.out
                        simpa [Md.all, List.append_assoc] using this)
                      obtain ⟨A9, c9, e9, h9⟩ := HOX.out.form
                      injection e9 with e91 e92 e93
                      subst e91 e92 e93
                      have H9 := Lib.hid h9
                      have HB9 : Hid (Below w.heap.size w W7) := Lib.hid (HBW.out.trans (HB7.out.mono HBW.out.size))
                      clear h9
                      go_wp2
                      go_ret
                      exact ⟨P7, Z7, rfl, H9.out, HB9.out⟩
end Go.Proofs.YtodloljpfbkkjaaRRRR.nms
