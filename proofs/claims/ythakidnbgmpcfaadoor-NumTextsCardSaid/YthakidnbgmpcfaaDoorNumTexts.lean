/- The law NumTexts: its walk. -/
import Derived.Test.YthakidnbgmpcfaaDoorRefNumber
namespace Go.Proofs.YthakidnbgmpcfaaDoor
open Go.ChangeShapes Go.WideShapes Go.ChangeAt Go.RowKit Go.Lib Go.Sort

theorem dS_list (n : Int) : (dS n).data.toList = itoa n := by unfold dS; simp
theorem dS_size {n : Int} (h0 : -9223372036854775808 ≤ n) (h1 : n ≤ 9223372036854775807) : (dS n).size ≤ 100 := by
  have e : (dS n).size = (itoa n).length := by rw [← dS_list n, Array.length_toList]; rfl
  rw [e]
  unfold itoa
  split
  · have := nDigits_le (k := 19) (u := n.natAbs) (by omega)
    rw [List.length_cons, decDigits_length]; omega
  · have := nDigits_le (k := 19) (u := n.toNat) (by omega)
    rw [decDigits_length]; omega
theorem numD_dec_in {n : Int} (h : InB n) : numD (dS n).data.toList = (n, true) := numD_some h.1 h.2 (dS_list n).symm
theorem numD_dec_out {n : Int} (h : ¬ InB n) (h0 : -9223372036854775808 ≤ n) (h1 : n ≤ 9223372036854775807) : numD (dS n).data.toList = (0, false) :=
  numD_none (fun v g0 g1 e => by
    rw [dS_list] at e
    have := itoa_inj (m := v) (n := n) (by omega) (by omega) h0 h1 e
    subst this
    exact h ⟨g0, g1⟩)
theorem numD_true {l : List UInt8} {v : Int} (h : numD l = (v, true)) : InB v ∧ itoa v = l := by
  unfold numD at h
  split at h
  · rename_i h2
    injection h with h3 _
    rw [← h3]
    exact ⟨h2.2.1, h2.2.2⟩
  · injection h with _ h3; cases h3
set_option maxRecDepth 20000 in
set_option maxHeartbeats 2000000 in
theorem numTexts_any (n : Int) (s : ByteArray) (w : World) (h0 : -9223372036854775808 ≤ n) (h1 : n ≤ 9223372036854775807) (ht : Tabs w) :
    Calls Tryd.prog 3 #[.int .i64 n, .string s] w fun e w' => e = .returned (.bool true) ∧ Below w.heap.size w w' := by
  have HT := Lib.hid ht
  have HL := Lib.hid h0
  have HR := Lib.hid h1
  clear ht h0 h1
  go_enter Tryd.func3, Tryd.ntmps3
  by_cases hs : (s.size : Int) ≤ 100
  · go_wp2_with fail
    refine (decimal_any n _ HL.out HR.out HT.out).mono ?_
    rintro e1 w1 ⟨rfl, hb1⟩
    have B1 := Lib.hid hb1
    clear hb1
    go_wp2_with fail
    refine (number_any s _ (by omega) (HT.out.below B1.out)).mono ?_
    rintro e2 w2 ⟨rfl, hb2⟩
    have B2 : Hid (Below w.heap.size w w2) := Lib.hid (B1.out.trans (hb2.mono B1.out.size))
    clear hb2
    go_wp2_with fail
    refine (refNumber_any s _ (by omega)).mono ?_
    rintro e3 w3 ⟨rfl, hb3⟩
    have B3 : Hid (Below w.heap.size w w3) := Lib.hid (B2.out.trans (hb3.mono B2.out.size))
    clear hb3
    go_wp2_with fail
    refine (number_any (dS n) _ (dS_size HL.out HR.out) (HT.out.below B3.out)).mono ?_
    rintro e4 w4 ⟨rfl, hb4⟩
    have B4 : Hid (Below w.heap.size w w4) := Lib.hid (B3.out.trans (hb4.mono B3.out.size))
    clear hb4
    go_wp2_with fail
    refine (refDecimal_any n _ HL.out HR.out).mono ?_
    rintro e5 w5 ⟨rfl, hb5⟩
    have B5 : Hid (Below w.heap.size w w5) := Lib.hid (B4.out.trans (hb5.mono B4.out.size))
    clear hb5
    have HN : (InB n ∧ Hid (numD (dS n).data.toList = (n, true))) ∨ (¬ InB n ∧ Hid (numD (dS n).data.toList = (0, false))) := by
      by_cases h : InB n
      · exact .inl ⟨h, Lib.hid (numD_dec_in h)⟩
      · exact .inr ⟨h, Lib.hid (numD_dec_out h HL.out HR.out)⟩
    generalize hq : numD (dS n).data.toList = q at HN ⊢
    clear hq
    obtain ⟨p1, p2⟩ := q
    have HV : Hid (∀ v, numD s.data.toList = (v, true) → InB v ∧ dS v = s) := Lib.hid (fun v h => ⟨(numD_true h).1, (dS_iff.2 (numD_true h).2).symm⟩)
    generalize numD s.data.toList = r at HV ⊢
    obtain ⟨v, b⟩ := r
    simp only []
    cases b
    · have BB := B5
      rcases HN with ⟨hi, HN⟩ | ⟨hi, HN⟩
      · obtain ⟨i1, i2⟩ := hi
        obtain ⟨rfl, rfl⟩ : p1 = n ∧ p2 = true := by simpa using HN.out
        go_wp2_with fail
        refine (lives_any _).mono ?_
        rintro e7 w7 ⟨rfl, hb7⟩
        have B7 : Hid (Below w.heap.size w w7) := Lib.hid (BB.out.trans (hb7.mono BB.out.size))
        clear hb7
        go_wp2
        go_ret
        exact ⟨by first | rfl | (show Ending.returned (.bool _) = Ending.returned (.bool true); simp_all), B7.out⟩
      · obtain ⟨rfl, rfl⟩ : p1 = 0 ∧ p2 = false := by simpa using HN.out
        unfold InB at hi
        by_cases i1 : -1048576 ≤ n
        · have i2 : ¬ n ≤ 1048576 := by omega
          clear hi
          go_wp2_with fail
          refine (lives_any _).mono ?_
          rintro e7 w7 ⟨rfl, hb7⟩
          have B7 : Hid (Below w.heap.size w w7) := Lib.hid (BB.out.trans (hb7.mono BB.out.size))
          clear hb7
          go_wp2
          go_ret
          exact ⟨by first | rfl | (show Ending.returned (.bool _) = Ending.returned (.bool true); simp_all), B7.out⟩
        · clear hi
          go_wp2_with fail
          refine (lives_any _).mono ?_
          rintro e7 w7 ⟨rfl, hb7⟩
          have B7 : Hid (Below w.heap.size w w7) := Lib.hid (BB.out.trans (hb7.mono BB.out.size))
          clear hb7
          go_wp2
          go_ret
          exact ⟨by first | rfl | (show Ending.returned (.bool _) = Ending.returned (.bool true); simp_all), B7.out⟩
    · have HW := Lib.hid (HV.out v rfl)
      clear HV
      go_wp2_with fail
      refine (decimal_any v _ (by have := HW.out.1.1; omega) (by have := HW.out.1.2; omega) (HT.out.below B5.out)).mono ?_
      rintro e6 w6 ⟨rfl, hb6⟩
      have BB : Hid (Below w.heap.size w w6) := Lib.hid (B5.out.trans (hb6.mono B5.out.size))
      clear hb6
      rw [HW.out.2]
      rcases HN with ⟨hi, HN⟩ | ⟨hi, HN⟩
      · obtain ⟨i1, i2⟩ := hi
        obtain ⟨rfl, rfl⟩ : p1 = n ∧ p2 = true := by simpa using HN.out
        go_wp2_with fail
        refine (lives_any _).mono ?_
        rintro e7 w7 ⟨rfl, hb7⟩
        have B7 : Hid (Below w.heap.size w w7) := Lib.hid (BB.out.trans (hb7.mono BB.out.size))
        clear hb7
        go_wp2
        go_ret
        exact ⟨by first | rfl | (show Ending.returned (.bool _) = Ending.returned (.bool true); simp_all), B7.out⟩
      · obtain ⟨rfl, rfl⟩ : p1 = 0 ∧ p2 = false := by simpa using HN.out
        unfold InB at hi
        by_cases i1 : -1048576 ≤ n
        · have i2 : ¬ n ≤ 1048576 := by omega
          clear hi
          go_wp2_with fail
          refine (lives_any _).mono ?_
          rintro e7 w7 ⟨rfl, hb7⟩
          have B7 : Hid (Below w.heap.size w w7) := Lib.hid (BB.out.trans (hb7.mono BB.out.size))
          clear hb7
          go_wp2
          go_ret
          exact ⟨by first | rfl | (show Ending.returned (.bool _) = Ending.returned (.bool true); simp_all), B7.out⟩
        · clear hi
          go_wp2_with fail
          refine (lives_any _).mono ?_
          rintro e7 w7 ⟨rfl, hb7⟩
          have B7 : Hid (Below w.heap.size w w7) := Lib.hid (BB.out.trans (hb7.mono BB.out.size))
          clear hb7
          go_wp2
          go_ret
          exact ⟨by first | rfl | (show Ending.returned (.bool _) = Ending.returned (.bool true); simp_all), B7.out⟩
  · go_wp2_with fail
    refine (lives_any _).mono ?_
    rintro e1 w1 ⟨rfl, hb1⟩
    go_wp2
    go_ret
    exact ⟨rfl, hb1⟩
end Go.Proofs.YthakidnbgmpcfaaDoor
