/- The document's Kids. -/
import Derived.Test.YtophajljjnjcdaaLtlRefSpans
namespace Go.Proofs.Ytophajljjnjcdaa.lt
open Go.ChangeShapes Go.WideShapes Go.ChangeAt Go.RowKit

set_option maxRecDepth 20000 in
set_option maxHeartbeats 8000000 in
theorem refKids_any (e : List (Int × Int)) (at_ : Int) (A : Option Addr) (c m : Nat) (w : World) (hm : m = e.length) (hm2 : m ≤ 1000) (hA : PA w A e) :
    Calls Try.prog 27 #[.slice A m c, .int .i64 at_] w fun x w' => x = .returned (.tuple #[.int .i64 (kidsF e at_).1, .int .i64 (kidsF e at_).2]) ∧ Below w.heap.size w w' := by
  have HM := Lib.hid hm
  have HA := Lib.hid hA
  have HK := Lib.hid (refIs_any e A c m w hm hm2 hA)
  have HSP := Lib.hid (refSpans_any e A c m w hm hm2 hA)
  clear hm hA
  obtain ⟨z, HZ⟩ : ∃ z, Hid (isF e = z) := ⟨_, Lib.hid rfl⟩
  obtain ⟨x1, y1, HXY⟩ : ∃ x1 y1, Hid (kidsF e at_ = (x1, y1)) := ⟨_, _, Lib.hid rfl⟩
  rw [HXY.out]
  have HNO : Hid ((¬ (isF e = true ∧ 0 ≤ at_ ∧ at_ < e.length ∧ kT (e.getD at_.toNat (0, 0)).1 ≠ 0)) → x1 = -1 ∧ y1 = -1) := Lib.hid (fun h => by
    have h2 := HXY.out
    unfold kidsF at h2
    rw [if_neg h] at h2
    injection h2 with h3 h4
    exact ⟨h3.symm, h4.symm⟩)
  cases z with
  | false =>
    have HE := Lib.hid (HNO.out (fun h => by rw [HZ.out] at h; exact absurd h.1 (by decide)))
    clear HNO
    go_enter Try.func27, Try.ntmps27
    go_wp2_with fail
    refine HK.out.mono ?_
    rw [HZ.out]
    rintro x w1 ⟨rfl, rfl⟩
    go_wp2
    go_ret2
    exact ⟨by rw [HE.out.1, HE.out.2]; rfl, Below.refl _ _⟩
  | true =>
    by_cases hlo : at_ < 0
    · have HE := Lib.hid (HNO.out (fun h => by omega))
      clear HNO
      go_enter Try.func27, Try.ntmps27
      go_wp2_with fail
      refine HK.out.mono ?_
      rw [HZ.out]
      rintro x w1 ⟨rfl, rfl⟩
      go_wp2
      go_ret2
      exact ⟨by rw [HE.out.1, HE.out.2]; rfl, Below.refl _ _⟩
    · obtain ⟨k, rfl⟩ : ∃ k : Nat, at_ = k := ⟨at_.toNat, by omega⟩
      clear hlo
      by_cases hhi : k < m
      · obtain ⟨b, o, rfl, hb, hc⟩ := HA.out (by rw [← HM.out]; omega)
        obtain ⟨c1, _⟩ := hc k (by rw [← HM.out]; exact hhi)
        obtain ⟨op, HOP⟩ : ∃ op, Hid ((e.getD k (0, 0)).1 = op) := ⟨_, Lib.hid rfl⟩
        rw [HOP.out] at c1
        clear hc
        have HI : Hid (wrF 0 e = 0) := Lib.hid (isF_iff.1 HZ.out)
        have HT0 : Hid (0 ≤ kT op) := Lib.hid (by
          obtain ⟨st, _, h2⟩ := Ok.of_is HI.out k (by rw [← HM.out]; omega)
          have := (ndW_ok (h2 (by rw [← HM.out]; exact hhi))).1
          rw [HOP.out] at this
          exact this)
        have HYES : Hid (kT op ≠ 0 → (x1, y1) = if kT op = 1 then ((k : Int) - 1, -1) else ((outF e e.length).getD (k - 1) 0 - 1, (k : Int) - 1)) := Lib.hid (fun h => by
          rw [← HXY.out]
          unfold kidsF
          have e1 : ((k : Int)).toNat = k := Int.toNat_natCast k
          rw [e1, HOP.out, if_pos ⟨HZ.out, by omega, by rw [← HM.out]; omega, h⟩, show ((k : Int) - 1).toNat = k - 1 by omega])
        have hk3 : kT op = 0 ∨ kT op = 1 ∨ kT op = 2 := by have := kT_range op; have := HT0.out; omega
        rcases hk3 with h | h | h
        · have HE := Lib.hid (HNO.out (fun hh => hh.2.2.2 (by rw [Int.toNat_natCast, HOP.out]; exact h)))
          have HT := Lib.hid h
          clear HNO h HYES
          go_enter Try.func27, Try.ntmps27
          go_wp2_with fail
          refine HK.out.mono ?_
          rw [HZ.out]
          rintro x w1 ⟨rfl, rfl⟩
          go_wp2_with fail
          refine (refTakes_any op w).mono ?_
          rw [HT.out]
          rintro x w' ⟨rfl, rfl⟩
          go_wp2
          go_ret2
          exact ⟨by rw [HE.out.1, HE.out.2]; rfl, Below.refl _ _⟩
        · have HE : Hid (x1 = (k : Int) - 1 ∧ y1 = -1) := Lib.hid (by
            have h2 := HYES.out (by omega)
            rw [if_pos h] at h2
            injection h2 with h3 h4
            exact ⟨h3, h4⟩)
          have HT := Lib.hid h
          clear HNO h HYES
          go_enter Try.func27, Try.ntmps27
          go_wp2_with fail
          refine HK.out.mono ?_
          rw [HZ.out]
          rintro x w1 ⟨rfl, rfl⟩
          go_wp2_with fail
          refine (refTakes_any op w).mono ?_
          rw [HT.out]
          rintro x w' ⟨rfl, rfl⟩
          go_wp2_with fail
          refine (refTakes_any op w).mono ?_
          rw [HT.out]
          rintro x w' ⟨rfl, rfl⟩
          go_wp2
          go_ret2
          exact ⟨by rw [HE.out.1, HE.out.2]; rfl, Below.refl _ _⟩
        · have HE : Hid (x1 = (outF e e.length).getD (k - 1) 0 - 1 ∧ y1 = (k : Int) - 1) := Lib.hid (by
            have h2 := HYES.out (by omega)
            rw [if_neg (by omega)] at h2
            injection h2 with h3 h4
            exact ⟨h3, h4⟩)
          have HT := Lib.hid h
          have hk2 : 2 ≤ k := by
            obtain ⟨st, h1, h2⟩ := Ok.of_is HI.out k (by rw [← HM.out]; omega)
            have h3 := (ndW_ok (h2 (by rw [← HM.out]; exact hhi))).2.1
            rw [HOP.out, h] at h3
            have := h1.1.len
            omega
          have HS : Hid (spansL e = outF e e.length) := Lib.hid (spansL_is HI.out)
          have HBD : Hid (0 ≤ (outF e e.length).getD (k - 1) 0 ∧ (outF e e.length).getD (k - 1) 0 ≤ 1000) := Lib.hid (by
            obtain ⟨st, h1, h2⟩ := Ok.of_is HI.out k (by rw [← HM.out]; omega)
            obtain ⟨j, rfl⟩ : ∃ j, k = j + 1 := ⟨k - 1, by omega⟩
            obtain ⟨s, st', _, g1, g2, g3, _⟩ := h1.1.pos
            rw [Nat.add_sub_cancel, outF_take e (show j < j + 1 by omega) (by rw [← HM.out]; omega), g3]
            omega)
          obtain ⟨v, HV⟩ : ∃ v, Hid ((outF e e.length).getD (k - 1) 0 = v) := ⟨_, Lib.hid rfl⟩
          rw [HV.out] at HE HBD
          obtain ⟨v0, v1⟩ := HBD.out
          clear HNO h HYES HBD
          go_enter Try.func27, Try.ntmps27
          go_wp2_with fail
          refine HK.out.mono ?_
          rw [HZ.out]
          rintro x w1 ⟨rfl, rfl⟩
          go_wp2_with fail
          refine (refTakes_any op w).mono ?_
          rw [HT.out]
          rintro x w' ⟨rfl, rfl⟩
          go_wp2_with fail
          refine (refTakes_any op w).mono ?_
          rw [HT.out]
          rintro x w' ⟨rfl, rfl⟩
          go_wp2_with fail
          refine HSP.out.mono ?_
          rintro x w3 ⟨A3, c3, rfl, h3, hb3⟩
          have HB3 := Lib.hid hb3
          rw [HS.out] at h3 ⊢
          have HL : Hid ((outF e e.length).length = m) := Lib.hid (by rw [outF_len, HM.out])
          obtain ⟨b3, o3, rfl, hb3', hc3⟩ := h3.ia (by rw [HL.out]; omega)
          have c3' := hc3 (k - 1) (by rw [HL.out]; omega)
          rw [HV.out] at c3'
          rw [HL.out]
          obtain ⟨j, rfl⟩ : ∃ j, k = j + 1 := ⟨k - 1, by omega⟩
          rw [Nat.add_sub_cancel] at c3'
          clear h3 hb3 hc3
          go_wp2
          go_ret2
          exact ⟨by rw [HE.out.1, HE.out.2]; first | rfl | (congr 2; simp), HB3.out⟩
      · have HE := Lib.hid (HNO.out (fun h => by have := HM.out; omega))
        have hge : m ≤ k := by omega
        clear HNO hhi
        go_enter Try.func27, Try.ntmps27
        go_wp2_with fail
        refine HK.out.mono ?_
        rw [HZ.out]
        rintro x w1 ⟨rfl, rfl⟩
        go_wp2
        go_ret2
        exact ⟨by rw [HE.out.1, HE.out.2]; rfl, Below.refl _ _⟩
end Go.Proofs.Ytophajljjnjcdaa.lt
