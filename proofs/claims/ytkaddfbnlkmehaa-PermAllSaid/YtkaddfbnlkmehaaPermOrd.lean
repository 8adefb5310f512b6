/- Order, the program's and the document's. -/
import Derived.Test.YtkaddfbnlkmehaaRefPerm
import Derived.Test.YtkaddfbnlkmehaaPermOrdPure
namespace Go.Proofs.Ytkaddfbnlkmehaa
open Go.ChangeShapes Go.WideShapes Go.ChangeAt Go.RowKit

theorem mulF_pw {p : List Int} (h : Prm p) (k : Nat) : mulF (pw p k) p = pw p (k + 1) := by
  unfold mulF
  rw [if_pos ⟨pw_length p k, chk_iff.2 (h.pw k), chk_iff.2 h⟩]
  rfl
theorem idF_prm {p : List Int} (h : Prm p) : idF p.length = ups p.length := by
  have := h.len
  unfold idF
  rw [if_pos (by omega)]
  simp
theorem below_drew' {B : Nat} {w w1 w2 : World} {j : Nat} (h : Below B w w1) (e : w2 = w1.drewN j) : Below B w w2 := by
  subst e
  exact below_drewN h j

set_option maxHeartbeats 1000000 in
theorem order_no (A : Option Addr) (c m : Nat) (p : List Int) (w : World) (hm : m = p.length) (hA : IA w A p) (ha : p.length ≤ 1000000) (hc : chk p = false) :
    Calls Try.prog 30 #[.slice A m c] w fun e w' => e = .returned (.int .i64 0) ∧ Below w.heap.size w w' := by
  have HM := Lib.hid hm
  have HA := Lib.hid hA
  have HLA := Lib.hid ha
  have HC := Lib.hid hc
  clear hm hA ha hc
  go_enter Try.func30, Try.ntmps30
  go_wp2_with fail
  refine (check_any A c m p w HM.out HA.out HLA.out).mono ?_
  rintro e w1 ⟨rfl, hb1⟩
  rw [HC.out]
  have HB1 := Lib.hid hb1
  clear hb1
  go_wp2
  go_ret
  exact ⟨rfl, HB1.out⟩
set_option maxHeartbeats 1000000 in
theorem refOrder_no (A : Option Addr) (c m : Nat) (p : List Int) (w : World) (hm : m = p.length) (hA : IA w A p) (ha : p.length ≤ 1000000) (hc : chk p = false) :
    Calls Try.prog 31 #[.slice A m c] w fun e w' => e = .returned (.int .i64 0) ∧ Below w.heap.size w w' := by
  have HM := Lib.hid hm
  have HA := Lib.hid hA
  have HLA := Lib.hid ha
  have HC := Lib.hid hc
  clear hm hA ha hc
  go_enter Try.func31, Try.ntmps31
  go_wp2_with fail
  refine (refCheck_any A c m p w HM.out HA.out HLA.out).mono ?_
  rintro e w' ⟨rfl, rfl⟩
  rw [HC.out]
  go_wp2
  go_ret
  exact ⟨rfl, Below.refl _ _⟩

set_option maxHeartbeats 2000000 in
theorem order_yes (A : Option Addr) (c m : Nat) (p : List Int) (w : World) (hm : m = p.length) (hA : IA w A p) (hp : Prm p) (K : Nat) (hK : K ≤ 16777216) (h1 : pw p K = ups p.length) (h2 : ∀ k, k < K → pw p k ≠ ups p.length) :
    Calls Try.prog 30 #[.slice A m c] w fun e w' => e = .returned (.int .i64 (K + 1 : Nat)) ∧ Below w.heap.size w w' := by
  have HM := Lib.hid hm
  have HA := Lib.hid hA
  have hm8 : m ≤ 8 := by have := hp.len; omega
  have HLA : Hid (p.length ≤ 1000000) := Lib.hid (by have := hp.len; omega)
  have HC := Lib.hid (chk_iff.2 hp)
  have HP := Lib.hid hp
  have H1 := Lib.hid h1
  have H2 := Lib.hid h2
  clear hm hA hp h1 h2
  go_enter Try.func30, Try.ntmps30
  go_wp2_with fail
  refine (check_any A c m p w HM.out HA.out HLA.out).mono ?_
  rintro e w1 ⟨rfl, hb1⟩
  rw [HC.out]
  have HB1 := Lib.hid hb1
  clear hb1
  go_wp2_with fail
  refine (id_any m w1).mono ?_
  have HI : Hid (idF (m : Int) = ups p.length) := Lib.hid (by rw [HM.out]; exact idF_prm HP.out)
  rw [HI.out]
  rintro e w2 ⟨B, d, rfl, hI, hb2⟩
  have HID := Lib.hid hI.ia
  have HB2 := Lib.hid (HB1.out.trans (hb2.mono HB1.out.size))
  clear hI hb2
  obtain ⟨n, HN⟩ : ∃ n, Hid (n = (ups p.length).length) := ⟨_, Lib.hid rfl⟩
  rw [← HN.out]
  go_wp2
  go_loopw [3, 5] (fun t q wr => ∃ (k : Nat) (C : Option Addr) (e : Nat), k ≤ K ∧ t = .int .i64 (k + 1 : Nat) ∧ q = .slice C m e ∧ Hid (IA wr C (pw p k)) ∧ Hid (Below w.heap.size w wr) ∧ Hid (Below w2.heap.size w2 wr)) (fun t _ _ => K + 1 - (intOf t).toNat)
  case atStart => exact ⟨0, A, c, by omega, rfl, rfl, Lib.hid (HA.out.below HB2.out), HB2, Lib.hid (Below.refl _ _)⟩
  case round =>
    obtain ⟨k, C, e, hk, rfl, rfl, HQ, HB, HBI⟩ := hrel
    have HML : Hid (m = (pw p k).length) := Lib.hid (by rw [pw_length]; exact HM.out)
    have HL1 : Hid ((pw p k).length ≤ maxLen) := Lib.hid (by rw [pw_length]; have := HLA.out; unfold maxLen; omega)
    have HL2 : Hid ((ups p.length).length ≤ maxLen) := Lib.hid (by rw [ups_length]; have := HLA.out; unfold maxLen; omega)
    have HL3 : Hid ((pw p k).length ≤ 1000000) := Lib.hid (by rw [pw_length]; exact HLA.out)
    have HI2 : Hid (IA wr B (ups p.length)) := Lib.hid (HID.out.below HBI.out)
    by_cases hkk : k < K
    · have HE : Hid (eqB (pw p k) (ups p.length) = false) := Lib.hid (decide_eq_false (H2.out k hkk))
      go_wp2_with fail
      refine (equal_ints _ _ _ _ _ _ (pw p k) (ups p.length) _ HML.out HN.out HQ.out HI2.out HL1.out HL2.out).mono ?_
      rintro e2 w4 ⟨rfl, j, rfl⟩
      rw [HE.out]
      have HB4 : Hid (Below w.heap.size w (wr.drewN j)) := Lib.hid (below_drewN HB.out j)
      have HBI4 : Hid (Below w2.heap.size w2 (wr.drewN j)) := Lib.hid (below_drewN HBI.out j)
      have HQ4 : Hid (IA (wr.drewN j) C (pw p k)) := Lib.hid (HQ.out.drewN j)
      generalize wr.drewN j = w4 at *
      go_wp2_with fail
      refine (mul_any C A e c m m (pw p k) p w4 HML.out HM.out HQ4.out (HA.out.below HB4.out) HL3.out HLA.out).mono ?_
      have HF : Hid (mulF (pw p k) p = pw p (k + 1)) := Lib.hid (mulF_pw HP.out k)
      rw [HF.out]
      rintro e2 w5 ⟨D, f, rfl, hD, hb5⟩
      have HD := Lib.hid hD.ia
      have HB5 := Lib.hid (HB4.out.trans (hb5.mono HB4.out.size))
      have HBI5 := Lib.hid (HBI4.out.trans (hb5.mono HBI4.out.size))
      have HLEN : Hid ((pw p (k + 1)).length = m) := Lib.hid (by rw [pw_length]; exact HM.out.symm)
      rw [HLEN.out]
      clear hD hb5
      go_wp2
      go_roundw
      case rel => exact ⟨k + 1, D, f, by omega, by go_num, rfl, HD, HB5, HBI5⟩
      case measure => simp [intOf]; omega
    · obtain rfl : k = K := by omega
      have HE : Hid (eqB (pw p k) (ups p.length) = true) := Lib.hid (eqB_yes H1.out)
      go_wp2_with fail
      refine (equal_ints _ _ _ _ _ _ (pw p k) (ups p.length) _ HML.out HN.out HQ.out HI2.out HL1.out HL2.out).mono ?_
      rintro e2 w4 ⟨rfl, j, rfl⟩
      rw [HE.out]
      have HB4 : Hid (Below w.heap.size w (wr.drewN j)) := Lib.hid (below_drewN HB.out j)
      generalize wr.drewN j = w4 at *
      go_wp2
      go_ret
      exact ⟨rfl, HB4.out⟩

set_option maxHeartbeats 2000000 in
theorem refOrder_yes (A : Option Addr) (c m : Nat) (p : List Int) (w : World) (hm : m = p.length) (hA : IA w A p) (hp : Prm p) (K : Nat) (hK : K ≤ 16777216) (h1 : pw p K = ups p.length) (h2 : ∀ k, k < K → pw p k ≠ ups p.length) :
    Calls Try.prog 31 #[.slice A m c] w fun e w' => e = .returned (.int .i64 (K + 1 : Nat)) ∧ Below w.heap.size w w' := by
  have HM := Lib.hid hm
  have HA := Lib.hid hA
  have hm8 : m ≤ 8 := by have := hp.len; omega
  have HLA : Hid (p.length ≤ 1000000) := Lib.hid (by have := hp.len; omega)
  have HC := Lib.hid (chk_iff.2 hp)
  have HP := Lib.hid hp
  have H1 := Lib.hid h1
  have H2 := Lib.hid h2
  clear hm hA hp h1 h2
  go_enter Try.func31, Try.ntmps31
  go_wp2_with fail
  refine (refCheck_any A c m p w HM.out HA.out HLA.out).mono ?_
  rintro e w' ⟨rfl, rfl⟩
  rw [HC.out]
  go_wp2
  go_loopw [3, 4] (fun t q wr => ∃ (k : Nat) (C : Option Addr) (e : Nat), k ≤ K ∧ t = .int .i64 (k + 1 : Nat) ∧ q = .slice C m e ∧ Hid (IA wr C (pw p k)) ∧ Hid (Below w.heap.size w wr)) (fun t _ _ => K + 1 - (intOf t).toNat)
  case atStart => exact ⟨0, A, c, by omega, rfl, rfl, HA, Lib.hid (Below.refl _ _)⟩
  case round =>
    obtain ⟨k, C, e, hk, rfl, rfl, HQ, HB⟩ := hrel
    have HML : Hid (m = (pw p k).length) := Lib.hid (by rw [pw_length]; exact HM.out)
    have HUL : Hid ((pw p k).length = p.length) := Lib.hid (pw_length p k)
    have HL3 : Hid ((pw p k).length ≤ 1000000) := Lib.hid (by rw [pw_length]; exact HLA.out)
    by_cases hkk : k < K
    · have HE : Hid (eqB (pw p k) (ups (pw p k).length) = false) := Lib.hid (decide_eq_false (by rw [HUL.out]; exact H2.out k hkk))
      go_wp2_with fail
      refine (moves_any C e m (pw p k) wr HML.out HQ.out HL3.out).mono ?_
      rw [HE.out]
      rintro e2 w' ⟨rfl, rfl⟩
      go_wp2_with fail
      refine (refMul_any C A e c m m (pw p k) p wr HML.out HM.out HQ.out (HA.out.below HB.out) HL3.out HLA.out).mono ?_
      have HF : Hid (mulF (pw p k) p = pw p (k + 1)) := Lib.hid (mulF_pw HP.out k)
      rw [HF.out]
      rintro e2 w5 ⟨D, f, rfl, hD, hb5⟩
      have HD := Lib.hid hD.ia
      have HB5 := Lib.hid (HB.out.trans (hb5.mono HB.out.size))
      have HLEN : Hid ((pw p (k + 1)).length = m) := Lib.hid (by rw [pw_length]; exact HM.out.symm)
      rw [HLEN.out]
      clear hD hb5
      go_wp2
      go_roundw
      case rel => exact ⟨k + 1, D, f, by omega, by go_num, rfl, HD, HB5⟩
      case measure => simp [intOf]; omega
    · obtain rfl : k = K := by omega
      have HE : Hid (eqB (pw p k) (ups (pw p k).length) = true) := Lib.hid (eqB_yes (by rw [HUL.out]; exact H1.out))
      go_wp2_with fail
      refine (moves_any C e m (pw p k) wr HML.out HQ.out HL3.out).mono ?_
      rw [HE.out]
      rintro e2 w' ⟨rfl, rfl⟩
      go_wp2
      go_ret
      exact ⟨rfl, HB.out⟩
end Go.Proofs.Ytkaddfbnlkmehaa
