/- The laws NnfOf and NnfIs: their walks. -/
import Derived.Test.YtmdfiamffipbcaaDoorNnfLives
namespace Go.Proofs.YtmdfiamffipbcaaDoor.nf
open Go.ChangeShapes Go.WideShapes Go.ChangeAt Go.RowKit Go.Deep sr lt

theorem eqP_self (l : List (Int × Int)) : eqP l l = true := decide_eq_true rfl
set_option maxRecDepth 20000 in
set_option maxHeartbeats 4000000 in
theorem nnfOf_any (e : List (Int × Int)) (A : Option Addr) (c m : Nat) (w : World) (hm : m = e.length) (hm9 : m ≤ 4611686018427387904) (hA : PA w A e) (hF : FmW w) : Calls Tryd.prog 3 #[.slice A m c] w fun r w' => r = .returned (.bool true) ∧ Below w.heap.size w w' := by
  have HM := Lib.hid hm
  have HA := Lib.hid hA
  have HF := Lib.hid hF
  clear hA hm hF
  by_cases h5 : 500 < m
  · go_enter Tryd.func3, Tryd.ntmps3
    go_wp2_with fail
    refine (lives_any w HF.out).mono ?_
    rintro q w1 ⟨rfl, hb1⟩
    have HB1 := Lib.hid hb1
    clear hb1
    go_wp2
    go_ret
    exact ⟨rfl, HB1.out⟩
  · have hm5 : m ≤ 500 := by omega
    have h5i : ¬ ((m : Int) > 500) := by omega
    have HBIG : Hid (∀ ng, (nfL e ng).length ≤ 100000) := Lib.hid (fun ng => by have := nfL_len e ng; rw [← HM.out] at this; omega)
    go_enter Tryd.func3, Tryd.ntmps3
    go_wp2_with fail
    refine (of_any e A c m w HM.out (by omega) HA.out HF.out).mono ?_
    rintro q w1 ⟨C1, k1, rfl, h1, _, hb1⟩
    have HC1 := Lib.hid h1
    have HB1 := Lib.hid hb1
    clear h1 hb1
    obtain ⟨L, HL⟩ : ∃ L, Hid (nfL e false = L) := ⟨_, Lib.hid rfl⟩
    rw [HL.out] at HC1 ⊢
    obtain ⟨n, HN⟩ : ∃ n, Hid (L.length = n) := ⟨_, Lib.hid rfl⟩
    rw [HN.out]
    go_wp2_with fail
    refine (refOf_any e A c m w1 HM.out (by omega) (HA.out.below HB1.out)).mono ?_
    rw [HL.out]
    rintro q w2 ⟨C2, k2, rfl, h1, _, hb2⟩
    have HC2 := Lib.hid h1
    have HB12 := Lib.hid hb2
    have HB2 := Lib.hid (HB1.out.trans (hb2.mono HB1.out.size))
    clear h1 hb2
    rw [HN.out]
    go_wp2_with fail
    refine (same_any C1 C2 k1 k2 n n L L w2 HN.out.symm HN.out.symm (HC1.out.below HB12.out) HC2.out (by rw [← HL.out]; exact HBIG.out _) (by rw [← HL.out]; exact HBIG.out _)).mono ?_
    rw [eqP_self]
    rintro q w3 ⟨rfl, j, rfl⟩
    have HB3 : Hid (Below w.heap.size w (w2.drewN j)) := Lib.hid (below_drewN HB2.out j)
    generalize w2.drewN j = w3 at *
    clear HC1 HC2 HB12
    go_wp2_with fail
    refine (dual_any e A c m w3 HM.out (by omega) (HA.out.below HB3.out) (HF.out.below HB3.out)).mono ?_
    rintro q w4 ⟨C4, k4, rfl, h1, _, hb4⟩
    have HC4 := Lib.hid h1
    have HB4 := Lib.hid (HB3.out.trans (hb4.mono HB3.out.size))
    clear h1 hb4
    obtain ⟨L', HL'⟩ : ∃ L, Hid (nfL e true = L) := ⟨_, Lib.hid rfl⟩
    rw [HL'.out] at HC4 ⊢
    obtain ⟨n', HN'⟩ : ∃ n, Hid (L'.length = n) := ⟨_, Lib.hid rfl⟩
    rw [HN'.out]
    go_wp2_with fail
    refine (refDual_any e A c m w4 HM.out (by omega) (HA.out.below HB4.out)).mono ?_
    rw [HL'.out]
    rintro q w5 ⟨C5, k5, rfl, h1, _, hb5⟩
    have HC5 := Lib.hid h1
    have HB45 := Lib.hid hb5
    have HB5 := Lib.hid (HB4.out.trans (hb5.mono HB4.out.size))
    clear h1 hb5
    rw [HN'.out]
    go_wp2_with fail
    refine (same_any C4 C5 k4 k5 n' n' L' L' w5 HN'.out.symm HN'.out.symm (HC4.out.below HB45.out) HC5.out (by rw [← HL'.out]; exact HBIG.out _) (by rw [← HL'.out]; exact HBIG.out _)).mono ?_
    rw [eqP_self]
    rintro q w6 ⟨rfl, j6, rfl⟩
    have HB6 : Hid (Below w.heap.size w (w5.drewN j6)) := Lib.hid (below_drewN HB5.out j6)
    generalize w5.drewN j6 = w6 at *
    go_wp2_with fail
    refine (lives_any w6 (HF.out.below HB6.out)).mono ?_
    rintro q w7 ⟨rfl, hb7⟩
    have HB7 := Lib.hid (HB6.out.trans (hb7.mono HB6.out.size))
    clear hb7
    go_wp2
    go_ret
    exact ⟨rfl, HB7.out⟩
set_option maxRecDepth 20000 in
set_option maxHeartbeats 4000000 in
theorem nnfIs_any (e : List (Int × Int)) (A : Option Addr) (c m : Nat) (w : World) (hm : m = e.length) (hm9 : m ≤ 4611686018427387904) (hA : PA w A e) (hF : FmW w) : Calls Tryd.prog 4 #[.slice A m c] w fun r w' => r = .returned (.bool true) ∧ Below w.heap.size w w' := by
  have HM := Lib.hid hm
  have HA := Lib.hid hA
  have HF := Lib.hid hF
  clear hA hm hF
  by_cases h5 : 500 < m
  · go_enter Tryd.func4, Tryd.ntmps4
    go_wp2_with fail
    refine (lives_any w HF.out).mono ?_
    rintro q w1 ⟨rfl, hb1⟩
    have HB1 := Lib.hid hb1
    clear hb1
    go_wp2
    go_ret
    exact ⟨rfl, HB1.out⟩
  · have hm5 : m ≤ 500 := by omega
    have h5i : ¬ ((m : Int) > 500) := by omega
    obtain ⟨z, HZ⟩ : ∃ z, Hid (isV e = z) := ⟨_, Lib.hid rfl⟩
    go_enter Tryd.func4, Tryd.ntmps4
    go_wp2_with fail
    refine (is_any e A c m w HM.out (by omega) HA.out HF.out).mono ?_
    rw [HZ.out]
    rintro q w1 ⟨rfl, hb1⟩
    have HB1 := Lib.hid hb1
    clear hb1
    go_wp2_with fail
    refine (refIs_any e A c m w1 HM.out (by omega) (HA.out.below HB1.out)).mono ?_
    rw [HZ.out]
    rintro q w2 ⟨rfl, hb2⟩
    have HB2 := Lib.hid (HB1.out.trans (hb2.mono HB1.out.size))
    clear hb2
    have hzz : (z == z) = true := by simp
    go_wp2_with fail
    refine (lives_any w2 (HF.out.below HB2.out)).mono ?_
    rintro q w7 ⟨rfl, hb7⟩
    have HB7 := Lib.hid (HB2.out.trans (hb7.mono HB2.out.size))
    clear hb7
    go_wp2
    go_ret
    exact ⟨rfl, HB7.out⟩
end Go.Proofs.YtmdfiamffipbcaaDoor.nf
