/- Of and Dual: the program's and the document's. -/
import Derived.Test.YtmdfiamffipbcaaDoorNnfForm
import Derived.Test.YtmdfiamffipbcaaDoorNnfRForm
namespace Go.Proofs.YtmdfiamffipbcaaDoor.nf
open Go.ChangeShapes Go.WideShapes Go.ChangeAt Go.RowKit Go.Deep sr lt

theorem nfL_no {e : List (Int × Int)} {ng : Bool} (h : isF e = false) : nfL e ng = [] := by unfold nfL; rw [h]; rfl
/-- A formula is a tree's nodes; its forms are that tree's. -/
theorem nfL_is {e : List (Int × Int)} (h : isF e = true) : ∃ t, Wf t ∧ post t = e ∧ At e (outF e e.length) t 0 ∧ sz t = e.length ∧ ∀ ng, nfL e ng = post (nfT t ng) := by
  obtain ⟨t, h1, h2, h3, h4, h5⟩ := run_all (isF_iff.1 h) false
  refine ⟨t, h1, h2, h3, h4, fun ng => ?_⟩
  obtain ⟨t2, g1, g2, _, _, g5⟩ := run_all (isF_iff.1 h) ng
  have : t2 = t := post_inj g1 h1 (g2.trans h2.symm)
  subst this
  unfold nfL
  rw [if_pos h, g5, List.reverse_reverse]
theorem nfL_post {t : Tr} (h : Wf t) (ng : Bool) : nfL (post t) ng = post (nfT t ng) := by
  obtain ⟨t2, h1, h2, _, _, h5⟩ := nfL_is (e := post t) (isF_iff.2 (is_post h))
  rw [h5, post_inj h1 h h2]
theorem nfL_len (e : List (Int × Int)) (ng : Bool) : (nfL e ng).length ≤ 2 * e.length := by
  rcases h : isF e with _ | _
  · rw [nfL_no h]; simp
  · obtain ⟨t, h1, h2, _, h4, h5⟩ := nfL_is h
    rw [h5, post_len, ← h4]
    exact nf_size t ng
theorem of_any (e : List (Int × Int)) (A : Option Addr) (c m : Nat) (w : World) (hm : m = e.length) (hm2 : m ≤ 1000) (hA : PA w A e) (hF : FmW w) : Calls Tryd.prog 11 #[.slice A m c] w (NdP w (nfL e false)) := by
  have HK := Lib.hid (form_any e A c m w hm hm2 hA hF false (nfL e false) rfl)
  obtain ⟨L, HL⟩ : ∃ L, Hid (nfL e false = L) := ⟨_, Lib.hid rfl⟩
  rw [HL.out] at HK ⊢
  obtain ⟨n, HN⟩ : ∃ n, Hid (L.length = n) := ⟨_, Lib.hid rfl⟩
  clear hA hF hm
  go_enter Tryd.func11, Tryd.ntmps11
  go_wp2_with fail
  refine HK.out.mono ?_
  rintro q w1 ⟨C, k, rfl, h1, h2, h3⟩
  have HQ := Lib.hid (And.intro h1 (And.intro h2 h3))
  clear h1 h2 h3 HK
  rw [HN.out]
  go_wp2
  go_ret
  exact ⟨C, k, by rw [HN.out]; rfl, HQ.out⟩
theorem dual_any (e : List (Int × Int)) (A : Option Addr) (c m : Nat) (w : World) (hm : m = e.length) (hm2 : m ≤ 1000) (hA : PA w A e) (hF : FmW w) : Calls Tryd.prog 13 #[.slice A m c] w (NdP w (nfL e true)) := by
  have HK := Lib.hid (form_any e A c m w hm hm2 hA hF true (nfL e true) rfl)
  obtain ⟨L, HL⟩ : ∃ L, Hid (nfL e true = L) := ⟨_, Lib.hid rfl⟩
  rw [HL.out] at HK ⊢
  obtain ⟨n, HN⟩ : ∃ n, Hid (L.length = n) := ⟨_, Lib.hid rfl⟩
  clear hA hF hm
  go_enter Tryd.func13, Tryd.ntmps13
  go_wp2_with fail
  refine HK.out.mono ?_
  rintro q w1 ⟨C, k, rfl, h1, h2, h3⟩
  have HQ := Lib.hid (And.intro h1 (And.intro h2 h3))
  clear h1 h2 h3 HK
  rw [HN.out]
  go_wp2
  go_ret
  exact ⟨C, k, by rw [HN.out]; rfl, HQ.out⟩
set_option maxRecDepth 20000 in
set_option maxHeartbeats 2000000 in
theorem refOf_any (e : List (Int × Int)) (A : Option Addr) (c m : Nat) (w : World) (hm : m = e.length) (hm2 : m ≤ 1000) (hA : PA w A e) : Calls Tryd.prog 12 #[.slice A m c] w (NdP w (nfL e false)) := by
  have HK := Lib.hid (begins_any e A c m w hm (by omega) hA)
  have HM := Lib.hid hm
  have HA := Lib.hid hA
  obtain ⟨L, HL⟩ : ∃ L, Hid (nfL e false = L) := ⟨_, Lib.hid rfl⟩
  rw [HL.out]
  obtain ⟨n, HN⟩ : ∃ n, Hid (L.length = n) := ⟨_, Lib.hid rfl⟩
  obtain ⟨z, HZ⟩ : ∃ z, Hid (isF e = z) := ⟨_, Lib.hid rfl⟩
  clear hA hm
  go_enter Tryd.func12, Tryd.ntmps12
  go_wp2_with fail
  refine HK.out.mono ?_
  rintro q w1 ⟨v, rfl, h1, h2, h3⟩
  have HQ := Lib.hid (And.intro h1 (And.intro h2 h3))
  clear h1 h2 h3 HK
  rw [HZ.out] at HQ ⊢
  cases z with
  | false =>
    have HE : Hid (L = []) := Lib.hid (by rw [← HL.out]; exact nfL_no HZ.out)
    go_wp2
    go_ret
    rw [HE.out]
    exact ⟨none, 0, rfl, fun h => absurd h (by simp), Nat.le_refl _, HQ.out.2.2⟩
  | true =>
    obtain ⟨Bb, d, hv, hi⟩ := OI.form (HQ.out.1 rfl)
    rw [outF_len, ← HM.out] at hv
    subst hv
    have HI := Lib.hid hi
    clear hi
    have HB1 : Hid (Below w.heap.size w w1) := Lib.hid HQ.out.2.2
    have HPOS : Hid (0 < m) := Lib.hid (by rw [HM.out]; exact (whole_last (isF_iff.1 HZ.out)).1)
    obtain ⟨j, rfl⟩ : ∃ j, m = j + 1 := ⟨m - 1, by have := HPOS.out; omega⟩
    have HFO : Hid (Calls Tryd.prog 22 #[.slice A (j + 1) c, .slice Bb (j + 1) d, .int .i64 (j : Int), .bool true] w1 (NdP w1 L)) := Lib.hid (by
      obtain ⟨t, t1, t2, t3, t4, t5⟩ := nfL_is HZ.out
      have h := rform_any e A Bb c d (j + 1) (outF e e.length) t 0 j false w1 t3 t1 ⟨HA.out.below HB1.out, HI.out, HM.out, by rw [outF_len]; exact HM.out, hm2⟩ (by rw [t4, ← HM.out]; omega)
      rw [← t5, HL.out] at h
      exact h)
    have hj1 : ((j + 1 : Nat) : Int) - 1 = (j : Int) := by omega
    clear HQ
    go_wp2_with fail
    refine HFO.out.mono ?_
    intro q w2 hq
    obtain ⟨C, k, rfl, h1, h2, h3⟩ := NdP.after HB1.out hq
    have HR := Lib.hid (And.intro h1 (And.intro h2 h3))
    clear h1 h2 h3 hq HFO
    rw [HN.out]
    go_wp2
    go_ret
    exact ⟨C, k, by rw [HN.out]; rfl, HR.out⟩
set_option maxRecDepth 20000 in
set_option maxHeartbeats 2000000 in
theorem refDual_any (e : List (Int × Int)) (A : Option Addr) (c m : Nat) (w : World) (hm : m = e.length) (hm2 : m ≤ 1000) (hA : PA w A e) : Calls Tryd.prog 14 #[.slice A m c] w (NdP w (nfL e true)) := by
  have HK := Lib.hid (begins_any e A c m w hm (by omega) hA)
  have HM := Lib.hid hm
  have HA := Lib.hid hA
  obtain ⟨L, HL⟩ : ∃ L, Hid (nfL e true = L) := ⟨_, Lib.hid rfl⟩
  rw [HL.out]
  obtain ⟨n, HN⟩ : ∃ n, Hid (L.length = n) := ⟨_, Lib.hid rfl⟩
  obtain ⟨z, HZ⟩ : ∃ z, Hid (isF e = z) := ⟨_, Lib.hid rfl⟩
  clear hA hm
  go_enter Tryd.func14, Tryd.ntmps14
  go_wp2_with fail
  refine HK.out.mono ?_
  rintro q w1 ⟨v, rfl, h1, h2, h3⟩
  have HQ := Lib.hid (And.intro h1 (And.intro h2 h3))
  clear h1 h2 h3 HK
  rw [HZ.out] at HQ ⊢
  cases z with
  | false =>
    have HE : Hid (L = []) := Lib.hid (by rw [← HL.out]; exact nfL_no HZ.out)
    go_wp2
    go_ret
    rw [HE.out]
    exact ⟨none, 0, rfl, fun h => absurd h (by simp), Nat.le_refl _, HQ.out.2.2⟩
  | true =>
    obtain ⟨Bb, d, hv, hi⟩ := OI.form (HQ.out.1 rfl)
    rw [outF_len, ← HM.out] at hv
    subst hv
    have HI := Lib.hid hi
    clear hi
    have HB1 : Hid (Below w.heap.size w w1) := Lib.hid HQ.out.2.2
    have HPOS : Hid (0 < m) := Lib.hid (by rw [HM.out]; exact (whole_last (isF_iff.1 HZ.out)).1)
    obtain ⟨j, rfl⟩ : ∃ j, m = j + 1 := ⟨m - 1, by have := HPOS.out; omega⟩
    have HFO : Hid (Calls Tryd.prog 22 #[.slice A (j + 1) c, .slice Bb (j + 1) d, .int .i64 (j : Int), .bool false] w1 (NdP w1 L)) := Lib.hid (by
      obtain ⟨t, t1, t2, t3, t4, t5⟩ := nfL_is HZ.out
      have h := rform_any e A Bb c d (j + 1) (outF e e.length) t 0 j true w1 t3 t1 ⟨HA.out.below HB1.out, HI.out, HM.out, by rw [outF_len]; exact HM.out, hm2⟩ (by rw [t4, ← HM.out]; omega)
      rw [← t5, HL.out] at h
      exact h)
    have hj1 : ((j + 1 : Nat) : Int) - 1 = (j : Int) := by omega
    clear HQ
    go_wp2_with fail
    refine HFO.out.mono ?_
    intro q w2 hq
    obtain ⟨C, k, rfl, h1, h2, h3⟩ := NdP.after HB1.out hq
    have HR := Lib.hid (And.intro h1 (And.intro h2 h3))
    clear h1 h2 h3 hq HFO
    rw [HN.out]
    go_wp2
    go_ret
    exact ⟨C, k, by rw [HN.out]; rfl, HR.out⟩
end Go.Proofs.YtmdfiamffipbcaaDoor.nf
