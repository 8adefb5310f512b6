/- The laws NnfStays and NnfNots: their walks. -/
import Derived.Test.YtmdfiamffipbcaaDoorNnfLawOf
namespace Go.Proofs.YtmdfiamffipbcaaDoor.nf
open Go.ChangeShapes Go.WideShapes Go.ChangeAt Go.RowKit Go.Deep sr lt

theorem stays_of {e : List (Int × Int)} (h : isF e = true) : (isV (nfL e false) = true ∧ isV (nfL e true) = true) ∧ (nfL (nfL e false) false = nfL e false ∧ nfL (nfL e true) false = nfL e true ∧ nfL (nfL e true) true = nfL e false ∧ nfL (nfL e false) true = nfL e true) := by
  obtain ⟨t, h1, _, _, _, h5⟩ := nfL_is h
  have hw : ∀ ng, Wf (nfT t ng) := fun ng => nf_wf t ng h1
  have hv : ∀ ng, isV (nfL e ng) = true := fun ng => by
    rw [h5]
    exact (isV_is (isF_iff.2 (is_post (hw ng)))).2 (nl_nf t ng h1)
  have ht : ∀ a b, nfL (nfL e a) b = nfL e (a != b) := fun a b => by
    rw [h5, h5, nfL_post (hw a), nf_twice t a b h1]
  exact ⟨⟨hv _, hv _⟩, ht _ _, ht _ _, ht _ _, ht _ _⟩
theorem nots_of {e : List (Int × Int)} (h : isF e = true) (ng : Bool) : nfL (e ++ [(4, 0)]) ng = nfL e (!ng) := by
  obtain ⟨t, h1, h2, _, _, h5⟩ := nfL_is h
  have h6 : post (.un (4, 0) t) = e ++ [(4, 0)] := by rw [post, h2]
  have h7 : Wf (.un (4, 0) t) := ⟨by decide, h1⟩
  rw [← h6, nfL_post h7, h5]
  rfl
theorem nfL_pos {e : List (Int × Int)} (h : isF e = true) (ng : Bool) : 0 < (nfL e ng).length := by
  obtain ⟨t, _, _, _, _, h5⟩ := nfL_is h
  rw [h5, post_len]
  exact sz_pos _

set_option maxRecDepth 20000 in
set_option maxHeartbeats 8000000 in
theorem nnfStays_any (e : List (Int × Int)) (A : Option Addr) (c m : Nat) (w : World) (hm : m = e.length) (hm9 : 16 * m ≤ 140737488355328) (hA : PA w A e) (hF : FmW w) : Calls Tryd.prog 5 #[.slice A m c] w fun r w' => r = .returned (.bool true) ∧ Below w.heap.size w w' := by
  have HK := Lib.hid (begins_any e A c m w hm hm9 hA)
  have HM := Lib.hid hm
  have HA := Lib.hid hA
  have HF := Lib.hid hF
  obtain ⟨z, HZ⟩ : ∃ z, Hid (isF e = z) := ⟨_, Lib.hid rfl⟩
  clear hA hm hF
  go_enter Tryd.func5, Tryd.ntmps5
  go_wp2_with fail
  refine HK.out.mono ?_
  rintro q w1 ⟨v, rfl, _, _, h3⟩
  have HB1 := Lib.hid h3
  clear h3 HK
  rw [HZ.out]
  cases z with
  | false =>
    go_wp2_with fail
    refine (lives_any w1 (HF.out.below HB1.out)).mono ?_
    rintro q w2 ⟨rfl, hb2⟩
    have HB2 := Lib.hid (HB1.out.trans (hb2.mono HB1.out.size))
    clear hb2
    go_wp2
    go_ret
    exact ⟨rfl, HB2.out⟩
  | true =>
    by_cases h2 : 200 < m
    · go_wp2_with fail
      refine (lives_any w1 (HF.out.below HB1.out)).mono ?_
      rintro q w2 ⟨rfl, hb2⟩
      have HB2 := Lib.hid (HB1.out.trans (hb2.mono HB1.out.size))
      clear hb2
      go_wp2
      go_ret
      exact ⟨rfl, HB2.out⟩
    · have hm2 : m ≤ 200 := by omega
      have h2i : ¬ ((m : Int) > 200) := by omega
      clear hm9
      obtain ⟨L, HL⟩ : ∃ L, Hid (nfL e false = L) := ⟨_, Lib.hid rfl⟩
      obtain ⟨R, HR⟩ : ∃ R, Hid (nfL e true = R) := ⟨_, Lib.hid rfl⟩
      obtain ⟨n, HN⟩ : ∃ n, Hid (L.length = n) := ⟨_, Lib.hid rfl⟩
      obtain ⟨k, HKK⟩ : ∃ k, Hid (R.length = k) := ⟨_, Lib.hid rfl⟩
      have HNB : Hid (n ≤ 2 * m ∧ k ≤ 2 * m) := Lib.hid (by rw [← HN.out, ← HKK.out, ← HL.out, ← HR.out, HM.out]; exact ⟨nfL_len e _, nfL_len e _⟩)
      have HST := Lib.hid (stays_of HZ.out)
      rw [HL.out, HR.out] at HST
      have hn2 : ¬ ((n : Int) > 2 * (m : Int)) := by have := HNB.out; omega
      have hk2 : ¬ ((k : Int) > 2 * (m : Int)) := by have := HNB.out; omega
      go_wp2_with fail
      refine (of_any e A _ m w1 HM.out (by omega) (HA.out.below HB1.out) (HF.out.below HB1.out)).mono ?_
      rw [HL.out]
      rintro q w2 ⟨Ca, ca, rfl, h1, _, hb⟩
      have HCa := Lib.hid h1
      have HBs2 := Lib.hid hb
      have HB2 := Lib.hid (HB1.out.trans (hb.mono HB1.out.size))
      clear h1 hb
      rw [HN.out]
      go_wp2_with fail
      refine (dual_any e A _ m w2 HM.out (by omega) (HA.out.below HB2.out) (HF.out.below HB2.out)).mono ?_
      rw [HR.out]
      rintro q w3 ⟨Cb, cb, rfl, h1, _, hb⟩
      have HCb := Lib.hid h1
      have HBs3 := Lib.hid hb
      have HB3 := Lib.hid (HB2.out.trans (hb.mono HB2.out.size))
      clear h1 hb
      rw [HKK.out]
      have HCa := Lib.hid (HCa.out.below HBs3.out)
      go_wp2_with fail
      refine (is_any L Ca ca n w3 HN.out.symm (by have := HNB.out; omega) HCa.out (HF.out.below HB3.out)).mono ?_
      rw [HST.out.1.1]
      rintro q w4 ⟨rfl, hb⟩
      have HBs4 := Lib.hid hb
      have HB4 := Lib.hid (HB3.out.trans (hb.mono HB3.out.size))
      clear hb
      have HCa := Lib.hid (HCa.out.below HBs4.out)
      have HCb := Lib.hid (HCb.out.below HBs4.out)
      go_wp2_with fail
      refine (is_any R Cb cb k w4 HKK.out.symm (by have := HNB.out; omega) HCb.out (HF.out.below HB4.out)).mono ?_
      rw [HST.out.1.2]
      rintro q w5 ⟨rfl, hb⟩
      have HBs5 := Lib.hid hb
      have HB5 := Lib.hid (HB4.out.trans (hb.mono HB4.out.size))
      clear hb
      have HCa := Lib.hid (HCa.out.below HBs5.out)
      have HCb := Lib.hid (HCb.out.below HBs5.out)
      go_wp2_with fail
      refine (of_any L Ca _ n w5 HN.out.symm (by have := HNB.out; omega) HCa.out (HF.out.below HB5.out)).mono ?_
      rw [HST.out.2.1]
      rintro q w6 ⟨Cx, cx, rfl, h1, _, hb⟩
      have HCx := Lib.hid h1
      have HBs6 := Lib.hid hb
      have HB6 := Lib.hid (HB5.out.trans (hb.mono HB5.out.size))
      clear h1 hb
      rw [HN.out]
      have HCa := Lib.hid (HCa.out.below HBs6.out)
      have HCb := Lib.hid (HCb.out.below HBs6.out)
      go_wp2_with fail
      refine (same_any Cx Ca cx ca n n L L w6 HN.out.symm HN.out.symm HCx.out HCa.out (by rw [HN.out]; have := HNB.out; omega) (by rw [HN.out]; have := HNB.out; omega)).mono ?_
      rw [eqP_self]
      rintro q w7 ⟨rfl, j7, hw7⟩
      have HBs7 : Hid (Below w6.heap.size w6 w7) := Lib.hid (by rw [hw7]; exact below_drewN (Below.refl _ _) _)
      have HB7 := Lib.hid (HB6.out.trans (HBs7.out.mono HB6.out.size))
      clear hw7
      have HCa := Lib.hid (HCa.out.below HBs7.out)
      have HCb := Lib.hid (HCb.out.below HBs7.out)
      go_wp2_with fail
      refine (of_any R Cb _ k w7 HKK.out.symm (by have := HNB.out; omega) HCb.out (HF.out.below HB7.out)).mono ?_
      rw [HST.out.2.2.1]
      rintro q w8 ⟨Cy, cy, rfl, h1, _, hb⟩
      have HCy := Lib.hid h1
      have HBs8 := Lib.hid hb
      have HB8 := Lib.hid (HB7.out.trans (hb.mono HB7.out.size))
      clear h1 hb
      rw [HKK.out]
      have HCa := Lib.hid (HCa.out.below HBs8.out)
      have HCb := Lib.hid (HCb.out.below HBs8.out)
      go_wp2_with fail
      refine (same_any Cy Cb cy cb k k R R w8 HKK.out.symm HKK.out.symm HCy.out HCb.out (by rw [HKK.out]; have := HNB.out; omega) (by rw [HKK.out]; have := HNB.out; omega)).mono ?_
      rw [eqP_self]
      rintro q w9 ⟨rfl, j9, hw9⟩
      have HBs9 : Hid (Below w8.heap.size w8 w9) := Lib.hid (by rw [hw9]; exact below_drewN (Below.refl _ _) _)
      have HB9 := Lib.hid (HB8.out.trans (HBs9.out.mono HB8.out.size))
      clear hw9
      have HCa := Lib.hid (HCa.out.below HBs9.out)
      have HCb := Lib.hid (HCb.out.below HBs9.out)
      go_wp2_with fail
      refine (dual_any R Cb _ k w9 HKK.out.symm (by have := HNB.out; omega) HCb.out (HF.out.below HB9.out)).mono ?_
      rw [HST.out.2.2.2.1]
      rintro q w10 ⟨Cu, cu, rfl, h1, _, hb⟩
      have HCu := Lib.hid h1
      have HBs10 := Lib.hid hb
      have HB10 := Lib.hid (HB9.out.trans (hb.mono HB9.out.size))
      clear h1 hb
      rw [HN.out]
      have HCa := Lib.hid (HCa.out.below HBs10.out)
      have HCb := Lib.hid (HCb.out.below HBs10.out)
      go_wp2_with fail
      refine (same_any Cu Ca cu ca n n L L w10 HN.out.symm HN.out.symm HCu.out HCa.out (by rw [HN.out]; have := HNB.out; omega) (by rw [HN.out]; have := HNB.out; omega)).mono ?_
      rw [eqP_self]
      rintro q w11 ⟨rfl, j11, hw11⟩
      have HBs11 : Hid (Below w10.heap.size w10 w11) := Lib.hid (by rw [hw11]; exact below_drewN (Below.refl _ _) _)
      have HB11 := Lib.hid (HB10.out.trans (HBs11.out.mono HB10.out.size))
      clear hw11
      have HCa := Lib.hid (HCa.out.below HBs11.out)
      have HCb := Lib.hid (HCb.out.below HBs11.out)
      go_wp2_with fail
      refine (dual_any L Ca _ n w11 HN.out.symm (by have := HNB.out; omega) HCa.out (HF.out.below HB11.out)).mono ?_
      rw [HST.out.2.2.2.2]
      rintro q w12 ⟨Cv, cv, rfl, h1, _, hb⟩
      have HCv := Lib.hid h1
      have HBs12 := Lib.hid hb
      have HB12 := Lib.hid (HB11.out.trans (hb.mono HB11.out.size))
      clear h1 hb
      rw [HKK.out]
      have HCa := Lib.hid (HCa.out.below HBs12.out)
      have HCb := Lib.hid (HCb.out.below HBs12.out)
      go_wp2_with fail
      refine (same_any Cv Cb cv cb k k R R w12 HKK.out.symm HKK.out.symm HCv.out HCb.out (by rw [HKK.out]; have := HNB.out; omega) (by rw [HKK.out]; have := HNB.out; omega)).mono ?_
      rw [eqP_self]
      rintro q w13 ⟨rfl, j13, hw13⟩
      have HBs13 : Hid (Below w12.heap.size w12 w13) := Lib.hid (by rw [hw13]; exact below_drewN (Below.refl _ _) _)
      have HB13 := Lib.hid (HB12.out.trans (HBs13.out.mono HB12.out.size))
      clear hw13
      go_wp2_with fail
      refine (lives_any w13 (HF.out.below HB13.out)).mono ?_
      rintro q w14 ⟨rfl, hb⟩
      have HB14 := Lib.hid (HB13.out.trans (hb.mono HB13.out.size))
      clear hb
      go_wp2
      go_ret
      exact ⟨rfl, HB14.out⟩

set_option maxRecDepth 20000 in
set_option maxHeartbeats 8000000 in
theorem nnfNots_any (e : List (Int × Int)) (A : Option Addr) (c m : Nat) (w : World) (hm : m = e.length) (hm9 : 16 * m ≤ 140737488355328) (hA : PA w A e) (hF : FmW w) : Calls Tryd.prog 8 #[.slice A m c] w fun r w' => r = .returned (.bool true) ∧ Below w.heap.size w w' := by
  have HK := Lib.hid (begins_any e A c m w hm hm9 hA)
  have HM := Lib.hid hm
  have HA := Lib.hid hA
  have HF := Lib.hid hF
  obtain ⟨z, HZ⟩ : ∃ z, Hid (isF e = z) := ⟨_, Lib.hid rfl⟩
  clear hA hm hF
  go_enter Tryd.func8, Tryd.ntmps8
  go_wp2_with fail
  refine HK.out.mono ?_
  rintro q w1 ⟨v, rfl, _, _, h3⟩
  have HB1 := Lib.hid h3
  clear h3 HK
  rw [HZ.out]
  cases z with
  | false =>
    go_wp2_with fail
    refine (lives_any w1 (HF.out.below HB1.out)).mono ?_
    rintro q w2 ⟨rfl, hb2⟩
    have HB2 := Lib.hid (HB1.out.trans (hb2.mono HB1.out.size))
    clear hb2
    go_wp2
    go_ret
    exact ⟨rfl, HB2.out⟩
  | true =>
    by_cases h2 : 200 < m
    · go_wp2_with fail
      refine (lives_any w1 (HF.out.below HB1.out)).mono ?_
      rintro q w2 ⟨rfl, hb2⟩
      have HB2 := Lib.hid (HB1.out.trans (hb2.mono HB1.out.size))
      clear hb2
      go_wp2
      go_ret
      exact ⟨rfl, HB2.out⟩
    · have hm2 : m ≤ 200 := by omega
      have h2i : ¬ ((m : Int) > 200) := by omega
      clear hm9
      obtain ⟨L, HL⟩ : ∃ L, Hid (nfL e false = L) := ⟨_, Lib.hid rfl⟩
      obtain ⟨R, HR⟩ : ∃ R, Hid (nfL e true = R) := ⟨_, Lib.hid rfl⟩
      obtain ⟨n, HN⟩ : ∃ n, Hid (L.length = n) := ⟨_, Lib.hid rfl⟩
      obtain ⟨k, HKK⟩ : ∃ k, Hid (R.length = k) := ⟨_, Lib.hid rfl⟩
      have HNB : Hid (n ≤ 2 * m ∧ k ≤ 2 * m) := Lib.hid (by rw [← HN.out, ← HKK.out, ← HL.out, ← HR.out, HM.out]; exact ⟨nfL_len e _, nfL_len e _⟩)
      have HPOS : Hid (0 < m) := Lib.hid (by rw [HM.out]; exact (whole_last (isF_iff.1 HZ.out)).1)
      go_upto_region 4 with (fail)
      go_wp2_with (first
        | (at_builtin; refine list_append_nodes w1.heap.size rfl (.tmp 19) (.tmp 20) rfl rfl _ [] rfl (on_empty w1 w1.heap.size (Nat.le_refl _)) A m c e rfl HM.out HPOS.out ((HA.out.below HB1.out).below (below_one _ _)) (by simp; omega) (by simp) ?_; intro v3 w3 ho3 hb3; rw [List.nil_append] at ho3; have HO3 := Lib.hid ho3; have HB3 : Hid (Below w1.heap.size w1 w3) := Lib.hid ((below_one _ _).trans hb3); clear ho3 hb3)
        | (at_builtin; refine list_append_own encN_len encN_one Tryd.underlying22 infoN rfl (by decide) (by decide) w1.heap.size _ rfl (.tmp 21) (.tmp 23) rfl rfl _ e rfl (World.ownsRow.alloc HO3.out _) (4, 0) _ rfl rfl (by rw [← HM.out]; omega) (by have := HB3.out.size; simp; omega) _ (World.alloc_heap_new _ _) ?_; intro v4 w2 ho4 hb4 _; obtain ⟨Cg, cg, hv4, hg4, _⟩ := on_form ho4; have HCg := Lib.hid hg4; have HB12 : Hid (Below w1.heap.size w1 w2) := Lib.hid ((HB3.out.alloc HB3.out.size _).trans hb4); rw [List.length_append, List.length_singleton, ← HM.out] at hv4; subst hv4; clear ho4 hb4 hg4)
        | fail)
      have HB2 : Hid (Below w.heap.size w w2) := Lib.hid (HB1.out.trans (HB12.out.mono HB1.out.size))
      have HG : Hid (m + 1 = (e ++ [((4 : Int), (0 : Int))]).length) := Lib.hid (by rw [List.length_append, ← HM.out]; rfl)
      have HG1 : Hid (nfL (e ++ [(4, 0)]) false = R) := Lib.hid (by rw [nots_of HZ.out]; exact HR.out)
      have HG2 : Hid (nfL (e ++ [(4, 0)]) true = L) := Lib.hid (by rw [nots_of HZ.out]; exact HL.out)
      obtain ⟨g, HGG⟩ : ∃ g, Hid (e ++ [((4 : Int), (0 : Int))] = g) := ⟨_, Lib.hid rfl⟩
      rw [HGG.out] at HCg HG HG1 HG2
      have hkp : (k : Int) > 0 := by have := nfL_pos HZ.out true; rw [HR.out, HKK.out] at this; omega
      go_wp2_with fail
      refine (of_any g Cg _ (m + 1) w2 HG.out (by omega) HCg.out (HF.out.below HB2.out)).mono ?_
      rw [HG1.out]
      rintro q w3 ⟨Cx, cx, rfl, h1, _, hb⟩
      have HCx := Lib.hid h1
      have HBs3 := Lib.hid hb
      have HB3 := Lib.hid (HB2.out.trans (hb.mono HB2.out.size))
      clear h1 hb
      rw [HKK.out]
      have HCg := Lib.hid (HCg.out.below HBs3.out)
      go_wp2_with fail
      refine (dual_any e A _ m w3 HM.out (by omega) (HA.out.below HB3.out) (HF.out.below HB3.out)).mono ?_
      rw [HR.out]
      rintro q w4 ⟨Cy, cy, rfl, h1, _, hb⟩
      have HCy := Lib.hid h1
      have HBs4 := Lib.hid hb
      have HB4 := Lib.hid (HB3.out.trans (hb.mono HB3.out.size))
      clear h1 hb
      rw [HKK.out]
      have HCg := Lib.hid (HCg.out.below HBs4.out)
      have HCx := Lib.hid (HCx.out.below HBs4.out)
      go_wp2_with fail
      refine (same_any Cx Cy cx cy k k R R w4 HKK.out.symm HKK.out.symm HCx.out HCy.out (by rw [HKK.out]; have := HNB.out; omega) (by rw [HKK.out]; have := HNB.out; omega)).mono ?_
      rw [eqP_self]
      rintro q w5 ⟨rfl, j5, hw5⟩
      have HBs5 : Hid (Below w4.heap.size w4 w5) := Lib.hid (by rw [hw5]; exact below_drewN (Below.refl _ _) _)
      have HB5 := Lib.hid (HB4.out.trans (HBs5.out.mono HB4.out.size))
      clear hw5
      have HCg := Lib.hid (HCg.out.below HBs5.out)
      go_wp2_with fail
      refine (dual_any g Cg _ (m + 1) w5 HG.out (by omega) HCg.out (HF.out.below HB5.out)).mono ?_
      rw [HG2.out]
      rintro q w6 ⟨Cu, cu, rfl, h1, _, hb⟩
      have HCu := Lib.hid h1
      have HBs6 := Lib.hid hb
      have HB6 := Lib.hid (HB5.out.trans (hb.mono HB5.out.size))
      clear h1 hb
      rw [HN.out]
      have HCg := Lib.hid (HCg.out.below HBs6.out)
      go_wp2_with fail
      refine (of_any e A _ m w6 HM.out (by omega) (HA.out.below HB6.out) (HF.out.below HB6.out)).mono ?_
      rw [HL.out]
      rintro q w7 ⟨Cv, cv, rfl, h1, _, hb⟩
      have HCv := Lib.hid h1
      have HBs7 := Lib.hid hb
      have HB7 := Lib.hid (HB6.out.trans (hb.mono HB6.out.size))
      clear h1 hb
      rw [HN.out]
      have HCg := Lib.hid (HCg.out.below HBs7.out)
      have HCu := Lib.hid (HCu.out.below HBs7.out)
      go_wp2_with fail
      refine (same_any Cu Cv cu cv n n L L w7 HN.out.symm HN.out.symm HCu.out HCv.out (by rw [HN.out]; have := HNB.out; omega) (by rw [HN.out]; have := HNB.out; omega)).mono ?_
      rw [eqP_self]
      rintro q w8 ⟨rfl, j8, hw8⟩
      have HBs8 : Hid (Below w7.heap.size w7 w8) := Lib.hid (by rw [hw8]; exact below_drewN (Below.refl _ _) _)
      have HB8 := Lib.hid (HB7.out.trans (HBs8.out.mono HB7.out.size))
      clear hw8
      have HCg := Lib.hid (HCg.out.below HBs8.out)
      go_wp2_with fail
      refine (of_any g Cg _ (m + 1) w8 HG.out (by omega) HCg.out (HF.out.below HB8.out)).mono ?_
      rw [HG1.out]
      rintro q w9 ⟨Cz, cz, rfl, h1, _, hb⟩
      have HCz := Lib.hid h1
      have HBs9 := Lib.hid hb
      have HB9 := Lib.hid (HB8.out.trans (hb.mono HB8.out.size))
      clear h1 hb
      rw [HKK.out]
      go_wp2_with fail
      refine (lives_any w9 (HF.out.below HB9.out)).mono ?_
      rintro q w10 ⟨rfl, hb⟩
      have HB10 := Lib.hid (HB9.out.trans (hb.mono HB9.out.size))
      clear hb
      go_wp2
      go_ret
      exact ⟨rfl, HB10.out⟩

end Go.Proofs.YtmdfiamffipbcaaDoor.nf
