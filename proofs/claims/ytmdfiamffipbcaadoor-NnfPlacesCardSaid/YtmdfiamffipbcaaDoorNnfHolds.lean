/- The document's Holds; the law's far. -/
import Derived.Test.YtmdfiamffipbcaaDoorNnfTruths
import Derived.Test.YtmdfiamffipbcaaDoorNnfOf
namespace Go.Proofs.YtmdfiamffipbcaaDoor.nf
open Go.ChangeShapes Go.WideShapes Go.ChangeAt Go.RowKit Go.Deep sr lt

theorem tr_last_sem {e : List (Int × Int)} {t : Tr} (hA : At e (outF e e.length) t 0) (hs : sz t = e.length) (hw : Wf t) (sets : List Int) (loop : Nat) : (trF e (outF e e.length) sets loop e.length).getD (e.length - 1) [] = semF sets loop t := by
  have := tr_sem e (outF e e.length) sets loop t 0 hA hw e.length (by omega)
  rw [Nat.zero_add, hs] at this
  exact this
set_option maxRecDepth 20000 in
set_option maxHeartbeats 8000000 in
theorem holds_any (e : List (Int × Int)) (t : Tr) (A As Al : Option Addr) (stem lp sets : List Int) (c m ns cs nl cl n : Nat) (w : World) (hm : m = e.length) (hm9 : m ≤ 1000) (hA : PA w A e) (hF : isF e = true) (hns : ns = stem.length) (hnl : nl = lp.length) (hnl0 : 0 < nl) (hlen : n ≤ 1000) (hSt : UA w As stem) (hLp : UA w Al lp)
    (hsets : stem ++ lp = sets) (hn : ns + nl = n) (hsb : ∀ i, i < n → 0 ≤ sets.getD i 0 ∧ sets.getD i 0 < 18446744073709551616) (hat : At e (outF e e.length) t 0) (hsz : sz t = e.length) (hwf : Wf t) :
    Calls Tryd.prog 19 #[.slice A m c, .agg #[.slice As ns cs, .slice Al nl cl]] w fun r w' => r = .returned (.bool ((semF sets ns t).getD 0 false)) ∧ Below w.heap.size w w' := by
  obtain ⟨L, HL⟩ : ∃ L, Hid (semF sets ns t = L) := ⟨_, Lib.hid rfl⟩
  have hsl : sets.length = n := by rw [← hsets, List.length_append]; omega
  have HLN : Hid (L.length = n) := Lib.hid (by rw [← HL.out, sem_len _ _ _ hwf]; exact hsl)
  have HLA := Lib.hid (tr_last_sem hat hsz hwf sets ns)
  rw [HL.out] at HLA ⊢
  have hm0 : 0 < m := by have := sz_pos t; omega
  obtain ⟨x, HX⟩ : ∃ x, Hid (L.getD 0 false = x) := ⟨_, Lib.hid rfl⟩
  rw [HX.out]
  have HM := Lib.hid hm
  have HB1 : Hid (Below w.heap.size w (w.alloc (.cells #[.slice As ns cs, .slice Al nl cl] 32))) := Lib.hid (below_one _ _)
  have HT := Lib.hid (truths_any e A As Al stem lp sets c m ns cs nl cl n (w.alloc (.cells #[.slice As ns cs, .slice Al nl cl] 32)) hm hm9 (hA.below HB1.out) hF hns hnl hnl0 hlen (hSt.below HB1.out) (hLp.below HB1.out) hsets hn hsb)
  have hlp := hn
  clear hm hA hF hns hSt hLp hsets hn hsb hat hsz hwf hsl hnl
  go_enter Tryd.func19, Tryd.ntmps19
  go_wp2_with fail
  refine HT.out.mono ?_
  rintro q w2 ⟨OA, oc, rfl, hR, hb2⟩
  have HB2 : Hid (Below w.heap.size w w2) := Lib.hid (HB1.out.trans (hb2.mono HB1.out.size))
  rw [← HM.out]
  obtain ⟨b, off, rfl, hbl, hc⟩ := hR (by rw [trF_len, ← HM.out]; exact hm0)
  obtain ⟨A', c', g1, g2⟩ := hc (m - 1) (by rw [trF_len, ← HM.out]; omega)
  have hla := HLA.out
  rw [← HM.out] at hla g2
  rw [hla] at g2
  obtain ⟨b2, o2, rfl, hbl2, hc2⟩ := g2 (by rw [HLN.out]; omega)
  have g3 := hc2 0 (by rw [HLN.out]; omega)
  rw [HX.out, Nat.add_zero] at g3
  obtain ⟨p, hp⟩ : ∃ p, m = p + 1 := ⟨m - 1, by omega⟩
  subst hp
  rw [Nat.add_sub_cancel] at g1
  clear hc hc2 hR hb2 hla HT HLA g2
  go_wp2_with fail
  go_ret
  exact ⟨rfl, HB2.out⟩
set_option maxRecDepth 20000 in
theorem far_any (A As Al : Option Addr) (c m ns cs nl cl : Nat) (w : World) (hn : ns ≤ 1000000000000000) (hl : nl ≤ 1000000000000000) :
    Calls Tryd.prog 18 #[.slice A m c, .agg #[.slice As ns cs, .slice Al nl cl]] w fun r w' => r = .returned (.bool (decide (100 < m ∨ 60 < ns + nl))) ∧ Below w.heap.size w w' := by
  obtain ⟨x, HX⟩ : ∃ x, Hid (decide (100 < m ∨ 60 < ns + nl) = x) := ⟨_, Lib.hid rfl⟩
  rw [HX.out]
  have HB1 : Hid (Below w.heap.size w (w.alloc (.cells #[.slice As ns cs, .slice Al nl cl] 32))) := Lib.hid (below_one _ _)
  by_cases h0 : 100 < m
  · have hx : x = true := by rw [← HX.out]; exact decide_eq_true (.inl h0)
    subst hx
    have hm1 : (m : Int) > 100 := by omega
    go_enter Tryd.func18, Tryd.ntmps18
    go_wp2
    go_ret
    exact ⟨rfl, HB1.out⟩
  have hm1 : ¬ ((m : Int) > 100) := by omega
  by_cases h : 60 < ns + nl
  · have hx : x = true := by rw [← HX.out]; exact decide_eq_true (.inr h)
    subst hx
    have h1 : ((ns : Int) + (nl : Int) > 60) := by omega
    go_enter Tryd.func18, Tryd.ntmps18
    go_wp2
    go_ret
    exact ⟨rfl, HB1.out⟩
  · have hx : x = false := by rw [← HX.out]; exact decide_eq_false (by omega)
    subst hx
    have h1 : ¬ ((ns : Int) + (nl : Int) > 60) := by omega
    go_enter Tryd.func18, Tryd.ntmps18
    go_wp2
    go_ret
    exact ⟨rfl, HB1.out⟩
theorem form_tree {e : List (Int × Int)} {t : Tr} (hw : Wf t) (hp : post t = e) (ng : Bool) : isF (nfL e ng) = true ∧ At (nfL e ng) (outF (nfL e ng) (nfL e ng).length) (nfT t ng) 0 ∧ sz (nfT t ng) = (nfL e ng).length ∧ Wf (nfT t ng) := by
  subst hp
  rw [nfL_post hw]
  have hf := isF_iff.2 (is_post (nf_wf t ng hw))
  obtain ⟨t1, h1, h2, h3, h4, _⟩ := nfL_is hf
  obtain rfl : t1 = nfT t ng := post_inj h1 (nf_wf t ng hw) h2
  exact ⟨hf, h3, h4, h1⟩
end Go.Proofs.YtmdfiamffipbcaaDoor.nf
