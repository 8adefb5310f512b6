/- The document's Holds. -/
import Derived.Test.YtophajljjnjcdaaWdDocT
namespace Go.Proofs.Ytophajljjnjcdaa.wd
open Go.ChangeShapes Go.WideShapes Go.ChangeAt Go.RowKit Go.Deep sr lt nf

set_option maxRecDepth 20000 in
set_option maxHeartbeats 1000000 in
theorem refHolds_any (e : List (Int × Int)) (x : WX) (st lp sets : List Int) (A : Option Addr) (c m n : Nat) (w : World) (hm : m = e.length) (hm2 : m ≤ 1000) (hA : PA w A e) (hX : WdR w x st lp) (hn : x.n + x.m = n) (hsets : st ++ lp = sets) :
    Calls Try.prog 19 #[.slice A m c, x.v] w (ValP w (.bool (hdF e sets x.n x.m))) := by
  have HB1 : Hid (Below w.heap.size w (w.alloc (.cells #[.slice x.A x.n x.c, .slice x.B x.m x.d] 24))) := Lib.hid (below_one _ _)
  have HP := Lib.hid (refTruth_any e x st lp sets A c m n _ hm hm2 (hA.below HB1.out) (hX.below HB1.out) hn hsets)
  obtain ⟨y, HY⟩ : ∃ y, Hid (hdF e sets x.n x.m = y) := ⟨_, Lib.hid rfl⟩
  rw [HY.out]
  by_cases h : okF e x.m = true
  · obtain ⟨h1, h2⟩ := okF_iff.1 h
    have hpos := (whole_last (isF_iff.1 h1)).1
    have htl := (tr_len (isF_iff.1 h1) sets x.n (j := e.length - 1) (by omega)).trans (show sets.length = n by rw [← hsets, List.length_append]; have := hX.n1; have := hX.n2; omega)
    have hy : (trJ e (outF e e.length) sets x.n (e.length - 1)).getD 0 false = y := by
      have := HY.out
      unfold hdF at this
      rw [h, Bool.true_and] at this
      exact this
    obtain ⟨p, rfl⟩ : ∃ p, m = p + 1 := ⟨m - 1, by omega⟩
    have hl : e.length - 1 = p := by omega
    rw [hl] at hy htl
    have HYY := Lib.hid hy
    have HTL := Lib.hid htl
    have hn0 : 0 < n := by omega
    have HQ : Hid (Calls Try.prog 17 #[.slice A ((p + 1 : Nat) : Nat) c, x.v] (w.alloc (.cells #[.slice x.A x.n x.c, .slice x.B x.m x.d] 24)) (RefTrY (w.alloc (.cells #[.slice x.A x.n x.c, .slice x.B x.m x.d] 24)) e sets x.n n (p + 1))) := Lib.hid (HP.out.mono (fun r w' hh => by
      unfold RefTr at hh
      rw [if_pos h] at hh
      exact hh))
    clear hm hA hX hn hsets h h1 h2 hy HY hl hpos HP htl
    obtain ⟨As, s, cs, Al, q, d⟩ := x
    unfold WX.v at HQ ⊢
    dsimp only at HQ HYY HB1 HTL ⊢
    go_enter Try.func19, Try.ntmps19
    go_wp2_with fail
    refine HQ.out.mono ?_
    rintro r w2 ⟨b, off, oc, rfl, hbb, hb, hr⟩
    have HB2 : Hid (Below w.heap.size w w2) := Lib.hid (HB1.out.trans (hb.mono HB1.out.size))
    obtain ⟨A5, c5, c1, q2⟩ := hr p (by omega)
    obtain ⟨g, o, rfl, hg, hc⟩ := q2 (by rw [HTL.out]; omega)
    have c2 := hc 0 (by rw [HTL.out]; omega)
    rw [HYY.out, Nat.add_zero] at c2
    have hpi : ((p + 1 : Nat) : Int) - 1 = (p : Int) := by omega
    clear hb hbb hr hc HQ q2
    go_wp2
    go_ret
    exact ⟨rfl, HB2.out⟩
  · have h2 : okF e x.m = false := by simpa using h
    have hy : y = false := by
      have := HY.out
      unfold hdF at this
      rw [h2, Bool.false_and] at this
      exact this.symm
    subst hy
    have HQ : Hid (Calls Try.prog 17 #[.slice A m c, x.v] (w.alloc (.cells #[.slice x.A x.n x.c, .slice x.B x.m x.d] 24)) (ValP (w.alloc (.cells #[.slice x.A x.n x.c, .slice x.B x.m x.d] 24)) (.slice none 0 0))) := Lib.hid (HP.out.mono (fun r w' hh => by
      unfold RefTr at hh
      rw [if_neg h] at hh
      exact hh))
    clear hm hA hX hn hsets h h2 HY HP
    obtain ⟨As, s, cs, Al, q, d⟩ := x
    unfold WX.v at HQ ⊢
    dsimp only at HQ HB1 ⊢
    go_enter Try.func19, Try.ntmps19
    go_wp2_with fail
    refine HQ.out.mono ?_
    rintro r w2 ⟨rfl, hb⟩
    have HB2 : Hid (Below w.heap.size w w2) := Lib.hid (HB1.out.trans (hb.mono HB1.out.size))
    clear hb HQ
    go_wp2
    go_ret
    exact ⟨rfl, HB2.out⟩
end Go.Proofs.Ytophajljjnjcdaa.wd
