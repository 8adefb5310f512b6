/- The program's Truth and Holds. -/
import Derived.Test.YtophajljjnjcdaaWdRows
namespace Go.Proofs.Ytophajljjnjcdaa.wd
open Go.ChangeShapes Go.WideShapes Go.ChangeAt Go.RowKit Go.Deep sr lt nf

set_option maxRecDepth 20000 in
set_option maxHeartbeats 1000000 in
theorem rows_none (e : List (Int × Int)) (x : WX) (all : Bool) (A : Option Addr) (c m : Nat) (w : World) (hm : m = e.length) (hm2 : m ≤ 1000) (hA : PA w A e) (b1 : x.n ≤ 1000) (b2 : x.m ≤ 1000) (h0 : isF e = false ∨ x.m = 0) :
    Calls Try.prog 30 #[.slice A m c, x.v, .bool all] w (ValP w (.slice none 0 0)) := by
  have HM := Lib.hid hm
  have HA := Lib.hid hA
  have H0 := Lib.hid h0
  have hck := fun W => check_any x W b1 b2
  have HK := Lib.hid hck
  clear hm hA hck h0
  obtain ⟨As, s, cs, Al, q, d⟩ := x
  unfold WX.v at HK ⊢
  dsimp only at b1 b2 HK H0 ⊢
  obtain ⟨w1, HW1, HB1, HC1⟩ : ∃ w1, w.alloc (.cells #[.slice As s cs, .slice Al q d] 24) = w1 ∧ Hid (Below w.heap.size w w1) ∧ Hid (∀ W, Below w1.heap.size w1 W → W.cell? ⟨w.heap.size, 0, none⟩ = some (.slice As s cs) ∧ W.cell? ⟨w.heap.size, 1, none⟩ = some (.slice Al q d)) := by
    have e : (w.alloc (.cells #[.slice As s cs, .slice Al q d] 24)).heap.size = w.heap.size + 1 := by simp
    exact ⟨_, rfl, Lib.hid (below_one _ _), Lib.hid (fun W h => ⟨(h.cell (p := ⟨w.heap.size, 0, none⟩) (by show w.heap.size < _; omega)).trans (World.cell?_alloc_at _ _ _ _ (by simp)), (h.cell (p := ⟨w.heap.size, 1, none⟩) (by show w.heap.size < _; omega)).trans (World.cell?_alloc_at _ _ _ _ (by simp))⟩)⟩
  have HSP := Lib.hid (spans_new e A c m w1 HM.out hm2 (HA.out.below HB1.out))
  go_enter Try.func30, Try.ntmps30
  go_upto_region 1 with (fail)
  clear HW1
  go_wp2_with fail
  refine HSP.out.mono ?_
  rintro e2 w2 ⟨Bb, bd, rfl, _, hb2, _⟩
  have HC2 := Lib.hid hb2
  have HB2 : Hid (Below w.heap.size w w2) := Lib.hid (HB1.out.trans (hb2.mono HB1.out.size))
  clear hb2 HSP
  obtain ⟨bl, HBL⟩ : ∃ bl, Hid (bl = (spansL e).length) := ⟨_, Lib.hid rfl⟩
  rw [← HBL.out]
  obtain ⟨z1, z2⟩ := HC1.out w2 HC2.out
  by_cases hbl : bl = 0
  · subst hbl
    go_wp2
    go_ret
    exact ⟨rfl, HB2.out⟩
  · have hq : q = 0 := by
      rcases H0.out with h | h
      · have := HBL.out
        unfold spansL at this
        rw [if_neg (by rw [h]; decide)] at this
        exact absurd this hbl
      · exact h
    subst hq
    have hc8 : chkF 0 = 8 := rfl
    rw [hc8] at HK
    have hne : ¬ (bl : Int) = 0 := by omega
    have hne2 : ((bl : Int) == 0) = false := by simpa using hne
    go_wp2_with fail
    refine (HK.out _).mono ?_
    rintro e3 w3 ⟨rfl, hb3⟩
    have HB3 := Lib.hid (HB2.out.trans (hb3.mono HB2.out.size))
    clear hb3
    go_wp2
    go_ret
    exact ⟨rfl, HB3.out⟩
/-- Is it a formula, and a word? -/
def okF (e : List (Int × Int)) (q : Nat) : Bool := isF e && decide (0 < q)
theorem okF_iff {e : List (Int × Int)} {q : Nat} : okF e q = true ↔ isF e = true ∧ 0 < q := by simp [okF]
theorem okF_not {e : List (Int × Int)} {q : Nat} (h : okF e q = false) : isF e = false ∨ q = 0 := by
  unfold okF at h
  rcases Bool.and_eq_false_iff.1 h with h | h
  · exact .inl h
  · have := of_decide_eq_false h
    exact .inr (by omega)
/-- Does the word satisfy the formula? -/
def hdF (e : List (Int × Int)) (sets : List Int) (s q : Nat) : Bool := okF e q && (trJ e (outF e e.length) sets s (e.length - 1)).getD 0 false
/-- What Truth leaves. -/
def TruP (w : World) (e : List (Int × Int)) (sets : List Int) (s q n m : Nat) (x : Ending) (w' : World) : Prop :=
  if okF e q = true then RowsP w m n (fun _ => True) (trJ e (outF e e.length) sets s) x w' else ValP w (.slice none 0 0) x w'
set_option maxRecDepth 20000 in
theorem truth_any (e : List (Int × Int)) (x : WX) (st lp sets : List Int) (A : Option Addr) (c m n : Nat) (w : World) (hm : m = e.length) (hm2 : m ≤ 1000) (hA : PA w A e) (hX : WdR w x st lp) (hn : x.n + x.m = n) (hsets : st ++ lp = sets) :
    Calls Try.prog 16 #[.slice A m c, x.v] w (TruP w e sets x.n x.m n m) := by
  have HB1 : Hid (Below w.heap.size w (w.alloc (.cells #[.slice x.A x.n x.c, .slice x.B x.m x.d] 24))) := Lib.hid (below_one _ _)
  have HP : Hid (Calls Try.prog 30 #[.slice A m c, x.v, .bool true] (w.alloc (.cells #[.slice x.A x.n x.c, .slice x.B x.m x.d] 24)) (fun r w' => (∃ A n c, r = .returned (.slice A n c)) ∧ TruP w e sets x.n x.m n m r w')) := Lib.hid (by
    unfold TruP
    by_cases h : okF e x.m = true
    · simp only [if_pos h]
      obtain ⟨h1, h2⟩ := okF_iff.1 h
      refine (rows_some e x st lp sets true A c m n _ hm hm2 (hA.below HB1.out) h1 (hX.below HB1.out) hn h2 hsets).mono ?_
      rintro r w' ⟨tb, X, rfl, hb, ht, hr⟩
      exact ⟨⟨_, _, _, rfl⟩, tb, X, rfl, HB1.out.trans (hb.mono HB1.out.size), Nat.le_trans HB1.out.size ht, hr.row, fun j hj _ => hr.tru j hj (.inl rfl)⟩
    · simp only [if_neg h]
      refine (rows_none e x true A c m _ hm hm2 (hA.below HB1.out) hX.b1 hX.b2 (okF_not (by simpa using h))).mono ?_
      rintro r w' ⟨rfl, hb⟩
      exact ⟨⟨_, _, _, rfl⟩, rfl, HB1.out.trans (hb.mono HB1.out.size)⟩)
  clear hm hA hX hn hsets
  obtain ⟨As, s, cs, Al, q, d⟩ := x
  unfold WX.v at HP ⊢
  dsimp only at HP ⊢
  go_enter Try.func16, Try.ntmps16
  go_wp2_with fail
  refine HP.out.mono ?_
  rintro r w2 ⟨⟨A2, n2, c2, rfl⟩, hp⟩
  have HPP := Lib.hid hp
  clear hp HP
  go_wp2
  go_ret
  exact HPP.out
set_option maxRecDepth 20000 in
set_option maxHeartbeats 1000000 in
theorem holds_any (e : List (Int × Int)) (x : WX) (st lp sets : List Int) (A : Option Addr) (c m n : Nat) (w : World) (hm : m = e.length) (hm2 : m ≤ 1000) (hA : PA w A e) (hX : WdR w x st lp) (hn : x.n + x.m = n) (hsets : st ++ lp = sets) :
    Calls Try.prog 18 #[.slice A m c, x.v] w (ValP w (.bool (hdF e sets x.n x.m))) := by
  have HB1 : Hid (Below w.heap.size w (w.alloc (.cells #[.slice x.A x.n x.c, .slice x.B x.m x.d] 24))) := Lib.hid (below_one _ _)
  obtain ⟨y, HY⟩ : ∃ y, Hid (hdF e sets x.n x.m = y) := ⟨_, Lib.hid rfl⟩
  rw [HY.out]
  by_cases h : okF e x.m = true
  · obtain ⟨h1, h2⟩ := okF_iff.1 h
    have hpos := (whole_last (isF_iff.1 h1)).1
    have hy : (trJ e (outF e e.length) sets x.n (e.length - 1)).getD 0 false = y := by
      have := HY.out
      unfold hdF at this
      rw [h, Bool.true_and] at this
      exact this
    have HP := Lib.hid (rows_some e x st lp sets false A c m n _ hm hm2 (hA.below HB1.out) h1 (hX.below HB1.out) hn h2 hsets)
    obtain ⟨p, rfl⟩ : ∃ p, m = p + 1 := ⟨m - 1, by omega⟩
    have hl : e.length - 1 = p := by omega
    rw [hl] at hy
    have HYY := Lib.hid hy
    have hn0 : 0 < n := by omega
    clear hm hA hX hn hsets h h1 h2 hy HY hl hpos
    obtain ⟨As, s, cs, Al, q, d⟩ := x
    unfold WX.v at HP ⊢
    dsimp only at HP HYY HB1 ⊢
    go_enter Try.func18, Try.ntmps18
    go_wp2_with fail
    refine HP.out.mono ?_
    rintro r w2 ⟨tb, X, rfl, hb, ht, hr⟩
    have HB2 : Hid (Below w.heap.size w w2) := Lib.hid (HB1.out.trans (hb.mono HB1.out.size))
    have c1 := hr.row.cell (i := p) (by omega)
    obtain ⟨q1, q2, q3, _⟩ := hr.tru p (by omega) (.inr rfl)
    obtain ⟨A5, n5, c5, HXP⟩ : ∃ A n c, Hid (X p = (A, n, c)) := ⟨_, _, _, Lib.hid rfl⟩
    rw [HXP.out] at c1 q1 q2
    dsimp only at q1 q2
    subst q1
    unfold slv at c1
    dsimp only at c1
    obtain ⟨g, o, rfl, hg, hc⟩ := q2 (by omega)
    have c2 := hc 0 (by omega)
    rw [HYY.out, Nat.add_zero] at c2
    have hpi : ((p + 1 : Nat) : Int) - 1 = (p : Int) := by omega
    clear hb ht hr hc HP q3
    go_wp2
    go_ret
    exact ⟨rfl, HB2.out⟩
  · have h2 : okF e x.m = false := by simpa using h
    have hy : y = false := by
      have := HY.out
      unfold hdF at this
      rw [h2, Bool.false_and] at this
      exact this.symm
    subst hy
    have HP := Lib.hid (rows_none e x false A c m _ hm hm2 (hA.below HB1.out) hX.b1 hX.b2 (okF_not h2))
    clear hm hA hX hn hsets h h2 HY
    obtain ⟨As, s, cs, Al, q, d⟩ := x
    unfold WX.v at HP ⊢
    dsimp only at HP HB1 ⊢
    go_enter Try.func18, Try.ntmps18
    go_wp2_with fail
    refine HP.out.mono ?_
    rintro r w2 ⟨rfl, hb⟩
    have HB2 : Hid (Below w.heap.size w w2) := Lib.hid (HB1.out.trans (hb.mono HB1.out.size))
    clear hb HP
    go_wp2
    go_ret
    exact ⟨rfl, HB2.out⟩
end Go.Proofs.Ytophajljjnjcdaa.wd
