/- The law BitsPairs: of any two lengths and lists of numbers: what is in both of the two sets, in one of them, in one alone, and whether they are the same, is what the document says; both stay as they were, what is answered is apart from them; and nothing that was there is changed. No condition. -/
import Derived.Test.YtcoocchfadbhdaaBitsIs
import Derived.Test.YtcoocchfadbhdaaMerge
import Derived.Test.YtcoocchfadbhdaaAll
namespace Go.Proofs.Ytcoocchfadbhdaa.bitsPairs
open Go.ChangeShapes Go.WideShapes Go.ChangeAt Go.RowKit

theorem and_nil {w : World} {p q : Option Addr} {mk mk' : Bool} {n n' : Nat} {A A' : Option Addr} {m c m' c' : Nat} (h : HD w p mk n A m c) (h' : HD w q mk' n' A' m' c') (hno : mk = false ∨ mk' = false ∨ n ≠ n') :
    Calls Try.prog 26 #[.pointer p, .pointer q] w fun e w' => e = .returned (.pointer none) ∧ ∃ j, w' = w.drewN j := by
  by_cases hm : mk = false ∨ mk' = false
  · exact and_no h h' hm
  · have h1 : mk = true := by cases mk; exact absurd (.inl rfl) hm; rfl
    have h2 : mk' = true := by cases mk'; exact absurd (.inr rfl) hm; rfl
    subst h1 h2
    have hne : n ≠ n' := by
      rcases hno with h | h | h
      · cases h
      · cases h
      · exact h
    have H := Lib.hid (merged_len h h' (.func (.func 53) #[] #[]) hne)
    clear h h' hno hm hne
    go_enter Try.func26, Try.ntmps26
    go_wp2_with fail
    refine H.out.mono ?_
    rintro e w' ⟨rfl, j, rfl⟩
    go_wp2
    go_ret
    exact ⟨rfl, _, rfl⟩
theorem or_nil {w : World} {p q : Option Addr} {mk mk' : Bool} {n n' : Nat} {A A' : Option Addr} {m c m' c' : Nat} (h : HD w p mk n A m c) (h' : HD w q mk' n' A' m' c') (hno : mk = false ∨ mk' = false ∨ n ≠ n') :
    Calls Try.prog 27 #[.pointer p, .pointer q] w fun e w' => e = .returned (.pointer none) ∧ ∃ j, w' = w.drewN j := by
  by_cases hm : mk = false ∨ mk' = false
  · exact or_no h h' hm
  · have h1 : mk = true := by cases mk; exact absurd (.inl rfl) hm; rfl
    have h2 : mk' = true := by cases mk'; exact absurd (.inr rfl) hm; rfl
    subst h1 h2
    have hne : n ≠ n' := by
      rcases hno with h | h | h
      · cases h
      · cases h
      · exact h
    have H := Lib.hid (merged_len h h' (.func (.func 54) #[] #[]) hne)
    clear h h' hno hm hne
    go_enter Try.func27, Try.ntmps27
    go_wp2_with fail
    refine H.out.mono ?_
    rintro e w' ⟨rfl, j, rfl⟩
    go_wp2
    go_ret
    exact ⟨rfl, _, rfl⟩
theorem minus_nil {w : World} {p q : Option Addr} {mk mk' : Bool} {n n' : Nat} {A A' : Option Addr} {m c m' c' : Nat} (h : HD w p mk n A m c) (h' : HD w q mk' n' A' m' c') (hno : mk = false ∨ mk' = false ∨ n ≠ n') :
    Calls Try.prog 28 #[.pointer p, .pointer q] w fun e w' => e = .returned (.pointer none) ∧ ∃ j, w' = w.drewN j := by
  by_cases hm : mk = false ∨ mk' = false
  · exact minus_no h h' hm
  · have h1 : mk = true := by cases mk; exact absurd (.inl rfl) hm; rfl
    have h2 : mk' = true := by cases mk'; exact absurd (.inr rfl) hm; rfl
    subst h1 h2
    have hne : n ≠ n' := by
      rcases hno with h | h | h
      · cases h
      · cases h
      · exact h
    have H := Lib.hid (merged_len h h' (.func (.func 55) #[] #[]) hne)
    clear h h' hno hm hne
    go_enter Try.func28, Try.ntmps28
    go_wp2_with fail
    refine H.out.mono ?_
    rintro e w' ⟨rfl, j, rfl⟩
    go_wp2
    go_ret
    exact ⟨rfl, _, rfl⟩

theorem wl_zero (g : Nat → Bool) : wl g (SW 0) = [] := rfl
theorem wl_some (g : Nat → Bool) {n : Nat} (h : n ≠ 0) : wl g (SW n) ≠ [] := fun e => by
  have := congrArg List.length e
  rw [wl_length] at this
  simp [SW] at this
  omega

set_option maxRecDepth 20000 in
set_option maxHeartbeats 4000000 in
theorem none_none (A B : Option Addr) (c d x y : Nat) (ni : Int) (mi : Int) (a b : List Int) (w : World) (hx : x = a.length) (hy : y = b.length) (hA : IA w A a) (hB : IA w B b) (hxl : x ≤ 100) (hyl : y ≤ 100)
    (hn : ni < 0) (hm : mi < 0) :
    Calls Try.prog 4 #[.int .i64 ni, .int .i64 mi, .slice A x c, .slice B y d] w (LawPost w) := by
  have HX := Lib.hid hx
  have HY := Lib.hid hy
  have HA := Lib.hid hA
  have HB := Lib.hid hB
  have HXL : Hid (a.length ≤ 17592186044416) := Lib.hid (by omega)
  have HYL : Hid (b.length ≤ 17592186044416) := Lib.hid (by omega)
  clear hx hy hA hB
  go_enter Try.func4, Try.ntmps4
  go_wp2_with fail
  refine (of_none ni A c x a w HX.out (by omega) HA.out HXL.out).mono ?_
  rintro e w' ⟨rfl, rfl⟩
  have W1 : Hid (Below w.heap.size w w) := Lib.hid (Below.refl _ _)
  go_wp2_with fail
  refine (of_none mi B d y b w HY.out (by omega) (HB.out.below W1.out) HYL.out).mono ?_
  rintro e w' ⟨rfl, rfl⟩
  go_wp2_with fail
  refine (refOf_none ni A c x a w HX.out (by omega) (HA.out.below W1.out) HXL.out).mono ?_
  rintro e w' ⟨rfl, rfl⟩
  go_wp2_with fail
  refine (refOf_none mi B d y b w HY.out (by omega) (HB.out.below W1.out) HYL.out).mono ?_
  rintro e w' ⟨rfl, rfl⟩
  go_wp2_with fail
  obtain ⟨WW, HWW⟩ : ∃ WW, Hid (WW = w) := ⟨_, Lib.hid rfl⟩
  have HW0 : Hid (Below w.heap.size w w) := Lib.hid W1.out
  refine (and_nil (HD.nobody w) (HD.nobody w) (.inl rfl)).mono ?_
  rintro e w' ⟨rfl, j0, rfl⟩
  have HW0 := Lib.hid (below_drewN HW0.out j0)
  generalize w.drewN j0 = v0 at *
  go_wp2_with fail
  refine (or_nil (HD.nobody v0) (HD.nobody v0) (.inl rfl)).mono ?_
  rintro e w' ⟨rfl, j1, rfl⟩
  have HW0 := Lib.hid (below_drewN HW0.out j1)
  generalize v0.drewN j1 = v1 at *
  go_wp2_with fail
  refine (minus_nil (HD.nobody v1) (HD.nobody v1) (.inl rfl)).mono ?_
  rintro e w' ⟨rfl, j2, rfl⟩
  have HW0 := Lib.hid (below_drewN HW0.out j2)
  generalize v1.drewN j2 = v2 at *
  go_wp2_with fail
  have HE : Hid ((decide (0 = 0) && eqB [] []) = true) := Lib.hid (by decide)
  refine (same_heads (xs := []) (ys := []) (HD.nobody v2) (HD.nobody v2) (UA.nil _ _) (UA.nil _ _) rfl rfl (by simp) (by simp)).mono ?_
  rw [HE.out]
  rintro e w' ⟨rfl, j5, rfl⟩
  have HW0 := Lib.hid (below_drewN HW0.out j5)
  generalize v2.drewN j5 = v5 at *
  go_wp2_with fail
  refine (len_any (HD.nobody v5)).mono ?_
  rintro e w' ⟨rfl, rfl⟩
  go_wp2_with fail
  refine (len_any (HD.nobody v5)).mono ?_
  rintro e w' ⟨rfl, rfl⟩
  go_wp2_with fail
  refine (awake_any v5).mono ?_
  rintro e wz ⟨rfl, hbz⟩
  have WZ := Lib.hid (HW0.out.trans (hbz.mono HW0.out.size))
  clear hbz
  go_wp2
  go_ret
  exact ⟨rfl, WZ.out⟩

set_option maxRecDepth 20000 in
set_option maxHeartbeats 4000000 in
theorem none_some (A B : Option Addr) (c d x y : Nat) (ni : Int) (m : Nat) (a b : List Int) (w : World) (hx : x = a.length) (hy : y = b.length) (hA : IA w A a) (hB : IA w B b) (hxl : x ≤ 100) (hyl : y ≤ 100)
    (hn : ni < 0) (hm : m ≤ 300) :
    Calls Try.prog 4 #[.int .i64 ni, .int .i64 m, .slice A x c, .slice B y d] w (LawPost w) := by
  have HX := Lib.hid hx
  have HY := Lib.hid hy
  have HA := Lib.hid hA
  have HB := Lib.hid hB
  have HXL : Hid (a.length ≤ 17592186044416) := Lib.hid (by omega)
  have HYL : Hid (b.length ≤ 17592186044416) := Lib.hid (by omega)
  clear hx hy hA hB
  go_enter Try.func4, Try.ntmps4
  go_wp2_with fail
  refine (of_none ni A c x a w HX.out (by omega) HA.out HXL.out).mono ?_
  rintro e w' ⟨rfl, rfl⟩
  have W1 : Hid (Below w.heap.size w w) := Lib.hid (Below.refl _ _)
  go_wp2_with fail
  refine (of_some m B d y b w HY.out (by omega) (HB.out.below W1.out) HYL.out).mono ?_
  rintro e w2 ⟨s2, t2, rfl, h2, hs2, ht2, hb2⟩
  have S2 := Lib.hid h2
  have W2 := Lib.hid (W1.out.trans (hb2.mono W1.out.size))
  clear h2 hs2 ht2 hb2
  go_wp2_with fail
  refine (refOf_none ni A c x a w2 HX.out (by omega) (HA.out.below W2.out) HXL.out).mono ?_
  rintro e w' ⟨rfl, rfl⟩
  have S2c := S2
  go_wp2_with fail
  refine (refOf_some m B d y b w2 HY.out (by omega) (HB.out.below W2.out) HYL.out).mono ?_
  rintro e w4 ⟨r2, rfl, h4, hs4, hb4⟩
  have W4 := Lib.hid (W2.out.trans (hb4.mono W2.out.size))
  have S2d := Lib.hid (S2c.out.keep hb4)
  clear h4 hs4 hb4
  go_wp2_with fail
  obtain ⟨WW, HWW⟩ : ∃ WW, Hid (WW = w4) := ⟨_, Lib.hid rfl⟩
  have HW0 : Hid (Below w.heap.size w w4) := Lib.hid W4.out
  refine (and_nil (HD.nobody w4) S2d.out.hd (.inl rfl)).mono ?_
  rintro e w' ⟨rfl, j0, rfl⟩
  have S2d := Lib.hid (S2d.out.drewN j0)
  have HW0 := Lib.hid (below_drewN HW0.out j0)
  generalize w4.drewN j0 = v0 at *
  go_wp2_with fail
  refine (or_nil (HD.nobody v0) S2d.out.hd (.inl rfl)).mono ?_
  rintro e w' ⟨rfl, j1, rfl⟩
  have S2d := Lib.hid (S2d.out.drewN j1)
  have HW0 := Lib.hid (below_drewN HW0.out j1)
  generalize v0.drewN j1 = v1 at *
  go_wp2_with fail
  refine (minus_nil (HD.nobody v1) S2d.out.hd (.inl rfl)).mono ?_
  rintro e w' ⟨rfl, j2, rfl⟩
  have S2d := Lib.hid (S2d.out.drewN j2)
  have HW0 := Lib.hid (below_drewN HW0.out j2)
  generalize v1.drewN j2 = v2 at *
  go_wp2_with fail
  by_cases h0 : m = 0
  · subst h0
    have HE : Hid ((decide (0 = 0) && eqB [] (wl (ofG 0 b) (SW 0))) = true) := Lib.hid (by rw [wl_zero]; decide)
    refine (same_heads (xs := []) (ys := (wl (ofG 0 b) (SW 0))) (HD.nobody v2) S2d.out.hd (UA.nil _ _) (by exact S2d.out.ua) rfl (wl_length _ _).symm (by simp) (by rw [wl_length]; unfold SW maxLen; omega)).mono ?_
    rw [HE.out]
    rintro e w' ⟨rfl, j5, rfl⟩
    have S2d := Lib.hid (S2d.out.drewN j5)
    have HW0 := Lib.hid (below_drewN HW0.out j5)
    generalize v2.drewN j5 = v5 at *
    go_wp2_with fail
    refine (len_any (HD.nobody v5)).mono ?_
    rintro e w' ⟨rfl, rfl⟩
    go_wp2_with fail
    refine (len_any S2d.out.hd).mono ?_
    rintro e w' ⟨rfl, rfl⟩
    go_wp2_with fail
    refine (awake_any v5).mono ?_
    rintro e wz ⟨rfl, hbz⟩
    have WZ := Lib.hid (HW0.out.trans (hbz.mono HW0.out.size))
    clear hbz
    go_wp2
    go_ret
    exact ⟨rfl, WZ.out⟩
  · have h02 : ((m : Int) == 0) = false := by simp; omega
    have HE : Hid ((decide (0 = m) && eqB [] (wl (ofG m b) (SW m))) = false) := Lib.hid (by simp; intro e; exact absurd e.symm h0)
    refine (same_heads (xs := []) (ys := (wl (ofG m b) (SW m))) (HD.nobody v2) S2d.out.hd (UA.nil _ _) (by exact S2d.out.ua) rfl (wl_length _ _).symm (by simp) (by rw [wl_length]; unfold SW maxLen; omega)).mono ?_
    rw [HE.out]
    rintro e w' ⟨rfl, j5, rfl⟩
    have S2d := Lib.hid (S2d.out.drewN j5)
    have HW0 := Lib.hid (below_drewN HW0.out j5)
    generalize v2.drewN j5 = v5 at *
    go_wp2_with fail
    refine (len_any (HD.nobody v5)).mono ?_
    rintro e w' ⟨rfl, rfl⟩
    go_wp2_with fail
    refine (len_any S2d.out.hd).mono ?_
    rintro e w' ⟨rfl, rfl⟩
    go_wp2_with fail
    refine (awake_any v5).mono ?_
    rintro e wz ⟨rfl, hbz⟩
    have WZ := Lib.hid (HW0.out.trans (hbz.mono HW0.out.size))
    clear hbz
    go_wp2
    go_ret
    exact ⟨rfl, WZ.out⟩

set_option maxRecDepth 20000 in
set_option maxHeartbeats 4000000 in
theorem some_none (A B : Option Addr) (c d x y : Nat) (n : Nat) (mi : Int) (a b : List Int) (w : World) (hx : x = a.length) (hy : y = b.length) (hA : IA w A a) (hB : IA w B b) (hxl : x ≤ 100) (hyl : y ≤ 100)
    (hn : n ≤ 300) (hm : mi < 0) :
    Calls Try.prog 4 #[.int .i64 n, .int .i64 mi, .slice A x c, .slice B y d] w (LawPost w) := by
  have HX := Lib.hid hx
  have HY := Lib.hid hy
  have HA := Lib.hid hA
  have HB := Lib.hid hB
  have HXL : Hid (a.length ≤ 17592186044416) := Lib.hid (by omega)
  have HYL : Hid (b.length ≤ 17592186044416) := Lib.hid (by omega)
  clear hx hy hA hB
  go_enter Try.func4, Try.ntmps4
  go_wp2_with fail
  refine (of_some n A c x a w HX.out (by omega) HA.out HXL.out).mono ?_
  rintro e w1 ⟨s1, t1, rfl, h1, hs1, ht1, hb1⟩
  have S1 := Lib.hid h1
  have W1 := Lib.hid hb1
  clear h1 hs1 ht1 hb1
  go_wp2_with fail
  refine (of_none mi B d y b w1 HY.out (by omega) (HB.out.below W1.out) HYL.out).mono ?_
  rintro e w' ⟨rfl, rfl⟩
  have S1b := S1
  go_wp2_with fail
  refine (refOf_some n A c x a w1 HX.out (by omega) (HA.out.below W1.out) HXL.out).mono ?_
  rintro e w3 ⟨r1, rfl, h3, hs3, hb3⟩
  have W3 := Lib.hid (W1.out.trans (hb3.mono W1.out.size))
  have S1c := Lib.hid (S1b.out.keep hb3)
  clear h3 hs3 hb3
  go_wp2_with fail
  refine (refOf_none mi B d y b w3 HY.out (by omega) (HB.out.below W3.out) HYL.out).mono ?_
  rintro e w' ⟨rfl, rfl⟩
  have S1d := S1c
  go_wp2_with fail
  obtain ⟨WW, HWW⟩ : ∃ WW, Hid (WW = w3) := ⟨_, Lib.hid rfl⟩
  have HW0 : Hid (Below w.heap.size w w3) := Lib.hid W3.out
  refine (and_nil S1d.out.hd (HD.nobody w3) (.inr (.inl rfl))).mono ?_
  rintro e w' ⟨rfl, j0, rfl⟩
  have S1d := Lib.hid (S1d.out.drewN j0)
  have HW0 := Lib.hid (below_drewN HW0.out j0)
  generalize w3.drewN j0 = v0 at *
  go_wp2_with fail
  refine (or_nil S1d.out.hd (HD.nobody v0) (.inr (.inl rfl))).mono ?_
  rintro e w' ⟨rfl, j1, rfl⟩
  have S1d := Lib.hid (S1d.out.drewN j1)
  have HW0 := Lib.hid (below_drewN HW0.out j1)
  generalize v0.drewN j1 = v1 at *
  go_wp2_with fail
  refine (minus_nil S1d.out.hd (HD.nobody v1) (.inr (.inl rfl))).mono ?_
  rintro e w' ⟨rfl, j2, rfl⟩
  have S1d := Lib.hid (S1d.out.drewN j2)
  have HW0 := Lib.hid (below_drewN HW0.out j2)
  generalize v1.drewN j2 = v2 at *
  go_wp2_with fail
  by_cases h0 : n = 0
  · subst h0
    have HE : Hid ((decide (0 = 0) && eqB (wl (ofG 0 a) (SW 0)) []) = true) := Lib.hid (by rw [wl_zero]; decide)
    refine (same_heads (xs := (wl (ofG 0 a) (SW 0))) (ys := []) S1d.out.hd (HD.nobody v2) (by exact S1d.out.ua) (UA.nil _ _) (wl_length _ _).symm rfl (by rw [wl_length]; unfold SW maxLen; omega) (by simp)).mono ?_
    rw [HE.out]
    rintro e w' ⟨rfl, j5, rfl⟩
    have S1d := Lib.hid (S1d.out.drewN j5)
    have HW0 := Lib.hid (below_drewN HW0.out j5)
    generalize v2.drewN j5 = v5 at *
    go_wp2_with fail
    refine (len_any S1d.out.hd).mono ?_
    rintro e w' ⟨rfl, rfl⟩
    go_wp2_with fail
    refine (len_any (HD.nobody v5)).mono ?_
    rintro e w' ⟨rfl, rfl⟩
    go_wp2_with fail
    refine (awake_any v5).mono ?_
    rintro e wz ⟨rfl, hbz⟩
    have WZ := Lib.hid (HW0.out.trans (hbz.mono HW0.out.size))
    clear hbz
    go_wp2
    go_ret
    exact ⟨rfl, WZ.out⟩
  · have h02 : ((n : Int) == 0) = false := by simp; omega
    have HE : Hid ((decide (n = 0) && eqB (wl (ofG n a) (SW n)) []) = false) := Lib.hid (by simp; intro e; exact absurd e h0)
    refine (same_heads (xs := (wl (ofG n a) (SW n))) (ys := []) S1d.out.hd (HD.nobody v2) (by exact S1d.out.ua) (UA.nil _ _) (wl_length _ _).symm rfl (by rw [wl_length]; unfold SW maxLen; omega) (by simp)).mono ?_
    rw [HE.out]
    rintro e w' ⟨rfl, j5, rfl⟩
    have S1d := Lib.hid (S1d.out.drewN j5)
    have HW0 := Lib.hid (below_drewN HW0.out j5)
    generalize v2.drewN j5 = v5 at *
    go_wp2_with fail
    refine (len_any S1d.out.hd).mono ?_
    rintro e w' ⟨rfl, rfl⟩
    go_wp2_with fail
    refine (awake_any v5).mono ?_
    rintro e wz ⟨rfl, hbz⟩
    have WZ := Lib.hid (HW0.out.trans (hbz.mono HW0.out.size))
    clear hbz
    go_wp2
    go_ret
    exact ⟨rfl, WZ.out⟩

set_option maxRecDepth 20000 in
set_option maxHeartbeats 4000000 in
theorem unlike (A B : Option Addr) (c d x y : Nat) (n : Nat) (m : Nat) (a b : List Int) (w : World) (hx : x = a.length) (hy : y = b.length) (hA : IA w A a) (hB : IA w B b) (hxl : x ≤ 100) (hyl : y ≤ 100)
    (hn : n ≤ 300) (hm : m ≤ 300) (hnm : n ≠ m) :
    Calls Try.prog 4 #[.int .i64 n, .int .i64 m, .slice A x c, .slice B y d] w (LawPost w) := by
  have HX := Lib.hid hx
  have HY := Lib.hid hy
  have HA := Lib.hid hA
  have HB := Lib.hid hB
  have HXL : Hid (a.length ≤ 17592186044416) := Lib.hid (by omega)
  have HYL : Hid (b.length ≤ 17592186044416) := Lib.hid (by omega)
  have hnm2 : ¬ (n : Int) = (m : Int) := by omega
  have HNM := Lib.hid hnm
  clear hx hy hA hB
  go_enter Try.func4, Try.ntmps4
  go_wp2_with fail
  refine (of_some n A c x a w HX.out (by omega) HA.out HXL.out).mono ?_
  rintro e w1 ⟨s1, t1, rfl, h1, hs1, ht1, hb1⟩
  have S1 := Lib.hid h1
  have W1 := Lib.hid hb1
  clear h1 hs1 ht1 hb1
  go_wp2_with fail
  refine (of_some m B d y b w1 HY.out (by omega) (HB.out.below W1.out) HYL.out).mono ?_
  rintro e w2 ⟨s2, t2, rfl, h2, hs2, ht2, hb2⟩
  have S2 := Lib.hid h2
  have W2 := Lib.hid (W1.out.trans (hb2.mono W1.out.size))
  have S1b := Lib.hid (S1.out.keep hb2)
  clear h2 hs2 ht2 hb2
  go_wp2_with fail
  refine (refOf_some n A c x a w2 HX.out (by omega) (HA.out.below W2.out) HXL.out).mono ?_
  rintro e w3 ⟨r1, rfl, h3, hs3, hb3⟩
  have W3 := Lib.hid (W2.out.trans (hb3.mono W2.out.size))
  have S1c := Lib.hid (S1b.out.keep hb3)
  have S2c := Lib.hid (S2.out.keep hb3)
  clear h3 hs3 hb3
  go_wp2_with fail
  refine (refOf_some m B d y b w3 HY.out (by omega) (HB.out.below W3.out) HYL.out).mono ?_
  rintro e w4 ⟨r2, rfl, h4, hs4, hb4⟩
  have W4 := Lib.hid (W3.out.trans (hb4.mono W3.out.size))
  have S2d := Lib.hid (S2c.out.keep hb4)
  have S1d := Lib.hid (S1c.out.keep hb4)
  clear h4 hs4 hb4
  go_wp2_with fail
  obtain ⟨WW, HWW⟩ : ∃ WW, Hid (WW = w4) := ⟨_, Lib.hid rfl⟩
  have HW0 : Hid (Below w.heap.size w w4) := Lib.hid W4.out
  refine (and_nil S1d.out.hd S2d.out.hd (.inr (.inr HNM.out))).mono ?_
  rintro e w' ⟨rfl, j0, rfl⟩
  have S1d := Lib.hid (S1d.out.drewN j0)
  have S2d := Lib.hid (S2d.out.drewN j0)
  have HW0 := Lib.hid (below_drewN HW0.out j0)
  generalize w4.drewN j0 = v0 at *
  go_wp2_with fail
  refine (or_nil S1d.out.hd S2d.out.hd (.inr (.inr HNM.out))).mono ?_
  rintro e w' ⟨rfl, j1, rfl⟩
  have S1d := Lib.hid (S1d.out.drewN j1)
  have S2d := Lib.hid (S2d.out.drewN j1)
  have HW0 := Lib.hid (below_drewN HW0.out j1)
  generalize v0.drewN j1 = v1 at *
  go_wp2_with fail
  refine (minus_nil S1d.out.hd S2d.out.hd (.inr (.inr HNM.out))).mono ?_
  rintro e w' ⟨rfl, j2, rfl⟩
  have S1d := Lib.hid (S1d.out.drewN j2)
  have S2d := Lib.hid (S2d.out.drewN j2)
  have HW0 := Lib.hid (below_drewN HW0.out j2)
  generalize v1.drewN j2 = v2 at *
  go_wp2_with fail
  by_cases h0 : n = 0
  · subst h0
    have h02 : ((m : Int) == 0) = false := by simp; omega
    have HE : Hid ((decide (0 = m) && eqB (wl (ofG 0 a) (SW 0)) (wl (ofG m b) (SW m))) = false) := Lib.hid (by simp; intro e; exact absurd e HNM.out)
    refine (same_heads (xs := (wl (ofG 0 a) (SW 0))) (ys := (wl (ofG m b) (SW m))) S1d.out.hd S2d.out.hd (by exact S1d.out.ua) (by exact S2d.out.ua) (wl_length _ _).symm (wl_length _ _).symm (by rw [wl_length]; unfold SW maxLen; omega) (by rw [wl_length]; unfold SW maxLen; omega)).mono ?_
    rw [HE.out]
    rintro e w' ⟨rfl, j5, rfl⟩
    have S1d := Lib.hid (S1d.out.drewN j5)
    have S2d := Lib.hid (S2d.out.drewN j5)
    have HW0 := Lib.hid (below_drewN HW0.out j5)
    generalize v2.drewN j5 = v5 at *
    go_wp2_with fail
    refine (len_any S1d.out.hd).mono ?_
    rintro e w' ⟨rfl, rfl⟩
    go_wp2_with fail
    refine (len_any S2d.out.hd).mono ?_
    rintro e w' ⟨rfl, rfl⟩
    go_wp2_with fail
    refine (awake_any v5).mono ?_
    rintro e wz ⟨rfl, hbz⟩
    have WZ := Lib.hid (HW0.out.trans (hbz.mono HW0.out.size))
    clear hbz
    go_wp2
    go_ret
    exact ⟨rfl, WZ.out⟩
  · have h02 : ((n : Int) == 0) = false := by simp; omega
    have HE : Hid ((decide (n = m) && eqB (wl (ofG n a) (SW n)) (wl (ofG m b) (SW m))) = false) := Lib.hid (by simp; intro e; exact absurd e HNM.out)
    refine (same_heads (xs := (wl (ofG n a) (SW n))) (ys := (wl (ofG m b) (SW m))) S1d.out.hd S2d.out.hd (by exact S1d.out.ua) (by exact S2d.out.ua) (wl_length _ _).symm (wl_length _ _).symm (by rw [wl_length]; unfold SW maxLen; omega) (by rw [wl_length]; unfold SW maxLen; omega)).mono ?_
    rw [HE.out]
    rintro e w' ⟨rfl, j5, rfl⟩
    have S1d := Lib.hid (S1d.out.drewN j5)
    have S2d := Lib.hid (S2d.out.drewN j5)
    have HW0 := Lib.hid (below_drewN HW0.out j5)
    generalize v2.drewN j5 = v5 at *
    go_wp2_with fail
    refine (len_any S1d.out.hd).mono ?_
    rintro e w' ⟨rfl, rfl⟩
    go_wp2_with fail
    refine (awake_any v5).mono ?_
    rintro e wz ⟨rfl, hbz⟩
    have WZ := Lib.hid (HW0.out.trans (hbz.mono HW0.out.size))
    clear hbz
    go_wp2
    go_ret
    exact ⟨rfl, WZ.out⟩


theorem GR.touch {w w' : World} {b n t : Nat} {g : Nat → Bool} (h : GR w b n g) (hT : Touch w w' t) (hne : b ≠ t) : GR w' b n g := World.rowIs.of_block h (hT.block b (World.rowIs.lt h) (fun e => by injection e with e; exact hne e))

/-- The five sets of the law, and the document's two. -/
structure Five (w0 : World) (n s t s' t' r1 r2 sa ta so to sm tm : Nat) (g f : Nat → Bool) (V : World) : Prop where
  h1 : ST V s t n g
  h2 : ST V s' t' n f
  x1 : GR V r1 n g
  x2 : GR V r2 n f
  ha : ∃ ga, ST V sa ta n ga
  ho : ∃ go, ST V so to n go
  hm : ∃ gm, ST V sm tm n gm
  a1 : s < sa ∧ t < sa ∧ s' < sa ∧ t' < sa ∧ r1 < sa ∧ r2 < sa
  a2 : s < ta ∧ t < ta ∧ s' < ta ∧ t' < ta ∧ r1 < ta ∧ r2 < ta
  o1 : sa < so ∧ ta < so ∧ sa < to ∧ ta < to
  m1 : so < sm ∧ to < sm ∧ so < tm ∧ to < tm
  bl : Below w0.heap.size w0 V
  lo : w0.heap.size ≤ ta
theorem Five.turnA {w0 V V' : World} {n s t s' t' r1 r2 sa ta so to sm tm : Nat} {g f : Nat → Bool} (h : Five w0 n s t s' t' r1 r2 sa ta so to sm tm g f V) {ga : Nat → Bool} (hT : Turned V sa ta n ga V') : Five w0 n s t s' t' r1 r2 sa ta so to sm tm g f V' := by
  obtain ⟨k1, k2, k3⟩ := hT
  have a2 := h.a2
  have o1 := h.o1
  have m1 := h.m1
  obtain ⟨go, ho⟩ := h.ho
  obtain ⟨gm, hm⟩ := h.hm
  exact ⟨h.h1.other k2 (by omega) (by omega), h.h2.other k2 (by omega) (by omega), GR.touch h.x1 k2 (by omega), GR.touch h.x2 k2 (by omega), ⟨_, k1⟩, ⟨_, ho.other k2 (by omega) (by omega)⟩, ⟨_, hm.other k2 (by omega) (by omega)⟩, h.a1, h.a2, h.o1, h.m1,
    Turned.below ⟨k1, k2, k3⟩ h.bl h.bl.size h.lo, h.lo⟩
theorem Five.turnO {w0 V V' : World} {n s t s' t' r1 r2 sa ta so to sm tm : Nat} {g f : Nat → Bool} (h : Five w0 n s t s' t' r1 r2 sa ta so to sm tm g f V) {ga : Nat → Bool} (hT : Turned V so to n ga V') : Five w0 n s t s' t' r1 r2 sa ta so to sm tm g f V' := by
  obtain ⟨k1, k2, k3⟩ := hT
  have a1 := h.a1
  have a2 := h.a2
  have o1 := h.o1
  have m1 := h.m1
  have lo := h.lo
  obtain ⟨ga, ha⟩ := h.ha
  obtain ⟨gm, hm⟩ := h.hm
  exact ⟨h.h1.other k2 (by omega) (by omega), h.h2.other k2 (by omega) (by omega), GR.touch h.x1 k2 (by omega), GR.touch h.x2 k2 (by omega), ⟨_, ha.other k2 (by omega) (by omega)⟩, ⟨_, k1⟩, ⟨_, hm.other k2 (by omega) (by omega)⟩, h.a1, h.a2, h.o1, h.m1,
    Turned.below ⟨k1, k2, k3⟩ h.bl h.bl.size (by omega), h.lo⟩
theorem Five.turnM {w0 V V' : World} {n s t s' t' r1 r2 sa ta so to sm tm : Nat} {g f : Nat → Bool} (h : Five w0 n s t s' t' r1 r2 sa ta so to sm tm g f V) {ga : Nat → Bool} (hT : Turned V sm tm n ga V') : Five w0 n s t s' t' r1 r2 sa ta so to sm tm g f V' := by
  obtain ⟨k1, k2, k3⟩ := hT
  have a1 := h.a1
  have a2 := h.a2
  have o1 := h.o1
  have m1 := h.m1
  have lo := h.lo
  obtain ⟨ga, ha⟩ := h.ha
  obtain ⟨go, ho⟩ := h.ho
  exact ⟨h.h1.other k2 (by omega) (by omega), h.h2.other k2 (by omega) (by omega), GR.touch h.x1 k2 (by omega), GR.touch h.x2 k2 (by omega), ⟨_, ha.other k2 (by omega) (by omega)⟩, ⟨_, ho.other k2 (by omega) (by omega)⟩, ⟨_, k1⟩, h.a1, h.a2, h.o1, h.m1,
    Turned.below ⟨k1, k2, k3⟩ h.bl h.bl.size (by omega), h.lo⟩

set_option maxRecDepth 100000 in
set_option maxHeartbeats 16000000 in
theorem alike (A B : Option Addr) (c d x y n : Nat) (a b : List Int) (w : World) (hx : x = a.length) (hy : y = b.length) (hA : IA w A a) (hB : IA w B b) (hxl : x ≤ 100) (hyl : y ≤ 100) (hn : n ≤ 300) :
    Calls Try.prog 4 #[.int .i64 n, .int .i64 n, .slice A x c, .slice B y d] w (LawPost w) := by
  have HX := Lib.hid hx
  have HY := Lib.hid hy
  have HA := Lib.hid hA
  have HB := Lib.hid hB
  have HXL : Hid (a.length ≤ 17592186044416) := Lib.hid (by omega)
  have HYL : Hid (b.length ≤ 17592186044416) := Lib.hid (by omega)
  clear hx hy hA hB
  go_enter Try.func4, Try.ntmps4
  go_wp2_with fail
  refine (of_some n A c x a w HX.out (by omega) HA.out HXL.out).mono ?_
  rintro e w1 ⟨s, t, rfl, h1, hs1, ht1, hb1⟩
  have S1 := Lib.hid h1
  have W1 := Lib.hid hb1
  clear h1 hs1 ht1 hb1
  go_wp2_with fail
  refine (of_some n B d y b w1 HY.out (by omega) (HB.out.below W1.out) HYL.out).mono ?_
  rintro e w2 ⟨s', t', rfl, h2, hs2, ht2, hb2⟩
  have S2 := Lib.hid h2
  have W2 := Lib.hid (W1.out.trans (hb2.mono W1.out.size))
  have S1b := Lib.hid (S1.out.keep hb2)
  clear h2 hs2 ht2 hb2
  go_wp2_with fail
  refine (refOf_some n A c x a w2 HX.out (by omega) (HA.out.below W2.out) HXL.out).mono ?_
  rintro e w3 ⟨r1, rfl, h3, hs3, hb3⟩
  have X1 := Lib.hid h3
  have W3 := Lib.hid (W2.out.trans (hb3.mono W2.out.size))
  have S1c := Lib.hid (S1b.out.keep hb3)
  have S2c := Lib.hid (S2.out.keep hb3)
  clear h3 hs3 hb3
  go_wp2_with fail
  refine (refOf_some n B d y b w3 HY.out (by omega) (HB.out.below W3.out) HYL.out).mono ?_
  rintro e w4 ⟨r2, rfl, h4, hs4, hb4⟩
  have X2 := Lib.hid h4
  have X1b := Lib.hid (X1.out.keep hb4)
  have W4 := Lib.hid (W3.out.trans (hb4.mono W3.out.size))
  have S1d := Lib.hid (S1c.out.keep hb4)
  have S2d := Lib.hid (S2c.out.keep hb4)
  clear h4 hs4 hb4
  generalize ofG n a = g at *
  generalize ofG n b = f at *
  go_wp2_with fail
  refine (and_sets S1d.out S2d.out).mono ?_
  rintro e w5 ⟨sa, ta, rfl, h5, hs5, ht5, hb5⟩
  have SA5 := Lib.hid h5
  have L5 : Hid ((s < sa ∧ t < sa ∧ s' < sa ∧ t' < sa ∧ r1 < sa ∧ r2 < sa) ∧ (s < ta ∧ t < ta ∧ s' < ta ∧ t' < ta ∧ r1 < ta ∧ r2 < ta) ∧ w.heap.size ≤ ta) := Lib.hid (by
    have := S1d.out.head.lt
    have := S1d.out.words.lt
    have := S2d.out.head.lt
    have := S2d.out.words.lt
    have := GR.nodes X1b.out
    have := GR.nodes X2.out
    have := W4.out.size
    omega)
  have W5 := Lib.hid (W4.out.trans (hb5.mono W4.out.size))
  have S1e := Lib.hid (S1d.out.keep hb5)
  have S2e := Lib.hid (S2d.out.keep hb5)
  have X1e := Lib.hid (X1b.out.keep hb5)
  have X2e := Lib.hid (X2.out.keep hb5)
  clear h5 hs5 ht5 hb5 S1 S2 S1b S1c S2c S1d S2d X1 X2 X1b
  go_wp2_with fail
  refine (or_sets S1e.out S2e.out).mono ?_
  rintro e w6 ⟨so, to, rfl, h6, hs6, ht6, hb6⟩
  have SO6 := Lib.hid h6
  have SA6 := Lib.hid (SA5.out.keep hb6)
  have L6 : Hid (sa < so ∧ ta < so ∧ sa < to ∧ ta < to) := Lib.hid (by
    have := SA5.out.head.lt
    have := SA5.out.words.lt
    omega)
  have W6 := Lib.hid (W5.out.trans (hb6.mono W5.out.size))
  have S1f := Lib.hid (S1e.out.keep hb6)
  have S2f := Lib.hid (S2e.out.keep hb6)
  have X1f := Lib.hid (X1e.out.keep hb6)
  have X2f := Lib.hid (X2e.out.keep hb6)
  clear h6 hs6 ht6 hb6 S1e S2e X1e X2e SA5
  go_wp2_with fail
  refine (minus_sets S1f.out S2f.out).mono ?_
  rintro e w7 ⟨sm, tm, rfl, h7, hs7, ht7, hb7⟩
  have SM7 := Lib.hid h7
  have SO7 := Lib.hid (SO6.out.keep hb7)
  have SA7 := Lib.hid (SA6.out.keep hb7)
  have L7 : Hid (so < sm ∧ to < sm ∧ so < tm ∧ to < tm) := Lib.hid (by
    have := SO6.out.head.lt
    have := SO6.out.words.lt
    omega)
  have W7 := Lib.hid (W6.out.trans (hb7.mono W6.out.size))
  have S1g := Lib.hid (S1f.out.keep hb7)
  have S2g := Lib.hid (S2f.out.keep hb7)
  have X1g := Lib.hid (X1f.out.keep hb7)
  have X2g := Lib.hid (X2f.out.keep hb7)
  clear h7 hs7 ht7 hb7 S1f S2f X1f X2f SA6 SO6
  have HF : Hid (Five w n s t s' t' r1 r2 sa ta so to sm tm g f w7) := Lib.hid ⟨S1g.out, S2g.out, X1g.out, X2g.out, ⟨_, SA7.out⟩, ⟨_, SO7.out⟩, ⟨_, SM7.out⟩, L5.out.1, L5.out.2.1, L6.out, L7.out, W7.out, L5.out.2.2⟩
  go_wp2_with fail
  refine (refBoth_any 0 (by omega) X1g.out.ga X2g.out.ga hn).mono ?_
  rintro e w8 ⟨q1, rfl, h8, hb8⟩
  have Q8 := Lib.hid h8
  have B8 := Lib.hid hb8
  clear h8 hb8
  go_wp2_with fail
  refine (is_yes (SA7.out.keep B8.out) (show GA _ _ n (fun i => g i && f i) from Q8.out.ga)).mono ?_
  rintro e w9 ⟨rfl, hb9⟩
  have B9 := Lib.hid (B8.out.trans (hb9.mono B8.out.size))
  clear hb9
  go_wp2_with fail
  refine (refBoth_any 1 (by omega) (X1g.out.ga.below B9.out) (X2g.out.ga.below B9.out) hn).mono ?_
  rintro e w10 ⟨q2, rfl, h10, hb10⟩
  have Q10 := Lib.hid h10
  have B10 := Lib.hid (B9.out.trans (hb10.mono B9.out.size))
  clear h10 hb10
  go_wp2_with fail
  refine (is_yes (SO7.out.keep B10.out) (show GA _ _ n (fun i => g i || f i) from Q10.out.ga)).mono ?_
  rintro e w11 ⟨rfl, hb11⟩
  have B11 := Lib.hid (B10.out.trans (hb11.mono B10.out.size))
  clear hb11
  go_wp2_with fail
  refine (refBoth_any 2 (by omega) (X1g.out.ga.below B11.out) (X2g.out.ga.below B11.out) hn).mono ?_
  rintro e w12 ⟨q3, rfl, h12, hb12⟩
  have Q12 := Lib.hid h12
  have B12 := Lib.hid (B11.out.trans (hb12.mono B11.out.size))
  clear h12 hb12
  go_wp2_with fail
  refine (is_yes (SM7.out.keep B12.out) (show GA _ _ n (fun i => g i && !f i) from Q12.out.ga)).mono ?_
  rintro e w13 ⟨rfl, hb13⟩
  have B13 := Lib.hid (B12.out.trans (hb13.mono B12.out.size))
  clear hb13
  go_wp2_with fail
  refine (same_sets (S1g.out.keep B13.out) (S2g.out.keep B13.out)).mono ?_
  rintro e w14 ⟨⟨b1, rfl, hb1⟩, j14, rfl⟩
  have HE1 := Lib.hid hb1
  have B14 := Lib.hid (below_drewN B13.out j14)
  clear hb1
  generalize w13.drewN j14 = w14 at *
  go_wp2_with fail
  refine (refSame_any (X1g.out.ga.below B14.out) (X2g.out.ga.below B14.out) hn).mono ?_
  rintro e w15 ⟨⟨b2, rfl, hb2⟩, j15, rfl⟩
  have HBB : Hid (b2 = b1) := Lib.hid (by
    have hiff : (g = f) ↔ ∀ i, i < n → g i = f i := ⟨fun e i _ => by rw [e], fun h => funext fun i => by
      by_cases hi : i < n
      · exact h i hi
      · rw [S1g.out.off i (by omega), S2g.out.off i (by omega)]⟩
    have h1 := HE1.out
    rw [hiff] at h1
    cases b1 <;> cases b2 <;> simp_all)
  rw [HBB.out]
  have B15 := Lib.hid (below_drewN B14.out j15)
  clear hb2
  generalize w14.drewN j15 = w15 at *
  have HF2 : Hid (Five w n s t s' t' r1 r2 sa ta so to sm tm g f w15) := Lib.hid ⟨S1g.out.keep B15.out, S2g.out.keep B15.out, X1g.out.keep B15.out, X2g.out.keep B15.out, ⟨_, SA7.out.keep B15.out⟩, ⟨_, SO7.out.keep B15.out⟩, ⟨_, SM7.out.keep B15.out⟩, L5.out.1, L5.out.2.1, L6.out, L7.out, W7.out.trans (B15.out.mono W7.out.size), L5.out.2.2⟩
  clear HF S1g S2g X1g X2g SA7 SO7 SM7 Q8 Q10 Q12 B8 B9 B10 B11 B12 B13 B14 B15 W1 W2 W3 W4 W5 W6 W7 HE1 HBB
  have hbb : (b1 != b1) = false := by simp
  go_wp2
  go_loopw [18] (fun i wr => ∃ k : Nat, k ≤ n ∧ i = .int .i64 k ∧ Hid (Five w n s t s' t' r1 r2 sa ta so to sm tm g f wr)) (fun i _ => n - (intOf i).toNat)
  case atStart => exact ⟨0, by omega, rfl, HF2⟩
  case round =>
    obtain ⟨k, hk, rfl, HV⟩ := hrel
    by_cases hlt : k < n
    · obtain ⟨ga, hga⟩ := HV.out.ha
      have HGA := Lib.hid hga
      clear hga
      go_wp2_with fail
      refine (put_any HGA.out k).mono ?_
      rintro e v1 ⟨rfl, hT⟩
      have HV1 := Lib.hid (HV.out.turnA hT)
      clear hT HGA HV
      obtain ⟨go, hgo⟩ := HV1.out.ho
      have HGO := Lib.hid hgo
      clear hgo
      go_wp2_with fail
      refine (drop_any HGO.out k).mono ?_
      rintro e v2 ⟨rfl, hT⟩
      have HV2 := Lib.hid (HV1.out.turnO hT)
      clear hT HGO HV1
      obtain ⟨gm, hgm⟩ := HV2.out.hm
      have HGM := Lib.hid hgm
      clear hgm
      go_wp2_with fail
      refine (put_any HGM.out k).mono ?_
      rintro e v3 ⟨rfl, hT⟩
      have HV3 := Lib.hid (HV2.out.turnM hT)
      clear hT HGM HV2
      go_wp2
      go_roundw
      case rel => exact ⟨k + 1, by omega, by go_num, HV3⟩
      case measure => simp [intOf]; omega
    · obtain rfl : k = n := by omega
      go_wp2_with fail
      refine (is_yes HV.out.h1 HV.out.x1.ga).mono ?_
      rintro e u1 ⟨rfl, hb1⟩
      have U1 := Lib.hid hb1
      clear hb1
      go_wp2_with fail
      refine (is_yes (HV.out.h2.keep U1.out) (HV.out.x2.ga.below U1.out)).mono ?_
      rintro e u2 ⟨rfl, hb2⟩
      have U2 := Lib.hid (HV.out.bl.trans ((U1.out.trans (hb2.mono U1.out.size)).mono HV.out.bl.size))
      clear hb2
      go_wp2_with fail
      refine (awake_any u2).mono ?_
      rintro e wz ⟨rfl, hbz⟩
      have WZ := Lib.hid (U2.out.trans (hbz.mono U2.out.size))
      clear hbz
      go_wp2
      go_ret
      exact ⟨rfl, WZ.out⟩

set_option maxRecDepth 20000 in
theorem large (A B : Option Addr) (c d x y : Nat) (n m : Int) (w : World) (h : 300 < n ∨ 300 < m ∨ 100 < x ∨ 100 < y) (hx : x ≤ 140737488355328) (hy : y ≤ 140737488355328) :
    Calls Try.prog 4 #[.int .i64 n, .int .i64 m, .slice A x c, .slice B y d] w (LawPost w) := by
  by_cases h1 : 300 < n
  · clear h
    go_enter Try.func4, Try.ntmps4
    go_wp2_with fail
    refine (awake_any w).mono ?_
    rintro e wz ⟨rfl, hbz⟩
    go_wp2
    go_ret
    exact ⟨rfl, hbz⟩
  · by_cases h2 : 300 < m
    · clear h
      go_enter Try.func4, Try.ntmps4
      go_wp2_with fail
      refine (awake_any w).mono ?_
      rintro e wz ⟨rfl, hbz⟩
      go_wp2
      go_ret
      exact ⟨rfl, hbz⟩
    · by_cases h3 : 100 < x
      · clear h
        go_enter Try.func4, Try.ntmps4
        go_wp2_with fail
        refine (awake_any w).mono ?_
        rintro e wz ⟨rfl, hbz⟩
        go_wp2
        go_ret
        exact ⟨rfl, hbz⟩
      · have h4 : 100 < y := by omega
        clear h
        go_enter Try.func4, Try.ntmps4
        go_wp2_with fail
        refine (awake_any w).mono ?_
        rintro e wz ⟨rfl, hbz⟩
        go_wp2
        go_ret
        exact ⟨rfl, hbz⟩

theorem walk (A B : Option Addr) (c d : Nat) (n m : Int) (a b : List Int) (w : World) (hA : IA w A a) (hB : IA w B b) (ha : 8 * a.length ≤ 140737488355328) (hb : 8 * b.length ≤ 140737488355328) :
    Calls Try.prog 4 #[.int .i64 n, .int .i64 m, .slice A a.length c, .slice B b.length d] w (LawPost w) := by
  by_cases h : 300 < n ∨ 300 < m ∨ 100 < a.length ∨ 100 < b.length
  · exact large A B c d _ _ n m w h (by omega) (by omega)
  · by_cases h1 : n < 0
    · by_cases h2 : m < 0
      · exact none_none A B c d _ _ n m a b w rfl rfl hA hB (by omega) (by omega) h1 h2
      · obtain ⟨m', rfl⟩ : ∃ m' : Nat, m = (m' : Int) := ⟨m.toNat, by omega⟩
        exact none_some A B c d _ _ n m' a b w rfl rfl hA hB (by omega) (by omega) h1 (by omega)
    · obtain ⟨n', rfl⟩ : ∃ n' : Nat, n = (n' : Int) := ⟨n.toNat, by omega⟩
      by_cases h2 : m < 0
      · exact some_none A B c d _ _ n' m a b w rfl rfl hA hB (by omega) (by omega) (by omega) h2
      · obtain ⟨m', rfl⟩ : ∃ m' : Nat, m = (m' : Int) := ⟨m.toNat, by omega⟩
        by_cases h3 : n' = m'
        · subst h3
          exact alike A B c d _ _ n' a b w rfl rfl hA hB (by omega) (by omega) (by omega)
        · exact unlike A B c d _ _ n' m' a b w rfl rfl hA hB (by omega) (by omega) (by omega) (by omega) h3

set_option maxRecDepth 100000 in
theorem lifted (os : Os) (started : os.Started) (H : Type) (enc : TypeId × Value → H) :
    ReturnsInHanded {} Try.checked os 4 .any (Rows.bitsPairsSpec.pre6 enc Try.prog Try.f4 Rows.bitsPairsRow.domain false) (Rows.bitsPairsSpec.post enc Try.prog Try.f4 false true false false) := by
  refine law_lifted started [3, 3, 37, 37] rfl (by kernel_rfl) Try.func4 rfl (by decide +kernel) rfl (fun ds hl => by
    match ds, hl with
    | [_, _, _, _], _ => rfl) (ChangeSpec.witness6 (enc := enc) (C := Try.checked) false ⟨#[], #[.int .i64 0, .int .i64 0, .slice none 0 0, .slice none 0 0], []⟩ 8 (by kernel_rfl) (by kernel_rfl) (by kernel_rfl) (by kernel_rfl)) ?_
  intro W base args ds ps hval hA hlt hsz
  obtain ⟨v0, vs0, d0, ds0, p0, q0, hargs, rfl, rfl, h0, r0⟩ := trodAll_cons hA
  obtain ⟨v1, vs1, d1, ds1, p1, q1, rfl, rfl, rfl, h1, r1⟩ := trodAll_cons r0
  obtain ⟨v2, vs2, d2, ds2, p2, q2, rfl, rfl, rfl, h2, r2⟩ := trodAll_cons r1
  obtain ⟨v3, vs3, d3, ds3, p3, q3, rfl, rfl, rfl, h3, r3⟩ := trodAll_cons r2
  obtain ⟨rfl, rfl, rfl⟩ := trodAll_nil r3
  obtain rfl : args = #[v0, v1, v2, v3] := by cases args; simp_all
  obtain ⟨x0, rfl, rfl, rfl, w0⟩ := open_int Try.underlying3 (hval 0 3 v0 rfl rfl) h0
  obtain ⟨x1, rfl, rfl, rfl, w1⟩ := open_int Try.underlying3 (hval 1 3 v1 rfl rfl) h1
  obtain ⟨A2, c2, x2, rfl, b2, i2, z2⟩ := open_ints_arg (hval 2 37 v2 rfl rfl) h2 hsz 2 rfl rfl
  obtain ⟨A3, c3, x3, rfl, b3, i3, z3⟩ := open_ints_arg (hval 3 37 v3 rfl rfl) h3 hsz 3 rfl rfl
  exact walk A2 A3 c2 c3 x0 x1 x2 x3 W i2 i3 b2 b3

set_option maxRecDepth 100000 in
theorem over : Rows.bitsPairsRow.holds Try.pinned (OpenSpec.ofChange Rows.bitsPairsSpec) :=
  OpenClaim.holds_of_wide 4 Try.f4 rfl rfl rfl rfl rfl rfl rfl ⟨rfl, rfl, rfl, rfl, rfl⟩ rfl rfl rfl rfl rfl (by kernel_rfl) Try.func4 (by kernel_rfl)
    (of_decide_eq_true (by kernel_rfl)) (by unfold Func.isWrapper; first | (rw [if_pos (by decide +kernel)]; kernel_rfl) | (rw [if_neg (by decide +kernel)]; exact ⟨rfl, rfl⟩))
    (fun os started H enc _ => lifted os started H enc)

theorem proved : Rows.BitsPairsSaid := over
#print axioms proved
end Go.Proofs.Ytcoocchfadbhdaa.bitsPairs

