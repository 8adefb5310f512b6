/- The law ExprFits: what has a kind in a scope has a value of that kind, or none that can be had, whatever the scope's things are; and nothing that was there is changed. No condition. -/
import Derived.Test.YtodloljpfbkkjaaRRRROpensScopeZ
import Derived.Test.YtodloljpfbkkjaaRRRROpensN
import Derived.Test.YtodloljpfbkkjaaRRRRExprLives
import Derived.Test.YtodloljpfbkkjaaRRRRExprEnvAll
namespace Go.Proofs.YtodloljpfbkkjaaRRRR.exprFits
open Go.ChangeShapes Go.WideShapes Go.ChangeAt Go.RowKit

theorem n64_of {e : List (Int × Int)} (h : ∀ z ∈ e, (Lit.int .i64 z.1).wf = true ∧ (Lit.int .i64 z.2).wf = true) : N64 e := fun z hz => by
  have h2 := (h z hz).2
  have e2 : IntKind.i64.min = -9223372036854775808 := rfl
  simpa [Lit.wf, e2] using h2
/-- An environment in a box. -/
theorem box5 (w : World) (Y : EvX) (t : TypeId) : lenv.Five (w.alloc (.cells #[.slice Y.a1 Y.n1 Y.c1, .slice Y.a2 Y.n2 Y.c2, .slice Y.a3 Y.n3 Y.c3, .slice Y.a4 Y.n4 Y.c4, .int .i64 Y.self] t)) w.heap.size (.slice Y.a1 Y.n1 Y.c1) (.slice Y.a2 Y.n2 Y.c2) (.slice Y.a3 Y.n3 Y.c3) (.slice Y.a4 Y.n4 Y.c4) (.int .i64 Y.self) := lenv.Five.new

set_option maxRecDepth 20000 in
set_option maxHeartbeats 8000000 in
theorem walk (A : Option Addr) (c : Nat) (e : List (Int × Int)) (X : ScX) (S : Sc) (B : Option Addr) (d : Nat) (raw : List Int) (w : World) (hl : 16 * e.length ≤ 140737488355328) (hA : PA w A e) (hN : N64 e) (h : SR w X S) (l2 : X.n2 ≤ 1000000000000000) (l3 : X.n3 ≤ 1000000000000000) (l4 : X.n4 ≤ 1000000000000000) (l5 : X.n5 ≤ 1000000000000000)
    (hr : 8 * raw.length ≤ 140737488355328) (hB : IA w B raw) (hW : W64 raw) : Calls Try.prog 3 #[.slice A e.length c, X.v, .slice B raw.length d] w (LawPost w) := by
  have HA := Lib.hid hA
  have HN := Lib.hid hN
  have HS := Lib.hid h
  have HB := Lib.hid hB
  have HW := Lib.hid hW
  have hsm := h.small
  obtain ⟨r1, r2, HR⟩ : ∃ r1 r2, Hid (kindF S e = (r1, r2)) := ⟨_, _, Lib.hid rfl⟩
  obtain ⟨m, HM⟩ : ∃ m, Hid (m = e.length) := ⟨_, Lib.hid rfl⟩
  obtain ⟨q, HQ⟩ : ∃ q, Hid (q = raw.length) := ⟨_, Lib.hid rfl⟩
  rw [← HM.out, ← HQ.out]
  have hml : m ≤ 8796093022208 := by rw [HM.out]; omega
  have hql : q ≤ 1000000000000000 := by rw [HQ.out]; omega
  clear hA hN h hl hB hW hr
  have q1 : IntKind.i64.wrap ((X.n2 : Int) + (X.n5 : Int)) = (X.n2 : Int) + (X.n5 : Int) := IntWalk.i64_in _ (by omega)
  have q2 : IntKind.i64.wrap ((X.n2 : Int) + (X.n5 : Int) + (X.n3 : Int)) = (X.n2 : Int) + (X.n5 : Int) + (X.n3 : Int) := IntWalk.i64_in _ (by omega)
  have q3 : IntKind.i64.wrap ((X.n2 : Int) + (X.n5 : Int) + (X.n3 : Int) + (X.n4 : Int)) = (X.n2 : Int) + (X.n5 : Int) + (X.n3 : Int) + (X.n4 : Int) := IntWalk.i64_in _ (by omega)
  by_cases htot : 100 < X.n2 + X.n5 + X.n3 + X.n4
  · have ht : (100 : Int) < (X.n2 : Int) + (X.n5 : Int) + (X.n3 : Int) + (X.n4 : Int) := by omega
    unfold ScX.v
    go_enter Try.func3, Try.ntmps3
    go_wp2_with fail
    refine (lives_any _).mono ?_
    rintro x w3 ⟨rfl, hb3⟩
    have HB3 : Hid (Below w.heap.size w w3) := Lib.hid (bthen (below_alloc1 _ _) hb3)
    clear hb3
    go_wp2
    go_ret
    exact ⟨rfl, HB3.out⟩
  · have ht : ¬ (100 : Int) < (X.n2 : Int) + (X.n5 : Int) + (X.n3 : Int) + (X.n4 : Int) := by omega
    unfold ScX.v
    go_enter Try.func3, Try.ntmps3
    go_wp2_with fail
    refine (lenv.env_any X S B d q raw _ (HS.out.below (below_alloc1 _ _)) HQ.out hql (HB.out.below (below_alloc1 _ _)) HW.out (by omega)).mono ?_
    rintro x w1 ⟨hb1, hcase⟩
    have HB1 : Hid (Below w.heap.size w w1) := Lib.hid (bthen (below_alloc1 _ _) hb1)
    have HX1 := Lib.hid ((Bx.new w X 28).below hb1)
    clear hb1
    rcases hcase with ⟨Y, rfl⟩ | ⟨Y, E, rfl, her, hef⟩
    · unfold EvX.v
      obtain ⟨⟨x0, x1, x2, x3, x4, x5⟩, hz⟩ := HX1.out
      go_wp2_with fail
      refine (kind_any X S e A c m _ (HS.out.below (HB1.out.trans ((below_alloc1 _ _).mono HB1.out.size))) HM.out (HA.out.below (HB1.out.trans ((below_alloc1 _ _).mono HB1.out.size))) HN.out).mono ?_
      rw [HR.out]
      rintro x w2 ⟨rfl, hb2⟩
      have HB2 : Hid (Below w.heap.size w w2) := Lib.hid (HB1.out.trans ((bthen (below_alloc1 _ _) hb2).mono HB1.out.size))
      clear hb2 x0 x1 x2 x3 x4 x5 hz
      go_wp2_with fail
      refine (lives_any w2).mono ?_
      rintro x w3 ⟨rfl, hb3⟩
      have HB3 : Hid (Below w.heap.size w w3) := Lib.hid (bthen HB2.out hb3)
      clear hb3
      go_wp2
      go_ret
      exact ⟨rfl, HB3.out⟩
    · have HER := Lib.hid her
      have HEF := Lib.hid hef
      clear her hef
      unfold EvX.v
      obtain ⟨⟨x0, x1, x2, x3, x4, x5⟩, hz⟩ := HX1.out
      go_wp2_with fail
      refine (kind_any X S e A c m _ (HS.out.below (HB1.out.trans ((below_alloc1 _ _).mono HB1.out.size))) HM.out (HA.out.below (HB1.out.trans ((below_alloc1 _ _).mono HB1.out.size))) HN.out).mono ?_
      rw [HR.out]
      rintro x w2 ⟨rfl, hb2⟩
      have HBa : Hid (Below w1.heap.size w1 w2) := Lib.hid (bthen (below_alloc1 _ _) hb2)
      have HB2 : Hid (Below w.heap.size w w2) := Lib.hid (HB1.out.trans (HBa.out.mono HB1.out.size))
      have HF2 := Lib.hid ((box5 w1 Y 33).below hb2)
      have HX2 := Lib.hid (HX1.out.below HBa.out)
      have HER2 := Lib.hid (HER.out.below HBa.out)
      clear hb2 x0 x1 x2 x3 x4 x5 hz
      by_cases hr2 : r2 = 0
      · subst hr2
        obtain ⟨s1, s2, HV⟩ : ∃ s1 s2, Hid (evalF E e = (s1, s2)) := ⟨_, _, Lib.hid rfl⟩
        have HFIT : Hid (Fits1 S.sizes r1 (s1, s2)) := Lib.hid (by rw [← HV.out]; exact eval_fits HEF.out HR.out _ rfl)
        obtain ⟨y0, y1, y2, y3, y4, yf, yl⟩ := HF2.out
        clear yf
        go_wp2_with fail
        refine (eval_any Y E e A c m w2 HER2.out HM.out (HA.out.below HB2.out) HN.out).mono ?_
        rw [HV.out]
        rintro x w3 ⟨rfl, hb3⟩
        have HB3 : Hid (Below w.heap.size w w3) := Lib.hid (bthen HB2.out hb3)
        have HX3 := Lib.hid (HX2.out.below hb3)
        clear hb3 y0 y1 y2 y3 y4 yl
        rcases HFIT.out with ⟨x, hx, hfx⟩ | hx
        · injection hx with hx1 hx2
          subst hx1 hx2
          have HFX := Lib.hid hfx
          rcases hfx with ⟨rfl, f1, f2⟩ | ⟨rfl, f1⟩ | ⟨j, rfl, f1, f2, f3⟩
          · go_wp2_with fail
            refine (lives_any w3).mono ?_
            rintro x w4 ⟨rfl, hb4⟩
            have HB4 : Hid (Below w.heap.size w w4) := Lib.hid (bthen HB3.out hb4)
            clear hb4
            go_wp2
            go_ret
            exact ⟨rfl, HB4.out⟩
          · rcases f1 with rfl | rfl
            all_goals
              go_wp2_with fail
              refine (lives_any w3).mono ?_
              rintro x w4 ⟨rfl, hb4⟩
              have HB4 : Hid (Below w.heap.size w w4) := Lib.hid (bthen HB3.out hb4)
              clear hb4
              go_wp2
              go_ret
              exact ⟨rfl, HB4.out⟩
          · have hjn : j < X.n1 := by rw [HS.out.l1]; exact f1
            obtain ⟨b, o, hAA, hb, hcc⟩ := (HS.out.r1.below HB3.out) (by rw [← HS.out.l1]; omega)
            obtain ⟨s, g0, g1⟩ := hcc j f1
            obtain ⟨z, HZ⟩ : ∃ z, Hid (S.sizes.getD j 0 = z) := ⟨_, Lib.hid rfl⟩
            rw [HZ.out] at g1 f3
            obtain ⟨⟨x0, x1, x2, x3, x4, x5⟩, hz⟩ := HX3.out
            rw [hAA] at x0
            have p0 : IntKind.i64.wrap (2 + (j : Int) - 2) = (j : Int) := (IntWalk.i64_in _ (by omega)).trans (by omega)
            have p1 : (j : Int) < (X.n1 : Int) := by omega
            have p2 : (0 : Int) ≤ (j : Int) := by omega
            have p3 : ¬ (2 + (j : Int) = 0) := by omega
            have p4 : ¬ (2 + (j : Int) = 1) := by omega
            have p5 : (2 + (j : Int) == 0) = false := by simpa using p3
            have p6 : (2 + (j : Int) == 1) = false := by simpa using p4
            clear hcc g0 x1 x2 x3 x4 x5
            go_wp2_with fail
            refine (lives_any w3).mono ?_
            rintro x w4 ⟨rfl, hb4⟩
            have HB4 : Hid (Below w.heap.size w w4) := Lib.hid (bthen HB3.out hb4)
            clear hb4
            go_wp2
            go_ret
            exact ⟨rfl, HB4.out⟩
        · injection hx with hx1 hx2
          subst hx1 hx2
          go_wp2_with fail
          refine (lives_any w3).mono ?_
          rintro x w4 ⟨rfl, hb4⟩
          have HB4 : Hid (Below w.heap.size w w4) := Lib.hid (bthen HB3.out hb4)
          clear hb4
          go_wp2
          go_ret
          exact ⟨rfl, HB4.out⟩
      · have hq0 : (r2 == 0) = false := by simpa using hr2
        have hq9 : (r2 != 0) = true := by simpa using hr2
        go_wp2_with fail
        refine (lives_any w2).mono ?_
        rintro x w3 ⟨rfl, hb3⟩
        have HB3 : Hid (Below w.heap.size w w3) := Lib.hid (bthen HB2.out hb3)
        clear hb3
        go_wp2
        go_ret
        exact ⟨rfl, HB3.out⟩

set_option maxRecDepth 100000 in
theorem lifted (os : Os) (started : os.Started) (H : Type) (enc : TypeId × Value → H) :
    ReturnsInHanded {} Try.checked os 3 .any (Rows.exprFitsSpec.pre6 enc Try.prog Try.f3 Rows.exprFitsRow.domain false) (Rows.exprFitsSpec.post enc Try.prog Try.f3 false true false false) := by
  refine law_lifted started [22, 28, 29] rfl (by kernel_rfl) Try.func3 rfl (by decide +kernel) rfl (fun ds hl => by
    match ds, hl with
    | [_, _, _], _ => rfl) (ChangeSpec.witness6 (enc := enc) (C := Try.checked) false ⟨#[], #[.slice none 0 0, .agg #[.slice none 0 0, .slice none 0 0, .slice none 0 0, .slice none 0 0, .slice none 0 0, .int .i64 0], .slice none 0 0], []⟩ 8 (by kernel_rfl) (by kernel_rfl) (by kernel_rfl) (by kernel_rfl)) ?_
  intro W base args ds ps hval hA hlt hsz
  obtain ⟨v0, vs0, d0, ds0, p0, q0, hargs, rfl, rfl, h0, r0⟩ := trodAll_cons hA
  obtain ⟨v1, vs1, d1, ds1, p1, q1, rfl, rfl, rfl, h1, r1⟩ := trodAll_cons r0
  obtain ⟨v2, vs2, d2, ds2, p2, q2, rfl, rfl, rfl, h2, r2⟩ := trodAll_cons r1
  obtain ⟨rfl, rfl, rfl⟩ := trodAll_nil r2
  obtain rfl : args = #[v0, v1, v2] := by cases args; simp_all
  obtain ⟨A0, c0, x0, rfl, b0, q0, m0, i0, z0⟩ := open_pairs_arg Try.underlying22 Try.underlying58 (by kernel_rfl) (by kernel_rfl) rfl rfl rfl rfl (hval 0 22 v0 rfl rfl) h0 hsz 0 rfl rfl
  obtain ⟨X1, S1, rfl, f1, l21, l31, l41, l51⟩ := open_scope_argz (hval 1 28 v1 rfl rfl) h1 hsz 1 rfl rfl
  obtain ⟨A2, c2, x2, rfl, b2, i2, z2⟩ := open_ints_arg (hval 2 29 v2 rfl rfl) h2 hsz 2 rfl rfl
  exact walk A0 c0 x0 X1 S1 A2 c2 x2 W b0 i0 (n64_of z0) f1 l21 l31 l41 l51 b2 i2 z2

set_option maxRecDepth 100000 in
theorem over : Rows.exprFitsRow.holds Try.pinned (OpenSpec.ofChange Rows.exprFitsSpec) :=
  OpenClaim.holds_of_wide 3 Try.f3 rfl rfl rfl rfl rfl rfl rfl ⟨rfl, rfl, rfl, rfl, rfl⟩ rfl rfl rfl rfl rfl (by kernel_rfl) Try.func3 (by kernel_rfl)
    (of_decide_eq_true (by kernel_rfl)) (by unfold Func.isWrapper; first | (rw [if_pos (by decide +kernel)]; kernel_rfl) | (rw [if_neg (by decide +kernel)]; exact ⟨rfl, rfl⟩))
    (fun os started H enc _ => lifted os started H enc)

theorem proved : Rows.ExprFitsSaid := over
#print axioms proved
end Go.Proofs.YtodloljpfbkkjaaRRRR.exprFits
