/- The law PermMuls: of any two permutations, or lists that are none, and any list: one behind the other, and what the list becomes by one, is what the document's own answers are, and nothing that was there is changed. No condition. -/
import Derived.Test.YtkaddfbnlkmehaaPermWorks
namespace Go.Proofs.Ytkaddfbnlkmehaa.permMuls
open Go.ChangeShapes Go.WideShapes Go.ChangeAt Go.RowKit

set_option maxHeartbeats 4000000 in
theorem small (A B C : Option Addr) (c d f x y z : Nat) (a b l : List Int) (w : World) (hx : x = a.length) (hy : y = b.length) (hz : z = l.length) (hA : IA w A a) (hB : IA w B b) (hC : IA w C l) (h1 : x ≤ 30) (h2 : y ≤ 30) (h3 : z ≤ 30) :
    Calls Try.prog 9 #[.slice A x c, .slice B y d, .slice C z f] w (LawPost w) := by
  have HX := Lib.hid hx
  have HY := Lib.hid hy
  have HZ := Lib.hid hz
  have HA := Lib.hid hA
  have HB := Lib.hid hB
  have HC := Lib.hid hC
  have HLA : Hid (a.length ≤ 1000000) := Lib.hid (by omega)
  have HLB : Hid (b.length ≤ 1000000) := Lib.hid (by omega)
  have HLC : Hid (l.length ≤ 1000000) := Lib.hid (by omega)
  have HL1 : Hid ((mulF a b).length ≤ maxLen) := Lib.hid (by unfold mulF maxLen; split <;> simp [mulL_length]; omega)
  have HL2 : Hid ((moveF a l).length ≤ maxLen) := Lib.hid (by unfold moveF maxLen; split <;> simp [moveL_length]; omega)
  clear hx hy hz hA hB hC
  go_enter Try.func9, Try.ntmps9
  go_wp2_with fail
  refine (mul_any A B c d x y a b w HX.out HY.out HA.out HB.out HLA.out HLB.out).mono ?_
  rintro e w1 ⟨D1, c1, rfl, h1, hb1⟩
  have H1 := Lib.hid h1.ia
  have HB1 := Lib.hid hb1
  clear h1 hb1
  obtain ⟨m1, HM1⟩ : ∃ m1, Hid (m1 = (mulF a b).length) := ⟨_, Lib.hid rfl⟩
  rw [← HM1.out]
  go_wp2_with fail
  refine (refMul_any A B c d x y a b w1 HX.out HY.out (HA.out.below HB1.out) (HB.out.below HB1.out) HLA.out HLB.out).mono ?_
  rintro e w2 ⟨D2, c2, rfl, h2, hb2⟩
  have H2 := Lib.hid h2.ia
  have H1' := Lib.hid (H1.out.below hb2)
  have HB2 := Lib.hid (HB1.out.trans (hb2.mono HB1.out.size))
  clear h2 hb2 H1
  rw [← HM1.out]
  go_wp2_with fail
  refine (equal_ints _ _ _ _ _ _ (mulF a b) (mulF a b) _ HM1.out HM1.out H1'.out H2.out HL1.out HL1.out).mono ?_
  rintro e w3 ⟨rfl, j, rfl⟩
  have HE : Hid (eqB (mulF a b) (mulF a b) = true) := Lib.hid (eqB_yes rfl)
  rw [HE.out]
  have HB3 := Lib.hid (below_drewN HB2.out j)
  clear H1' H2 HB1 HB2 HE
  generalize w2.drewN j = w3 at *
  go_wp2_with fail
  refine (move_any A C c f x z a l w3 HX.out HZ.out (HA.out.below HB3.out) (HC.out.below HB3.out) HLA.out HLC.out).mono ?_
  rintro e w4 ⟨D3, c3, rfl, h3, hb3⟩
  have H3 := Lib.hid h3.ia
  have HB4 := Lib.hid (HB3.out.trans (hb3.mono HB3.out.size))
  clear h3 hb3
  obtain ⟨m2, HM2⟩ : ∃ m2, Hid (m2 = (moveF a l).length) := ⟨_, Lib.hid rfl⟩
  rw [← HM2.out]
  go_wp2_with fail
  refine (refMove_any A C c f x z a l w4 HX.out HZ.out (HA.out.below HB4.out) (HC.out.below HB4.out) HLA.out HLC.out).mono ?_
  rintro e w5 ⟨D4, c4, rfl, h4, hb4⟩
  have H4 := Lib.hid h4.ia
  have H3' := Lib.hid (H3.out.below hb4)
  have HB5 := Lib.hid (HB4.out.trans (hb4.mono HB4.out.size))
  clear h4 hb4 H3
  rw [← HM2.out]
  go_wp2_with fail
  refine (equal_ints _ _ _ _ _ _ (moveF a l) (moveF a l) _ HM2.out HM2.out H3'.out H4.out HL2.out HL2.out).mono ?_
  rintro e w6 ⟨rfl, j2, rfl⟩
  have HE : Hid (eqB (moveF a l) (moveF a l) = true) := Lib.hid (eqB_yes rfl)
  rw [HE.out]
  have HB6 := Lib.hid (below_drewN HB5.out j2)
  clear H3' H4 HB3 HB4 HB5 HE
  generalize w5.drewN j2 = w6 at *
  go_wp2_with fail
  refine (works_any w6).mono ?_
  rintro e w7 ⟨rfl, hb7⟩
  have HB7 := Lib.hid (HB6.out.trans (hb7.mono HB6.out.size))
  clear hb7
  go_wp2
  go_ret
  exact ⟨rfl, HB7.out⟩

theorem large (A B C : Option Addr) (c d f x y z : Nat) (w : World) (h : 30 < x ∨ 30 < y ∨ 30 < z) (hx : x ≤ 140737488355328) (hy : y ≤ 140737488355328) (hz : z ≤ 140737488355328) :
    Calls Try.prog 9 #[.slice A x c, .slice B y d, .slice C z f] w (LawPost w) := by
  by_cases h1 : 30 < x
  · clear h
    go_enter Try.func9, Try.ntmps9
    go_wp2_with fail
    refine (works_any w).mono ?_
    rintro e w7 ⟨rfl, hb7⟩
    go_wp2
    go_ret
    exact ⟨rfl, hb7⟩
  · by_cases h2 : 30 < y
    · clear h
      go_enter Try.func9, Try.ntmps9
      go_wp2_with fail
      refine (works_any w).mono ?_
      rintro e w7 ⟨rfl, hb7⟩
      go_wp2
      go_ret
      exact ⟨rfl, hb7⟩
    · have h3 : 30 < z := by omega
      clear h
      go_enter Try.func9, Try.ntmps9
      go_wp2_with fail
      refine (works_any w).mono ?_
      rintro e w7 ⟨rfl, hb7⟩
      go_wp2
      go_ret
      exact ⟨rfl, hb7⟩

theorem walk (A B C : Option Addr) (c d f : Nat) (a b l : List Int) (w : World) (hA : IA w A a) (hB : IA w B b) (hC : IA w C l) (ha : 8 * a.length ≤ 140737488355328) (hb : 8 * b.length ≤ 140737488355328) (hc : 8 * l.length ≤ 140737488355328) :
    Calls Try.prog 9 #[.slice A a.length c, .slice B b.length d, .slice C l.length f] w (LawPost w) := by
  by_cases h : 30 < a.length ∨ 30 < b.length ∨ 30 < l.length
  · exact large A B C c d f _ _ _ w h (by omega) (by omega) (by omega)
  · exact small A B C c d f _ _ _ a b l w rfl rfl rfl hA hB hC (by omega) (by omega) (by omega)

set_option maxRecDepth 100000 in
theorem lifted (os : Os) (started : os.Started) (H : Type) (enc : TypeId × Value → H) :
    ReturnsInHanded {} Try.checked os 9 .any (Rows.permMulsSpec.pre6 enc Try.prog Try.f9 Rows.permMulsRow.domain false) (Rows.permMulsSpec.post enc Try.prog Try.f9 false true false false) := by
  refine law_lifted started [22, 22, 22] rfl (by kernel_rfl) Try.func9 rfl (by decide +kernel) rfl (fun ds hl => by
    match ds, hl with
    | [_, _, _], _ => rfl) (ChangeSpec.witness6 (enc := enc) (C := Try.checked) false ⟨#[], #[.slice none 0 0, .slice none 0 0, .slice none 0 0], []⟩ 8 (by kernel_rfl) (by kernel_rfl) (by kernel_rfl) (by kernel_rfl)) ?_
  intro W base args ds ps hval hA hlt hsz
  obtain ⟨v0, vs0, d0, ds0, p0, q0, hargs, rfl, rfl, h0, r0⟩ := trodAll_cons hA
  obtain ⟨v1, vs1, d1, ds1, p1, q1, rfl, rfl, rfl, h1, r1⟩ := trodAll_cons r0
  obtain ⟨v2, vs2, d2, ds2, p2, q2, rfl, rfl, rfl, h2, r2⟩ := trodAll_cons r1
  obtain ⟨rfl, rfl, rfl⟩ := trodAll_nil r2
  obtain rfl : args = #[v0, v1, v2] := by cases args; simp_all
  obtain ⟨A0, c0, x0, rfl, b0, i0, z0⟩ := open_ints_arg (hval 0 22 v0 rfl rfl) h0 hsz 0 rfl rfl
  obtain ⟨A1, c1, x1, rfl, b1, i1, z1⟩ := open_ints_arg (hval 1 22 v1 rfl rfl) h1 hsz 1 rfl rfl
  obtain ⟨A2, c2, x2, rfl, b2, i2, z2⟩ := open_ints_arg (hval 2 22 v2 rfl rfl) h2 hsz 2 rfl rfl
  exact walk A0 A1 A2 c0 c1 c2 x0 x1 x2 W i0 i1 i2 b0 b1 b2

set_option maxRecDepth 100000 in
theorem over : Rows.permMulsRow.holds Try.pinned (OpenSpec.ofChange Rows.permMulsSpec) :=
  OpenClaim.holds_of_wide 9 Try.f9 rfl rfl rfl rfl rfl rfl rfl ⟨rfl, rfl, rfl, rfl, rfl⟩ rfl rfl rfl rfl rfl (by kernel_rfl) Try.func9 (by kernel_rfl)
    (of_decide_eq_true (by kernel_rfl)) (by unfold Func.isWrapper; first | (rw [if_pos (by decide +kernel)]; kernel_rfl) | (rw [if_neg (by decide +kernel)]; exact ⟨rfl, rfl⟩))
    (fun os started H enc _ => lifted os started H enc)

theorem proved : Rows.PermMulsSaid := over
#print axioms proved
end Go.Proofs.Ytkaddfbnlkmehaa.permMuls
