/- The law ExprSpans: of any nodes: where the part of each of them begins, or that they are no expression, is the document's, and nothing that was there is changed. No condition. -/
import Derived.Test.YtokbhpgcpmnhkaaOpensN
import Derived.Test.YtokbhpgcpmnhkaaExprRefSpans
import Derived.Test.YtokbhpgcpmnhkaaExprLives
namespace Go.Proofs.Ytokbhpgcpmnhkaa.exprSpans
open Go.ChangeShapes Go.WideShapes Go.ChangeAt Go.RowKit

theorem large (A : Option Addr) (c m : Nat) (w : World) (h : 300 < m) (hm : m ≤ 8796093022208) : Calls Try.prog 5 #[.slice A m c] w (LawPost w) := by
  go_enter Try.func5, Try.ntmps5
  go_wp2_with fail
  refine (lives_any w).mono ?_
  rintro e w1 ⟨rfl, hb⟩
  go_wp2
  go_ret
  exact ⟨rfl, hb⟩

set_option maxHeartbeats 2000000 in
theorem small (A : Option Addr) (c m : Nat) (e : List (Int × Int)) (w : World) (hm : m = e.length) (h : m ≤ 300) (hA : PA w A e) : Calls Try.prog 5 #[.slice A m c] w (LawPost w) := by
  have HM := Lib.hid hm
  have HA := Lib.hid hA
  have hh : ¬ 300 < m := by omega
  clear hm hA
  go_enter Try.func5, Try.ntmps5
  go_wp2_with fail
  refine (spans_any e A c m w HM.out (by omega) HA.out).mono ?_
  rintro x w1 ⟨hb1, h1⟩
  have HB1 := Lib.hid hb1
  clear hb1
  cases hs : spansF e with
  | none =>
    rw [hs] at h1
    simp only at h1
    subst h1
    have HS := Lib.hid hs
    clear hs
    go_wp2_with fail
    refine (refSpans_any e A c m w1 HM.out (by omega) (HA.out.below HB1.out)).mono ?_
    rw [HS.out]
    rintro x w2 ⟨hb2, h2⟩
    simp only at h2
    subst h2
    have HB2 := Lib.hid (HB1.out.trans (hb2.mono HB1.out.size))
    clear hb2
    go_wp2_with fail
    refine (same_ints none none 0 0 0 0 [] [] w2 rfl rfl (IA.nil _ _) (IA.nil _ _) (Nat.zero_le _) (Nat.zero_le _)).mono ?_
    rintro x w3 ⟨rfl, j, rfl⟩
    have HE : Hid (eqB [] [] = true) := Lib.hid (decide_eq_true rfl)
    rw [HE.out]
    have HB3 := Lib.hid (below_drewN HB2.out j)
    generalize w2.drewN j = w3 at *
    clear HE
    go_wp2_with fail
    refine (lives_any w3).mono ?_
    rintro x w4 ⟨rfl, hb4⟩
    have HB4 := Lib.hid (HB3.out.trans (hb4.mono HB3.out.size))
    clear hb4
    go_wp2
    go_ret
    exact ⟨rfl, HB4.out⟩
  | some l =>
    rw [hs] at h1
    obtain ⟨A1, c1, rfl, i1⟩ := h1
    have HS := Lib.hid hs
    have HI1 := Lib.hid i1.ia
    have HLE : Hid (l.length ≤ maxLen) := Lib.hid (Nat.le_trans i1.le i1.max)
    clear hs i1
    obtain ⟨n, HN⟩ : ∃ n, Hid (n = l.length) := ⟨_, Lib.hid rfl⟩
    rw [← HN.out]
    go_wp2_with fail
    refine (refSpans_any e A c m w1 HM.out (by omega) (HA.out.below HB1.out)).mono ?_
    rw [HS.out]
    rintro x w2 ⟨hb2, A2, c2, rfl, i2⟩
    rw [← HN.out]
    have HI1' := Lib.hid (HI1.out.below hb2)
    have HI2 := Lib.hid i2.ia
    have HB2 := Lib.hid (HB1.out.trans (hb2.mono HB1.out.size))
    clear hb2 i2 HI1
    go_wp2_with fail
    refine (same_ints A1 A2 c1 c2 n n l l w2 HN.out HN.out HI1'.out HI2.out HLE.out HLE.out).mono ?_
    rintro x w3 ⟨rfl, j, rfl⟩
    have HE : Hid (eqB l l = true) := Lib.hid (decide_eq_true rfl)
    rw [HE.out]
    have HB3 := Lib.hid (below_drewN HB2.out j)
    clear HI1' HI2 HE
    generalize w2.drewN j = w3 at *
    go_wp2_with fail
    refine (lives_any w3).mono ?_
    rintro x w4 ⟨rfl, hb4⟩
    have HB4 := Lib.hid (HB3.out.trans (hb4.mono HB3.out.size))
    clear hb4
    go_wp2
    go_ret
    exact ⟨rfl, HB4.out⟩

theorem walk (A : Option Addr) (c : Nat) (e : List (Int × Int)) (w : World) (hl : 16 * e.length ≤ 140737488355328) (hA : PA w A e) : Calls Try.prog 5 #[.slice A e.length c] w (LawPost w) := by
  by_cases h : 300 < e.length
  · exact large A c _ w h (by omega)
  · exact small A c _ e w rfl (by omega) hA

set_option maxRecDepth 100000 in
theorem lifted (os : Os) (started : os.Started) (H : Type) (enc : TypeId × Value → H) :
    ReturnsInHanded {} Try.checked os 5 .any (Rows.exprSpansSpec.pre6 enc Try.prog Try.f5 Rows.exprSpansRow.domain false) (Rows.exprSpansSpec.post enc Try.prog Try.f5 false true false false) := by
  refine law_lifted started [22] rfl (by kernel_rfl) Try.func5 rfl (by decide +kernel) rfl (fun ds hl => by
    match ds, hl with
    | [_], _ => rfl) (ChangeSpec.witness6 (enc := enc) (C := Try.checked) false ⟨#[], #[.slice none 0 0], []⟩ 8 (by kernel_rfl) (by kernel_rfl) (by kernel_rfl) (by kernel_rfl)) ?_
  intro W base args ds ps hval hA hlt hsz
  obtain ⟨v0, vs0, d0, ds0, p0, q0, hargs, rfl, rfl, h0, r0⟩ := trodAll_cons hA
  obtain ⟨rfl, rfl, rfl⟩ := trodAll_nil r0
  obtain rfl : args = #[v0] := by cases args; simp_all
  obtain ⟨A0, c0, x0, rfl, b0, q0, m0, i0, z0⟩ := open_pairs_arg Try.underlying22 Try.underlying56 (by kernel_rfl) (by kernel_rfl) rfl rfl rfl rfl (hval 0 22 v0 rfl rfl) h0 hsz 0 rfl rfl
  exact walk A0 c0 x0 W b0 i0

set_option maxRecDepth 100000 in
theorem over : Rows.exprSpansRow.holds Try.pinned (OpenSpec.ofChange Rows.exprSpansSpec) :=
  OpenClaim.holds_of_wide 5 Try.f5 rfl rfl rfl rfl rfl rfl rfl ⟨rfl, rfl, rfl, rfl, rfl⟩ rfl rfl rfl rfl rfl (by kernel_rfl) Try.func5 (by kernel_rfl)
    (of_decide_eq_true (by kernel_rfl)) (by unfold Func.isWrapper; first | (rw [if_pos (by decide +kernel)]; kernel_rfl) | (rw [if_neg (by decide +kernel)]; exact ⟨rfl, rfl⟩))
    (fun os started H enc _ => lifted os started H enc)

theorem proved : Rows.ExprSpansSaid := over
#print axioms proved
end Go.Proofs.Ytokbhpgcpmnhkaa.exprSpans
