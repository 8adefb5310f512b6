/- The law ExprKinds: of any nodes in any scope: the kind, or why they have none, is the document's, and nothing that was there is changed. No condition. -/
import Derived.Test.YtjciamefkacchaaOpensScope
import Derived.Test.YtjciamefkacchaaOpensN
import Derived.Test.YtjciamefkacchaaExprRefKind
import Derived.Test.YtjciamefkacchaaExprLives
namespace Go.Proofs.Ytjciamefkacchaa.exprKinds
open Go.ChangeShapes Go.WideShapes Go.ChangeAt Go.RowKit

theorem n64_of {e : List (Int × Int)} (h : ∀ z ∈ e, (Lit.int .i64 z.1).wf = true ∧ (Lit.int .i64 z.2).wf = true) : N64 e := fun z hz => by
  have h2 := (h z hz).2
  have e2 : IntKind.i64.min = -9223372036854775808 := rfl
  simpa [Lit.wf, e2] using h2

set_option maxHeartbeats 2000000 in
theorem walk (A : Option Addr) (c : Nat) (e : List (Int × Int)) (X : ScX) (S : Sc) (w : World) (hl : 16 * e.length ≤ 140737488355328) (hA : PA w A e) (hN : N64 e) (h : SR w X S) : Calls Try.prog 3 #[.slice A e.length c, X.v] w (LawPost w) := by
  have HA := Lib.hid hA
  have HN := Lib.hid hN
  have HS := Lib.hid h
  obtain ⟨r1, r2, HR⟩ : ∃ r1 r2, Hid (kindF S e = (r1, r2)) := ⟨_, _, Lib.hid rfl⟩
  obtain ⟨m, HM⟩ : ∃ m, Hid (m = e.length) := ⟨_, Lib.hid rfl⟩
  rw [← HM.out]
  have hml : m ≤ 8796093022208 := by rw [HM.out]; omega
  clear hA hN h hl
  unfold ScX.v
  go_enter Try.func3, Try.ntmps3
  go_wp2_with fail
  refine (kind_any X S e A c m _ (HS.out.below (below_alloc1 _ _)) HM.out (HA.out.below (below_alloc1 _ _)) HN.out).mono ?_
  rw [HR.out]
  rintro x w1 ⟨rfl, hb1⟩
  have HB1 : Hid (Below w.heap.size w w1) := Lib.hid (bthen (below_alloc1 _ _) hb1)
  obtain ⟨⟨x0, x1, x2, x3, x4, x5⟩, hz⟩ := (Bx.new w X 28).below hb1
  clear hb1
  go_wp2_with fail
  refine (refKind_any X S e A c m w1 (HS.out.below HB1.out) HM.out (HA.out.below HB1.out) HN.out hml).mono ?_
  rw [HR.out]
  rintro x w2 ⟨rfl, hb2⟩
  have HB2 : Hid (Below w.heap.size w w2) := Lib.hid (bthen HB1.out hb2)
  have hq1 : (r1 == r1) = true := by simp
  have hq2 : (r2 == r2) = true := by simp
  clear hb2 x0 x1 x2 x3 x4 x5
  go_wp2_with fail
  refine (lives_any w2).mono ?_
  rintro x w3 ⟨rfl, hb3⟩
  have HB3 : Hid (Below w.heap.size w w3) := Lib.hid (bthen HB2.out hb3)
  clear hb3
  go_wp2
  go_ret
  exact ⟨rfl, HB3.out⟩

set_option maxRecDepth 100000 in
theorem lifted (os : Os) (started : os.Started) (H : Type) (enc : TypeId × Value → H) :
    ReturnsInHanded {} Try.checked os 3 .any (Rows.exprKindsSpec.pre6 enc Try.prog Try.f3 Rows.exprKindsRow.domain false) (Rows.exprKindsSpec.post enc Try.prog Try.f3 false true false false) := by
  refine law_lifted started [22, 28] rfl (by kernel_rfl) Try.func3 rfl (by decide +kernel) rfl (fun ds hl => by
    match ds, hl with
    | [_, _], _ => rfl) (ChangeSpec.witness6 (enc := enc) (C := Try.checked) false ⟨#[], #[.slice none 0 0, .agg #[.slice none 0 0, .slice none 0 0, .slice none 0 0, .slice none 0 0, .slice none 0 0, .int .i64 0]], []⟩ 8 (by kernel_rfl) (by kernel_rfl) (by kernel_rfl) (by kernel_rfl)) ?_
  intro W base args ds ps hval hA hlt hsz
  obtain ⟨v0, vs0, d0, ds0, p0, q0, hargs, rfl, rfl, h0, r0⟩ := trodAll_cons hA
  obtain ⟨v1, vs1, d1, ds1, p1, q1, rfl, rfl, rfl, h1, r1⟩ := trodAll_cons r0
  obtain ⟨rfl, rfl, rfl⟩ := trodAll_nil r1
  obtain rfl : args = #[v0, v1] := by cases args; simp_all
  obtain ⟨A0, c0, x0, rfl, b0, q0, m0, i0, z0⟩ := open_pairs_arg Try.underlying22 Try.underlying77 (by kernel_rfl) (by kernel_rfl) rfl rfl rfl rfl (hval 0 22 v0 rfl rfl) h0 hsz 0 rfl rfl
  obtain ⟨X1, S1, rfl, f1⟩ := open_scope_arg (hval 1 28 v1 rfl rfl) h1 hsz 1 rfl rfl
  exact walk A0 c0 x0 X1 S1 W b0 i0 (n64_of z0) f1

set_option maxRecDepth 100000 in
theorem over : Rows.exprKindsRow.holds Try.pinned (OpenSpec.ofChange Rows.exprKindsSpec) :=
  OpenClaim.holds_of_wide 3 Try.f3 rfl rfl rfl rfl rfl rfl rfl ⟨rfl, rfl, rfl, rfl, rfl⟩ rfl rfl rfl rfl rfl (by kernel_rfl) Try.func3 (by kernel_rfl)
    (of_decide_eq_true (by kernel_rfl)) (by unfold Func.isWrapper; first | (rw [if_pos (by decide +kernel)]; kernel_rfl) | (rw [if_neg (by decide +kernel)]; exact ⟨rfl, rfl⟩))
    (fun os started H enc _ => lifted os started H enc)

theorem proved : Rows.ExprKindsSaid := over
#print axioms proved
end Go.Proofs.Ytjciamefkacchaa.exprKinds
