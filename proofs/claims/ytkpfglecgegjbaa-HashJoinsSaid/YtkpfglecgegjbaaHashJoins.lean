/- The law HashJoins: two numbers mixed are two numbers summed. No condition. -/
import Derived.Test.YtkpfglecgegjbaaHashCalls
namespace Go.Proofs.Ytkpfglecgegjbaa.hashJoins
open Go.ChangeShapes Go.WideShapes Go.ChangeAt Go.RowKit

theorem joins (a b : Int) : bAll [a, b] = b8 (IntKind.u64.wrap a) ++ b8 (IntKind.u64.wrap b) := by simp [bAll]
theorem ia_two (w : World) (a b : Int) (t : TypeId) : IA (w.alloc (.cells #[.int .i64 a, .int .i64 b] t)) (some ⟨w.heap.size, 0, none⟩) [a, b] := ia_lit w [a, b] _ t rfl

theorem walk (a b : Int) (w : World) :
    Calls Try.prog 13 #[.int .i64 a, .int .i64 b] w (LawPost w) := by
  have HJ := Lib.hid (joins a b)
  have HA := Lib.hid (wrap_u64_fits a)
  have HB := Lib.hid (wrap_u64_fits b)
  go_enter Try.func13, Try.ntmps13
  go_wp2_with (first | (go_at_call 47; refine (mix_any _ _ w HA.out HB.out).mono ?_; rintro e w' ⟨rfl, rfl⟩) | (go_at_call 44; refine (ints_any _ _ _ [a, b] _ (by rfl) (ia_two w a b _) (by simp)).mono ?_; rintro e w1 ⟨rfl, rfl⟩; rw [HJ.out]) | (go_at_call 43; refine (hlives_any _).mono ?_; rintro e w' ⟨rfl, hbw⟩))
  go_ret
  exact ⟨rfl, ((Below.refl _ _).alloc (Nat.le_refl _) _).trans (hbw.mono (by simp))⟩

theorem lifted (os : Os) (started : os.Started) (H : Type) (enc : TypeId × Value → H) :
    ReturnsInHanded {} Try.checked os 13 .any (Rows.hashJoinsSpec.pre6 enc Try.prog Try.f13 Rows.hashJoinsRow.domain false) (Rows.hashJoinsSpec.post enc Try.prog Try.f13 false true false false) := by
  refine law_lifted started [3, 3] rfl (by kernel_rfl) Try.func13 rfl (by decide +kernel) rfl (fun ds hl => by
    match ds, hl with
    | [_, _], _ => rfl) (ChangeSpec.witness6 (enc := enc) (C := Try.checked) false ⟨#[], #[.int .i64 0, .int .i64 0], []⟩ 8 (by kernel_rfl) (by kernel_rfl) (by kernel_rfl) (by kernel_rfl)) ?_
  intro W base args ds ps hval hA hlt hsz
  obtain ⟨v0, vs0, d0, ds0, p0, q0, hargs, rfl, rfl, h0, r0⟩ := trodAll_cons hA
  obtain ⟨v1, vs1, d1, ds1, p1, q1, rfl, rfl, rfl, h1, r1⟩ := trodAll_cons r0
  obtain ⟨rfl, rfl, rfl⟩ := trodAll_nil r1
  obtain rfl : args = #[v0, v1] := by cases args; simp_all
  obtain ⟨x0, rfl, rfl, rfl, w0⟩ := open_int Try.underlying3 (hval 0 3 v0 rfl rfl) h0
  obtain ⟨x1, rfl, rfl, rfl, w1⟩ := open_int Try.underlying3 (hval 1 3 v1 rfl rfl) h1
  exact walk x0 x1 W

theorem over : Rows.hashJoinsRow.holds Try.pinned (OpenSpec.ofChange Rows.hashJoinsSpec) :=
  OpenClaim.holds_of_wide 13 Try.f13 rfl rfl rfl rfl rfl rfl rfl ⟨rfl, rfl, rfl, rfl, rfl⟩ rfl rfl rfl rfl rfl (by kernel_rfl) Try.func13 (by kernel_rfl)
    (of_decide_eq_true (by kernel_rfl)) (by unfold Func.isWrapper; first | (rw [if_pos (by decide +kernel)]; kernel_rfl) | (rw [if_neg (by decide +kernel)]; exact ⟨rfl, rfl⟩))
    (fun os started H enc _ => lifted os started H enc)

theorem proved : Rows.HashJoinsSaid := over
#print axioms proved

end Go.Proofs.Ytkpfglecgegjbaa.hashJoins
