/- The law DeclNames: all names of any model, in order, are the document's. No condition. -/
import Derived.Test.YtodloljpfbkkjaaRRRRDeclNamesWalk
import Derived.Test.YtodloljpfbkkjaaRRRROpensMd
namespace Go.Proofs.YtodloljpfbkkjaaRRRR.declNames
open Go.ChangeShapes Go.WideShapes Go.ChangeAt Go.RowKit Go.Proofs.YtodloljpfbkkjaaRRRR.nms

set_option maxRecDepth 100000 in
theorem lifted (os : Os) (started : os.Started) (H : Type) (enc : TypeId × Value → H) :
    ReturnsInHanded {} Try.checked os 4 .any (Rows.declNamesSpec.pre6 enc Try.prog Try.f4 Rows.declNamesRow.domain false) (Rows.declNamesSpec.post enc Try.prog Try.f4 false true false false) := by
  refine law_lifted started [45] rfl (by kernel_rfl) Try.func4 rfl (by decide +kernel) rfl (fun ds hl => by
    match ds, hl with
    | [_], _ => rfl) (ChangeSpec.witness6 (enc := enc) (C := Try.checked) false ⟨#[], #[.agg #[.slice none 0 0, .slice none 0 0, .slice none 0 0, .slice none 0 0, .slice none 0 0]], []⟩ 8 (by kernel_rfl) (by kernel_rfl) (by kernel_rfl) (by kernel_rfl)) ?_
  intro W base args ds ps hval hA hlt hsz
  obtain ⟨v0, vs0, d0, ds0, p0, q0, hargs, rfl, rfl, h0, r0⟩ := trodAll_cons hA
  obtain ⟨rfl, rfl, rfl⟩ := trodAll_nil r0
  obtain rfl : args = #[v0] := by cases args; simp_all
  obtain ⟨X0, M0, rfl, f0⟩ := nms.open_model_arg (hval 0 45 v0 rfl rfl) h0 hsz 0 rfl rfl
  exact walk X0 M0 W f0

set_option maxRecDepth 100000 in
theorem over : Rows.declNamesRow.holds Try.pinned (OpenSpec.ofChange Rows.declNamesSpec) :=
  OpenClaim.holds_of_wide 4 Try.f4 rfl rfl rfl rfl rfl rfl rfl ⟨rfl, rfl, rfl, rfl, rfl⟩ rfl rfl rfl rfl rfl (by kernel_rfl) Try.func4 (by kernel_rfl)
    (of_decide_eq_true (by kernel_rfl)) (by unfold Func.isWrapper; first | (rw [if_pos (by decide +kernel)]; kernel_rfl) | (rw [if_neg (by decide +kernel)]; exact ⟨rfl, rfl⟩))
    (fun os started H enc _ => lifted os started H enc)

theorem proved : Rows.DeclNamesSaid := over
#print axioms proved
end Go.Proofs.YtodloljpfbkkjaaRRRR.declNames
