/- The law HashInts: the sum of any numbers is the document's. No condition. -/
import Derived.Test.YtkpfglecgegjbaaHashCalls
namespace Go.Proofs.Ytkpfglecgegjbaa.hashInts
open Go.ChangeShapes Go.WideShapes Go.ChangeAt Go.RowKit

theorem walk (A : Option Addr) (c : Nat) (l : List Int) (w : World) (hA : IA w A l) (hl : 8 * l.length ≤ 140737488355328) :
    Calls Try.prog 10 #[.slice A l.length c] w (LawPost w) := by
  have HA := Lib.hid hA
  clear hA
  go_enter Try.func10, Try.ntmps10
  go_wp2_with (first | (go_at_call 44; refine (ints_any A c _ l w rfl HA.out (by omega)).mono ?_; rintro e w' ⟨rfl, rfl⟩) | (go_at_call 45; refine (refInts_any A c _ l w rfl HA.out hl).mono ?_; rintro e w1 ⟨rfl, hb1⟩; have HW := Lib.hid hb1; clear hb1) | (go_at_call 43; refine (hlives_any _).mono ?_; rintro e w' ⟨rfl, hbw⟩))
  go_ret
  exact ⟨rfl, HW.out.trans (hbw.mono HW.out.size)⟩

theorem lifted (os : Os) (started : os.Started) (H : Type) (enc : TypeId × Value → H) :
    ReturnsInHanded {} Try.checked os 10 .any (Rows.hashIntsSpec.pre6 enc Try.prog Try.f10 Rows.hashIntsRow.domain false) (Rows.hashIntsSpec.post enc Try.prog Try.f10 false true false false) := by
  refine law_lifted started [37] rfl (by kernel_rfl) Try.func10 rfl (by decide +kernel) rfl (fun ds hl => by
    match ds, hl with
    | [_], _ => rfl) (ChangeSpec.witness6 (enc := enc) (C := Try.checked) false ⟨#[], #[.slice none 0 0], []⟩ 8 (by kernel_rfl) (by kernel_rfl) (by kernel_rfl) (by kernel_rfl)) ?_
  intro W base args ds ps hval hA hlt hsz
  obtain ⟨v0, vs0, d0, ds0, p0, q0, hargs, rfl, rfl, h0, r0⟩ := trodAll_cons hA
  obtain ⟨rfl, rfl, rfl⟩ := trodAll_nil r0
  obtain rfl : args = #[v0] := by cases args; simp_all
  obtain ⟨A0, c0, x0, rfl, b0, i0, z0⟩ := open_ints_arg (hval 0 37 v0 rfl rfl) h0 hsz 0 rfl rfl
  exact walk A0 c0 x0 W i0 b0

theorem over : Rows.hashIntsRow.holds Try.pinned (OpenSpec.ofChange Rows.hashIntsSpec) :=
  OpenClaim.holds_of_wide 10 Try.f10 rfl rfl rfl rfl rfl rfl rfl ⟨rfl, rfl, rfl, rfl, rfl⟩ rfl rfl rfl rfl rfl (by kernel_rfl) Try.func10 (by kernel_rfl)
    (of_decide_eq_true (by kernel_rfl)) (by unfold Func.isWrapper; first | (rw [if_pos (by decide +kernel)]; kernel_rfl) | (rw [if_neg (by decide +kernel)]; exact ⟨rfl, rfl⟩))
    (fun os started H enc _ => lifted os started H enc)

theorem proved : Rows.HashIntsSaid := over
#print axioms proved

end Go.Proofs.Ytkpfglecgegjbaa.hashInts
