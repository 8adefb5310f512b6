/- The law HashBytes: the sum of any bytes is the document's. No condition. -/
import Derived.Test.YtkpfglecgegjbaaHashCalls
namespace Go.Proofs.Ytkpfglecgegjbaa.hashBytes
open Go.ChangeShapes Go.WideShapes Go.ChangeAt Go.RowKit

theorem walk (A : Option Addr) (c : Nat) (l : List Int) (w : World) (hA : BA w A l) (hu : U8 l) (hl : l.length ≤ 140737488355328) :
    Calls Try.prog 9 #[.slice A l.length c] w (LawPost w) := by
  have HA := Lib.hid hA
  have HU := Lib.hid hu
  clear hA hu
  go_enter Try.func9, Try.ntmps9
  go_wp2_with (first | (go_at_call 41; refine (bytes_any A c _ l w rfl HA.out HU.out (by omega)).mono ?_; rintro e w' ⟨rfl, rfl⟩) | (go_at_call 42; refine (refBytes_any A c _ l w rfl HA.out HU.out (by omega)).mono ?_; rintro e w' ⟨rfl, rfl⟩) | (go_at_call 43; refine (hlives_any _).mono ?_; rintro e w' ⟨rfl, hbw⟩))
  go_ret
  exact ⟨rfl, hbw⟩

theorem lifted (os : Os) (started : os.Started) (H : Type) (enc : TypeId × Value → H) :
    ReturnsInHanded {} Try.checked os 9 .any (Rows.hashBytesSpec.pre6 enc Try.prog Try.f9 Rows.hashBytesRow.domain false) (Rows.hashBytesSpec.post enc Try.prog Try.f9 false true false false) := by
  refine law_lifted started [63] rfl (by kernel_rfl) Try.func9 rfl (by decide +kernel) rfl (fun ds hl => by
    match ds, hl with
    | [_], _ => rfl) (ChangeSpec.witness6 (enc := enc) (C := Try.checked) false ⟨#[], #[.slice none 0 0], []⟩ 8 (by kernel_rfl) (by kernel_rfl) (by kernel_rfl) (by kernel_rfl)) ?_
  intro W base args ds ps hval hA hlt hsz
  obtain ⟨v0, vs0, d0, ds0, p0, q0, hargs, rfl, rfl, h0, r0⟩ := trodAll_cons hA
  obtain ⟨rfl, rfl, rfl⟩ := trodAll_nil r0
  obtain rfl : args = #[v0] := by cases args; simp_all
  obtain ⟨A0, c0, x0, rfl, n0, b0, i0, u0⟩ := open_bytes_arg (hval 0 63 v0 rfl rfl) h0 hsz 0 rfl rfl
  exact walk A0 c0 x0 W i0 u0 b0

theorem over : Rows.hashBytesRow.holds Try.pinned (OpenSpec.ofChange Rows.hashBytesSpec) :=
  OpenClaim.holds_of_wide 9 Try.f9 rfl rfl rfl rfl rfl rfl rfl ⟨rfl, rfl, rfl, rfl, rfl⟩ rfl rfl rfl rfl rfl (by kernel_rfl) Try.func9 (by kernel_rfl)
    (of_decide_eq_true (by kernel_rfl)) (by unfold Func.isWrapper; first | (rw [if_pos (by decide +kernel)]; kernel_rfl) | (rw [if_neg (by decide +kernel)]; exact ⟨rfl, rfl⟩))
    (fun os started H enc _ => lifted os started H enc)

theorem proved : Rows.HashBytesSaid := over
#print axioms proved

end Go.Proofs.Ytkpfglecgegjbaa.hashBytes
