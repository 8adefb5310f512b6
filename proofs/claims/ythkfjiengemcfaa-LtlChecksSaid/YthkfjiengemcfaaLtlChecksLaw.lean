/- The law LtlChecks: whether any nodes are a formula, and the first thing that is wrong, is the document's, and nothing that was there is changed. No condition. -/
import Derived.Test.YthkfjiengemcfaaLtlWorks
import Derived.Test.YthkfjiengemcfaaLtlWrong
namespace Go.Proofs.Ythkfjiengemcfaa.ltlChecks
open Go.ChangeShapes Go.WideShapes Go.ChangeAt Go.RowKit lt

theorem large (A : Option Addr) (c m : Nat) (w : World) (h : 200 < m) (hm : m ≤ 8796093022208) : Calls Try.prog 3 #[.slice A m c] w (LawPost w) := by
  go_enter Try.func3, Try.ntmps3
  go_wp2_with fail
  refine (works_any w).mono ?_
  rintro e w1 ⟨rfl, hb⟩
  go_wp2
  go_ret
  exact ⟨rfl, hb⟩

set_option maxRecDepth 20000 in
set_option maxHeartbeats 8000000 in
theorem small (A : Option Addr) (c m : Nat) (e : List (Int × Int)) (w : World) (hm : m = e.length) (h : m ≤ 200) (hA : PA w A e) : Calls Try.prog 3 #[.slice A m c] w (LawPost w) := by
  have HM := Lib.hid hm
  have HA := Lib.hid hA
  have hh : ¬ 200 < m := by omega
  have HH : Hid (m ≤ 1000) := Lib.hid (by omega)
  clear hm hA
  have HB0 : Hid (Below w.heap.size w w) := Lib.hid (Below.refl _ _)
  have HA0 := HA
  obtain ⟨z, HZ⟩ : ∃ z, Hid ((if 24 < m then 5 else wrF 0 e) = z) := ⟨_, Lib.hid rfl⟩
  go_enter Try.func3, Try.ntmps3
  go_wp2_with fail
  refine (wn.check_any e A c m w HM.out HA.out HH.out).mono ?_
  rw [HZ.out]
  rintro x w1 ⟨rfl, hb⟩
  have HB1 : Hid (Below w.heap.size w w1) := Lib.hid hb
  have HA1 : Hid (PA w1 A e) := Lib.hid (HA.out.below hb)
  clear hb
  go_wp2_with fail
  refine (refCheck_any e A c m w1 HM.out HH.out HA1.out).mono ?_
  rw [HZ.out]
  rintro x w2 ⟨rfl, rfl⟩
  go_wp2_with fail
  refine (works_any w1).mono ?_
  rintro x wz ⟨rfl, hbz⟩
  have HBZ := Lib.hid (HB1.out.trans (hbz.mono HB1.out.size))
  clear hbz
  go_wp2
  go_ret
  exact ⟨rfl, HBZ.out⟩

theorem walk (A : Option Addr) (c : Nat) (e : List (Int × Int)) (w : World) (hl : 16 * e.length ≤ 140737488355328) (hA : PA w A e) : Calls Try.prog 3 #[.slice A e.length c] w (LawPost w) := by
  by_cases h : 200 < e.length
  · exact large A c _ w h (by omega)
  · exact small A c _ e w rfl (by omega) hA

set_option maxRecDepth 100000 in
theorem lifted (os : Os) (started : os.Started) (H : Type) (enc : TypeId × Value → H) :
    ReturnsInHanded {} Try.checked os 3 .any (Rows.ltlChecksSpec.pre6 enc Try.prog Try.f3 Rows.ltlChecksRow.domain false) (Rows.ltlChecksSpec.post enc Try.prog Try.f3 false true false false) := by
  refine law_lifted started [22] rfl (by kernel_rfl) Try.func3 rfl (by decide +kernel) rfl (fun ds hl => by
    match ds, hl with
    | [_], _ => rfl) (ChangeSpec.witness6 (enc := enc) (C := Try.checked) false ⟨#[], #[.slice none 0 0], []⟩ 8 (by kernel_rfl) (by kernel_rfl) (by kernel_rfl) (by kernel_rfl)) ?_
  intro W base args ds ps hval hA hlt hsz
  obtain ⟨v0, vs0, d0, ds0, p0, q0, hargs, rfl, rfl, h0, r0⟩ := trodAll_cons hA
  obtain ⟨rfl, rfl, rfl⟩ := trodAll_nil r0
  obtain rfl : args = #[v0] := by cases args; simp_all
  obtain ⟨A0, c0, x0, rfl, b0, q0, m0, i0, z0⟩ := open_pairs_arg Try.underlying22 Try.underlying34 (by kernel_rfl) (by kernel_rfl) rfl rfl rfl rfl (hval 0 22 v0 rfl rfl) h0 hsz 0 rfl rfl
  exact walk A0 c0 x0 W b0 i0

set_option maxRecDepth 100000 in
theorem over : Rows.ltlChecksRow.holds Try.pinned (OpenSpec.ofChange Rows.ltlChecksSpec) :=
  OpenClaim.holds_of_wide 3 Try.f3 rfl rfl rfl rfl rfl rfl rfl ⟨rfl, rfl, rfl, rfl, rfl⟩ rfl rfl rfl rfl rfl (by kernel_rfl) Try.func3 (by kernel_rfl)
    (of_decide_eq_true (by kernel_rfl)) (by unfold Func.isWrapper; first | (rw [if_pos (by decide +kernel)]; kernel_rfl) | (rw [if_neg (by decide +kernel)]; exact ⟨rfl, rfl⟩))
    (fun os started H enc _ => lifted os started H enc)

theorem proved : Rows.LtlChecksSaid := over
#print axioms proved
end Go.Proofs.Ythkfjiengemcfaa.ltlChecks
