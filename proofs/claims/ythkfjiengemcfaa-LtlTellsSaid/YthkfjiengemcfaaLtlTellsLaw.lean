/- The law LtlTells: the propositions of any nodes, whether they have a next, their untils and their negation are the document's, and nothing that was there is changed. No condition. -/
import Derived.Test.YthkfjiengemcfaaLtlWorks
import Derived.Test.YthkfjiengemcfaaLtlRefMore
import Derived.Test.YthkfjiengemcfaaLtlNot
import Derived.Test.YthkfjiengemcfaaLtlSame
namespace Go.Proofs.Ythkfjiengemcfaa.ltlTells
open Go.ChangeShapes Go.WideShapes Go.ChangeAt Go.RowKit lt

theorem large (A : Option Addr) (c m : Nat) (w : World) (h : 200 < m) (hm : m ≤ 8796093022208) : Calls Try.prog 4 #[.slice A m c] w (LawPost w) := by
  go_enter Try.func4, Try.ntmps4
  go_wp2_with fail
  refine (works_any w).mono ?_
  rintro e w1 ⟨rfl, hb⟩
  go_wp2
  go_ret
  exact ⟨rfl, hb⟩

set_option maxRecDepth 20000 in
set_option maxHeartbeats 8000000 in
theorem small (A : Option Addr) (c m : Nat) (e : List (Int × Int)) (w : World) (hm : m = e.length) (h : m ≤ 200) (hA : PA w A e) : Calls Try.prog 4 #[.slice A m c] w (LawPost w) := by
  have HM := Lib.hid hm
  have HA := Lib.hid hA
  have hh : ¬ 200 < m := by omega
  have HH : Hid (m ≤ 1000) := Lib.hid (by omega)
  clear hm hA
  have HB0 : Hid (Below w.heap.size w w) := Lib.hid (Below.refl _ _)
  have HA0 := HA
  obtain ⟨u, HU⟩ : ∃ u, Hid (propsF e = u) := ⟨_, Lib.hid rfl⟩
  obtain ⟨v, HV⟩ : ∃ v, Hid (nextF e = v) := ⟨_, Lib.hid rfl⟩
  go_enter Try.func4, Try.ntmps4
  go_wp2_with fail
  refine (props_any e A c m w HM.out HH.out HA0.out).mono ?_
  rw [HU.out]
  rintro x w1 ⟨rfl, hb⟩
  have HB1 : Hid (Below w.heap.size w w1) := Lib.hid (HB0.out.trans (hb.mono HB0.out.size))
  have HA1 : Hid (PA w1 A e) := Lib.hid (HA0.out.below hb)
  clear hb HB0 HA0
  go_wp2_with fail
  refine (refProps_any e A c m w1 HM.out HH.out HA1.out).mono ?_
  rw [HU.out]
  rintro x w2 ⟨rfl, rfl⟩
  go_wp2_with fail
  refine (next_any e A c m w1 HM.out HH.out HA1.out).mono ?_
  rw [HV.out]
  rintro x w2 ⟨rfl, hb⟩
  have HB2 : Hid (Below w.heap.size w w2) := Lib.hid (HB1.out.trans (hb.mono HB1.out.size))
  have HA2 : Hid (PA w2 A e) := Lib.hid (HA1.out.below hb)
  clear hb HB1 HA1
  go_wp2_with fail
  refine (refNext_any e A c m w2 HM.out HH.out HA2.out).mono ?_
  rw [HV.out]
  rintro x w3 ⟨rfl, rfl⟩
  obtain ⟨n2, HN2⟩ : ∃ n, Hid (n = (untilsF e).length) := ⟨_, Lib.hid rfl⟩
  go_wp2_with fail
  refine (untils_any e A c m w2 HM.out HH.out HA2.out).mono ?_
  rintro x w3 ⟨P2, p2, rfl, i1, hb⟩
  have HB3 : Hid (Below w.heap.size w w3) := Lib.hid (HB2.out.trans (hb.mono HB2.out.size))
  have HA3 : Hid (PA w3 A e) := Lib.hid (HA2.out.below hb)
  have HI2 := Lib.hid i1.ia
  have HL2 : Hid ((untilsF e).length ≤ maxLen) := Lib.hid (Nat.le_trans i1.le i1.max)
  rw [← HN2.out]
  clear hb i1
  go_wp2_with fail
  refine (refUntils_any e A c m w3 HM.out HH.out HA3.out).mono ?_
  rintro x w4 ⟨Q2, q2, rfl, i2, hb⟩
  have HB4 : Hid (Below w.heap.size w w4) := Lib.hid (HB3.out.trans (hb.mono HB3.out.size))
  have HA4 : Hid (PA w4 A e) := Lib.hid (HA3.out.below hb)
  have HI2b := Lib.hid (HI2.out.below hb)
  have HJ2 := Lib.hid i2.ia
  rw [← HN2.out]
  clear hb i2
  go_wp2_with fail
  refine (same_ints P2 Q2 p2 q2 n2 n2 _ _ w4 HN2.out HN2.out HI2b.out HJ2.out HL2.out HL2.out).mono ?_
  rintro x w5 ⟨rfl, j2, rfl⟩
  have HE2 : Hid (eqB (untilsF e) (untilsF e) = true) := Lib.hid (decide_eq_true rfl)
  rw [HE2.out]
  have HB5 : Hid (Below w.heap.size w (w4.drewN j2)) := Lib.hid (below_drewN HB4.out j2)
  have HA5 : Hid (PA (w4.drewN j2) A e) := Lib.hid (HA4.out.below (below_drewN (Below.refl _ _) j2))
  clear HI2 HI2b HJ2 HE2 HL2
  generalize w4.drewN j2 = w5 at *
  obtain ⟨n5, HN5⟩ : ∃ n, Hid (n = (notF e).length) := ⟨_, Lib.hid rfl⟩
  have HNL : Hid ((notF e).length ≤ maxLen) := Lib.hid (by
    have h : (notF e).length ≤ m + 1 := by
      unfold notF
      split
      · rw [List.length_append, HM.out]; exact Nat.le_refl _
      · exact Nat.zero_le _
    unfold maxLen
    have := HH.out
    omega)
  go_wp2_with fail
  refine (not_any e A c m w5 HM.out HH.out HA5.out).mono ?_
  rintro x w6 ⟨P5, p5, rfl, i1, _, hb⟩
  have HB6 : Hid (Below w.heap.size w w6) := Lib.hid (HB5.out.trans (hb.mono HB5.out.size))
  have HA6 : Hid (PA w6 A e) := Lib.hid (HA5.out.below hb)
  have HI5 := Lib.hid i1
  rw [← HN5.out]
  clear hb i1
  go_wp2_with fail
  refine (refNot_any e A c m w6 HM.out HH.out HA6.out).mono ?_
  rintro x w7 ⟨Q5, q5, rfl, i2, _, hb⟩
  have HB7 : Hid (Below w.heap.size w w7) := Lib.hid (HB6.out.trans (hb.mono HB6.out.size))
  have HI5b := Lib.hid (HI5.out.below hb)
  have HJ5 := Lib.hid i2
  rw [← HN5.out]
  clear hb i2
  go_wp2_with fail
  refine (equal_nodes P5 Q5 p5 q5 n5 n5 _ _ w7 HN5.out HN5.out HI5b.out HJ5.out HNL.out HNL.out).mono ?_
  rintro x w8 ⟨rfl, j5, rfl⟩
  have HE5 : Hid (eqP (notF e) (notF e) = true) := Lib.hid (decide_eq_true rfl)
  rw [HE5.out]
  have HB8 : Hid (Below w.heap.size w (w7.drewN j5)) := Lib.hid (below_drewN HB7.out j5)
  clear HI5 HI5b HJ5 HE5 HNL
  generalize w7.drewN j5 = w8 at *
  go_wp2_with fail
  refine (works_any w8).mono ?_
  rintro x wz ⟨rfl, hbz⟩
  have HBZ := Lib.hid (HB8.out.trans (hbz.mono HB8.out.size))
  clear hbz
  go_wp2
  go_ret
  exact ⟨rfl, HBZ.out⟩

theorem walk (A : Option Addr) (c : Nat) (e : List (Int × Int)) (w : World) (hl : 16 * e.length ≤ 140737488355328) (hA : PA w A e) : Calls Try.prog 4 #[.slice A e.length c] w (LawPost w) := by
  by_cases h : 200 < e.length
  · exact large A c _ w h (by omega)
  · exact small A c _ e w rfl (by omega) hA

set_option maxRecDepth 100000 in
theorem lifted (os : Os) (started : os.Started) (H : Type) (enc : TypeId × Value → H) :
    ReturnsInHanded {} Try.checked os 4 .any (Rows.ltlTellsSpec.pre6 enc Try.prog Try.f4 Rows.ltlTellsRow.domain false) (Rows.ltlTellsSpec.post enc Try.prog Try.f4 false true false false) := by
  refine law_lifted started [22] rfl (by kernel_rfl) Try.func4 rfl (by decide +kernel) rfl (fun ds hl => by
    match ds, hl with
    | [_], _ => rfl) (ChangeSpec.witness6 (enc := enc) (C := Try.checked) false ⟨#[], #[.slice none 0 0], []⟩ 8 (by kernel_rfl) (by kernel_rfl) (by kernel_rfl) (by kernel_rfl)) ?_
  intro W base args ds ps hval hA hlt hsz
  obtain ⟨v0, vs0, d0, ds0, p0, q0, hargs, rfl, rfl, h0, r0⟩ := trodAll_cons hA
  obtain ⟨rfl, rfl, rfl⟩ := trodAll_nil r0
  obtain rfl : args = #[v0] := by cases args; simp_all
  obtain ⟨A0, c0, x0, rfl, b0, q0, m0, i0, z0⟩ := open_pairs_arg Try.underlying22 Try.underlying34 (by kernel_rfl) (by kernel_rfl) rfl rfl rfl rfl (hval 0 22 v0 rfl rfl) h0 hsz 0 rfl rfl
  exact walk A0 c0 x0 W b0 i0

set_option maxRecDepth 100000 in
theorem over : Rows.ltlTellsRow.holds Try.pinned (OpenSpec.ofChange Rows.ltlTellsSpec) :=
  OpenClaim.holds_of_wide 4 Try.f4 rfl rfl rfl rfl rfl rfl rfl ⟨rfl, rfl, rfl, rfl, rfl⟩ rfl rfl rfl rfl rfl (by kernel_rfl) Try.func4 (by kernel_rfl)
    (of_decide_eq_true (by kernel_rfl)) (by unfold Func.isWrapper; first | (rw [if_pos (by decide +kernel)]; kernel_rfl) | (rw [if_neg (by decide +kernel)]; exact ⟨rfl, rfl⟩))
    (fun os started H enc _ => lifted os started H enc)

theorem proved : Rows.LtlTellsSaid := over
#print axioms proved
end Go.Proofs.Ythkfjiengemcfaa.ltlTells
