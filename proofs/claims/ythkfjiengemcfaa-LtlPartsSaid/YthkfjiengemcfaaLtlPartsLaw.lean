/- The law LtlParts: where the parts of any nodes begin, and the parts of any one, are the document's, and nothing that was there is changed. No condition. -/
import Derived.Test.YthkfjiengemcfaaLtlWorks
import Derived.Test.YthkfjiengemcfaaLtlRefKids
namespace Go.Proofs.Ythkfjiengemcfaa.ltlParts
open Go.ChangeShapes Go.WideShapes Go.ChangeAt Go.RowKit lt

theorem large (A : Option Addr) (c m : Nat) (at_ : Int) (w : World) (h : 200 < m) (hm : m ≤ 8796093022208) : Calls Try.prog 5 #[.slice A m c, .int .i64 at_] w (LawPost w) := by
  go_enter Try.func5, Try.ntmps5
  go_wp2_with fail
  refine (works_any w).mono ?_
  rintro e w1 ⟨rfl, hb⟩
  go_wp2
  go_ret
  exact ⟨rfl, hb⟩

set_option maxRecDepth 20000 in
set_option maxHeartbeats 8000000 in
theorem small (A : Option Addr) (c m : Nat) (e : List (Int × Int)) (at_ : Int) (w : World) (hm : m = e.length) (h : m ≤ 200) (hA : PA w A e) : Calls Try.prog 5 #[.slice A m c, .int .i64 at_] w (LawPost w) := by
  have HM := Lib.hid hm
  have HA := Lib.hid hA
  have hh : ¬ 200 < m := by omega
  have HH : Hid (m ≤ 1000) := Lib.hid (by omega)
  clear hm hA
  have HB0 : Hid (Below w.heap.size w w) := Lib.hid (Below.refl _ _)
  have HA0 := HA
  obtain ⟨u, v, HU⟩ : ∃ u v, Hid (kidsF e at_ = (u, v)) := ⟨_, _, Lib.hid rfl⟩
  go_enter Try.func5, Try.ntmps5
  go_wp2_with fail
  refine (kids_any e at_ A c m w HM.out HH.out HA0.out).mono ?_
  rw [HU.out]
  rintro x w1 ⟨rfl, hb⟩
  have HB1 : Hid (Below w.heap.size w w1) := Lib.hid (HB0.out.trans (hb.mono HB0.out.size))
  have HA1 : Hid (PA w1 A e) := Lib.hid (HA0.out.below hb)
  clear hb HB0 HA0
  go_wp2_with fail
  refine (refKids_any e at_ A c m w1 HM.out HH.out HA1.out).mono ?_
  rw [HU.out]
  rintro x w2 ⟨rfl, hb⟩
  have HB2 : Hid (Below w.heap.size w w2) := Lib.hid (HB1.out.trans (hb.mono HB1.out.size))
  have HA2 : Hid (PA w2 A e) := Lib.hid (HA1.out.below hb)
  clear hb HB1 HA1
  obtain ⟨n2, HN2⟩ : ∃ n, Hid (n = (spansL e).length) := ⟨_, Lib.hid rfl⟩
  go_wp2_with fail
  refine (spans_any e A c m w2 HM.out HH.out HA2.out).mono ?_
  rintro x w3 ⟨P2, p2, rfl, i1, hb⟩
  have HB3 : Hid (Below w.heap.size w w3) := Lib.hid (HB2.out.trans (hb.mono HB2.out.size))
  have HA3 : Hid (PA w3 A e) := Lib.hid (HA2.out.below hb)
  have HI2 := Lib.hid i1.ia
  have HL2 : Hid ((spansL e).length ≤ maxLen) := Lib.hid (Nat.le_trans i1.le i1.max)
  rw [← HN2.out]
  clear hb i1
  go_wp2_with fail
  refine (refSpans_any e A c m w3 HM.out HH.out HA3.out).mono ?_
  rintro x w4 ⟨Q2, q2, rfl, i2, hb⟩
  have HB4 : Hid (Below w.heap.size w w4) := Lib.hid (HB3.out.trans (hb.mono HB3.out.size))
  have HA4 : Hid (PA w4 A e) := Lib.hid (HA3.out.below hb)
  have HI2b := Lib.hid (HI2.out.below hb)
  have HJ2 := Lib.hid i2.ia
  rw [← HN2.out]
  clear hb i2
  go_wp2_with fail
  refine (same_ints P2 Q2 p2 q2 n2 n2 _ _ w4 HN2.out HN2.out HI2b.out HJ2.out HL2.out HL2.out).mono ?_
  rintro x w5 ⟨rfl, j2, rfl⟩
  have HE2 : Hid (eqB (spansL e) (spansL e) = true) := Lib.hid (decide_eq_true rfl)
  rw [HE2.out]
  have HB5 : Hid (Below w.heap.size w (w4.drewN j2)) := Lib.hid (below_drewN HB4.out j2)
  have HA5 : Hid (PA (w4.drewN j2) A e) := Lib.hid (HA4.out.below (below_drewN (Below.refl _ _) j2))
  clear HI2 HI2b HJ2 HE2 HL2
  generalize w4.drewN j2 = w5 at *
  go_wp2_with fail
  refine (works_any w5).mono ?_
  rintro x wz ⟨rfl, hbz⟩
  have HBZ := Lib.hid (HB5.out.trans (hbz.mono HB5.out.size))
  clear hbz
  go_wp2
  go_ret
  exact ⟨rfl, HBZ.out⟩

theorem walk (A : Option Addr) (c : Nat) (e : List (Int × Int)) (at_ : Int) (w : World) (hl : 16 * e.length ≤ 140737488355328) (hA : PA w A e) : Calls Try.prog 5 #[.slice A e.length c, .int .i64 at_] w (LawPost w) := by
  by_cases h : 200 < e.length
  · exact large A c _ at_ w h (by omega)
  · exact small A c _ e at_ w rfl (by omega) hA

set_option maxRecDepth 100000 in
theorem lifted (os : Os) (started : os.Started) (H : Type) (enc : TypeId × Value → H) :
    ReturnsInHanded {} Try.checked os 5 .any (Rows.ltlPartsSpec.pre6 enc Try.prog Try.f5 Rows.ltlPartsRow.domain false) (Rows.ltlPartsSpec.post enc Try.prog Try.f5 false true false false) := by
  refine law_lifted started [22, 3] rfl (by kernel_rfl) Try.func5 rfl (by decide +kernel) rfl (fun ds hl => by
    match ds, hl with
    | [_, _], _ => rfl) (ChangeSpec.witness6 (enc := enc) (C := Try.checked) false ⟨#[], #[.slice none 0 0, .int .i64 0], []⟩ 8 (by kernel_rfl) (by kernel_rfl) (by kernel_rfl) (by kernel_rfl)) ?_
  intro W base args ds ps hval hA hlt hsz
  obtain ⟨v0, vs0, d0, ds0, p0, q0, hargs, rfl, rfl, h0, r0⟩ := trodAll_cons hA
  obtain ⟨v1, vs1, d1, ds1, p1, q1, rfl, rfl, rfl, h1, r1⟩ := trodAll_cons r0
  obtain ⟨rfl, rfl, rfl⟩ := trodAll_nil r1
  obtain rfl : args = #[v0, v1] := by cases args; simp_all
  obtain ⟨A0, c0, x0, rfl, b0, q0, m0, i0, z0⟩ := open_pairs_arg Try.underlying22 Try.underlying34 (by kernel_rfl) (by kernel_rfl) rfl rfl rfl rfl (hval 0 22 v0 rfl rfl) h0 hsz 0 rfl rfl
  obtain ⟨x1, rfl, rfl, rfl, w1⟩ := open_int Try.underlying3 (hval 1 3 v1 rfl rfl) h1
  exact walk A0 c0 x0 x1 W b0 i0

set_option maxRecDepth 100000 in
theorem over : Rows.ltlPartsRow.holds Try.pinned (OpenSpec.ofChange Rows.ltlPartsSpec) :=
  OpenClaim.holds_of_wide 5 Try.f5 rfl rfl rfl rfl rfl rfl rfl ⟨rfl, rfl, rfl, rfl, rfl⟩ rfl rfl rfl rfl rfl (by kernel_rfl) Try.func5 (by kernel_rfl)
    (of_decide_eq_true (by kernel_rfl)) (by unfold Func.isWrapper; first | (rw [if_pos (by decide +kernel)]; kernel_rfl) | (rw [if_neg (by decide +kernel)]; exact ⟨rfl, rfl⟩))
    (fun os started H enc _ => lifted os started H enc)

theorem proved : Rows.LtlPartsSaid := over
#print axioms proved
end Go.Proofs.Ythkfjiengemcfaa.ltlParts
