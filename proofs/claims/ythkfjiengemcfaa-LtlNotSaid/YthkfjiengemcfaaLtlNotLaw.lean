/- The law LtlNot: the negation of nodes is a formula just if they are, with the same propositions, untils and next, and one part, and nothing that was there is changed. No condition. -/
import Derived.Test.YthkfjiengemcfaaLtlWorks
import Derived.Test.YthkfjiengemcfaaLtlWrong
import Derived.Test.YthkfjiengemcfaaLtlNext
import Derived.Test.YthkfjiengemcfaaLtlNot
import Derived.Test.YthkfjiengemcfaaLtlWholeP
namespace Go.Proofs.Ythkfjiengemcfaa.ltlNot
open Go.ChangeShapes Go.WideShapes Go.ChangeAt Go.RowKit lt

theorem large (A : Option Addr) (c m : Nat) (w : World) (h : 200 < m) (hm : m ≤ 8796093022208) : Calls Try.prog 7 #[.slice A m c] w (LawPost w) := by
  go_enter Try.func7, Try.ntmps7
  go_wp2_with fail
  refine (works_any w).mono ?_
  rintro e w1 ⟨rfl, hb⟩
  go_wp2
  go_ret
  exact ⟨rfl, hb⟩

set_option maxRecDepth 20000 in
set_option maxHeartbeats 8000000 in
theorem small (A : Option Addr) (c m : Nat) (e : List (Int × Int)) (w : World) (hm : m = e.length) (h : m ≤ 200) (hA : PA w A e) : Calls Try.prog 7 #[.slice A m c] w (LawPost w) := by
  have HM := Lib.hid hm
  have HA := Lib.hid hA
  have hh : ¬ 200 < m := by omega
  have HH : Hid (m ≤ 1000) := Lib.hid (by omega)
  clear hm hA
  have HB0 : Hid (Below w.heap.size w w) := Lib.hid (Below.refl _ _)
  have HA0 := HA
  obtain ⟨u, HU⟩ : ∃ u, Hid (propsF e = u) := ⟨_, Lib.hid rfl⟩
  obtain ⟨v, HV⟩ : ∃ v, Hid (nextF e = v) := ⟨_, Lib.hid rfl⟩
  obtain ⟨z, HZ⟩ : ∃ z, Hid (isF e = z) := ⟨_, Lib.hid rfl⟩
  obtain ⟨n, HN⟩ : ∃ n, Hid (n = (notF e).length) := ⟨_, Lib.hid rfl⟩
  go_enter Try.func7, Try.ntmps7
  go_wp2_with fail
  refine (not_any e A c m w HM.out HH.out HA.out).mono ?_
  rintro x w1 ⟨P, p, rfl, i1, _, hb⟩
  rw [← HN.out]
  have HB1 : Hid (Below w.heap.size w w1) := Lib.hid hb
  have HA1 : Hid (PA w1 A e) := Lib.hid (HA.out.below hb)
  have HG1 := Lib.hid i1
  clear hb i1
  go_wp2_with fail
  refine (refIs_any e A c m w1 HM.out HH.out HA1.out).mono ?_
  rw [HZ.out]
  rintro x w2 ⟨rfl, rfl⟩
  cases z with
  | false =>
    have hn0 : n = 0 := by rw [HN.out]; unfold notF; rw [HZ.out]; rfl
    subst hn0
    go_wp2_with fail
    refine (works_any w1).mono ?_
    rintro x wz ⟨rfl, hbz⟩
    have HBZ := Lib.hid (HB1.out.trans (hbz.mono HB1.out.size))
    clear hbz
    go_wp2
    go_ret
    exact ⟨rfl, HBZ.out⟩
  | true =>
    have HNF : Hid (notF e = e ++ [(4, 0)]) := Lib.hid (if_pos HZ.out)
    have hnm : n = m + 1 := by rw [HN.out, HNF.out, List.length_append, HM.out]; rfl
    subst hnm
    have HG : Hid (PA w1 P (e ++ [(4, 0)])) := Lib.hid (by rw [← HNF.out]; exact HG1.out)
    have HML : Hid (m + 1 = (e ++ [(4, 0)]).length) := Lib.hid (by rw [List.length_append, HM.out]; rfl)
    have HH1 : Hid (m + 1 ≤ 1000) := Lib.hid (by omega)
    have HKD : Hid (kidsF (e ++ [(4, 0)]) m = ((m : Int) - 1, -1)) := Lib.hid (by rw [HM.out]; exact not_kids HZ.out)
    have HIS := Lib.hid (not_is HZ.out)
    have HPR : Hid (propsF (e ++ [(4, 0)]) = u) := Lib.hid (by rw [not_props HZ.out, HU.out])
    have HUT := Lib.hid (not_untils HZ.out)
    have HNX : Hid (nextF (e ++ [(4, 0)]) = v) := Lib.hid (by rw [not_next HZ.out, HV.out])
    have HG0 := HG
    clear HG1
    go_wp2_with fail
    refine (kids_any _ m P p (m + 1) w1 HML.out HH1.out HG.out).mono ?_
    rw [HKD.out]
    rintro x w2 ⟨rfl, hb⟩
    have HB2 : Hid (Below w.heap.size w w2) := Lib.hid (HB1.out.trans (hb.mono HB1.out.size))
    have HA2 : Hid (PA w2 A e) := Lib.hid (HA1.out.below hb)
    have HG2 := Lib.hid (HG.out.below hb)
    clear hb HG HG0 HA1 HB1
    go_wp2_with fail
    refine (refIs_any _ P p (m + 1) w2 HML.out HH1.out HG2.out).mono ?_
    rw [HIS.out]
    rintro x w3 ⟨rfl, rfl⟩
    go_wp2_with fail
    refine (props_any _ P p (m + 1) w2 HML.out HH1.out HG2.out).mono ?_
    rw [HPR.out]
    rintro x w3 ⟨rfl, hb⟩
    have HB3 : Hid (Below w.heap.size w w3) := Lib.hid (HB2.out.trans (hb.mono HB2.out.size))
    have HA3 : Hid (PA w3 A e) := Lib.hid (HA2.out.below hb)
    have HG3 := Lib.hid (HG2.out.below hb)
    clear hb HG2 HA2 HB2
    go_wp2_with fail
    refine (props_any e A c m w3 HM.out HH.out HA3.out).mono ?_
    rw [HU.out]
    rintro x w4 ⟨rfl, hb⟩
    have HB4 : Hid (Below w.heap.size w w4) := Lib.hid (HB3.out.trans (hb.mono HB3.out.size))
    have HA4 : Hid (PA w4 A e) := Lib.hid (HA3.out.below hb)
    have HG4 := Lib.hid (HG3.out.below hb)
    clear hb HG3 HA3 HB3
    obtain ⟨q, HQ⟩ : ∃ q, Hid (q = (untilsF e).length) := ⟨_, Lib.hid rfl⟩
    go_wp2_with fail
    refine (untils_any _ P p (m + 1) w4 HML.out HH1.out HG4.out).mono ?_
    rw [HUT.out]
    rintro x w5 ⟨P5, p5, rfl, i1, hb⟩
    have HB5 : Hid (Below w.heap.size w w5) := Lib.hid (HB4.out.trans (hb.mono HB4.out.size))
    have HA5 : Hid (PA w5 A e) := Lib.hid (HA4.out.below hb)
    have HG5 := Lib.hid (HG4.out.below hb)
    have HI := Lib.hid i1.ia
    have HL : Hid ((untilsF e).length ≤ maxLen) := Lib.hid (Nat.le_trans i1.le i1.max)
    rw [← HQ.out]
    clear hb i1 HG4 HA4 HB4
    go_wp2_with fail
    refine (untils_any e A c m w5 HM.out HH.out HA5.out).mono ?_
    rintro x w6 ⟨Q6, q6, rfl, i2, hb⟩
    have HB6 : Hid (Below w.heap.size w w6) := Lib.hid (HB5.out.trans (hb.mono HB5.out.size))
    have HA6 : Hid (PA w6 A e) := Lib.hid (HA5.out.below hb)
    have HG6 := Lib.hid (HG5.out.below hb)
    have HI6 := Lib.hid (HI.out.below hb)
    have HJ := Lib.hid i2.ia
    rw [← HQ.out]
    clear hb i2 HG5 HA5 HB5 HI
    go_wp2_with fail
    refine (same_ints P5 Q6 p5 q6 q q _ _ w6 HQ.out HQ.out HI6.out HJ.out HL.out HL.out).mono ?_
    rintro x w7 ⟨rfl, j, rfl⟩
    have HE : Hid (eqB (untilsF e) (untilsF e) = true) := Lib.hid (decide_eq_true rfl)
    rw [HE.out]
    have HB7 : Hid (Below w.heap.size w (w6.drewN j)) := Lib.hid (below_drewN HB6.out j)
    have HA7 : Hid (PA (w6.drewN j) A e) := Lib.hid (HA6.out.below (below_drewN (Below.refl _ _) j))
    have HG7 := Lib.hid (HG6.out.below (below_drewN (Below.refl _ _) j))
    clear HI6 HJ HE HL HG6 HA6 HB6
    generalize w6.drewN j = w7 at *
    go_wp2_with fail
    refine (next_any _ P p (m + 1) w7 HML.out HH1.out HG7.out).mono ?_
    rw [HNX.out]
    rintro x w8 ⟨rfl, hb⟩
    have HB8 : Hid (Below w.heap.size w w8) := Lib.hid (HB7.out.trans (hb.mono HB7.out.size))
    have HA8 : Hid (PA w8 A e) := Lib.hid (HA7.out.below hb)
    clear hb HG7 HA7 HB7
    go_wp2_with fail
    refine (next_any e A c m w8 HM.out HH.out HA8.out).mono ?_
    rw [HV.out]
    rintro x w9 ⟨rfl, hb⟩
    have HB9 : Hid (Below w.heap.size w w9) := Lib.hid (HB8.out.trans (hb.mono HB8.out.size))
    clear hb HA8 HB8
    go_wp2_with fail
    refine (works_any w9).mono ?_
    rintro x wz ⟨rfl, hbz⟩
    have HBZ := Lib.hid (HB9.out.trans (hbz.mono HB9.out.size))
    clear hbz
    go_wp2
    go_ret
    exact ⟨rfl, HBZ.out⟩

theorem walk (A : Option Addr) (c : Nat) (e : List (Int × Int)) (w : World) (hl : 16 * e.length ≤ 140737488355328) (hA : PA w A e) : Calls Try.prog 7 #[.slice A e.length c] w (LawPost w) := by
  by_cases h : 200 < e.length
  · exact large A c _ w h (by omega)
  · exact small A c _ e w rfl (by omega) hA

set_option maxRecDepth 100000 in
theorem lifted (os : Os) (started : os.Started) (H : Type) (enc : TypeId × Value → H) :
    ReturnsInHanded {} Try.checked os 7 .any (Rows.ltlNotSpec.pre6 enc Try.prog Try.f7 Rows.ltlNotRow.domain false) (Rows.ltlNotSpec.post enc Try.prog Try.f7 false true false false) := by
  refine law_lifted started [22] rfl (by kernel_rfl) Try.func7 rfl (by decide +kernel) rfl (fun ds hl => by
    match ds, hl with
    | [_], _ => rfl) (ChangeSpec.witness6 (enc := enc) (C := Try.checked) false ⟨#[], #[.slice none 0 0], []⟩ 8 (by kernel_rfl) (by kernel_rfl) (by kernel_rfl) (by kernel_rfl)) ?_
  intro W base args ds ps hval hA hlt hsz
  obtain ⟨v0, vs0, d0, ds0, p0, q0, hargs, rfl, rfl, h0, r0⟩ := trodAll_cons hA
  obtain ⟨rfl, rfl, rfl⟩ := trodAll_nil r0
  obtain rfl : args = #[v0] := by cases args; simp_all
  obtain ⟨A0, c0, x0, rfl, b0, q0, m0, i0, z0⟩ := open_pairs_arg Try.underlying22 Try.underlying34 (by kernel_rfl) (by kernel_rfl) rfl rfl rfl rfl (hval 0 22 v0 rfl rfl) h0 hsz 0 rfl rfl
  exact walk A0 c0 x0 W b0 i0

set_option maxRecDepth 100000 in
theorem over : Rows.ltlNotRow.holds Try.pinned (OpenSpec.ofChange Rows.ltlNotSpec) :=
  OpenClaim.holds_of_wide 7 Try.f7 rfl rfl rfl rfl rfl rfl rfl ⟨rfl, rfl, rfl, rfl, rfl⟩ rfl rfl rfl rfl rfl (by kernel_rfl) Try.func7 (by kernel_rfl)
    (of_decide_eq_true (by kernel_rfl)) (by unfold Func.isWrapper; first | (rw [if_pos (by decide +kernel)]; kernel_rfl) | (rw [if_neg (by decide +kernel)]; exact ⟨rfl, rfl⟩))
    (fun os started H enc _ => lifted os started H enc)

theorem proved : Rows.LtlNotSaid := over
#print axioms proved
end Go.Proofs.Ythkfjiengemcfaa.ltlNot
