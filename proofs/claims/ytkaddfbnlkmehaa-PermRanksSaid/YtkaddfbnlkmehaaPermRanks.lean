/- The law PermRanks: of any list and any two numbers: how many permutations stand ahead of the list, and which one has the rank, are what the document's own answers are; both lead back; and nothing that was there is changed. No condition. -/
import Derived.Test.YtkaddfbnlkmehaaPermWorks
import Derived.Test.YtkaddfbnlkmehaaRefPermUnrank
namespace Go.Proofs.Ytkaddfbnlkmehaa.permRanks
open Go.ChangeShapes Go.WideShapes Go.ChangeAt Go.RowKit

theorem unF_rk {p : List Int} (h : Prm p) : unF (p.length : Int) ((rk p p.length : Nat) : Int) = p := by
  unfold unF
  rw [if_pos (by have := h.len; have := rk_lt h (Nat.le_refl p.length); simp; omega), Int.toNat_natCast, Int.toNat_natCast]
  exact uns_rk_full h
theorem rkF_un {n k : Int} (h : unF n k ≠ []) : rkF (unF n k) = k := by
  unfold unF at h ⊢
  by_cases hc : 0 ≤ n ∧ n ≤ 8 ∧ 0 ≤ k ∧ k < fct n.toNat
  · rw [if_pos hc] at h ⊢
    have hp := uns_prm (n := n.toNat) k.toNat (by omega)
    unfold rkF
    rw [if_pos (chk_iff.2 hp), uns_length, rk_uns_full (by omega)]
    omega
  · rw [if_neg hc] at h
    exact absurd rfl h
theorem unF_length (n k : Int) : (unF n k).length ≤ 8 := by
  unfold unF
  split
  · rw [uns_length]; omega
  · simp

theorem fits64 {x : Int} (w : (Lit.int .i64 x).wf = true) : -9223372036854775808 ≤ x ∧ x ≤ 9223372036854775807 := by
  have e : IntKind.i64.min = -9223372036854775808 := rfl
  simpa [Lit.wf, e] using w

theorem small (A : Option Addr) (c x : Nat) (p : List Int) (n k : Int) (w : World) (hx : x = p.length) (hA : IA w A p) (h1 : x ≤ 30) (hk : k ≤ 9223372036854775807) :
    Calls Try.prog 10 #[.slice A x c, .int .i64 n, .int .i64 k] w (LawPost w) := by
  have HX := Lib.hid hx
  have HA := Lib.hid hA
  have HLA : Hid (p.length ≤ 1000000) := Lib.hid (by omega)
  have HLM : Hid (p.length ≤ maxLen) := Lib.hid (by unfold maxLen; omega)
  have HL1 : Hid ((unF n k).length ≤ maxLen) := Lib.hid (by have := unF_length n k; unfold maxLen; omega)
  have HL8 : Hid ((unF n k).length ≤ 8) := Lib.hid (unF_length n k)
  have HK := Lib.hid hk
  clear hx hA hk
  go_enter Try.func10, Try.ntmps10
  go_wp2_with fail
  refine (unrank_any n k w HK.out).mono ?_
  rintro e w1 ⟨B, d, rfl, h1, hb1⟩
  have H1 := Lib.hid h1.ia
  have HB1 := Lib.hid hb1
  clear h1 hb1
  obtain ⟨m1, HM1⟩ : ∃ m1, Hid (m1 = (unF n k).length) := ⟨_, Lib.hid rfl⟩
  have hm1 : m1 ≤ 8 := by rw [HM1.out]; exact HL8.out
  rw [← HM1.out]
  go_wp2_with fail
  refine (rank_any A c x p w1 HX.out (HA.out.below HB1.out) HLA.out).mono ?_
  rintro e w2 ⟨rfl, hb2⟩
  have H2 := Lib.hid (H1.out.below hb2)
  have HB2 := Lib.hid (HB1.out.trans (hb2.mono HB1.out.size))
  clear hb2 H1
  go_wp2_with fail
  refine (refRank_any A c x p w2 HX.out (HA.out.below HB2.out) HLA.out).mono ?_
  rintro e w3 ⟨rfl, j3, rfl⟩
  obtain ⟨R, HR⟩ : ∃ R, Hid (rkF p = R) := ⟨_, Lib.hid rfl⟩
  rw [HR.out]
  have hr : (R != R) = false := by simp
  have H3 := Lib.hid (H2.out.below (below_drewN (Below.refl _ w2) j3))
  have HB3 := Lib.hid (below_drewN HB2.out j3)
  clear H2
  generalize w2.drewN j3 = w3 at *
  go_wp2_with fail
  refine (refUnrank_any n k w3).mono ?_
  rintro e w4 ⟨D, f, rfl, h4, hb4⟩
  have H4 := Lib.hid h4.ia
  have H3' := Lib.hid (H3.out.below hb4)
  have HB4 := Lib.hid (HB3.out.trans (hb4.mono HB3.out.size))
  clear h4 hb4 H3
  rw [← HM1.out]
  go_wp2_with fail
  refine (equal_ints _ _ _ _ _ _ (unF n k) (unF n k) _ HM1.out HM1.out H3'.out H4.out HL1.out HL1.out).mono ?_
  rintro e w5 ⟨rfl, j5, rfl⟩
  have HE : Hid (eqB (unF n k) (unF n k) = true) := Lib.hid (eqB_yes rfl)
  rw [HE.out]
  have HB5 := Lib.hid (below_drewN HB4.out j5)
  have H5 := Lib.hid (H3'.out.below (below_drewN (Below.refl _ w4) j5))
  clear H3' H4 HE HB1 HB2 HB3 HB4
  generalize w4.drewN j5 = w5 at *
  go_wp2_with fail
  refine (refCheck_any A c x p w5 HX.out (HA.out.below HB5.out) HLA.out).mono ?_
  rintro e w' ⟨rfl, rfl⟩
  cases hc : chk p with
  | false =>
    clear hc
    by_cases h0 : m1 = 0
    · subst h0
      go_wp2_with fail
      refine (works_any w5).mono ?_
      rintro e wz ⟨rfl, hbz⟩
      have WZ := Lib.hid (HB5.out.trans (hbz.mono HB5.out.size))
      clear hbz
      go_wp2
      go_ret
      exact ⟨rfl, WZ.out⟩
    · have HRK : Hid (rkF (unF n k) = k) := Lib.hid (rkF_un (fun e => h0 (by rw [HM1.out, e]; rfl)))
      go_wp2_with fail
      refine (rank_any B d m1 (unF n k) w5 HM1.out H5.out (by have := HL8.out; omega)).mono ?_
      rintro e w6 ⟨rfl, hb6⟩
      rw [HRK.out]
      have HB6 := Lib.hid (HB5.out.trans (hb6.mono HB5.out.size))
      clear hb6
      go_wp2_with fail
      refine (works_any w6).mono ?_
      rintro e wz ⟨rfl, hbz⟩
      have WZ := Lib.hid (HB6.out.trans (hbz.mono HB6.out.size))
      clear hbz
      go_wp2
      go_ret
      exact ⟨rfl, WZ.out⟩
  | true =>
    have HP := Lib.hid (chk_iff.1 hc)
    have HRP : Hid (rkF p = ((rk p p.length : Nat) : Int)) := Lib.hid (if_pos hc)
    have HUR : Hid (unF (x : Int) R = p) := Lib.hid (by rw [← HR.out, HRP.out, HX.out]; exact unF_rk HP.out)
    have HR8 : Hid (R ≤ 9223372036854775807) := Lib.hid (by
      rw [← HR.out, HRP.out]
      have := rk_small HP.out (Nat.le_refl p.length)
      omega)
    clear hc
    go_wp2_with fail
    refine (rank_any A c x p w5 HX.out (HA.out.below HB5.out) HLA.out).mono ?_
    rintro e w6 ⟨rfl, hb6⟩
    rw [HR.out]
    have H6 := Lib.hid (H5.out.below hb6)
    have HB6 := Lib.hid (HB5.out.trans (hb6.mono HB5.out.size))
    clear hb6 H5
    go_wp2_with fail
    refine (unrank_any x R w6 HR8.out).mono ?_
    rw [HUR.out]
    rintro e w7 ⟨D7, f7, rfl, h7, hb7⟩
    rw [← HX.out]
    have H7 := Lib.hid h7.ia
    have H6' := Lib.hid (H6.out.below hb7)
    have HB7 := Lib.hid (HB6.out.trans (hb7.mono HB6.out.size))
    clear h7 hb7 H6
    go_wp2_with fail
    refine (equal_ints _ _ _ _ _ _ p p _ HX.out HX.out H7.out (HA.out.below HB7.out) HLM.out HLM.out).mono ?_
    rintro e w8 ⟨rfl, j8, rfl⟩
    have HE : Hid (eqB p p = true) := Lib.hid (eqB_yes rfl)
    rw [HE.out]
    have HB8 := Lib.hid (below_drewN HB7.out j8)
    have H8 := Lib.hid (H6'.out.below (below_drewN (Below.refl _ w7) j8))
    clear H7 HE HB6 HB7 H6'
    generalize w7.drewN j8 = w8 at *
    by_cases h0 : m1 = 0
    · subst h0
      go_wp2_with fail
      refine (works_any w8).mono ?_
      rintro e wz ⟨rfl, hbz⟩
      have WZ := Lib.hid (HB8.out.trans (hbz.mono HB8.out.size))
      clear hbz
      go_wp2
      go_ret
      exact ⟨rfl, WZ.out⟩
    · have HRK : Hid (rkF (unF n k) = k) := Lib.hid (rkF_un (fun e => h0 (by rw [HM1.out, e]; rfl)))
      go_wp2_with fail
      refine (rank_any B d m1 (unF n k) w8 HM1.out H8.out (by have := HL8.out; omega)).mono ?_
      rintro e w9 ⟨rfl, hb9⟩
      rw [HRK.out]
      have HB9 := Lib.hid (HB8.out.trans (hb9.mono HB8.out.size))
      clear hb9
      go_wp2_with fail
      refine (works_any w9).mono ?_
      rintro e wz ⟨rfl, hbz⟩
      have WZ := Lib.hid (HB9.out.trans (hbz.mono HB9.out.size))
      clear hbz
      go_wp2
      go_ret
      exact ⟨rfl, WZ.out⟩

theorem large (A : Option Addr) (c x : Nat) (n k : Int) (w : World) (h : 30 < x) (hx : x ≤ 140737488355328) :
    Calls Try.prog 10 #[.slice A x c, .int .i64 n, .int .i64 k] w (LawPost w) := by
  go_enter Try.func10, Try.ntmps10
  go_wp2_with fail
  refine (works_any w).mono ?_
  rintro e w7 ⟨rfl, hb7⟩
  go_wp2
  go_ret
  exact ⟨rfl, hb7⟩

theorem walk (A : Option Addr) (c : Nat) (p : List Int) (n k : Int) (w : World) (hA : IA w A p) (ha : 8 * p.length ≤ 140737488355328) (hk : k ≤ 9223372036854775807) :
    Calls Try.prog 10 #[.slice A p.length c, .int .i64 n, .int .i64 k] w (LawPost w) := by
  by_cases h : 30 < p.length
  · exact large A c _ n k w h (by omega)
  · exact small A c _ p n k w rfl hA (by omega) hk

set_option maxRecDepth 100000 in
theorem lifted (os : Os) (started : os.Started) (H : Type) (enc : TypeId × Value → H) :
    ReturnsInHanded {} Try.checked os 10 .any (Rows.permRanksSpec.pre6 enc Try.prog Try.f10 Rows.permRanksRow.domain false) (Rows.permRanksSpec.post enc Try.prog Try.f10 false true false false) := by
  refine law_lifted started [22, 3, 3] rfl (by kernel_rfl) Try.func10 rfl (by decide +kernel) rfl (fun ds hl => by
    match ds, hl with
    | [_, _, _], _ => rfl) (ChangeSpec.witness6 (enc := enc) (C := Try.checked) false ⟨#[], #[.slice none 0 0, .int .i64 0, .int .i64 0], []⟩ 8 (by kernel_rfl) (by kernel_rfl) (by kernel_rfl) (by kernel_rfl)) ?_
  intro W base args ds ps hval hA hlt hsz
  obtain ⟨v0, vs0, d0, ds0, p0, q0, hargs, rfl, rfl, h0, r0⟩ := trodAll_cons hA
  obtain ⟨v1, vs1, d1, ds1, p1, q1, rfl, rfl, rfl, h1, r1⟩ := trodAll_cons r0
  obtain ⟨v2, vs2, d2, ds2, p2, q2, rfl, rfl, rfl, h2, r2⟩ := trodAll_cons r1
  obtain ⟨rfl, rfl, rfl⟩ := trodAll_nil r2
  obtain rfl : args = #[v0, v1, v2] := by cases args; simp_all
  obtain ⟨A0, c0, x0, rfl, b0, i0, z0⟩ := open_ints_arg (hval 0 22 v0 rfl rfl) h0 hsz 0 rfl rfl
  obtain ⟨x1, rfl, rfl, rfl, w1⟩ := open_int Try.underlying3 (hval 1 3 v1 rfl rfl) h1
  obtain ⟨x2, rfl, rfl, rfl, w2⟩ := open_int Try.underlying3 (hval 2 3 v2 rfl rfl) h2
  exact walk A0 c0 x0 x1 x2 W i0 b0 (fits64 w2).2

set_option maxRecDepth 100000 in
theorem over : Rows.permRanksRow.holds Try.pinned (OpenSpec.ofChange Rows.permRanksSpec) :=
  OpenClaim.holds_of_wide 10 Try.f10 rfl rfl rfl rfl rfl rfl rfl ⟨rfl, rfl, rfl, rfl, rfl⟩ rfl rfl rfl rfl rfl (by kernel_rfl) Try.func10 (by kernel_rfl)
    (of_decide_eq_true (by kernel_rfl)) (by unfold Func.isWrapper; first | (rw [if_pos (by decide +kernel)]; kernel_rfl) | (rw [if_neg (by decide +kernel)]; exact ⟨rfl, rfl⟩))
    (fun os started H enc _ => lifted os started H enc)

theorem proved : Rows.PermRanksSaid := over
#print axioms proved
end Go.Proofs.Ytkaddfbnlkmehaa.permRanks
