/- The law PermTells: of any list and any number: whether it is a permutation, how it leads back, how often it takes, and the one in which nothing moves, are what the document's own answers are, and nothing that was there is changed. No condition. -/
import Derived.Test.YtkaddfbnlkmehaaPermWorks
namespace Go.Proofs.Ytkaddfbnlkmehaa.permTells
open Go.ChangeShapes Go.WideShapes Go.ChangeAt Go.RowKit

/-- How often a list takes, with what that means. -/
def OrdIs (p : List Int) (K : Nat) : Prop := (Prm p ∧ K ≤ 16777216 ∧ pw p K = ups p.length ∧ ∀ k, k < K → pw p k ≠ ups p.length)
theorem order_ends (p : List Int) : ∃ q : Int, -9 ≤ q ∧ q ≤ 16777217 ∧ (∀ (A : Option Addr) (c m : Nat) (w : World), m = p.length → IA w A p → p.length ≤ 1000000 →
    Calls Try.prog 30 #[.slice A m c] w fun e w' => e = .returned (.int .i64 q) ∧ Below w.heap.size w w') ∧
    (∀ (A : Option Addr) (c m : Nat) (w : World), m = p.length → IA w A p → p.length ≤ 1000000 →
    Calls Try.prog 31 #[.slice A m c] w fun e w' => e = .returned (.int .i64 q) ∧ Below w.heap.size w w') := by
  by_cases h : chk p = true
  · have hp := chk_iff.1 h
    obtain ⟨K, h1, h2, h3⟩ := takes hp
    exact ⟨((K + 1 : Nat) : Int), by omega, by omega, fun A c m w hm hA _ => order_yes A c m p w hm hA hp K h1 h2 h3, fun A c m w hm hA _ => refOrder_yes A c m p w hm hA hp K h1 h2 h3⟩
  · have hc : chk p = false := by simpa using h
    exact ⟨0, by omega, by omega, fun A c m w hm hA hl => order_no A c m p w hm hA hl hc, fun A c m w hm hA hl => refOrder_no A c m p w hm hA hl hc⟩

set_option maxHeartbeats 4000000 in
theorem small (A : Option Addr) (c x : Nat) (p : List Int) (n : Int) (w : World) (hx : x = p.length) (hA : IA w A p) (h1 : x ≤ 30) :
    Calls Try.prog 8 #[.slice A x c, .int .i64 n] w (LawPost w) := by
  have HX := Lib.hid hx
  have HA := Lib.hid hA
  have HLA : Hid (p.length ≤ 1000000) := Lib.hid (by omega)
  have HL1 : Hid ((invF p).length ≤ maxLen) := Lib.hid (by unfold invF maxLen; split <;> simp [invL_length]; omega)
  have HL2 : Hid ((idF n).length ≤ maxLen) := Lib.hid (by have := idF_length n; unfold maxLen; omega)
  obtain ⟨q, hq1, hq2, HO, HRO⟩ := order_ends p
  have HO := Lib.hid HO
  have HRO := Lib.hid HRO
  clear hx hA
  go_enter Try.func8, Try.ntmps8
  go_wp2_with fail
  refine (check_any A c x p w HX.out HA.out HLA.out).mono ?_
  rintro e w1 ⟨rfl, hb1⟩
  have HB1 := Lib.hid hb1
  clear hb1
  go_wp2_with fail
  refine (refCheck_any A c x p w1 HX.out (HA.out.below HB1.out) HLA.out).mono ?_
  rintro e w' ⟨rfl, rfl⟩
  generalize chk p = ck at *
  have hck : (ck == ck) = true := by simp
  go_wp2_with fail
  refine (inv_any A c x p w1 HX.out (HA.out.below HB1.out) HLA.out).mono ?_
  rintro e w2 ⟨D1, c1, rfl, h1, hb2⟩
  have H1 := Lib.hid h1.ia
  have HB2 := Lib.hid (HB1.out.trans (hb2.mono HB1.out.size))
  clear h1 hb2
  obtain ⟨m1, HM1⟩ : ∃ m1, Hid (m1 = (invF p).length) := ⟨_, Lib.hid rfl⟩
  rw [← HM1.out]
  go_wp2_with fail
  refine (refInv_any A c x p w2 HX.out (HA.out.below HB2.out) HLA.out).mono ?_
  rintro e w3 ⟨D2, c2, rfl, h2, hb3⟩
  have H2 := Lib.hid h2.ia
  have H1' := Lib.hid (H1.out.below hb3)
  have HB3 := Lib.hid (HB2.out.trans (hb3.mono HB2.out.size))
  clear h2 hb3 H1
  rw [← HM1.out]
  go_wp2_with fail
  refine (equal_ints _ _ _ _ _ _ (invF p) (invF p) _ HM1.out HM1.out H1'.out H2.out HL1.out HL1.out).mono ?_
  rintro e w4 ⟨rfl, j, rfl⟩
  have HE : Hid (eqB (invF p) (invF p) = true) := Lib.hid (eqB_yes rfl)
  rw [HE.out]
  have HB4 := Lib.hid (below_drewN HB3.out j)
  clear H1' H2 HB1 HB2 HB3 HE
  generalize w3.drewN j = w4 at *
  go_wp2_with fail
  refine (HO.out A c x w4 HX.out (HA.out.below HB4.out) HLA.out).mono ?_
  rintro e w5 ⟨rfl, hb5⟩
  have HB5 := Lib.hid (HB4.out.trans (hb5.mono HB4.out.size))
  clear hb5
  go_wp2_with fail
  refine (HRO.out A c x w5 HX.out (HA.out.below HB5.out) HLA.out).mono ?_
  rintro e w6 ⟨rfl, hb6⟩
  have HB6 := Lib.hid (HB5.out.trans (hb6.mono HB5.out.size))
  clear hb6 HO HRO
  go_wp2_with fail
  refine (id_any n w6).mono ?_
  rintro e w7 ⟨D3, c3, rfl, h3, hb7⟩
  have H3 := Lib.hid h3.ia
  have HB7 := Lib.hid (HB6.out.trans (hb7.mono HB6.out.size))
  clear h3 hb7
  obtain ⟨m2, HM2⟩ : ∃ m2, Hid (m2 = (idF n).length) := ⟨_, Lib.hid rfl⟩
  rw [← HM2.out]
  go_wp2_with fail
  refine (refId_any n w7).mono ?_
  rintro e w8 ⟨D4, c4, rfl, h4, hb8⟩
  have H4 := Lib.hid h4.ia
  have H3' := Lib.hid (H3.out.below hb8)
  have HB8 := Lib.hid (HB7.out.trans (hb8.mono HB7.out.size))
  clear h4 hb8 H3
  rw [← HM2.out]
  go_wp2_with fail
  refine (equal_ints _ _ _ _ _ _ (idF n) (idF n) _ HM2.out HM2.out H3'.out H4.out HL2.out HL2.out).mono ?_
  rintro e w9 ⟨rfl, j2, rfl⟩
  have HE : Hid (eqB (idF n) (idF n) = true) := Lib.hid (eqB_yes rfl)
  rw [HE.out]
  have HB9 := Lib.hid (below_drewN HB8.out j2)
  clear H3' H4 HB4 HB5 HB6 HB7 HB8 HE
  generalize w8.drewN j2 = w9 at *
  go_wp2_with fail
  refine (works_any w9).mono ?_
  rintro e wa ⟨rfl, hba⟩
  have HBA := Lib.hid (HB9.out.trans (hba.mono HB9.out.size))
  clear hba
  go_wp2
  go_ret
  exact ⟨rfl, HBA.out⟩

theorem large (A : Option Addr) (c x : Nat) (n : Int) (w : World) (h : 30 < x) (hx : x ≤ 140737488355328) :
    Calls Try.prog 8 #[.slice A x c, .int .i64 n] w (LawPost w) := by
  go_enter Try.func8, Try.ntmps8
  go_wp2_with fail
  refine (works_any w).mono ?_
  rintro e w7 ⟨rfl, hb7⟩
  go_wp2
  go_ret
  exact ⟨rfl, hb7⟩

theorem walk (A : Option Addr) (c : Nat) (p : List Int) (n : Int) (w : World) (hA : IA w A p) (ha : 8 * p.length ≤ 140737488355328) :
    Calls Try.prog 8 #[.slice A p.length c, .int .i64 n] w (LawPost w) := by
  by_cases h : 30 < p.length
  · exact large A c _ n w h (by omega)
  · exact small A c _ p n w rfl hA (by omega)

set_option maxRecDepth 100000 in
theorem lifted (os : Os) (started : os.Started) (H : Type) (enc : TypeId × Value → H) :
    ReturnsInHanded {} Try.checked os 8 .any (Rows.permTellsSpec.pre6 enc Try.prog Try.f8 Rows.permTellsRow.domain false) (Rows.permTellsSpec.post enc Try.prog Try.f8 false true false false) := by
  refine law_lifted started [22, 3] rfl (by kernel_rfl) Try.func8 rfl (by decide +kernel) rfl (fun ds hl => by
    match ds, hl with
    | [_, _], _ => rfl) (ChangeSpec.witness6 (enc := enc) (C := Try.checked) false ⟨#[], #[.slice none 0 0, .int .i64 0], []⟩ 8 (by kernel_rfl) (by kernel_rfl) (by kernel_rfl) (by kernel_rfl)) ?_
  intro W base args ds ps hval hA hlt hsz
  obtain ⟨v0, vs0, d0, ds0, p0, q0, hargs, rfl, rfl, h0, r0⟩ := trodAll_cons hA
  obtain ⟨v1, vs1, d1, ds1, p1, q1, rfl, rfl, rfl, h1, r1⟩ := trodAll_cons r0
  obtain ⟨rfl, rfl, rfl⟩ := trodAll_nil r1
  obtain rfl : args = #[v0, v1] := by cases args; simp_all
  obtain ⟨A0, c0, x0, rfl, b0, i0, z0⟩ := open_ints_arg (hval 0 22 v0 rfl rfl) h0 hsz 0 rfl rfl
  obtain ⟨x1, rfl, rfl, rfl, w1⟩ := open_int Try.underlying3 (hval 1 3 v1 rfl rfl) h1
  exact walk A0 c0 x0 x1 W i0 b0

set_option maxRecDepth 100000 in
theorem over : Rows.permTellsRow.holds Try.pinned (OpenSpec.ofChange Rows.permTellsSpec) :=
  OpenClaim.holds_of_wide 8 Try.f8 rfl rfl rfl rfl rfl rfl rfl ⟨rfl, rfl, rfl, rfl, rfl⟩ rfl rfl rfl rfl rfl (by kernel_rfl) Try.func8 (by kernel_rfl)
    (of_decide_eq_true (by kernel_rfl)) (by unfold Func.isWrapper; first | (rw [if_pos (by decide +kernel)]; kernel_rfl) | (rw [if_neg (by decide +kernel)]; exact ⟨rfl, rfl⟩))
    (fun os started H enc _ => lifted os started H enc)

theorem proved : Rows.PermTellsSaid := over
#print axioms proved
end Go.Proofs.Ytkaddfbnlkmehaa.permTells
