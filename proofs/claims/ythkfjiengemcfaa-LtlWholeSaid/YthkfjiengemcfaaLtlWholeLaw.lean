/- The law LtlWhole: each part begins no later than it ends, a node's parts end ahead of it, side by side, the last one with the node just ahead, and the last node's part is the whole, and nothing that was there is changed. No condition. -/
import Derived.Test.YthkfjiengemcfaaLtlWorks
import Derived.Test.YthkfjiengemcfaaLtlWrong
import Derived.Test.YthkfjiengemcfaaLtlWholeP
namespace Go.Proofs.Ythkfjiengemcfaa.ltlWhole
open Go.ChangeShapes Go.WideShapes Go.ChangeAt Go.RowKit lt

theorem large (A : Option Addr) (c m : Nat) (w : World) (h : 200 < m) (hm : m ≤ 8796093022208) : Calls Try.prog 6 #[.slice A m c] w (LawPost w) := by
  go_enter Try.func6, Try.ntmps6
  go_wp2_with fail
  refine (works_any w).mono ?_
  rintro e w1 ⟨rfl, hb⟩
  go_wp2
  go_ret
  exact ⟨rfl, hb⟩

set_option maxRecDepth 20000 in
set_option maxHeartbeats 8000000 in
theorem small (A : Option Addr) (c m : Nat) (e : List (Int × Int)) (w : World) (hm : m = e.length) (h : m ≤ 200) (hA : PA w A e) : Calls Try.prog 6 #[.slice A m c] w (LawPost w) := by
  have HM := Lib.hid hm
  have HA := Lib.hid hA
  have hh : ¬ 200 < m := by omega
  have HH : Hid (m ≤ 1000) := Lib.hid (by omega)
  clear hm hA
  have HB0 : Hid (Below w.heap.size w w) := Lib.hid (Below.refl _ _)
  have HA0 := HA
  obtain ⟨z, HZ⟩ : ∃ z, Hid (isF e = z) := ⟨_, Lib.hid rfl⟩
  obtain ⟨n, HN⟩ : ∃ n, Hid (n = (spansL e).length) := ⟨_, Lib.hid rfl⟩
  go_enter Try.func6, Try.ntmps6
  go_wp2_with fail
  refine (refIs_any e A c m w HM.out HH.out HA.out).mono ?_
  rw [HZ.out]
  rintro x w1 ⟨rfl, rfl⟩
  cases z with
  | false =>
    have hn0 : n = 0 := by rw [HN.out]; unfold spansL; rw [HZ.out]; rfl
    subst hn0
    go_wp2_with fail
    refine (spans_any e A c m w HM.out HH.out HA.out).mono ?_
    rintro x w1 ⟨P, p, rfl, _, hb⟩
    have HB1 : Hid (Below w.heap.size w w1) := Lib.hid hb
    rw [← HN.out]
    clear hb
    go_wp2_with fail
    refine (works_any w1).mono ?_
    rintro x wz ⟨rfl, hbz⟩
    have HBZ := Lib.hid (HB1.out.trans (hbz.mono HB1.out.size))
    clear hbz
    go_wp2
    go_ret
    exact ⟨rfl, HBZ.out⟩
  | true =>
    have HI : Hid (wrF 0 e = 0) := Lib.hid (isF_iff.1 HZ.out)
    have HS : Hid (spansL e = outF e e.length) := Lib.hid (spansL_is HI.out)
    have hnm : n = m := by rw [HN.out, HS.out, outF_len, HM.out]
    subst hnm
    have HLAST := Lib.hid (whole_last HI.out)
    have hpos : 0 < n := by have := HLAST.out.1; rw [HM.out]; omega
    obtain ⟨l, rfl⟩ : ∃ l, n = l + 1 := ⟨n - 1, by omega⟩
    go_wp2_with fail
    refine (spans_any e A c (l + 1) w HM.out HH.out HA.out).mono ?_
    rintro x w1 ⟨P, p, rfl, i1, hb⟩
    have HB1 : Hid (Below w.heap.size w w1) := Lib.hid hb
    have HA1 : Hid (PA w1 A e) := Lib.hid (HA.out.below hb)
    have HP1 : Hid (IA w1 P (outF e e.length)) := Lib.hid (by rw [← HS.out]; exact i1.ia)
    rw [← HN.out]
    clear hb i1
    have HOL : Hid ((outF e e.length).length = l + 1) := Lib.hid (by rw [outF_len, HM.out])
    obtain ⟨b, o, rfl, hb, hc⟩ := HP1.out (by rw [HOL.out]; omega)
    have HC : Hid (∀ W, Below w1.heap.size w1 W → ∀ i, i < l + 1 → W.cell? ⟨b, o + i, none⟩ = some (.int .i64 ((outF e e.length).getD i 0))) := Lib.hid (fun W hW i hi => (hW.cell (p := ⟨b, o + i, none⟩) hb).trans (hc i (by rw [HOL.out]; exact hi)))
    have cl : w1.cell? ⟨b, o + l, none⟩ = some (.int .i64 0) := by
      have h := hc l (by rw [HOL.out]; omega)
      have h2 := HLAST.out.2
      rw [← HM.out, Nat.add_sub_cancel, HM.out] at h2
      rw [h2] at h
      exact h
    clear hc HP1
    go_wp2
    clear cl
    go_loopw [4] (fun iv wr => ∃ i : Nat, i ≤ l + 1 ∧ iv = .int .i64 i ∧ Hid (Below w1.heap.size w1 wr)) (fun iv _ => l + 1 - (intOf iv).toNat)
    case atStart => exact ⟨0, Nat.zero_le _, rfl, Lib.hid (Below.refl _ _)⟩
    case round =>
      obtain ⟨i, hi, rfl, HB⟩ := hrel
      by_cases hlt : i < l + 1
      · have hib : i ≤ 1000 := by omega
        have hw := whole_of HI.out (i := i) (by rw [← HM.out]; exact hlt)
        have HWK := Lib.hid (kids_any e i A c (l + 1) wr HM.out HH.out (HA1.out.below HB.out))
        rcases hw with ⟨h1, h2⟩ | ⟨j, v, rfl, hv, h1, h2, h3⟩ | ⟨j, q, v, rfl, hq, hv, h1, h2, h3, h4⟩
        · have H1 := Lib.hid h1
          have H2 := Lib.hid h2
          clear h1 h2
          go_wp2_with fail
          refine HWK.out.mono ?_
          rw [H1.out]
          rintro x w3 ⟨rfl, hb3⟩
          have HB3 : Hid (Below w1.heap.size w1 w3) := Lib.hid (HB.out.trans (hb3.mono HB.out.size))
          have ci := HC.out _ HB3.out i hlt
          rw [H2.out] at ci
          clear hb3 HWK
          go_wp2
          show Code.wp _ (Code.region 14 (List.toArray (_ :: _ :: _ :: _ :: _ :: _ :: _ :: _ :: _ :: _ :: _ :: _ :: _ :: _ :: _ :: _ :: _ :: _ :: _ :: _ :: _ :: _ :: _ :: _ :: _ :: _ :: _ :: _ :: _ :: _ :: _ :: _ :: _ :: _ :: _ :: _ :: _ :: _ :: _ :: _ :: _ :: _ :: _ :: _ :: _ :: _ :: _ :: _ :: _ :: _ :: _ :: _ :: _ :: _ :: _ :: _ :: _ :: _ :: _ :: _ :: _ :: _ :: _ :: _ :: _ :: _ :: _ :: _ :: _ :: _ :: _ :: _ :: _ :: [])) true) _ _ _
          go_big_quiet (fail)
          go_wp2
          go_roundw
          case rel => exact ⟨i + 1, by omega, by go_num, Lib.hid (below_drewN HB3.out _)⟩
          case measure => simp [intOf]; omega
        · have H1 := Lib.hid h1
          have H2 := Lib.hid h2
          have H3 := Lib.hid h3
          clear h1 h2 h3
          go_wp2_with fail
          refine HWK.out.mono ?_
          rw [H1.out]
          rintro x w3 ⟨rfl, hb3⟩
          have HB3 : Hid (Below w1.heap.size w1 w3) := Lib.hid (HB.out.trans (hb3.mono HB.out.size))
          have ci := HC.out _ HB3.out (j + 1) hlt
          have cj := HC.out _ HB3.out j (by omega)
          rw [H2.out] at ci
          rw [H3.out] at cj
          have f1 : ((j : Int) == -1) = false := by rw [beq_eq_false_iff_ne]; omega
          have f2 : ((j : Int) != -1) = true := by rw [bne_iff_ne]; omega
          have f3 : decide (0 ≤ (j : Int)) = true := decide_eq_true (by omega)
          have f4 : (j : Int) + 1 - 1 = j := by omega
          clear hb3 HWK
          go_wp2
          show Code.wp _ (Code.region 14 (List.toArray (_ :: _ :: _ :: _ :: _ :: _ :: _ :: _ :: _ :: _ :: _ :: _ :: _ :: _ :: _ :: _ :: _ :: _ :: _ :: _ :: _ :: _ :: _ :: _ :: _ :: _ :: _ :: _ :: _ :: _ :: _ :: _ :: _ :: _ :: _ :: _ :: _ :: _ :: _ :: _ :: _ :: _ :: _ :: _ :: _ :: _ :: _ :: _ :: _ :: _ :: _ :: _ :: _ :: _ :: _ :: _ :: _ :: _ :: _ :: _ :: _ :: _ :: _ :: _ :: _ :: _ :: _ :: _ :: _ :: _ :: _ :: _ :: _ :: [])) true) _ _ _
          go_big_quiet (fail)
          go_wp2
          go_roundw
          case rel => exact ⟨j + 1 + 1, by omega, by go_num, Lib.hid (below_drewN HB3.out _)⟩
          case measure => simp [intOf]; omega
        · have H1 := Lib.hid h1
          have H2 := Lib.hid h2
          have H3 := Lib.hid h3
          have H4 := Lib.hid h4
          clear h1 h2 h3 h4
          go_wp2_with fail
          refine HWK.out.mono ?_
          rw [H1.out]
          rintro x w3 ⟨rfl, hb3⟩
          have HB3 : Hid (Below w1.heap.size w1 w3) := Lib.hid (HB.out.trans (hb3.mono HB.out.size))
          have ci := HC.out _ HB3.out (j + 1) hlt
          have cj := HC.out _ HB3.out j (by omega)
          have cq := HC.out _ HB3.out q (by omega)
          rw [H2.out] at ci
          rw [H3.out] at cq
          rw [H4.out] at cj
          have f1 : ((q : Int) == -1) = false := by rw [beq_eq_false_iff_ne]; omega
          have f2 : ((j : Int) == -1) = false := by rw [beq_eq_false_iff_ne]; omega
          have f3 : decide (0 ≤ (j : Int)) = true := decide_eq_true (by omega)
          have f5 : decide (0 ≤ (q : Int)) = true := decide_eq_true (by omega)
          have f4 : (j : Int) + 1 - 1 = j := by omega
          clear hb3 HWK
          go_wp2
          show Code.wp _ (Code.region 14 (List.toArray (_ :: _ :: _ :: _ :: _ :: _ :: _ :: _ :: _ :: _ :: _ :: _ :: _ :: _ :: _ :: _ :: _ :: _ :: _ :: _ :: _ :: _ :: _ :: _ :: _ :: _ :: _ :: _ :: _ :: _ :: _ :: _ :: _ :: _ :: _ :: _ :: _ :: _ :: _ :: _ :: _ :: _ :: _ :: _ :: _ :: _ :: _ :: _ :: _ :: _ :: _ :: _ :: _ :: _ :: _ :: _ :: _ :: _ :: _ :: _ :: _ :: _ :: _ :: _ :: _ :: _ :: _ :: _ :: _ :: _ :: _ :: _ :: _ :: [])) true) _ _ _
          go_big_quiet (fail)
          go_wp2
          go_roundw
          case rel => exact ⟨j + 1 + 1, by omega, by go_num, Lib.hid (below_drewN HB3.out _)⟩
          case measure => simp [intOf]; omega
      · obtain rfl : i = l + 1 := by omega
        have HBF : Hid (Below w.heap.size w wr) := Lib.hid (HB1.out.trans (HB.out.mono HB1.out.size))
        go_wp2_with fail
        refine (works_any wr).mono ?_
        rintro x wz ⟨rfl, hbz⟩
        have HBZ := Lib.hid (HBF.out.trans (hbz.mono HBF.out.size))
        clear hbz
        go_wp2
        go_ret
        exact ⟨rfl, HBZ.out⟩

theorem walk (A : Option Addr) (c : Nat) (e : List (Int × Int)) (w : World) (hl : 16 * e.length ≤ 140737488355328) (hA : PA w A e) : Calls Try.prog 6 #[.slice A e.length c] w (LawPost w) := by
  by_cases h : 200 < e.length
  · exact large A c _ w h (by omega)
  · exact small A c _ e w rfl (by omega) hA

set_option maxRecDepth 100000 in
theorem lifted (os : Os) (started : os.Started) (H : Type) (enc : TypeId × Value → H) :
    ReturnsInHanded {} Try.checked os 6 .any (Rows.ltlWholeSpec.pre6 enc Try.prog Try.f6 Rows.ltlWholeRow.domain false) (Rows.ltlWholeSpec.post enc Try.prog Try.f6 false true false false) := by
  refine law_lifted started [22] rfl (by kernel_rfl) Try.func6 rfl (by decide +kernel) rfl (fun ds hl => by
    match ds, hl with
    | [_], _ => rfl) (ChangeSpec.witness6 (enc := enc) (C := Try.checked) false ⟨#[], #[.slice none 0 0], []⟩ 8 (by kernel_rfl) (by kernel_rfl) (by kernel_rfl) (by kernel_rfl)) ?_
  intro W base args ds ps hval hA hlt hsz
  obtain ⟨v0, vs0, d0, ds0, p0, q0, hargs, rfl, rfl, h0, r0⟩ := trodAll_cons hA
  obtain ⟨rfl, rfl, rfl⟩ := trodAll_nil r0
  obtain rfl : args = #[v0] := by cases args; simp_all
  obtain ⟨A0, c0, x0, rfl, b0, q0, m0, i0, z0⟩ := open_pairs_arg Try.underlying22 Try.underlying34 (by kernel_rfl) (by kernel_rfl) rfl rfl rfl rfl (hval 0 22 v0 rfl rfl) h0 hsz 0 rfl rfl
  exact walk A0 c0 x0 W b0 i0

set_option maxRecDepth 100000 in
theorem over : Rows.ltlWholeRow.holds Try.pinned (OpenSpec.ofChange Rows.ltlWholeSpec) :=
  OpenClaim.holds_of_wide 6 Try.f6 rfl rfl rfl rfl rfl rfl rfl ⟨rfl, rfl, rfl, rfl, rfl⟩ rfl rfl rfl rfl rfl (by kernel_rfl) Try.func6 (by kernel_rfl)
    (of_decide_eq_true (by kernel_rfl)) (by unfold Func.isWrapper; first | (rw [if_pos (by decide +kernel)]; kernel_rfl) | (rw [if_neg (by decide +kernel)]; exact ⟨rfl, rfl⟩))
    (fun os started H enc _ => lifted os started H enc)

theorem proved : Rows.LtlWholeSaid := over
#print axioms proved
end Go.Proofs.Ythkfjiengemcfaa.ltlWhole
