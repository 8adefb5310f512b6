/- The law SccParts: the parts, and their nodes, in order, are the document's, and nothing that was there is changed. No condition. -/
import Derived.Test.YtnfiohekdbjgoaaSccWorks
import Derived.Deep.RegionHeld3
import Derived.Deep.CutRange
namespace Go.Proofs.Ytnfiohekdbjgoaa.sccParts
open Go.ChangeShapes Go.WideShapes Go.ChangeAt Go.RowKit Go.Proofs.Ytnfiohekdbjgoaa.sc

set_option maxRecDepth 20000 in
set_option maxHeartbeats 8000000 in
theorem walk (v : Value) (G : Gr) (w : World) (hv : GV w v G) (hrow : ∀ i, (G.rows.getD i []).length * 16 ≤ reachBytes) : Calls Try.prog 11 #[v] w (LawPost w) := by
  have HG := Lib.hid hv
  obtain ⟨A1, c1, A2, c2, A3, c3, rfl, _, _, _⟩ := hv
  obtain ⟨n, HN⟩ : ∃ n, Hid (G.rows.length = n) := ⟨_, Lib.hid rfl⟩
  obtain ⟨n1, HN1⟩ : ∃ n, Hid (G.init.length = n) := ⟨_, Lib.hid rfl⟩
  obtain ⟨n3, HN3⟩ : ∃ n, Hid (G.labels.length = n) := ⟨_, Lib.hid rfl⟩
  rw [HN.out, HN1.out, HN3.out] at HG
  rw [HN.out, HN1.out, HN3.out]
  obtain ⟨w1, HW1⟩ : ∃ w1, Hid (w1 = w.alloc (.cells #[.slice A1 n1 c1, .slice A2 n c2, .slice A3 n3 c3] 26)) := ⟨_, Lib.hid rfl⟩
  have HB1 : Hid (Below w.heap.size w w1) := Lib.hid (by rw [HW1.out]; exact (Below.refl _ _).alloc (Nat.le_refl _) _)
  have HBX1 : Hid (B3 w1 w.heap.size (.slice A1 n1 c1) (.slice A2 n c2) (.slice A3 n3 c3)) := Lib.hid (by rw [HW1.out]; exact box3 w _ _ _ _)
  have HFAR := Lib.hid (far_any (HG.out.below HB1.out) hrow)
  obtain ⟨q0, q1, q2⟩ := HBX1.out
  clear hrow
  go_enter Try.func11, Try.ntmps11
  go_upto_region 1 with (fail)
  rw [← HW1.out]
  go_wp2_with fail
  refine HFAR.out.mono ?_
  rintro e w2 ⟨b, rfl, hf, hb2⟩
  have HF := Lib.hid hf
  have HB2 : Hid (Below w.heap.size w w2) := Lib.hid (HB1.out.trans (hb2.mono HB1.out.size))
  have HBX2 := Lib.hid (HBX1.out.below hb2)
  have HX2 : Hid (∀ W, Below w2.heap.size w2 W → GV W (.agg #[.slice A1 n1 c1, .slice A2 n c2, .slice A3 n3 c3]) G ∧ B3 W w.heap.size (.slice A1 n1 c1) (.slice A2 n c2) (.slice A3 n3 c3) ∧ Below w.heap.size w W) := Lib.hid (fun W hW => ⟨HG.out.below (HB2.out.trans (hW.mono HB2.out.size)), HBX2.out.below hW, HB2.out.trans (hW.mono HB2.out.size)⟩)
  clear hf hb2 q0 q1 q2
  cases b with
  | true =>
    go_wp2_with fail
    refine (lives_any _).mono ?_
    rintro e w4 ⟨rfl, hb4⟩
    go_wp2
    go_ret
    exact ⟨rfl, HB2.out.trans (hb4.mono HB2.out.size)⟩
  | false =>
    obtain ⟨hn60, hr60⟩ := HF.out rfl
    rw [HN.out] at hn60
    have HR60 := Lib.hid hr60
    have HN100 : Hid (G.rows.length ≤ 100) := Lib.hid (by rw [HN.out]; omega)
    clear hr60
    have d0 := (HX2.out w2 (Below.refl _ _)).2.1
    unfold B3 at d0
    go_wp2_with fail
    go_cut [3, 4] from 6 (fun a b W => ∃ (L : List Int) (v1 v2 : Value) (vals1 vals2 : Nat → Value) (ba : Nat), a = v1 ∧ b = v2 ∧ Hid (OfL n (eR n G.rows) L) ∧ Hid (PT w2.heap.size W v1 (stF (lstF L) n).length vals1 (fun j => memF (lstF L) n ((stF (lstF L) n).getD j 0))) ∧ Hid (PT ba W v2 (stF (lstF L) n).length vals2 (fun j => memF (lstF L) n ((stF (lstF L) n).getD j 0))) ∧ Hid (Below w2.heap.size w2 W))
    case first =>
      go_region_held3 (fun w' => w'.cell? ⟨w.heap.size, 0, none⟩ = some (.slice A1 n1 c1) ∧ w'.cell? ⟨w.heap.size, 1, none⟩ = some (.slice A2 n c2) ∧ w'.cell? ⟨w.heap.size, 2, none⟩ = some (.slice A3 n3 c3))
        (first | exact d0 | exact d3 | exact d4 | go_keep)
        (first
          | (go_at_call 39; refine (parts_any (HX2.out _ (by first | exact Below.refl _ _ | exact (Below.refl _ _).drew)).1 HN100.out HR60.out).mono ?_; rw [HN.out]; rintro e w3 ⟨L, hL, v1, vals1, rfl, hp1, hb3⟩; have HB3 : Hid (Below w2.heap.size w2 w3) := Lib.hid ((by first | exact Below.refl _ _ | exact (Below.refl _ _).drew : Below w2.heap.size w2 _).trans hb3); have d3 := (HX2.out w3 HB3.out).2.1; unfold B3 at d3)
          | (go_at_call 40; refine (refParts_any (HX2.out _ HB3.out).1 HN100.out HR60.out).mono ?_; rw [HN.out]; rintro e w4 ⟨L2, hL2, v2, vals2, rfl, hp2, hb4⟩; have HB4 : Hid (Below w2.heap.size w2 w4) := Lib.hid (HB3.out.trans (hb4.mono HB3.out.size)); have d4 := (HX2.out w4 HB4.out).2.1; unfold B3 at d4)
          | fail)
      go_wp2
      go_meet
      case rel =>
        obtain rfl : L = L2 := OfL.one hL hL2
        exact ⟨L, v1, v2, vals1, vals2, _, rfl, rfl, Lib.hid hL, Lib.hid ((hp1.mono (by first | exact Nat.le_refl _ | (simp))).below hb4), Lib.hid hp2, HB4⟩
    case rest =>
      obtain ⟨L, v1, v2, vals1, vals2, ba, rfl, rfl, HL, HP1, HP2, HBW⟩ := hcut
      obtain ⟨cnt, HCNT⟩ : ∃ cnt, Hid ((stF (lstF L) n).length = cnt) := ⟨_, Lib.hid rfl⟩
      have hcn : cnt ≤ n := by have := stF_le (lstF L) n; have := HCNT.out; omega
      rw [HCNT.out] at HP1 HP2
      obtain ⟨X1, x1, h1⟩ := HP1.out.form
      obtain ⟨X2, x2, h2⟩ := HP2.out.form
      subst h1 h2
      clear d0
      go_wp2_with fail
      go_loopw [20] (fun i wr => ∃ k : Nat, k ≤ cnt ∧ i = .int .i64 k ∧ Hid (Below wc.heap.size wc wr)) (fun i _ => cnt - (intOf i).toNat)
      case atStart => exact ⟨0, by omega, rfl, Lib.hid (Below.refl _ _)⟩
      case round =>
        obtain ⟨k, hk, rfl, HB⟩ := hrel
        by_cases hlt : k < cnt
        · have HQ1 := Lib.hid (HP1.out.below HB.out)
          have HQ2 := Lib.hid (HP2.out.below HB.out)
          obtain ⟨g1, y1, hv1, _, hg1, _, hc1, _⟩ := HQ1.out.cell (by omega)
          obtain ⟨g2, y2, hv2, _, hg2, _, hc2, _⟩ := HQ2.out.cell (by omega)
          injection hv1 with hv11 _ hv12
          injection hv2 with hv21 _ hv22
          subst hv11 hv12 hv21 hv22
          have o1 := hc1 k hlt
          have o2 := hc2 k hlt
          obtain ⟨l, HLL⟩ : ∃ l, Hid (memF (lstF L) n ((stF (lstF L) n).getD k 0) = l) := ⟨_, Lib.hid rfl⟩
          have hr1 := HQ1.out.row k hlt
          have hr2 := HQ2.out.row k hlt
          rw [HLL.out] at hr1 hr2
          obtain ⟨P1, z1, e1, i1⟩ := hr1.form
          obtain ⟨P2, z2, e2, i2⟩ := hr2.form
          obtain ⟨len, HLEN⟩ : ∃ len, Hid (len = l.length) := ⟨_, Lib.hid rfl⟩
          rw [e1, ← HLEN.out] at o1
          rw [e2, ← HLEN.out] at o2
          have I1 : Hid (∀ W, Below wr.heap.size wr W → IA W P1 l) := Lib.hid (fun W hW => i1.below hW)
          have I2 : Hid (∀ W, Below wr.heap.size wr W → IA W P2 l) := Lib.hid (fun W hW => i2.below hW)
          have HM : Hid (l.length ≤ maxLen) := Lib.hid (by have := memF_le (lstF L) n ((stF (lstF L) n).getD k 0); rw [HLL.out] at this; unfold maxLen; omega)
          clear hc1 hc2 hr1 hr2 e1 e2 i1 i2
          go_wp2_with fail
          go_region_held3 (fun w' => w'.cell? ⟨g1, k, none⟩ = some (.slice P1 len z1) ∧ w'.cell? ⟨g2, k, none⟩ = some (.slice P2 len z2)) (first | exact ⟨o1, o2⟩ | exact d5 | go_keep)
            (first
              | (go_at_call 36; refine (sc.same_any P1 P2 z1 z2 len len l l _ HLEN.out HLEN.out (I1.out _ (by first | exact Below.refl _ _ | exact (Below.refl _ _).drew)) (I2.out _ (by first | exact Below.refl _ _ | exact (Below.refl _ _).drew)) HM.out HM.out).mono ?_; rintro e w5 ⟨rfl, j, hw5⟩; rw [eqB_same]; have HB5 : Hid (Below wr.heap.size wr w5) := Lib.hid (by rw [hw5]; exact below_drewN (by first | exact Below.refl _ _ | exact (Below.refl _ _).drew) j); have d5 : w5.cell? ⟨g1, k, none⟩ = some (.slice P1 len z1) ∧ w5.cell? ⟨g2, k, none⟩ = some (.slice P2 len z2) := ⟨(HB5.out.cell (p := ⟨g1, k, none⟩) hg1).trans o1, (HB5.out.cell (p := ⟨g2, k, none⟩) hg2).trans o2⟩; clear hw5)
              | fail)
          go_wp2
          go_roundw
          case rel => exact ⟨k + 1, by omega, by go_num, Lib.hid (HB.out.trans (HB5.out.mono HB.out.size))⟩
          case measure => simp [intOf]; omega
        · obtain rfl : cnt = k := by omega
          go_wp2_with fail
          refine (lives_any _).mono ?_
          rintro e w4 ⟨rfl, hb4⟩
          go_wp2
          go_ret
          exact ⟨rfl, (HX2.out w4 ((HBW.out.trans (HB.out.mono HBW.out.size)).trans (hb4.mono (Nat.le_trans HBW.out.size HB.out.size)))).2.2⟩

set_option maxRecDepth 100000 in
theorem lifted (os : Os) (started : os.Started) (H : Type) (enc : TypeId × Value → H) :
    ReturnsInHanded {} Try.checked os 11 .any (Rows.sccPartsSpec.pre6 enc Try.prog Try.f11 Rows.sccPartsRow.domain false) (Rows.sccPartsSpec.post enc Try.prog Try.f11 false true false false) := by
  refine law_lifted started [26] rfl (by kernel_rfl) Try.func11 rfl (by decide +kernel) rfl (fun ds hl => by
    match ds, hl with
    | [_], _ => rfl) (ChangeSpec.witness6 (enc := enc) (C := Try.checked) false ⟨#[], #[.agg #[.slice none 0 0, .slice none 0 0, .slice none 0 0]], []⟩ 8 (by kernel_rfl) (by kernel_rfl) (by kernel_rfl) (by kernel_rfl)) ?_
  intro W base args ds ps hval hA hlt hsz
  obtain ⟨v0, vs0, d0, ds0, p0, q0, hargs, rfl, rfl, h0, r0⟩ := trodAll_cons hA
  obtain ⟨rfl, rfl, rfl⟩ := trodAll_nil r0
  obtain rfl : args = #[v0] := by cases args; simp_all
  obtain ⟨G0, g0, y0⟩ := open_graph_argw (hval 0 26 v0 rfl rfl) h0 hsz 0 rfl rfl
  exact walk v0 G0 W g0 y0

set_option maxRecDepth 100000 in
theorem over : Rows.sccPartsRow.holds Try.pinned (OpenSpec.ofChange Rows.sccPartsSpec) :=
  OpenClaim.holds_of_wide 11 Try.f11 rfl rfl rfl rfl rfl rfl rfl ⟨rfl, rfl, rfl, rfl, rfl⟩ rfl rfl rfl rfl rfl (by kernel_rfl) Try.func11 (by kernel_rfl)
    (of_decide_eq_true (by kernel_rfl)) (by unfold Func.isWrapper; first | (rw [if_pos (by decide +kernel)]; kernel_rfl) | (rw [if_neg (by decide +kernel)]; exact ⟨rfl, rfl⟩))
    (fun os started H enc _ => lifted os started H enc)

theorem proved : Rows.SccPartsSaid := over
#print axioms proved
end Go.Proofs.Ytnfiohekdbjgoaa.sccParts
