/- The law SccLive: which nodes a way leads back to is the document's, and nothing that was there is changed. No condition. -/
import Derived.Test.YtnfiohekdbjgoaaSccWorks
import Derived.Deep.RegionHeld3
import Derived.Deep.CutRange
namespace Go.Proofs.Ytnfiohekdbjgoaa.sccLive
open Go.ChangeShapes Go.WideShapes Go.ChangeAt Go.RowKit Go.Proofs.Ytnfiohekdbjgoaa.sc

set_option maxRecDepth 20000 in
set_option maxHeartbeats 8000000 in
theorem walk (v : Value) (G : Gr) (w : World) (hv : GV w v G) (hrow : ∀ i, (G.rows.getD i []).length * 16 ≤ reachBytes) : Calls Try.prog 13 #[v] w (LawPost w) := by
  have HG := Lib.hid hv
  obtain ⟨A1, c1, A2, c2, A3, c3, rfl, _, _, _⟩ := hv
  obtain ⟨n, HN⟩ : ∃ n, Hid (G.rows.length = n) := ⟨_, Lib.hid rfl⟩
  obtain ⟨n1, HN1⟩ : ∃ n, Hid (G.init.length = n) := ⟨_, Lib.hid rfl⟩
  obtain ⟨n3, HN3⟩ : ∃ n, Hid (G.labels.length = n) := ⟨_, Lib.hid rfl⟩
  rw [HN.out, HN1.out, HN3.out] at HG
  rw [HN.out, HN1.out, HN3.out]
  obtain ⟨w1, HW1⟩ : ∃ w1, Hid (w1 = w.alloc (.cells #[.slice A1 n1 c1, .slice A2 n c2, .slice A3 n3 c3] 26)) := ⟨_, Lib.hid rfl⟩
  have HB1 : Hid (Below w.heap.size w w1) := Lib.hid (by rw [HW1.out]; exact (Below.refl _ _).alloc (Nat.le_refl _) _)
  have HBX1 : Hid (B3 w1 w.heap.size (.slice A1 n1 c1) (.slice A2 n c2) (.slice A3 n3 c3)) := Lib.hid (by rw [HW1.out]; exact box3 w _ _ _ _)
  have HFAR := Lib.hid (far_any (HG.out.below HB1.out) hrow)
  obtain ⟨q0, q1, q2⟩ := HBX1.out
  clear hrow
  go_enter Try.func13, Try.ntmps13
  go_upto_region 1 with (fail)
  rw [← HW1.out]
  go_wp2_with fail
  refine HFAR.out.mono ?_
  rintro e w2 ⟨b, rfl, hf, hb2⟩
  have HF := Lib.hid hf
  have HB2 : Hid (Below w.heap.size w w2) := Lib.hid (HB1.out.trans (hb2.mono HB1.out.size))
  have HBX2 := Lib.hid (HBX1.out.below hb2)
  have HX2 : Hid (∀ W, Below w2.heap.size w2 W → GV W (.agg #[.slice A1 n1 c1, .slice A2 n c2, .slice A3 n3 c3]) G ∧ B3 W w.heap.size (.slice A1 n1 c1) (.slice A2 n c2) (.slice A3 n3 c3) ∧ Below w.heap.size w W) := Lib.hid (fun W hW => ⟨HG.out.below (HB2.out.trans (hW.mono HB2.out.size)), HBX2.out.below hW, HB2.out.trans (hW.mono HB2.out.size)⟩)
  clear hf hb2 q0 q1 q2
  cases b with
  | true =>
    go_wp2_with fail
    refine (lives_any _).mono ?_
    rintro e w4 ⟨rfl, hb4⟩
    go_wp2
    go_ret
    exact ⟨rfl, HB2.out.trans (hb4.mono HB2.out.size)⟩
  | false =>
    obtain ⟨hn60, hr60⟩ := HF.out rfl
    rw [HN.out] at hn60
    have HR60 := Lib.hid hr60
    have HN100 : Hid (G.rows.length ≤ 100) := Lib.hid (by rw [HN.out]; omega)
    clear hr60
    have d0 := (HX2.out w2 (Below.refl _ _)).2.1
    unfold B3 at d0
    go_wp2_with fail
    go_cut [3, 4] from 6 (fun a b W => ∃ (D1 D2 : Option Addr) (e1 e2 : Nat) (lv : Nat → Bool), a = .slice D1 n e1 ∧ b = .slice D2 n e2 ∧ Hid (∀ W2, Below W.heap.size W W2 → 0 < n → ∃ b1 b2, D1 = some ⟨b1, 0, none⟩ ∧ D2 = some ⟨b2, 0, none⟩ ∧ ∀ i, i < n → W2.cell? ⟨b1, i, none⟩ = some (.bool (lv i)) ∧ W2.cell? ⟨b2, i, none⟩ = some (.bool (lv i))) ∧ Hid (Below w2.heap.size w2 W))
    case first =>
      go_region_held3 (fun w' => w'.cell? ⟨w.heap.size, 0, none⟩ = some (.slice A1 n1 c1) ∧ w'.cell? ⟨w.heap.size, 1, none⟩ = some (.slice A2 n c2) ∧ w'.cell? ⟨w.heap.size, 2, none⟩ = some (.slice A3 n3 c3))
        (first | exact d0 | exact d3 | exact d4 | go_keep)
        (first
          | (go_at_call 43; refine (live_any (HX2.out _ (by first | exact Below.refl _ _ | exact (Below.refl _ _).drew)).1 HN100.out HR60.out).mono ?_; rw [HN.out]; rintro e w3 ⟨D1, e1, rfl, ⟨lv1, hl1, hi1⟩, hb3⟩; have HB3 : Hid (Below w2.heap.size w2 w3) := Lib.hid ((by first | exact Below.refl _ _ | exact (Below.refl _ _).drew : Below w2.heap.size w2 _).trans hb3); have d3 := (HX2.out w3 HB3.out).2.1; unfold B3 at d3)
          | (go_at_call 44; refine (refLive_any (HX2.out _ HB3.out).1 HN100.out HR60.out).mono ?_; rw [HN.out]; rintro e w4 ⟨D2, e2, rfl, ⟨lv2, hl2, hi2⟩, hb4⟩; have HB4 : Hid (Below w2.heap.size w2 w4) := Lib.hid (HB3.out.trans (hb4.mono HB3.out.size)); have d4 := (HX2.out w4 HB4.out).2.1; unfold B3 at d4)
          | fail)
      go_wp2
      go_meet
      case rel =>
        refine ⟨D1, D2, e1, e2, lv1, rfl, rfl, Lib.hid (fun W2 hW h0 => ?_), HB4⟩
        obtain ⟨b1, rfl, _, hz1, hc1⟩ := hl1 h0
        obtain ⟨b2, rfl, _, hz2, hc2⟩ := hl2 h0
        refine ⟨b1, b2, rfl, rfl, fun i hi => ⟨?_, ?_⟩⟩
        · exact (hW.cell (p := ⟨b1, i, none⟩) (Nat.lt_of_lt_of_le hz1 hb4.size)).trans ((hb4.cell (p := ⟨b1, i, none⟩) hz1).trans (hc1 i hi))
        · rw [(hW.cell (p := ⟨b2, i, none⟩) hz2).trans (hc2 i hi), bool_iff (hi2 i hi) (hi1 i hi)]
    case rest =>
      obtain ⟨D1, D2, e1, e2, lv, rfl, rfl, HC, HBW⟩ := hcut
      clear d0
      go_wp2_with fail
      go_loopw [20] (fun i wr => ∃ k j : Nat, k ≤ n ∧ i = .int .i64 k ∧ wr = wc.drewN j) (fun i _ => n - (intOf i).toNat)
      case atStart => exact ⟨0, 0, by omega, rfl, rfl⟩
      case round =>
        obtain ⟨k, j, hk, rfl, rfl⟩ := hrel
        by_cases hlt : k < n
        · obtain ⟨b1, b2, rfl, rfl, hcc⟩ := HC.out wc (Below.refl _ _) (by omega)
          obtain ⟨z1, z2⟩ := hcc k hlt
          generalize lv k = z at z1 z2
          have hzz : (z != z) = false := by simp
          clear hcc
          go_wp2
          go_quiet (fail)
          go_wp2
          go_roundw
          case rel => exact ⟨k + 1, _, by omega, by go_num, rfl⟩
          case measure => simp [intOf]; omega
        · obtain rfl : n = k := by omega
          have HBJ := Lib.hid (below_drewN HBW.out j)
          go_wp2_with fail
          refine (lives_any _).mono ?_
          rintro e w4 ⟨rfl, hb4⟩
          go_wp2
          go_ret
          exact ⟨rfl, (HX2.out w4 (HBJ.out.trans (hb4.mono HBJ.out.size))).2.2⟩

set_option maxRecDepth 100000 in
theorem lifted (os : Os) (started : os.Started) (H : Type) (enc : TypeId × Value → H) :
    ReturnsInHanded {} Try.checked os 13 .any (Rows.sccLiveSpec.pre6 enc Try.prog Try.f13 Rows.sccLiveRow.domain false) (Rows.sccLiveSpec.post enc Try.prog Try.f13 false true false false) := by
  refine law_lifted started [26] rfl (by kernel_rfl) Try.func13 rfl (by decide +kernel) rfl (fun ds hl => by
    match ds, hl with
    | [_], _ => rfl) (ChangeSpec.witness6 (enc := enc) (C := Try.checked) false ⟨#[], #[.agg #[.slice none 0 0, .slice none 0 0, .slice none 0 0]], []⟩ 8 (by kernel_rfl) (by kernel_rfl) (by kernel_rfl) (by kernel_rfl)) ?_
  intro W base args ds ps hval hA hlt hsz
  obtain ⟨v0, vs0, d0, ds0, p0, q0, hargs, rfl, rfl, h0, r0⟩ := trodAll_cons hA
  obtain ⟨rfl, rfl, rfl⟩ := trodAll_nil r0
  obtain rfl : args = #[v0] := by cases args; simp_all
  obtain ⟨G0, g0, y0⟩ := open_graph_argw (hval 0 26 v0 rfl rfl) h0 hsz 0 rfl rfl
  exact walk v0 G0 W g0 y0

set_option maxRecDepth 100000 in
theorem over : Rows.sccLiveRow.holds Try.pinned (OpenSpec.ofChange Rows.sccLiveSpec) :=
  OpenClaim.holds_of_wide 13 Try.f13 rfl rfl rfl rfl rfl rfl rfl ⟨rfl, rfl, rfl, rfl, rfl⟩ rfl rfl rfl rfl rfl (by kernel_rfl) Try.func13 (by kernel_rfl)
    (of_decide_eq_true (by kernel_rfl)) (by unfold Func.isWrapper; first | (rw [if_pos (by decide +kernel)]; kernel_rfl) | (rw [if_neg (by decide +kernel)]; exact ⟨rfl, rfl⟩))
    (fun os started H enc _ => lifted os started H enc)

theorem proved : Rows.SccLiveSaid := over
#print axioms proved
end Go.Proofs.Ytnfiohekdbjgoaa.sccLive
