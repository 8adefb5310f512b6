/- The law SccCyclic: whether any numbers are a cyclic part of any graph is the document's, and nothing that was there is changed. No condition. -/
import Derived.Test.YtnfiohekdbjgoaaSccWorks
import Derived.Deep.RegionHeld3
namespace Go.Proofs.Ytnfiohekdbjgoaa.sccCyclic
open Go.ChangeShapes Go.WideShapes Go.ChangeAt Go.RowKit Go.Proofs.Ytnfiohekdbjgoaa.sc

set_option maxRecDepth 20000 in
set_option maxHeartbeats 8000000 in
theorem walk (v : Value) (G : Gr) (A : Option Addr) (c m : Nat) (part : List Int) (w : World) (hv : GV w v G) (hrow : ∀ i, (G.rows.getD i []).length * 16 ≤ reachBytes) (hm : m = part.length) (hP : IA w A part) (hml : 8 * m ≤ 140737488355328) : Calls Try.prog 12 #[v, .slice A m c] w (LawPost w) := by
  have HG := Lib.hid hv
  obtain ⟨A1, c1, A2, c2, A3, c3, rfl, _, _, _⟩ := hv
  obtain ⟨n, HN⟩ : ∃ n, Hid (G.rows.length = n) := ⟨_, Lib.hid rfl⟩
  obtain ⟨n1, HN1⟩ : ∃ n, Hid (G.init.length = n) := ⟨_, Lib.hid rfl⟩
  obtain ⟨n3, HN3⟩ : ∃ n, Hid (G.labels.length = n) := ⟨_, Lib.hid rfl⟩
  rw [HN.out, HN1.out, HN3.out] at HG
  rw [HN.out, HN1.out, HN3.out]
  obtain ⟨w1, HW1⟩ : ∃ w1, Hid (w1 = w.alloc (.cells #[.slice A1 n1 c1, .slice A2 n c2, .slice A3 n3 c3] 26)) := ⟨_, Lib.hid rfl⟩
  have HB1 : Hid (Below w.heap.size w w1) := Lib.hid (by rw [HW1.out]; exact (Below.refl _ _).alloc (Nat.le_refl _) _)
  have HBX1 : Hid (B3 w1 w.heap.size (.slice A1 n1 c1) (.slice A2 n c2) (.slice A3 n3 c3)) := Lib.hid (by rw [HW1.out]; exact box3 w _ _ _ _)
  have HFAR := Lib.hid (far_any (HG.out.below HB1.out) hrow)
  obtain ⟨q0, q1, q2⟩ := HBX1.out
  have HP := Lib.hid hP
  have HM := Lib.hid hm
  have hml2 : (m : Int) ≤ 9223372036854775807 := by omega
  clear hrow hP hm hml
  go_enter Try.func12, Try.ntmps12
  go_upto_region 1 with (fail)
  rw [← HW1.out]
  go_wp2_with fail
  refine HFAR.out.mono ?_
  rintro e w2 ⟨b, rfl, hf, hb2⟩
  have HF := Lib.hid hf
  have HB2 : Hid (Below w.heap.size w w2) := Lib.hid (HB1.out.trans (hb2.mono HB1.out.size))
  have HBX2 := Lib.hid (HBX1.out.below hb2)
  have HX2 : Hid (∀ W, Below w2.heap.size w2 W → GV W (.agg #[.slice A1 n1 c1, .slice A2 n c2, .slice A3 n3 c3]) G ∧ B3 W w.heap.size (.slice A1 n1 c1) (.slice A2 n c2) (.slice A3 n3 c3) ∧ Below w.heap.size w W) := Lib.hid (fun W hW => ⟨HG.out.below (HB2.out.trans (hW.mono HB2.out.size)), HBX2.out.below hW, HB2.out.trans (hW.mono HB2.out.size)⟩)
  clear hf hb2 q0 q1 q2
  by_cases hbm : b = true ∨ 200 < m
  · have hlv : ∀ x : Bool, x = true → Hid (True) := fun _ _ => Lib.hid trivial
    clear hlv
    rcases hbm with rfl | hm2
    · go_wp2_with fail
      refine (lives_any _).mono ?_
      rintro e w4 ⟨rfl, hb4⟩
      go_wp2
      go_ret
      exact ⟨rfl, HB2.out.trans (hb4.mono HB2.out.size)⟩
    · cases b with
      | true =>
        go_wp2_with fail
        refine (lives_any _).mono ?_
        rintro e w4 ⟨rfl, hb4⟩
        go_wp2
        go_ret
        exact ⟨rfl, HB2.out.trans (hb4.mono HB2.out.size)⟩
      | false =>
        have hm3 : (200 : Int) < (m : Int) := by omega
        go_wp2_with fail
        refine (lives_any _).mono ?_
        rintro e w4 ⟨rfl, hb4⟩
        go_wp2
        go_ret
        exact ⟨rfl, HB2.out.trans (hb4.mono HB2.out.size)⟩
  · obtain rfl : b = false := by cases b with | false => rfl | true => exact absurd (.inl rfl) hbm
    have hm4 : ¬ (200 : Int) < (m : Int) := by omega
    clear hbm
    obtain ⟨hn60, hr60⟩ := HF.out rfl
    rw [HN.out] at hn60
    have HR60 := Lib.hid hr60
    have HN100 : Hid (G.rows.length ≤ 100) := Lib.hid (by rw [HN.out]; omega)
    clear hr60
    have d0 := (HX2.out w2 (Below.refl _ _)).2.1
    unfold B3 at d0
    by_cases hC : CyP G.rows.length G.rows part
    · have HC := Lib.hid hC
      clear hC
      go_wp2_with fail
      go_region_held3 (fun w' => w'.cell? ⟨w.heap.size, 0, none⟩ = some (.slice A1 n1 c1) ∧ w'.cell? ⟨w.heap.size, 1, none⟩ = some (.slice A2 n c2) ∧ w'.cell? ⟨w.heap.size, 2, none⟩ = some (.slice A3 n3 c3))
        (first | exact d0 | exact d3 | exact d4 | exact d6 | go_keep)
        (first
          | (go_at_call 41; refine (cyclic_any (HX2.out _ (by first | exact Below.refl _ _ | exact (Below.refl _ _).drew)).1 A m c part HN100.out HR60.out HM.out (by omega) (HP.out.below (HX2.out _ (by first | exact Below.refl _ _ | exact (Below.refl _ _).drew)).2.2)).mono ?_; rintro e w3 ⟨⟨b, rfl, hbi⟩, hb3⟩; obtain rfl : b = true := hbi.2 HC.out; have HB3 : Hid (Below w2.heap.size w2 w3) := Lib.hid ((by first | exact Below.refl _ _ | exact (Below.refl _ _).drew : Below w2.heap.size w2 _).trans hb3); have d3 := (HX2.out w3 HB3.out).2.1; unfold B3 at d3; clear hbi hb3)
          | (go_at_call 42; refine (refCyclic_any (HX2.out _ HB3.out).1 A m c part HN100.out HR60.out HM.out (by omega) (HP.out.below (HX2.out _ HB3.out).2.2)).mono ?_; rintro e w4 ⟨⟨b, rfl, hbi⟩, hb3⟩; obtain rfl : b = true := hbi.2 HC.out; have HB4 : Hid (Below w2.heap.size w2 w4) := Lib.hid (HB3.out.trans (hb3.mono HB3.out.size)); have d4 := (HX2.out w4 HB4.out).2.1; unfold B3 at d4; clear hbi hb3)
          | (go_at_call 35; refine (lives_any _).mono ?_; rintro e w6 ⟨rfl, hb6⟩; have HB6 : Hid (Below w2.heap.size w2 w6) := Lib.hid (HB4.out.trans (hb6.mono HB4.out.size)); have d6 := (HX2.out w6 HB6.out).2.1; unfold B3 at d6; clear hb6)
          | fail)
      go_wp2
      go_ret
      exact ⟨rfl, (HX2.out w6 HB6.out).2.2⟩
    · have HC := Lib.hid hC
      clear hC
      go_wp2_with fail
      go_region_held3 (fun w' => w'.cell? ⟨w.heap.size, 0, none⟩ = some (.slice A1 n1 c1) ∧ w'.cell? ⟨w.heap.size, 1, none⟩ = some (.slice A2 n c2) ∧ w'.cell? ⟨w.heap.size, 2, none⟩ = some (.slice A3 n3 c3))
        (first | exact d0 | exact d3 | exact d4 | exact d6 | go_keep)
        (first
          | (go_at_call 41; refine (cyclic_any (HX2.out _ (by first | exact Below.refl _ _ | exact (Below.refl _ _).drew)).1 A m c part HN100.out HR60.out HM.out (by omega) (HP.out.below (HX2.out _ (by first | exact Below.refl _ _ | exact (Below.refl _ _).drew)).2.2)).mono ?_; rintro e w3 ⟨⟨b, rfl, hbi⟩, hb3⟩; obtain rfl : b = false := (by cases b with | false => rfl | true => exact absurd (hbi.1 rfl) HC.out); have HB3 : Hid (Below w2.heap.size w2 w3) := Lib.hid ((by first | exact Below.refl _ _ | exact (Below.refl _ _).drew : Below w2.heap.size w2 _).trans hb3); have d3 := (HX2.out w3 HB3.out).2.1; unfold B3 at d3; clear hbi hb3)
          | (go_at_call 42; refine (refCyclic_any (HX2.out _ HB3.out).1 A m c part HN100.out HR60.out HM.out (by omega) (HP.out.below (HX2.out _ HB3.out).2.2)).mono ?_; rintro e w4 ⟨⟨b, rfl, hbi⟩, hb3⟩; obtain rfl : b = false := (by cases b with | false => rfl | true => exact absurd (hbi.1 rfl) HC.out); have HB4 : Hid (Below w2.heap.size w2 w4) := Lib.hid (HB3.out.trans (hb3.mono HB3.out.size)); have d4 := (HX2.out w4 HB4.out).2.1; unfold B3 at d4; clear hbi hb3)
          | (go_at_call 35; refine (lives_any _).mono ?_; rintro e w6 ⟨rfl, hb6⟩; have HB6 : Hid (Below w2.heap.size w2 w6) := Lib.hid (HB4.out.trans (hb6.mono HB4.out.size)); have d6 := (HX2.out w6 HB6.out).2.1; unfold B3 at d6; clear hb6)
          | fail)
      go_wp2
      go_ret
      exact ⟨rfl, (HX2.out w6 HB6.out).2.2⟩

set_option maxRecDepth 100000 in
theorem lifted (os : Os) (started : os.Started) (H : Type) (enc : TypeId × Value → H) :
    ReturnsInHanded {} Try.checked os 12 .any (Rows.sccCyclicSpec.pre6 enc Try.prog Try.f12 Rows.sccCyclicRow.domain false) (Rows.sccCyclicSpec.post enc Try.prog Try.f12 false true false false) := by
  refine law_lifted started [26, 22] rfl (by kernel_rfl) Try.func12 rfl (by decide +kernel) rfl (fun ds hl => by
    match ds, hl with
    | [_, _], _ => rfl) (ChangeSpec.witness6 (enc := enc) (C := Try.checked) false ⟨#[], #[.agg #[.slice none 0 0, .slice none 0 0, .slice none 0 0], .slice none 0 0], []⟩ 8 (by kernel_rfl) (by kernel_rfl) (by kernel_rfl) (by kernel_rfl)) ?_
  intro W base args ds ps hval hA hlt hsz
  obtain ⟨v0, vs0, d0, ds0, p0, q0, hargs, rfl, rfl, h0, r0⟩ := trodAll_cons hA
  obtain ⟨v1, vs1, d1, ds1, p1, q1, rfl, rfl, rfl, h1, r1⟩ := trodAll_cons r0
  obtain ⟨rfl, rfl, rfl⟩ := trodAll_nil r1
  obtain rfl : args = #[v0, v1] := by cases args; simp_all
  obtain ⟨G0, g0, y0⟩ := open_graph_argw (hval 0 26 v0 rfl rfl) h0 hsz 0 rfl rfl
  obtain ⟨A1, c1, x1, rfl, b1, i1, z1⟩ := open_ints_arg (hval 1 22 v1 rfl rfl) h1 hsz 1 rfl rfl
  exact walk v0 G0 A1 c1 _ x1 W g0 y0 rfl i1 b1

set_option maxRecDepth 100000 in
theorem over : Rows.sccCyclicRow.holds Try.pinned (OpenSpec.ofChange Rows.sccCyclicSpec) :=
  OpenClaim.holds_of_wide 12 Try.f12 rfl rfl rfl rfl rfl rfl rfl ⟨rfl, rfl, rfl, rfl, rfl⟩ rfl rfl rfl rfl rfl (by kernel_rfl) Try.func12 (by kernel_rfl)
    (of_decide_eq_true (by kernel_rfl)) (by unfold Func.isWrapper; first | (rw [if_pos (by decide +kernel)]; kernel_rfl) | (rw [if_neg (by decide +kernel)]; exact ⟨rfl, rfl⟩))
    (fun os started H enc _ => lifted os started H enc)

theorem proved : Rows.SccCyclicSaid := over
#print axioms proved
end Go.Proofs.Ytnfiohekdbjgoaa.sccCyclic
