/- The law WordTells. -/
import Derived.Test.YtjjeabonoajcbaaWdAwake
import Derived.Test.YtjjeabonoajcbaaWdOpens
namespace Go.Proofs.Ytjjeabonoajcbaa.wordTells
open Go.ChangeShapes Go.WideShapes Go.ChangeAt Go.RowKit Go.Deep sr lt nf wd

set_option maxRecDepth 20000 in
set_option maxHeartbeats 8000000 in
theorem walk (x : WX) (st lp : List Int) (i : Int) (w : World) (hX : WdA w x st lp) (hi : -9223372036854775808 ≤ i ∧ i ≤ 9223372036854775807) :
    Calls Try.prog 3 #[x.v, .int .i64 i] w fun e w' => e = .returned (.bool true) ∧ Below w.heap.size w w' := by
  obtain ⟨w1, HW1, HBZ, HS⟩ : ∃ w1, w.alloc (.cells #[.slice x.A x.n x.c, .slice x.B x.m x.d] 24) = w1 ∧ Hid (Below w.heap.size w w1) ∧ Hid (∀ W, Below w1.heap.size w1 W → W.cell? ⟨w.heap.size, 0, none⟩ = some (.slice x.A x.n x.c) ∧ W.cell? ⟨w.heap.size, 1, none⟩ = some (.slice x.B x.m x.d)) := by
    have e : (w.alloc (.cells #[.slice x.A x.n x.c, .slice x.B x.m x.d] 24)).heap.size = w.heap.size + 1 := by simp
    exact ⟨_, rfl, Lib.hid (below_one _ _), Lib.hid (fun W h => ⟨(h.cell (p := ⟨w.heap.size, 0, none⟩) (by show w.heap.size < _; omega)).trans (World.cell?_alloc_at _ _ _ _ (by simp)), (h.cell (p := ⟨w.heap.size, 1, none⟩) (by show w.heap.size < _; omega)).trans (World.cell?_alloc_at _ _ _ _ (by simp))⟩)⟩
  have HHV := Lib.hid (heavy_any none 0 0 x w1)
  by_cases hh : 30 < x.n ∨ 30 < x.m
  · rw [decide_eq_true (p := 60 < 0 ∨ 30 < x.n ∨ 30 < x.m) (.inr hh)] at HHV
    obtain ⟨A, n, c, B, m, d⟩ := x
    unfold WX.v at HHV ⊢
    dsimp only at HHV HS hh ⊢
    clear hX hh hi
    obtain ⟨y1, y2⟩ := HS.out w1 (Below.refl _ _)
    go_enter Try.func3, Try.ntmps3
    go_upto_region 1 with (fail)
    clear HW1
    go_wp2_with fail
    refine HHV.out.mono ?_
    rintro e2 w2 ⟨rfl, hb2⟩
    have HB2 := Lib.hid (HBZ.out.trans (hb2.mono HBZ.out.size))
    clear hb2 y1 y2
    go_wp2_with fail
    refine (awake_any w2).mono ?_
    rintro e3 w3 ⟨rfl, hb3⟩
    have HB3 := Lib.hid (HB2.out.trans (hb3.mono HB2.out.size))
    clear hb3
    go_wp2
    go_ret
    exact ⟨rfl, HB3.out⟩
  · rw [decide_eq_false (p := 60 < 0 ∨ 30 < x.n ∨ 30 < x.m) (by omega)] at HHV
    have hx := hX.small (by omega) (by omega)
    have HCK := Lib.hid (fun W (_ : Below w1.heap.size w1 W) => check_any x W hx.b1 hx.b2)
    have HRK := Lib.hid (fun W (_ : Below w1.heap.size w1 W) => refCheck_any x W hx.b1 hx.b2)
    have HLN := Lib.hid (fun W (_ : Below w1.heap.size w1 W) => len_any x W hx.b1 hx.b2)
    have HRL := Lib.hid (fun W (_ : Below w1.heap.size w1 W) => refLen_any x W hx.b1 hx.b2)
    have HAT := Lib.hid (fun W (hW : Below w1.heap.size w1 W) => at_any x st lp i W (hx.below (HBZ.out.trans (hW.mono HBZ.out.size))) hi.1 hi.2)
    have HRA := Lib.hid (fun W (hW : Below w1.heap.size w1 W) => refAt_any x st lp i W (hx.below (HBZ.out.trans (hW.mono HBZ.out.size))) hi.1 hi.2)
    have HAW := Lib.hid (fun W (_ : Below w1.heap.size w1 W) => awake_any W)
    generalize chkF x.m = ck at HCK HRK
    generalize ((x.n + x.m : Nat) : Int) = ln at HLN HRL
    generalize atF st lp i = av at HAT HRA
    obtain ⟨A, n, c, B, m, d⟩ := x
    unfold WX.v at HHV HCK HRK HLN HRL HAT HRA ⊢
    dsimp only at HHV HCK HRK HLN HRL HAT HRA HS ⊢
    clear hX hx hh hi
    obtain ⟨y1, y2⟩ := HS.out w1 (Below.refl _ _)
    go_enter Try.func3, Try.ntmps3
    go_upto_region 1 with (fail)
    clear HW1
    go_wp2_with fail
    refine HHV.out.mono ?_
    rintro e2 w2 ⟨rfl, hb2⟩
    have HB0 : Hid (Below w1.heap.size w1 w2) := Lib.hid hb2
    clear hb2 y1 y2
    go_wp2_with fail
    go_region_held3 (fun W => W.cell? ⟨w.heap.size, 0, none⟩ = some (.slice A n c) ∧ W.cell? ⟨w.heap.size, 1, none⟩ = some (.slice B m d))
      (first | exact HS.out _ HB0.out | exact HS.out _ HB1.out | exact HS.out _ HB2.out | exact HS.out _ HB3.out | exact HS.out _ HB4.out | exact HS.out _ HB5.out | exact HS.out _ HB6.out | exact HS.out _ HB7.out | exact HS.out _ HB0.out.drew | exact HS.out _ HB1.out.drew | exact HS.out _ HB2.out.drew | exact HS.out _ HB3.out.drew | exact HS.out _ HB4.out.drew | exact HS.out _ HB5.out.drew | exact HS.out _ HB6.out.drew | exact HS.out _ HB7.out.drew | go_keep)
      (first
        | (have hk := HB6; go_at_call 9; refine (HAW.out _ (by first | exact HB6.out.drew | exact HB6.out)).mono ?_; rintro e26 w26 ⟨rfl, hb6⟩; have HB7 : Hid (Below w1.heap.size w1 w26) := Lib.hid (by first | exact HB6.out.drew.trans (hb6.mono HB6.out.size) | exact HB6.out.trans (hb6.mono HB6.out.size)); clear hb6)
        | (have hk := HB5; go_at_call 15; refine (HRA.out _ (by first | exact HB5.out.drew | exact HB5.out)).mono ?_; rintro e25 w25 ⟨rfl, hb5⟩; have HB6 : Hid (Below w1.heap.size w1 w25) := Lib.hid (by first | exact HB5.out.drew.trans (hb5.mono HB5.out.size) | exact HB5.out.trans (hb5.mono HB5.out.size)); clear hb5)
        | (have hk := HB4; go_at_call 14; refine (HAT.out _ (by first | exact HB4.out.drew | exact HB4.out)).mono ?_; rintro e24 w24 ⟨rfl, hb4⟩; have HB5 : Hid (Below w1.heap.size w1 w24) := Lib.hid (by first | exact HB4.out.drew.trans (hb4.mono HB4.out.size) | exact HB4.out.trans (hb4.mono HB4.out.size)); clear hb4)
        | (have hk := HB3; go_at_call 13; refine (HRL.out _ (by first | exact HB3.out.drew | exact HB3.out)).mono ?_; rintro e23 w23 ⟨rfl, hb3⟩; have HB4 : Hid (Below w1.heap.size w1 w23) := Lib.hid (by first | exact HB3.out.drew.trans (hb3.mono HB3.out.size) | exact HB3.out.trans (hb3.mono HB3.out.size)); clear hb3)
        | (have hk := HB2; go_at_call 12; refine (HLN.out _ (by first | exact HB2.out.drew | exact HB2.out)).mono ?_; rintro e22 w22 ⟨rfl, hb2⟩; have HB3 : Hid (Below w1.heap.size w1 w22) := Lib.hid (by first | exact HB2.out.drew.trans (hb2.mono HB2.out.size) | exact HB2.out.trans (hb2.mono HB2.out.size)); clear hb2)
        | (have hk := HB1; go_at_call 11; refine (HRK.out _ (by first | exact HB1.out.drew | exact HB1.out)).mono ?_; rintro e21 w21 ⟨rfl, hb1⟩; have HB2 : Hid (Below w1.heap.size w1 w21) := Lib.hid (by first | exact HB1.out.drew.trans (hb1.mono HB1.out.size) | exact HB1.out.trans (hb1.mono HB1.out.size)); clear hb1)
        | (have hk := HB0; go_at_call 10; refine (HCK.out _ (by first | exact HB0.out.drew | exact HB0.out)).mono ?_; rintro e20 w20 ⟨rfl, hb0⟩; have HB1 : Hid (Below w1.heap.size w1 w20) := Lib.hid (by first | exact HB0.out.drew.trans (hb0.mono HB0.out.size) | exact HB0.out.trans (hb0.mono HB0.out.size)); clear hb0)
        | fail)
    all_goals
      go_wp2
      go_ret
      exact ⟨rfl, HBZ.out.trans (HB7.out.mono HBZ.out.size)⟩
set_option maxRecDepth 100000 in
theorem lifted (os : Os) (started : os.Started) (H : Type) (enc : TypeId × Value → H) :
    ReturnsInHanded {} Try.checked os 3 .any (Rows.wordTellsSpec.pre6 enc Try.prog Try.f3 Rows.wordTellsRow.domain false) (Rows.wordTellsSpec.post enc Try.prog Try.f3 false true false false) := by
  refine law_lifted started [24, 3] rfl (by kernel_rfl) Try.func3 rfl (by decide +kernel) rfl (fun ds hl => by
    match ds, hl with
    | [_, _], _ => rfl) (ChangeSpec.witness6 (enc := enc) (C := Try.checked) false ⟨#[], #[.agg #[.slice none 0 0, .slice none 0 0], .int .i64 0], []⟩ 8 (by kernel_rfl) (by kernel_rfl) (by kernel_rfl) (by kernel_rfl)) ?_
  intro W base args ds ps hval hA hlt hsz
  obtain ⟨v0, vs0, d0, ds0, p0, q0, hargs, rfl, rfl, h0, r0⟩ := trodAll_cons hA
  obtain ⟨v1, vs1, d1, ds1, p1, q1, rfl, rfl, rfl, h1, r1⟩ := trodAll_cons r0
  obtain ⟨rfl, rfl, rfl⟩ := trodAll_nil r1
  obtain rfl : args = #[v0, v1] := by cases args; simp_all
  obtain ⟨x0, s0, l0, rfl, f0⟩ := wd.open_word_arg (hval 0 24 v0 rfl rfl) h0 hsz 0 rfl rfl
  obtain ⟨x1, rfl, rfl, rfl, w1⟩ := open_int Try.underlying3 (hval 1 3 v1 rfl rfl) h1
  exact walk x0 s0 l0 x1 W f0 (fits64 w1)

set_option maxRecDepth 100000 in
theorem over : Rows.wordTellsRow.holds Try.pinned (OpenSpec.ofChange Rows.wordTellsSpec) :=
  OpenClaim.holds_of_wide 3 Try.f3 rfl rfl rfl rfl rfl rfl rfl ⟨rfl, rfl, rfl, rfl, rfl⟩ rfl rfl rfl rfl rfl (by kernel_rfl) Try.func3 (by kernel_rfl)
    (of_decide_eq_true (by kernel_rfl)) (by unfold Func.isWrapper; first | (rw [if_pos (by decide +kernel)]; kernel_rfl) | (rw [if_neg (by decide +kernel)]; exact ⟨rfl, rfl⟩))
    (fun os started H enc _ => lifted os started H enc)

theorem proved : Rows.WordTellsSaid := over
#print axioms proved
end Go.Proofs.Ytjjeabonoajcbaa.wordTells
