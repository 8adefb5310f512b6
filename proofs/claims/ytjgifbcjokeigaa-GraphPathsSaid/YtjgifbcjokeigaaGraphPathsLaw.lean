/- The law GraphPaths: the shortest way from any nodes to any goal, and which of several it is. -/
import Derived.Test.YtjgifbcjokeigaaRefPath
import Derived.Test.YtjgifbcjokeigaaAwake
namespace Go.Proofs.Ytjgifbcjokeigaa.graphPaths
open Go.ChangeShapes Go.WideShapes Go.ChangeAt Go.RowKit Go.Shelf

set_option maxRecDepth 20000 in
set_option maxHeartbeats 8000000 in
theorem walk (v0 : Value) (Af Ag : Option Addr) (cf cg m gn : Nat) (from_ : List Int) (goal : List Bool) (w : World) (G : Gr) (g0 : GV w v0 G) (hm : m = from_.length) (hml : m ≤ 10000000000000000) (hS : IA w Af from_) (hg : gn = goal.length) (hgl : goal.length ≤ maxLen) (hG : BL w Ag goal) :
    Calls Try.prog 7 #[v0, .slice Af m cf, .slice Ag gn cg] w (LawPost w) := by
  obtain ⟨A1, c1, A2, c2, A3, c3, rfl, hGA⟩ := id g0
  have HRA := Lib.hid hGA.2.1.2.2
  clear hGA
  obtain ⟨n1, HN1⟩ : ∃ n, Hid (G.init.length = n) := ⟨_, Lib.hid rfl⟩
  obtain ⟨n, HN⟩ : ∃ n, Hid (G.rows.length = n) := ⟨_, Lib.hid rfl⟩
  obtain ⟨n3, HN3⟩ : ∃ n, Hid (G.labels.length = n) := ⟨_, Lib.hid rfl⟩
  have HGV0 := Lib.hid g0
  rw [HN1.out, HN.out, HN3.out] at HGV0 ⊢
  have HM := Lib.hid hm
  have HS := Lib.hid hS
  have HGN := Lib.hid hg
  have HGL := Lib.hid hgl
  have HG := Lib.hid hG
  have hgn : gn ≤ 9223372036854775807 := by rw [hg]; exact hgl
  obtain ⟨y0, HY0⟩ : ∃ y, Hid (heavyB G = y) := ⟨_, Lib.hid rfl⟩
  clear g0 hm hS hg hgl hG
  go_enter Try.func7, Try.ntmps7
  go_wp2_with fail
  have hbx := box3 w (.slice A1 n1 c1) (.slice A2 n c2) (.slice A3 n3 c3) 26
  have hB2 := below1 w (.cells #[.slice A1 n1 c1, .slice A2 n c2, .slice A3 n3 c3] 26)
  generalize (w.alloc (.cells #[.slice A1 n1 c1, .slice A2 n c2, .slice A3 n3 c3] 26)) = w2 at *
  have hbx : B3 w2 w.heap.size (.slice A1 n1 c1) (.slice A2 n c2) (.slice A3 n3 c3) := hbx
  have HB2 := Lib.hid hB2
  have HBX2 := Lib.hid hbx
  clear hB2 hbx
  refine (heavy_any (HGV0.out.below HB2.out)).mono ?_
  rw [HY0.out]
  rintro e w3 ⟨rfl, hb3⟩
  have HB3 : Hid (Below w.heap.size w w3) := Lib.hid (HB2.out.trans (hb3.mono HB2.out.size))
  have HBX3 := Lib.hid (HBX2.out.below hb3)
  clear hb3 HBX2 HB2
  by_cases hy : y0 = true ∨ 100 < m ∨ 400 < gn
  · have hgo : ∀ W, Below w3.heap.size w3 W → Calls Try.prog 16 #[] W (BoolP true W) := fun W _ => awake_any W
    have HGO := Lib.hid hgo
    clear hgo
    cases y0 with
    | true =>
      clear hy
      go_wp2_with fail
      refine (HGO.out _ (Below.refl _ _)).mono ?_
      rintro e w4 ⟨rfl, hb4⟩
      go_wp2
      go_ret
      exact ⟨rfl, HB3.out.trans (hb4.mono HB3.out.size)⟩
    | false =>
      by_cases h1 : 100 < m
      · have hd : decide ((100 : Int) < (m : Int)) = true := decide_eq_true (by omega)
        clear hy
        go_wp2_with fail
        refine (HGO.out _ (Below.refl _ _)).mono ?_
        rintro e w4 ⟨rfl, hb4⟩
        go_wp2
        go_ret
        exact ⟨rfl, HB3.out.trans (hb4.mono HB3.out.size)⟩
      · have hd : decide ((100 : Int) < (m : Int)) = false := decide_eq_false (by omega)
        have h2 : 400 < gn := by rcases hy with h | h | h; cases h; exact absurd h h1; exact h
        have hd2 : decide ((400 : Int) < (gn : Int)) = true := decide_eq_true (by omega)
        clear hy
        go_wp2_with fail
        refine (HGO.out _ (Below.refl _ _)).mono ?_
        rintro e w4 ⟨rfl, hb4⟩
        go_wp2
        go_ret
        exact ⟨rfl, HB3.out.trans (hb4.mono HB3.out.size)⟩
  · obtain rfl : y0 = false := by cases y0; rfl; exact absurd (.inl rfl) hy
    have hm100 : m ≤ 100 := by omega
    have h2 : gn ≤ 400 := by omega
    have hd : decide ((100 : Int) < (m : Int)) = false := decide_eq_false (by omega)
    have hd2 : decide ((400 : Int) < (gn : Int)) = false := decide_eq_false (by omega)
    obtain ⟨hn200, hi200, hl400, hr50⟩ := heavy_not HY0.out
    rw [HN.out] at hn200
    have HROW : Hid (∀ i, (G.rows.getD i []).length ≤ 50) := Lib.hid (fun i => by
      by_cases hi : i < G.rows.length
      · have e : G.rows.getD i [] = G.rows[i] := by simp [List.getD, hi]
        rw [e]; exact hr50 _ (List.getElem_mem hi)
      · have e : G.rows.getD i [] = [] := by simp [List.getD, List.getElem?_eq_none (show G.rows.length ≤ i by omega)]
        rw [e]; exact Nat.zero_le _)
    clear hy hr50
    obtain ⟨q0, q1, q2⟩ := HBX3.out
    go_wp2_with fail
    clear q0 q1 q2
    refine (path_any (HGV0.out.below HB3.out) Af m cf from_ Ag gn cg goal (by rw [HN.out]; omega) (fun i => Nat.le_trans (HROW.out i) (by omega)) HM.out (by omega) (HS.out.below HB3.out) HGN.out HGL.out (HG.out.below HB3.out)).mono ?_
    obtain ⟨L, HL⟩ : ∃ L, Hid (pathL G.rows from_ goal = L) := ⟨_, Lib.hid rfl⟩
    rw [HL.out]
    rintro e w4 ⟨AL, cL, he4, hi4, hl4, hc4, hb4⟩
    have HB4 : Hid (Below w.heap.size w w4) := Lib.hid (HB3.out.trans (hb4.mono HB3.out.size))
    have HBX4 := Lib.hid (HBX3.out.below hb4)
    have HI4 := Lib.hid hi4
    obtain ⟨l, HLN⟩ : ∃ l, Hid (L.length = l) := ⟨_, Lib.hid rfl⟩
    have he4' : e = .returned (.tuple #[.slice AL l cL, .bool (decide (0 < l))]) := by rw [he4, HLN.out]
    subst he4'
    have hlm : L.length ≤ maxLen := by omega
    have HLM := Lib.hid hlm
    obtain ⟨y1, HY1⟩ : ∃ y, Hid (decide (0 < l) = y) := ⟨_, Lib.hid rfl⟩
    rw [HY1.out]
    clear he4 hi4 hl4 hc4 hb4 hlm HBX3
    obtain ⟨q0, q1, q2⟩ := HBX4.out
    go_wp2_with fail
    clear q0 q1 q2
    refine (refPath_any A1 A2 A3 n1 n n3 c1 c2 c3 G Af m cf from_ Ag gn cg goal _ (HGV0.out.below HB4.out) HN.out.symm (by omega) (fun i => Nat.le_trans (HROW.out i) (by omega)) (by omega) (by omega) HM.out (by omega) (HS.out.below HB4.out) HGN.out HGL.out (HG.out.below HB4.out)).mono ?_
    rw [HL.out]
    rintro e w5 ⟨BL', dL, he5, hi5, _, _, hb5⟩
    have HB5 : Hid (Below w.heap.size w w5) := Lib.hid (HB4.out.trans (hb5.mono HB4.out.size))
    have HI4 := Lib.hid (HI4.out.below hb5)
    have HI5 := Lib.hid hi5
    have he5' : e = .returned (.tuple #[.slice BL' l dL, .bool y1]) := by rw [he5, HLN.out, HY1.out]
    subst he5'
    clear he5 hi5 hb5 HB4
    go_wp2_with fail
    refine (lawInts_any AL BL' cL dL l l L L _ HLN.out.symm HLN.out.symm HI4.out HI5.out HLM.out HLM.out).mono ?_
    rw [show eqB L L = true from decide_eq_true rfl]
    rintro e w6 ⟨rfl, nq, rfl⟩
    have hyy : (y1 == y1) = true := by simp
    go_wp2_with fail
    refine (awake_any _).mono ?_
    rintro e w7 ⟨rfl, hb7⟩
    go_wp2
    go_ret
    exact ⟨rfl, HB5.out.trans (((below_drewN (Below.refl _ _) nq).trans (hb7.mono (Nat.le_refl _))).mono HB5.out.size)⟩

set_option maxRecDepth 100000 in
theorem lifted (os : Os) (started : os.Started) (H : Type) (enc : TypeId × Value → H) :
    ReturnsInHanded {} Try.checked os 7 .any (Rows.graphPathsSpec.pre6 enc Try.prog Try.f7 Rows.graphPathsRow.domain false) (Rows.graphPathsSpec.post enc Try.prog Try.f7 false true false false) := by
  refine law_lifted started [26, 22, 33] rfl (by kernel_rfl) Try.func7 rfl (by decide +kernel) rfl (fun ds hl => by
    match ds, hl with
    | [_, _, _], _ => rfl) (ChangeSpec.witness6 (enc := enc) (C := Try.checked) false ⟨#[], #[.agg #[.slice none 0 0, .slice none 0 0, .slice none 0 0], .slice none 0 0, .slice none 0 0], []⟩ 8 (by kernel_rfl) (by kernel_rfl) (by kernel_rfl) (by kernel_rfl)) ?_
  intro W base args ds ps hval hA hlt hsz
  obtain ⟨v0, vs0, d0, ds0, p0, q0, hargs, rfl, rfl, h0, r0⟩ := trodAll_cons hA
  obtain ⟨v1, vs1, d1, ds1, p1, q1, rfl, rfl, rfl, h1, r1⟩ := trodAll_cons r0
  obtain ⟨v2, vs2, d2, ds2, p2, q2, rfl, rfl, rfl, h2, r2⟩ := trodAll_cons r1
  obtain ⟨rfl, rfl, rfl⟩ := trodAll_nil r2
  obtain rfl : args = #[v0, v1, v2] := by cases args; simp_all
  obtain ⟨G0, g0, f0⟩ := open_graph_arg (hval 0 26 v0 rfl rfl) h0
  obtain ⟨A1, c1, x1, rfl, b1, i1, z1⟩ := open_ints_arg (hval 1 22 v1 rfl rfl) h1 hsz 1 rfl rfl
  obtain ⟨A2, c2, l2, rfl, q2, m2, i2⟩ := open_bools_arg (hval 2 33 v2 rfl rfl) h2
  exact walk v0 A1 A2 c1 c2 _ _ x1 l2 W G0 g0 rfl (by omega) i1 rfl (by omega) i2

set_option maxRecDepth 100000 in
theorem over : Rows.graphPathsRow.holds Try.pinned (OpenSpec.ofChange Rows.graphPathsSpec) :=
  OpenClaim.holds_of_wide 7 Try.f7 rfl rfl rfl rfl rfl rfl rfl ⟨rfl, rfl, rfl, rfl, rfl⟩ rfl rfl rfl rfl rfl (by kernel_rfl) Try.func7 (by kernel_rfl)
    (of_decide_eq_true (by kernel_rfl)) (by unfold Func.isWrapper; first | (rw [if_pos (by decide +kernel)]; kernel_rfl) | (rw [if_neg (by decide +kernel)]; exact ⟨rfl, rfl⟩))
    (fun os started H enc _ => lifted os started H enc)

theorem proved : Rows.GraphPathsSaid := over
#print axioms proved
end Go.Proofs.Ytjgifbcjokeigaa.graphPaths
