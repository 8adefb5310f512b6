/- The law DeclParts: its part V. -/
import Derived.Test.YtodloljpfbkkjaaRRRRDeclPartsIf
namespace Go.Proofs.YtodloljpfbkkjaaRRRR.declParts
open Go.ChangeShapes Go.WideShapes Go.ChangeAt Go.RowKit Go.Proofs.YtodloljpfbkkjaaRRRR.dcl

set_option maxRecDepth 100000 in
set_option maxHeartbeats 8000000 in
theorem partV (XA : Option Addr) (xm xc : Nat) (s : List ScR) (l : List VarR) (A : Option Addr) (c m : Nat) (C : List ChR) (AC : Option Addr) (cC mC : Nat) (an : Nat) (w : World) (HS : Hid (SL w ⟨XA, xm, xc⟩ s)) (HM : Hid (m = l.length)) (hmm : m ≤ 1000000000000000) (HA : Hid (DV w A l)) (HN : Hid (∀ x ∈ l, x.name.size ≤ maxLen)) (HSN : Hid (∀ x ∈ s, x.name.size ≤ maxLen)) (HMC : Hid (mC = C.length)) (hmmC : mC ≤ 1000000000000000) (HAC : Hid (DC w AC C)) (HNC : Hid (∀ x ∈ C, x.name.size ≤ maxLen)) (HAT : Hid (an ≤ 255)) (HCAP : Hid (m ≤ c)) (HCAPS : Hid (xm ≤ xc)) (HCAPC : Hid (mC ≤ cC)) (HSM : Hid (xm = s.length)) (hsm : xm ≤ 1000000000000000) (hl : ¬ 30 < m) (hl2 : ¬ 30 < xm) (hl3 : ¬ 30 < mC) (r1 r2 q1 q2 t1 t2 : Int) (HR : Hid (varsF s 12 l = (r1, r2))) (HQ : Hid (scalarsF s = (q1, q2))) (HT : Hid (chansF s C = (t1, t2)))
    (bv : Bool) (HBV : Hid (bv = (decide (r2 = 0) && decide (0 < m)))) (w3 : World) (HB3 : Hid (Below w.heap.size w w3)) (u15 u16 u17 u18 u19 u20 u21 u22 u23 u24 u25 u26 u27 u28 u29 u30 u31 u32 u33 u34 u35 u36 u37 u38 u39 u40 u41 u42 u43 u44 u45 u46 u47 u48 u49 u50 u51 u52 u53 u54 u55 u56 u57 u58 u59 u60 u61 u62 u63 u65 u66 u67 u68 u69 u70 u71 u72 u73 u74 u75 u76 u77 u78 u79 u80 u81 u82 u83 u84 u85 u86 u87 u88 u89 u90 u91 u92 u93 u94 u95 u96 u97 u98 u99 u100 u101 u102 u103 u104 u105 u106 u107 u108 u109 u110 u111 u112 u113 u114 u115 u116 u117 u118 u119 u120 u121 u122 u123 u124 u125 u126 u127 u128 u129 u130 u131 u132 u133 u134 u135 u136 u137 u138 u139 u140 u141 u142 u143 u144 u145 u146 u147 u148 u149 u150 u151 u152 u153 u154 u155 u156 u157 u158 u159 u160 u161 u162 u163 u164 u165 u166 u167 u168 u169 u170 u171 u172 u173 u174 u175 u176 u177 u178 u179 u180 u181 u182 u183 u184 u185 u186 u187 u188 u189 u190 u191 u192 u193 u194 u195 u196 u197 u198 u199 u200 u201 u202 u203 u204 u205 u206 u207 u208 u209 u210 u211 : Value) (cd : Code) (hcd : (Try.f5.body.bind (findIf 64)) = some cd) (K : Act → World → Prop) (Q : Exit → Act → World → Prop)
    (HK : Hid (∀ (v15 v16 v17 v18 v19 v20 v21 v22 v23 v24 v25 v26 v27 v28 v29 v30 v31 v32 v33 v34 v35 v36 v37 v38 v39 v40 v41 v42 v43 v44 v45 v46 v47 v48 v49 v50 v51 v52 v53 v54 v55 v56 v57 v58 v59 v60 v61 v62 v63 v64 v65 v66 v67 v68 v69 v70 v71 v72 v73 v74 v75 v76 v77 v78 v79 v80 v81 v82 v83 v84 v85 v86 v87 v88 v89 v90 v91 v92 v93 v94 v95 v96 v97 v98 v99 v100 v101 v102 v103 v104 v105 v106 v107 v108 v109 v110 v111 v112 v113 v114 v115 v116 v117 v118 v119 v120 v121 v122 v123 v124 v125 v126 v127 v128 v129 v130 v131 v132 v133 v134 v135 v136 v137 v138 v139 v140 v141 v142 v143 v144 v145 v146 v147 v148 v149 v150 v151 v152 v153 v154 v155 v156 v157 v158 v159 v160 v161 v162 v163 v164 v165 v166 v167 v168 v169 v170 v171 v172 v173 v174 v175 v176 v177 v178 v179 v180 v181 v182 v183 v184 v185 v186 v187 v188 v189 v190 v191 v192 v193 v194 v195 v196 v197 v198 v199 v200 v201 v202 v203 v204 v205 v206 v207 v208 v209 v210 v211 : Value) (w' : World), Hid (Below w.heap.size w w') → K { tmps := #[.slice A m c, .slice XA xm xc, .slice AC mC cC, .int .u8 an, undef, undef, undef, undef, .bool false, .int .i64 r1, .int .i64 r2, .int .i64 q1, .int .i64 q2, .int .i64 t1, .int .i64 t2, v15, v16, v17, v18, v19, v20, v21, v22, v23, v24, v25, v26, v27, v28, v29, v30, v31, v32, v33, v34, v35, v36, v37, v38, v39, v40, v41, v42, v43, v44, v45, v46, v47, v48, v49, v50, v51, v52, v53, v54, v55, v56, v57, v58, v59, v60, v61, v62, v63, v64, v65, v66, v67, v68, v69, v70, v71, v72, v73, v74, v75, v76, v77, v78, v79, v80, v81, v82, v83, v84, v85, v86, v87, v88, v89, v90, v91, v92, v93, v94, v95, v96, v97, v98, v99, v100, v101, v102, v103, v104, v105, v106, v107, v108, v109, v110, v111, v112, v113, v114, v115, v116, v117, v118, v119, v120, v121, v122, v123, v124, v125, v126, v127, v128, v129, v130, v131, v132, v133, v134, v135, v136, v137, v138, v139, v140, v141, v142, v143, v144, v145, v146, v147, v148, v149, v150, v151, v152, v153, v154, v155, v156, v157, v158, v159, v160, v161, v162, v163, v164, v165, v166, v167, v168, v169, v170, v171, v172, v173, v174, v175, v176, v177, v178, v179, v180, v181, v182, v183, v184, v185, v186, v187, v188, v189, v190, v191, v192, v193, v194, v195, v196, v197, v198, v199, v200, v201, v202, v203, v204, v205, v206, v207, v208, v209, v210, v211], defers := [] } w')) :
    Code.wp Try.prog cd (Exit.then K Q) { tmps := #[.slice A m c, .slice XA xm xc, .slice AC mC cC, .int .u8 an, undef, undef, undef, undef, .bool false, .int .i64 r1, .int .i64 r2, .int .i64 q1, .int .i64 q2, .int .i64 t1, .int .i64 t2, u15, u16, u17, u18, u19, u20, u21, u22, u23, u24, u25, u26, u27, u28, u29, u30, u31, u32, u33, u34, u35, u36, u37, u38, u39, u40, u41, u42, u43, u44, u45, u46, u47, u48, u49, u50, u51, u52, u53, u54, u55, u56, u57, u58, u59, u60, u61, u62, u63, .bool bv, u65, u66, u67, u68, u69, u70, u71, u72, u73, u74, u75, u76, u77, u78, u79, u80, u81, u82, u83, u84, u85, u86, u87, u88, u89, u90, u91, u92, u93, u94, u95, u96, u97, u98, u99, u100, u101, u102, u103, u104, u105, u106, u107, u108, u109, u110, u111, u112, u113, u114, u115, u116, u117, u118, u119, u120, u121, u122, u123, u124, u125, u126, u127, u128, u129, u130, u131, u132, u133, u134, u135, u136, u137, u138, u139, u140, u141, u142, u143, u144, u145, u146, u147, u148, u149, u150, u151, u152, u153, u154, u155, u156, u157, u158, u159, u160, u161, u162, u163, u164, u165, u166, u167, u168, u169, u170, u171, u172, u173, u174, u175, u176, u177, u178, u179, u180, u181, u182, u183, u184, u185, u186, u187, u188, u189, u190, u191, u192, u193, u194, u195, u196, u197, u198, u199, u200, u201, u202, u203, u204, u205, u206, u207, u208, u209, u210, u211], defers := [] } w3 := by
  have e : some cd = some _ := hcd.symm.trans (show Try.f5.body.bind (findIf 64) = some _ from rfl)
  injection e with e
  subst e
  clear hcd
  go_upto_if 64 with (fail)
  cases bv with
  | true =>
    obtain ⟨rfl, hm0⟩ : r2 = 0 ∧ 0 < m := by have := HBV.out; simpa using this.symm
    obtain ⟨m', HM1⟩ : ∃ m' : Nat, Hid (m = m' + 1) := ⟨m - 1, Lib.hid (by omega)⟩
    have HP1 : Hid ((varsF s 12 (l.take m')).2 = 0) := Lib.hid (vars_take m' (by rw [HR.out]))
    obtain ⟨p1, p2, HPP⟩ : ∃ p1 p2, Hid (varsF s 12 (l.take m') = (p1, p2)) := ⟨_, _, Lib.hid rfl⟩
    obtain rfl : p2 = 0 := by have := HP1.out; rw [HPP.out] at this; exact this
    have hw1 : IntKind.i64.wrap ((m : Int) - 1) = (m' : Int) := (IntWalk.i64_in _ (by have := HM1.out; omega)).trans (by have := HM1.out; omega)
    have hw2 : (m' : Int) ≤ (c : Int) := by have := HM1.out; have := HCAP.out; omega
    have hw3 : (0 : Int) ≤ (m' : Int) := by omega
    have HLT : Hid (m' = (l.take m').length) := Lib.hid (by rw [List.length_take, ← HM.out, HM1.out]; omega)
    go_wp2_with fail
    refine (vars_any ⟨XA, xm, xc⟩ s (l.take m') A c m' 12 w3 (HS.out.below HB3.out) HLT.out (by have := HM1.out; omega) ((HA.out.below HB3.out).rs.take m').dv (fun x hx => HN.out x (List.mem_of_mem_take hx))).mono ?_
    rw [HPP.out]
    rintro e w4 ⟨rfl, hb4⟩
    have HB4 := Lib.hid (bthen HB3.out hb4)
    clear hb4
    go_upto_region 8 with (fail)
    obtain ⟨i, hi1, hi⟩ : ∃ i : Nat, an % m = i ∧ i < m := ⟨_, rfl, Nat.mod_lt _ hm0⟩
    have HRS4 := Lib.hid (HA.out.below HB4.out).rs
    obtain ⟨bL, oL, hAA, hbL, hcL⟩ := (HA.out.below HB4.out) (by rw [← HM.out]; exact hm0)
    obtain ⟨g0, g1, g2, g3, g4, g5⟩ := hcL i (by rw [← HM.out]; exact hi)
    have HX : Hid (l.getD i default ∈ l) := Lib.hid (by rw [show l.getD i default = l[i]'(by rw [← HM.out]; exact hi) by simp [List.getD, show i < l.length by rw [← HM.out]; exact hi]]; exact List.getElem_mem _)
    obtain ⟨x, HXX⟩ : ∃ x, Hid (l.getD i default = x) := ⟨_, Lib.hid rfl⟩
    rw [HXX.out] at g0 g1 g2 g3 g4 g5 HX
    obtain ⟨x0, x1, x2, x3, x4, x5⟩ := x
    simp only at g0 g1 g2 g3 g4 g5
    have HTW : Hid (varsF s 13 (l ++ [(⟨x0, x1, x2, x3, x4, x5⟩ : VarR)]) = ((m : Int), 7)) := Lib.hid (by rw [vars_twice (by rw [HR.out]) HX.out, HM.out])
    have HNN : Hid (∀ z ∈ l ++ [(⟨x0, x1, x2, x3, x4, x5⟩ : VarR)], z.name.size ≤ maxLen) := Lib.hid (fun z hz => by
      rcases List.mem_append.1 hz with hz | hz
      · exact HN.out z hz
      · rw [List.mem_singleton] at hz
        subst hz
        exact HN.out _ HX.out)
    obtain ⟨N, HN1⟩ : ∃ N : Nat, Hid (l.length + 1 = N) := ⟨_, Lib.hid rfl⟩
    have hNs : N ≤ 1000000000000000 := by have := HN1.out; have := HM.out; omega
    have hi2 : (an : Int) % (m : Int) = (i : Int) := by rw [← hi1]; simp
    have hi3 : (an : Int).tmod (m : Int) = (i : Int) := by rw [Int.tmod_eq_emod_of_nonneg (by omega)]; exact hi2
    have hwa : IntKind.i64.wrap (an : Int) = (an : Int) := IntWalk.i64_in _ (by have := HAT.out; omega)
    have hwi : IntKind.i64.wrap (i : Int) = (i : Int) := IntWalk.i64_in _ (by omega)
    have hi0 : (0 : Int) ≤ (i : Int) := by omega
    have hi9 : (i : Int) < (m : Int) := by omega
    have hm31 : m ≤ 31 := by omega
    have hmN : ¬ (m : Int) = 0 := by omega
    have hmN2 : ((m : Int) == 0) = false := by simpa using hmN
    have hmN3 : ¬ m = 0 := by omega
    subst hAA
    clear hcL
    go_cut [17, 18] from 300 (fun k1 k2 w' => k1 = .int .i64 m ∧ k2 = .int .i64 7 ∧ Hid (Below w.heap.size w w'))
    case first =>
      go_region_held3 (fun w' => w'.cell? ⟨bL, oL + i * 6, none⟩ = some (.string x0) ∧ w'.cell? ⟨bL, oL + i * 6 + 1, none⟩ = some (.int .i64 x1) ∧ w'.cell? ⟨bL, oL + i * 6 + 2, none⟩ = some (.int .i64 x2) ∧ w'.cell? ⟨bL, oL + i * 6 + 3, none⟩ = some (.int .i64 x3) ∧ w'.cell? ⟨bL, oL + i * 6 + 4, none⟩ = some (.int .i64 x4) ∧ w'.cell? ⟨bL, oL + i * 6 + 5, none⟩ = some (.int .i64 x5))
        (first | exact ⟨g0, g1, g2, g3, g4, g5⟩ | exact ⟨k0, k1, k2, k3, k4, k5⟩ | exact ⟨j0, j1, j2, j3, j4, j5⟩ | exact ⟨q0, q1, q2, q3, q4, q5⟩ | go_keep)
        (first
          | (refine step_append_first encV_len encV_one Try.underlying24 infoV rfl (by decide) (by decide) w4.heap.size _ (by rfl) (.tmp 76) (.tmp 77) (by rfl) (by rfl) (by rfl) l _ m c (by rfl) HM.out hm0 (HRS4.out.below (by first | exact (below_alloc1 _ _).drew | exact (below2 _ _ _).drew)) (by omega) (by first | omega | (simp; omega) | simp) (by first | exact World.alloc_heap_new _ _ | exact heap_prev _ _ _ | exact heap_next _ _ _) ?_; intro v5 w5 ho5 hg5; have HO5 := Lib.hid ho5; have HG5 := Lib.hid hg5; have HB5 := Lib.hid (below_far (w4 := w4) (by first | exact (below_alloc1 _ _).drew | exact (below2 _ _ _).drew) hg5 (by first | omega | (simp; omega) | simp)); have k0 := far_cell (w4 := w4) (o := oL + i * 6) (by first | exact (below_alloc1 _ _).drew | exact (below2 _ _ _).drew) hg5 (by first | omega | (simp; omega) | simp) hbL g0; have k1 := far_cell (w4 := w4) (o := oL + i * 6 + 1) (by first | exact (below_alloc1 _ _).drew | exact (below2 _ _ _).drew) hg5 (by first | omega | (simp; omega) | simp) hbL g1; have k2 := far_cell (w4 := w4) (o := oL + i * 6 + 2) (by first | exact (below_alloc1 _ _).drew | exact (below2 _ _ _).drew) hg5 (by first | omega | (simp; omega) | simp) hbL g2; have k3 := far_cell (w4 := w4) (o := oL + i * 6 + 3) (by first | exact (below_alloc1 _ _).drew | exact (below2 _ _ _).drew) hg5 (by first | omega | (simp; omega) | simp) hbL g3; have k4 := far_cell (w4 := w4) (o := oL + i * 6 + 4) (by first | exact (below_alloc1 _ _).drew | exact (below2 _ _ _).drew) hg5 (by first | omega | (simp; omega) | simp) hbL g4; have k5 := far_cell (w4 := w4) (o := oL + i * 6 + 5) (by first | exact (below_alloc1 _ _).drew | exact (below2 _ _ _).drew) hg5 (by first | omega | (simp; omega) | simp) hbL g5; clear ho5 hg5)
          | (refine step_append_more encV_len encV_one Try.underlying24 infoV rfl (by decide) (by decide) w4.heap.size _ (by rfl) (.tmp 78) (.tmp 87) (by rfl) (by rfl) v5 l (by rfl) (by first | exact HO5.out | exact World.ownsRow.alloc HO5.out _) (⟨x0, x1, x2, x3, x4, x5⟩ : VarR) _ (by rfl) (by rfl) (by have := HM.out; omega) (by first | exact HB5.out.size | (have := HB5.out.size; simp; omega)) _ (by first | exact World.alloc_heap_new _ _ | exact (HG5.out.block _ (by first | (simp; done) | (simp; omega)) (by first | (simp; done) | (simp; omega))).trans (heap_next _ _ _) | exact (HG5.out.block _ (by first | (simp; done) | (simp; omega)) (by first | (simp; done) | (simp; omega))).trans (heap_prev _ _ _)) N HN1.out ?_; intro A6 c6 w6 hr6 hb6; have HR6 := Lib.hid hr6; have HB6 : Hid (Below w4.heap.size w4 w6) := Lib.hid (by first | exact HB5.out.trans hb6 | exact (HB5.out.alloc HB5.out.size _).trans hb6); have j0 := (HB6.out.cell (p := ⟨bL, oL + i * 6, none⟩) hbL).trans g0; have j1 := (HB6.out.cell (p := ⟨bL, oL + i * 6 + 1, none⟩) hbL).trans g1; have j2 := (HB6.out.cell (p := ⟨bL, oL + i * 6 + 2, none⟩) hbL).trans g2; have j3 := (HB6.out.cell (p := ⟨bL, oL + i * 6 + 3, none⟩) hbL).trans g3; have j4 := (HB6.out.cell (p := ⟨bL, oL + i * 6 + 4, none⟩) hbL).trans g4; have j5 := (HB6.out.cell (p := ⟨bL, oL + i * 6 + 5, none⟩) hbL).trans g5; clear hr6 hb6)
          | (go_at_call 14; refine (vars_any ⟨XA, xm, xc⟩ s (l ++ [(⟨x0, x1, x2, x3, x4, x5⟩ : VarR)]) A6 c6 N 13 w6 (HS.out.below (bthen HB4.out HB6.out)) (by rw [List.length_append]; exact HN1.out.symm) hNs HR6.out.dv HNN.out).mono ?_; rw [HTW.out]; rintro e w7 ⟨rfl, hb7⟩; have HB7 : Hid (Below w.heap.size w w7) := Lib.hid (bthen HB4.out (bthen HB6.out hb7)); have q0 := (hb7.cell (p := ⟨bL, oL + i * 6, none⟩) (Nat.lt_of_lt_of_le hbL HB6.out.size)).trans j0; have q1 := (hb7.cell (p := ⟨bL, oL + i * 6 + 1, none⟩) (Nat.lt_of_lt_of_le hbL HB6.out.size)).trans j1; have q2 := (hb7.cell (p := ⟨bL, oL + i * 6 + 2, none⟩) (Nat.lt_of_lt_of_le hbL HB6.out.size)).trans j2; have q3 := (hb7.cell (p := ⟨bL, oL + i * 6 + 3, none⟩) (Nat.lt_of_lt_of_le hbL HB6.out.size)).trans j3; have q4 := (hb7.cell (p := ⟨bL, oL + i * 6 + 4, none⟩) (Nat.lt_of_lt_of_le hbL HB6.out.size)).trans j4; have q5 := (hb7.cell (p := ⟨bL, oL + i * 6 + 5, none⟩) (Nat.lt_of_lt_of_le hbL HB6.out.size)).trans j5; clear hb7))
      all_goals
        go_wp2
        go_meet
        case rel => exact ⟨rfl, rfl, HB7⟩
    case rest =>
      obtain ⟨rfl, rfl, HB9⟩ := hcut
      go_wp2
      exact HK.out _ _ _ _ _ _ _ _ _ _ _ _ _ _ _ _ _ _ _ _ _ _ _ _ _ _ _ _ _ _ _ _ _ _ _ _ _ _ _ _ _ _ _ _ _ _ _ _ _ _ _ _ _ _ _ _ _ _ _ _ _ _ _ _ _ _ _ _ _ _ _ _ _ _ _ _ _ _ _ _ _ _ _ _ _ _ _ _ _ _ _ _ _ _ _ _ _ _ _ _ _ _ _ _ _ _ _ _ _ _ _ _ _ _ _ _ _ _ _ _ _ _ _ _ _ _ _ _ _ _ _ _ _ _ _ _ _ _ _ _ _ _ _ _ _ _ _ _ _ _ _ _ _ _ _ _ _ _ _ _ _ _ _ _ _ _ _ _ _ _ _ _ _ _ _ _ _ _ _ _ _ _ _ _ _ _ _ _ _ _ _ _ _ _ _ _ _ _ HB9
  | false =>
    go_wp2
    exact HK.out _ _ _ _ _ _ _ _ _ _ _ _ _ _ _ _ _ _ _ _ _ _ _ _ _ _ _ _ _ _ _ _ _ _ _ _ _ _ _ _ _ _ _ _ _ _ _ _ _ _ _ _ _ _ _ _ _ _ _ _ _ _ _ _ _ _ _ _ _ _ _ _ _ _ _ _ _ _ _ _ _ _ _ _ _ _ _ _ _ _ _ _ _ _ _ _ _ _ _ _ _ _ _ _ _ _ _ _ _ _ _ _ _ _ _ _ _ _ _ _ _ _ _ _ _ _ _ _ _ _ _ _ _ _ _ _ _ _ _ _ _ _ _ _ _ _ _ _ _ _ _ _ _ _ _ _ _ _ _ _ _ _ _ _ _ _ _ _ _ _ _ _ _ _ _ _ _ _ _ _ _ _ _ _ _ _ _ _ _ _ _ _ _ _ _ _ _ _ HB3

end Go.Proofs.YtodloljpfbkkjaaRRRR.declParts
