/- The law DeclParts: its part S. -/
import Derived.Test.YtodloljpfbkkjaaRRRRDeclPartsIf
namespace Go.Proofs.YtodloljpfbkkjaaRRRR.declParts
open Go.ChangeShapes Go.WideShapes Go.ChangeAt Go.RowKit Go.Proofs.YtodloljpfbkkjaaRRRR.dcl

set_option maxRecDepth 100000 in
set_option maxHeartbeats 8000000 in
theorem partS (XA : Option Addr) (xm xc : Nat) (s : List ScR) (l : List VarR) (A : Option Addr) (c m : Nat) (C : List ChR) (AC : Option Addr) (cC mC : Nat) (an : Nat) (w : World) (HS : Hid (SL w ⟨XA, xm, xc⟩ s)) (HM : Hid (m = l.length)) (hmm : m ≤ 1000000000000000) (HA : Hid (DV w A l)) (HN : Hid (∀ x ∈ l, x.name.size ≤ maxLen)) (HSN : Hid (∀ x ∈ s, x.name.size ≤ maxLen)) (HMC : Hid (mC = C.length)) (hmmC : mC ≤ 1000000000000000) (HAC : Hid (DC w AC C)) (HNC : Hid (∀ x ∈ C, x.name.size ≤ maxLen)) (HAT : Hid (an ≤ 255)) (HCAP : Hid (m ≤ c)) (HCAPS : Hid (xm ≤ xc)) (HCAPC : Hid (mC ≤ cC)) (HSM : Hid (xm = s.length)) (hsm : xm ≤ 1000000000000000) (hl : ¬ 30 < m) (hl2 : ¬ 30 < xm) (hl3 : ¬ 30 < mC) (r1 r2 q1 q2 t1 t2 : Int) (HR : Hid (varsF s 12 l = (r1, r2))) (HQ : Hid (scalarsF s = (q1, q2))) (HT : Hid (chansF s C = (t1, t2)))
    (bv : Bool) (HBV : Hid (bv = (decide (q2 = 0) && decide (0 < xm)))) (w3 : World) (HB3 : Hid (Below w.heap.size w w3)) (u15 u16 u17 u18 u19 u20 u21 u22 u23 u24 u25 u26 u27 u28 u29 u30 u31 u32 u33 u34 u35 u36 u37 u38 u39 u40 u41 u42 u43 u44 u45 u46 u47 u48 u49 u50 u51 u52 u53 u54 u55 u56 u57 u58 u59 u60 u61 u62 u63 u64 u65 u66 u67 u68 u69 u70 u71 u72 u73 u74 u75 u76 u77 u78 u79 u80 u81 u82 u83 u84 u85 u86 u87 u88 u89 u90 u91 u92 u93 u94 u95 u96 u97 u98 u99 u100 u101 u102 u103 u104 u105 u106 u107 u108 u109 u110 u112 u113 u114 u115 u116 u117 u118 u119 u120 u121 u122 u123 u124 u125 u126 u127 u128 u129 u130 u131 u132 u133 u134 u135 u136 u137 u138 u139 u140 u141 u142 u143 u144 u145 u146 u147 u148 u149 u150 u151 u152 u153 u154 u155 u156 u157 u158 u159 u160 u161 u162 u163 u164 u165 u166 u167 u168 u169 u170 u171 u172 u173 u174 u175 u176 u177 u178 u179 u180 u181 u182 u183 u184 u185 u186 u187 u188 u189 u190 u191 u192 u193 u194 u195 u196 u197 u198 u199 u200 u201 u202 u203 u204 u205 u206 u207 u208 u209 u210 u211 : Value) (cd : Code) (hcd : (Try.f5.body.bind (findIf 111)) = some cd) (K : Act → World → Prop) (Q : Exit → Act → World → Prop)
    (HK : Hid (∀ (v15 v16 v17 v18 v19 v20 v21 v22 v23 v24 v25 v26 v27 v28 v29 v30 v31 v32 v33 v34 v35 v36 v37 v38 v39 v40 v41 v42 v43 v44 v45 v46 v47 v48 v49 v50 v51 v52 v53 v54 v55 v56 v57 v58 v59 v60 v61 v62 v63 v64 v65 v66 v67 v68 v69 v70 v71 v72 v73 v74 v75 v76 v77 v78 v79 v80 v81 v82 v83 v84 v85 v86 v87 v88 v89 v90 v91 v92 v93 v94 v95 v96 v97 v98 v99 v100 v101 v102 v103 v104 v105 v106 v107 v108 v109 v110 v111 v112 v113 v114 v115 v116 v117 v118 v119 v120 v121 v122 v123 v124 v125 v126 v127 v128 v129 v130 v131 v132 v133 v134 v135 v136 v137 v138 v139 v140 v141 v142 v143 v144 v145 v146 v147 v148 v149 v150 v151 v152 v153 v154 v155 v156 v157 v158 v159 v160 v161 v162 v163 v164 v165 v166 v167 v168 v169 v170 v171 v172 v173 v174 v175 v176 v177 v178 v179 v180 v181 v182 v183 v184 v185 v186 v187 v188 v189 v190 v191 v192 v193 v194 v195 v196 v197 v198 v199 v200 v201 v202 v203 v204 v205 v206 v207 v208 v209 v210 v211 : Value) (w' : World), Hid (Below w.heap.size w w') → K { tmps := #[.slice A m c, .slice XA xm xc, .slice AC mC cC, .int .u8 an, undef, undef, undef, undef, .bool false, .int .i64 r1, .int .i64 r2, .int .i64 q1, .int .i64 q2, .int .i64 t1, .int .i64 t2, v15, v16, v17, v18, v19, v20, v21, v22, v23, v24, v25, v26, v27, v28, v29, v30, v31, v32, v33, v34, v35, v36, v37, v38, v39, v40, v41, v42, v43, v44, v45, v46, v47, v48, v49, v50, v51, v52, v53, v54, v55, v56, v57, v58, v59, v60, v61, v62, v63, v64, v65, v66, v67, v68, v69, v70, v71, v72, v73, v74, v75, v76, v77, v78, v79, v80, v81, v82, v83, v84, v85, v86, v87, v88, v89, v90, v91, v92, v93, v94, v95, v96, v97, v98, v99, v100, v101, v102, v103, v104, v105, v106, v107, v108, v109, v110, v111, v112, v113, v114, v115, v116, v117, v118, v119, v120, v121, v122, v123, v124, v125, v126, v127, v128, v129, v130, v131, v132, v133, v134, v135, v136, v137, v138, v139, v140, v141, v142, v143, v144, v145, v146, v147, v148, v149, v150, v151, v152, v153, v154, v155, v156, v157, v158, v159, v160, v161, v162, v163, v164, v165, v166, v167, v168, v169, v170, v171, v172, v173, v174, v175, v176, v177, v178, v179, v180, v181, v182, v183, v184, v185, v186, v187, v188, v189, v190, v191, v192, v193, v194, v195, v196, v197, v198, v199, v200, v201, v202, v203, v204, v205, v206, v207, v208, v209, v210, v211], defers := [] } w')) :
    Code.wp Try.prog cd (Exit.then K Q) { tmps := #[.slice A m c, .slice XA xm xc, .slice AC mC cC, .int .u8 an, undef, undef, undef, undef, .bool false, .int .i64 r1, .int .i64 r2, .int .i64 q1, .int .i64 q2, .int .i64 t1, .int .i64 t2, u15, u16, u17, u18, u19, u20, u21, u22, u23, u24, u25, u26, u27, u28, u29, u30, u31, u32, u33, u34, u35, u36, u37, u38, u39, u40, u41, u42, u43, u44, u45, u46, u47, u48, u49, u50, u51, u52, u53, u54, u55, u56, u57, u58, u59, u60, u61, u62, u63, u64, u65, u66, u67, u68, u69, u70, u71, u72, u73, u74, u75, u76, u77, u78, u79, u80, u81, u82, u83, u84, u85, u86, u87, u88, u89, u90, u91, u92, u93, u94, u95, u96, u97, u98, u99, u100, u101, u102, u103, u104, u105, u106, u107, u108, u109, u110, .bool bv, u112, u113, u114, u115, u116, u117, u118, u119, u120, u121, u122, u123, u124, u125, u126, u127, u128, u129, u130, u131, u132, u133, u134, u135, u136, u137, u138, u139, u140, u141, u142, u143, u144, u145, u146, u147, u148, u149, u150, u151, u152, u153, u154, u155, u156, u157, u158, u159, u160, u161, u162, u163, u164, u165, u166, u167, u168, u169, u170, u171, u172, u173, u174, u175, u176, u177, u178, u179, u180, u181, u182, u183, u184, u185, u186, u187, u188, u189, u190, u191, u192, u193, u194, u195, u196, u197, u198, u199, u200, u201, u202, u203, u204, u205, u206, u207, u208, u209, u210, u211], defers := [] } w3 := by
  have e : some cd = some _ := hcd.symm.trans (show Try.f5.body.bind (findIf 111) = some _ from rfl)
  injection e with e
  subst e
  clear hcd
  go_upto_if 111 with (fail)
  cases bv with
  | true =>
    obtain ⟨rfl, hm0⟩ : q2 = 0 ∧ 0 < xm := by have := HBV.out; simpa using this.symm
    obtain ⟨m', HM1⟩ : ∃ m' : Nat, Hid (xm = m' + 1) := ⟨xm - 1, Lib.hid (by omega)⟩
    have HP1 : Hid ((scalarsF (s.take m')).2 = 0) := Lib.hid (scalars_take m' (by rw [HQ.out]))
    obtain ⟨p1, p2, HPP⟩ : ∃ p1 p2, Hid (scalarsF (s.take m') = (p1, p2)) := ⟨_, _, Lib.hid rfl⟩
    obtain rfl : p2 = 0 := by have := HP1.out; rw [HPP.out] at this; exact this
    have hw1 : IntKind.i64.wrap ((xm : Int) - 1) = (m' : Int) := (IntWalk.i64_in _ (by have := HM1.out; omega)).trans (by have := HM1.out; omega)
    have hw2 : (m' : Int) ≤ (xc : Int) := by have := HM1.out; have := HCAPS.out; omega
    have hw3 : (0 : Int) ≤ (m' : Int) := by omega
    have HLT : Hid (m' = (s.take m').length) := Lib.hid (by rw [List.length_take, ← HSM.out, HM1.out]; omega)
    go_wp2_with fail
    refine (scalars_any (s.take m') XA xc m' w3 HLT.out (by have := HM1.out; omega) ((HS.out.below HB3.out).ds.rs.take m').ds (fun x hx => HSN.out x (List.mem_of_mem_take hx))).mono ?_
    rw [HPP.out]
    rintro e w4 ⟨rfl, hb4⟩
    have HB4 := Lib.hid (bthen HB3.out hb4)
    clear hb4
    go_upto_region 13 with (fail)
    obtain ⟨i, hi1, hi⟩ : ∃ i : Nat, i = 0 ∧ i < xm := ⟨0, rfl, hm0⟩
    subst hi1
    have HRS4 := Lib.hid (HS.out.below HB4.out).ds.rs
    obtain ⟨bL, oL, hAA, hbL, hcL⟩ := (HS.out.below HB4.out).ds (by rw [← HSM.out]; exact hm0)
    obtain ⟨g0, g1⟩ := hcL 0 (by rw [← HSM.out]; exact hi)
    have HX : Hid (s.getD 0 default ∈ s) := Lib.hid (by rw [show s.getD 0 default = s[0]'(by rw [← HSM.out]; exact hi) by simp [List.getD, show 0 < s.length by rw [← HSM.out]; exact hi]]; exact List.getElem_mem _)
    obtain ⟨x, HXX⟩ : ∃ x, Hid (s.getD 0 default = x) := ⟨_, Lib.hid rfl⟩
    rw [HXX.out] at g0 g1 HX
    obtain ⟨x0, x1⟩ := x
    simp only at g0 g1
    simp only [Nat.zero_mul, Nat.add_zero] at g0 g1
    obtain ⟨q, HQW⟩ : ∃ q : Int, Hid (q = if (2 : Int) ≤ xm then 11 else 7) := ⟨_, Lib.hid rfl⟩
    have HTW : Hid (scalarsF (s ++ [(⟨x0, x1⟩ : ScR)]) = ((xm : Int), q)) := Lib.hid (by rw [scalars_twice (by rw [HQ.out]) HX.out, HQW.out, HSM.out]; split <;> rfl)
    have HNN : Hid (∀ z ∈ s ++ [(⟨x0, x1⟩ : ScR)], z.name.size ≤ maxLen) := Lib.hid (fun z hz => by
      rcases List.mem_append.1 hz with hz | hz
      · exact HSN.out z hz
      · rw [List.mem_singleton] at hz
        subst hz
        exact HSN.out _ HX.out)
    obtain ⟨N, HN1⟩ : ∃ N : Nat, Hid (s.length + 1 = N) := ⟨_, Lib.hid rfl⟩
    have hNs : N ≤ 1000000000000000 := by have := HN1.out; have := HSM.out; omega
    have hm31 : xm ≤ 31 := by omega
    have hmN : ¬ (xm : Int) = 0 := by omega
    have hmN2 : ((xm : Int) == 0) = false := by simpa using hmN
    have hmN3 : ¬ xm = 0 := by omega
    subst hAA
    clear hcL
    go_cut [21, 22] from 300 (fun k1 k2 w' => k1 = .int .i64 xm ∧ k2 = .int .i64 q ∧ Hid (Below w.heap.size w w'))
    case first =>
      go_region_held3 (fun w' => w'.cell? ⟨bL, oL, none⟩ = some (.string x0) ∧ w'.cell? ⟨bL, oL + 1, none⟩ = some (.int .i64 x1))
        (first | exact ⟨g0, g1⟩ | exact ⟨k0, k1⟩ | exact ⟨j0, j1⟩ | exact ⟨q0, q1⟩ | go_keep)
        (first
          | (refine step_append_first encS_len encS_one Try.underlying23 infoS rfl (by decide) (by decide) w4.heap.size _ (by rfl) (.tmp 122) (.tmp 123) (by rfl) (by rfl) (by rfl) s _ xm xc (by rfl) HSM.out hm0 (HRS4.out.below (by first | exact (below_alloc1 _ _).drew | exact (below2 _ _ _).drew)) (by omega) (by first | omega | (simp; omega) | simp) (by first | exact World.alloc_heap_new _ _ | exact heap_prev _ _ _ | exact heap_next _ _ _) ?_; intro v5 w5 ho5 hg5; have HO5 := Lib.hid ho5; have HG5 := Lib.hid hg5; have HB5 := Lib.hid (below_far (w4 := w4) (by first | exact (below_alloc1 _ _).drew | exact (below2 _ _ _).drew) hg5 (by first | omega | (simp; omega) | simp)); have k0 := far_cell (w4 := w4) (o := oL) (by first | exact (below_alloc1 _ _).drew | exact (below2 _ _ _).drew) hg5 (by first | omega | (simp; omega) | simp) hbL g0; have k1 := far_cell (w4 := w4) (o := oL + 1) (by first | exact (below_alloc1 _ _).drew | exact (below2 _ _ _).drew) hg5 (by first | omega | (simp; omega) | simp) hbL g1; clear ho5 hg5)
          | (refine step_append_more encS_len encS_one Try.underlying23 infoS rfl (by decide) (by decide) w4.heap.size _ (by rfl) (.tmp 124) (.tmp 128) (by rfl) (by rfl) v5 s (by rfl) (by first | exact HO5.out | exact World.ownsRow.alloc HO5.out _) (⟨x0, x1⟩ : ScR) _ (by rfl) (by rfl) (by have := HSM.out; omega) (by first | exact HB5.out.size | (have := HB5.out.size; simp; omega)) _ (by first | exact World.alloc_heap_new _ _ | exact (HG5.out.block _ (by first | (simp; done) | (simp; omega)) (by first | (simp; done) | (simp; omega))).trans (heap_next _ _ _) | exact (HG5.out.block _ (by first | (simp; done) | (simp; omega)) (by first | (simp; done) | (simp; omega))).trans (heap_prev _ _ _)) N HN1.out ?_; intro A6 c6 w6 hr6 hb6; have HR6 := Lib.hid hr6; have HB6 : Hid (Below w4.heap.size w4 w6) := Lib.hid (by first | exact HB5.out.trans hb6 | exact (HB5.out.alloc HB5.out.size _).trans hb6); have j0 := (HB6.out.cell (p := ⟨bL, oL, none⟩) hbL).trans g0; have j1 := (HB6.out.cell (p := ⟨bL, oL + 1, none⟩) hbL).trans g1; clear hr6 hb6)
          | (go_at_call 15; refine (scalars_any (s ++ [(⟨x0, x1⟩ : ScR)]) A6 c6 N w6 (by rw [List.length_append]; exact HN1.out.symm) hNs HR6.out.ds HNN.out).mono ?_; rw [HTW.out]; rintro e w7 ⟨rfl, hb7⟩; have HB7 : Hid (Below w.heap.size w w7) := Lib.hid (bthen HB4.out (bthen HB6.out hb7)); have q0 := (hb7.cell (p := ⟨bL, oL, none⟩) (Nat.lt_of_lt_of_le hbL HB6.out.size)).trans j0; have q1 := (hb7.cell (p := ⟨bL, oL + 1, none⟩) (Nat.lt_of_lt_of_le hbL HB6.out.size)).trans j1; clear hb7))
      all_goals
        go_wp2
        go_meet
        case rel => exact ⟨rfl, rfl, HB7⟩
    case rest =>
      obtain ⟨rfl, rfl, HB9⟩ := hcut
      by_cases h9 : 2 ≤ xm
      · obtain rfl : q = 11 := by rw [HQW.out]; split <;> omega
        go_wp2
        exact HK.out _ _ _ _ _ _ _ _ _ _ _ _ _ _ _ _ _ _ _ _ _ _ _ _ _ _ _ _ _ _ _ _ _ _ _ _ _ _ _ _ _ _ _ _ _ _ _ _ _ _ _ _ _ _ _ _ _ _ _ _ _ _ _ _ _ _ _ _ _ _ _ _ _ _ _ _ _ _ _ _ _ _ _ _ _ _ _ _ _ _ _ _ _ _ _ _ _ _ _ _ _ _ _ _ _ _ _ _ _ _ _ _ _ _ _ _ _ _ _ _ _ _ _ _ _ _ _ _ _ _ _ _ _ _ _ _ _ _ _ _ _ _ _ _ _ _ _ _ _ _ _ _ _ _ _ _ _ _ _ _ _ _ _ _ _ _ _ _ _ _ _ _ _ _ _ _ _ _ _ _ _ _ _ _ _ _ _ _ _ _ _ _ _ _ _ _ _ _ HB9
      · obtain rfl : q = 7 := by rw [HQW.out]; split <;> omega
        go_wp2
        exact HK.out _ _ _ _ _ _ _ _ _ _ _ _ _ _ _ _ _ _ _ _ _ _ _ _ _ _ _ _ _ _ _ _ _ _ _ _ _ _ _ _ _ _ _ _ _ _ _ _ _ _ _ _ _ _ _ _ _ _ _ _ _ _ _ _ _ _ _ _ _ _ _ _ _ _ _ _ _ _ _ _ _ _ _ _ _ _ _ _ _ _ _ _ _ _ _ _ _ _ _ _ _ _ _ _ _ _ _ _ _ _ _ _ _ _ _ _ _ _ _ _ _ _ _ _ _ _ _ _ _ _ _ _ _ _ _ _ _ _ _ _ _ _ _ _ _ _ _ _ _ _ _ _ _ _ _ _ _ _ _ _ _ _ _ _ _ _ _ _ _ _ _ _ _ _ _ _ _ _ _ _ _ _ _ _ _ _ _ _ _ _ _ _ _ _ _ _ _ _ HB9
  | false =>
    go_wp2
    exact HK.out _ _ _ _ _ _ _ _ _ _ _ _ _ _ _ _ _ _ _ _ _ _ _ _ _ _ _ _ _ _ _ _ _ _ _ _ _ _ _ _ _ _ _ _ _ _ _ _ _ _ _ _ _ _ _ _ _ _ _ _ _ _ _ _ _ _ _ _ _ _ _ _ _ _ _ _ _ _ _ _ _ _ _ _ _ _ _ _ _ _ _ _ _ _ _ _ _ _ _ _ _ _ _ _ _ _ _ _ _ _ _ _ _ _ _ _ _ _ _ _ _ _ _ _ _ _ _ _ _ _ _ _ _ _ _ _ _ _ _ _ _ _ _ _ _ _ _ _ _ _ _ _ _ _ _ _ _ _ _ _ _ _ _ _ _ _ _ _ _ _ _ _ _ _ _ _ _ _ _ _ _ _ _ _ _ _ _ _ _ _ _ _ _ _ _ _ _ _ HB3

end Go.Proofs.YtodloljpfbkkjaaRRRR.declParts
