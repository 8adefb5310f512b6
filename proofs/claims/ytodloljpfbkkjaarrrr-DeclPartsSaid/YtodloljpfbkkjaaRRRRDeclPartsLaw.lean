/- The law DeclParts: what is right stays right without its last one, and a second one like one of them is told as such, if there is room; so with variables, scalars, channels; nothing that was there is changed. No condition. -/
import Derived.Test.YtodloljpfbkkjaaRRRRDeclPartsV
import Derived.Test.YtodloljpfbkkjaaRRRRDeclPartsS
import Derived.Test.YtodloljpfbkkjaaRRRRDeclPartsC
namespace Go.Proofs.YtodloljpfbkkjaaRRRR.declParts
open Go.ChangeShapes Go.WideShapes Go.ChangeAt Go.RowKit Go.Proofs.YtodloljpfbkkjaaRRRR.dcl

theorem u8_nat {x : Int} (h : (Lit.int .u8 x).wf = true) : ∃ an : Nat, x = (an : Int) ∧ an ≤ 255 := by
  have e2 : IntKind.u8.min = 0 := rfl
  have e3 : IntKind.u8.max = 255 := rfl
  have : 0 ≤ x ∧ x ≤ 255 := by simpa [Lit.wf, e2, e3] using h
  exact ⟨x.toNat, by omega, by omega⟩
set_option maxRecDepth 100000 in
set_option maxHeartbeats 8000000 in
theorem walk (XA : Option Addr) (xm xc : Nat) (s : List ScR) (l : List VarR) (A : Option Addr) (c m : Nat) (C : List ChR) (AC : Option Addr) (cC mC : Nat) (an : Nat) (w : World) (hS : SL w ⟨XA, xm, xc⟩ s) (hm : m = l.length) (hmm : m ≤ 1000000000000000) (hA : DV w A l) (hN : ∀ x ∈ l, x.name.size ≤ maxLen) (hSN : ∀ x ∈ s, x.name.size ≤ maxLen)
    (hmc : mC = C.length) (hmmC : mC ≤ 1000000000000000) (hAC : DC w AC C) (hNC : ∀ x ∈ C, x.name.size ≤ maxLen) (hat : an ≤ 255) (hcap : m ≤ c) (hcapS : xm ≤ xc) (hcapC : mC ≤ cC) :
    Calls Try.prog 5 #[.slice A m c, .slice XA xm xc, .slice AC mC cC, .int .u8 an] w (LawPost w) := by
  have HM := Lib.hid hm
  have HA := Lib.hid hA
  have HN := Lib.hid hN
  have HSN := Lib.hid hSN
  have HS := Lib.hid hS
  have HMC := Lib.hid hmc
  have HAC := Lib.hid hAC
  have HNC := Lib.hid hNC
  have HAT := Lib.hid hat
  have HCAP := Lib.hid hcap
  have HCAPS := Lib.hid hcapS
  have HCAPC := Lib.hid hcapC
  have HSM : Hid (xm = s.length) := Lib.hid hS.m
  have hsm : xm ≤ 1000000000000000 := hS.small
  clear hm hA hN hS hmc hAC hNC hSN hat hcap hcapS hcapC
  by_cases hl : 30 < m
  · go_enter Try.func5, Try.ntmps5
    go_wp2_with fail
    refine (awake_any _).mono ?_
    rintro e w1 ⟨rfl, hb⟩
    have HB := Lib.hid hb
    clear hb
    go_wp2
    go_ret
    exact ⟨rfl, HB.out⟩
  by_cases hl2 : 30 < xm
  · go_enter Try.func5, Try.ntmps5
    go_wp2_with fail
    refine (awake_any _).mono ?_
    rintro e w1 ⟨rfl, hb⟩
    have HB := Lib.hid hb
    clear hb
    go_wp2
    go_ret
    exact ⟨rfl, HB.out⟩
  by_cases hl3 : 30 < mC
  · go_enter Try.func5, Try.ntmps5
    go_wp2_with fail
    refine (awake_any _).mono ?_
    rintro e w1 ⟨rfl, hb⟩
    have HB := Lib.hid hb
    clear hb
    go_wp2
    go_ret
    exact ⟨rfl, HB.out⟩
  obtain ⟨r1, r2, HR⟩ : ∃ r1 r2, Hid (varsF s 12 l = (r1, r2)) := ⟨_, _, Lib.hid rfl⟩
  obtain ⟨q1, q2, HQ⟩ : ∃ r1 r2, Hid (scalarsF s = (r1, r2)) := ⟨_, _, Lib.hid rfl⟩
  obtain ⟨t1, t2, HT⟩ : ∃ r1 r2, Hid (chansF s C = (r1, r2)) := ⟨_, _, Lib.hid rfl⟩
  go_enter Try.func5, Try.ntmps5
  go_wp2_with fail
  refine (vars_any ⟨XA, xm, xc⟩ s l A c m 12 w HS.out HM.out hmm HA.out HN.out).mono ?_
  rw [HR.out]
  rintro e w1 ⟨rfl, hb1⟩
  have HB1 := Lib.hid hb1
  clear hb1
  go_wp2_with fail
  refine (scalars_any s XA xc xm w1 HSM.out hsm (HS.out.below HB1.out).ds HSN.out).mono ?_
  rw [HQ.out]
  rintro e w2 ⟨rfl, hb2⟩
  have HB2 := Lib.hid (bthen HB1.out hb2)
  clear hb2
  go_wp2_with fail
  refine (chans_any ⟨XA, xm, xc⟩ s C AC cC mC w2 (HS.out.below HB2.out) HMC.out hmmC (HAC.out.below HB2.out) HNC.out).mono ?_
  rw [HT.out]
  rintro e w3 ⟨rfl, hb3⟩
  have HB3 := Lib.hid (bthen HB2.out hb3)
  clear hb3
  obtain ⟨bv, HBV⟩ : ∃ bv, Hid (bv = (decide (r2 = 0) && decide (0 < m))) := ⟨_, Lib.hid rfl⟩
  go_upto_region 6 with (fail)
  go_cut [64] from 300 (fun k1 w' => k1 = .bool bv ∧ Hid (Below w.heap.size w w'))
  case first =>
    by_cases hok : r2 = 0
    · by_cases hm0 : 0 < m
      · obtain rfl : bv = true := by rw [HBV.out, hok]; simp [hm0]
        subst hok
        go_wp2
        go_meet
        case rel => exact ⟨rfl, HB3⟩
      · obtain rfl : bv = false := by rw [HBV.out]; simp [hm0]
        subst hok
        go_wp2
        go_meet
        case rel => exact ⟨rfl, HB3⟩
    · obtain rfl : bv = false := by rw [HBV.out]; simp [hok]
      have hok2 : (r2 == 0) = false := by simpa using hok
      go_wp2
      go_meet
      case rel => exact ⟨rfl, HB3⟩
  case rest =>
  obtain ⟨rfl, HB0⟩ := hcut
  clear HB3
  have HB3 := HB0
  clear HB0
  clear w3
  obtain ⟨w3, hw3⟩ : ∃ w3, w3 = wc := ⟨_, rfl⟩
  subst hw3
  go_upto_if 64 with (fail)
  refine partV XA xm xc s l A c m C AC cC mC an w HS HM hmm HA HN HSN HMC hmmC HAC HNC HAT HCAP HCAPS HCAPC HSM hsm hl hl2 hl3 r1 r2 q1 q2 t1 t2 HR HQ HT bv HBV w3 HB3 _ _ _ _ _ _ _ _ _ _ _ _ _ _ _ _ _ _ _ _ _ _ _ _ _ _ _ _ _ _ _ _ _ _ _ _ _ _ _ _ _ _ _ _ _ _ _ _ _ _ _ _ _ _ _ _ _ _ _ _ _ _ _ _ _ _ _ _ _ _ _ _ _ _ _ _ _ _ _ _ _ _ _ _ _ _ _ _ _ _ _ _ _ _ _ _ _ _ _ _ _ _ _ _ _ _ _ _ _ _ _ _ _ _ _ _ _ _ _ _ _ _ _ _ _ _ _ _ _ _ _ _ _ _ _ _ _ _ _ _ _ _ _ _ _ _ _ _ _ _ _ _ _ _ _ _ _ _ _ _ _ _ _ _ _ _ _ _ _ _ _ _ _ _ _ _ _ _ _ _ _ _ _ _ _ _ _ _ _ _ _ _ _ _ _ _ _ (by kernel_rfl) _ _ (Lib.hid ?_)
  clear HB3 HBV bv
  intro v15 v16 v17 v18 v19 v20 v21 v22 v23 v24 v25 v26 v27 v28 v29 v30 v31 v32 v33 v34 v35 v36 v37 v38 v39 v40 v41 v42 v43 v44 v45 v46 v47 v48 v49 v50 v51 v52 v53 v54 v55 v56 v57 v58 v59 v60 v61 v62 v63 v64 v65 v66 v67 v68 v69 v70 v71 v72 v73 v74 v75 v76 v77 v78 v79 v80 v81 v82 v83 v84 v85 v86 v87 v88 v89 v90 v91 v92 v93 v94 v95 v96 v97 v98 v99 v100 v101 v102 v103 v104 v105 v106 v107 v108 v109 v110 v111 v112 v113 v114 v115 v116 v117 v118 v119 v120 v121 v122 v123 v124 v125 v126 v127 v128 v129 v130 v131 v132 v133 v134 v135 v136 v137 v138 v139 v140 v141 v142 v143 v144 v145 v146 v147 v148 v149 v150 v151 v152 v153 v154 v155 v156 v157 v158 v159 v160 v161 v162 v163 v164 v165 v166 v167 v168 v169 v170 v171 v172 v173 v174 v175 v176 v177 v178 v179 v180 v181 v182 v183 v184 v185 v186 v187 v188 v189 v190 v191 v192 v193 v194 v195 v196 v197 v198 v199 v200 v201 v202 v203 v204 v205 v206 v207 v208 v209 v210 v211 w9 HB3
  dsimp only
  clear w3
  obtain ⟨w3, hw3⟩ : ∃ w3, w3 = w9 := ⟨_, rfl⟩
  subst hw3
  obtain ⟨bv, HBV⟩ : ∃ bv, Hid (bv = (decide (q2 = 0) && decide (0 < xm))) := ⟨_, Lib.hid rfl⟩
  go_upto_region 11 with (fail)
  go_cut [111] from 300 (fun k1 w' => k1 = .bool bv ∧ Hid (Below w.heap.size w w'))
  case first =>
    by_cases hok : q2 = 0
    · by_cases hm0 : 0 < xm
      · obtain rfl : bv = true := by rw [HBV.out, hok]; simp [hm0]
        subst hok
        go_wp2
        go_meet
        case rel => exact ⟨rfl, HB3⟩
      · obtain rfl : bv = false := by rw [HBV.out]; simp [hm0]
        subst hok
        go_wp2
        go_meet
        case rel => exact ⟨rfl, HB3⟩
    · obtain rfl : bv = false := by rw [HBV.out]; simp [hok]
      have hok2 : (q2 == 0) = false := by simpa using hok
      go_wp2
      go_meet
      case rel => exact ⟨rfl, HB3⟩
  case rest =>
  obtain ⟨rfl, HB0⟩ := hcut
  clear HB3
  have HB3 := HB0
  clear HB0
  clear w3
  obtain ⟨w3, hw3⟩ : ∃ w3, w3 = wc := ⟨_, rfl⟩
  subst hw3
  go_upto_if 111 with (fail)
  refine partS XA xm xc s l A c m C AC cC mC an w HS HM hmm HA HN HSN HMC hmmC HAC HNC HAT HCAP HCAPS HCAPC HSM hsm hl hl2 hl3 r1 r2 q1 q2 t1 t2 HR HQ HT bv HBV w3 HB3 _ _ _ _ _ _ _ _ _ _ _ _ _ _ _ _ _ _ _ _ _ _ _ _ _ _ _ _ _ _ _ _ _ _ _ _ _ _ _ _ _ _ _ _ _ _ _ _ _ _ _ _ _ _ _ _ _ _ _ _ _ _ _ _ _ _ _ _ _ _ _ _ _ _ _ _ _ _ _ _ _ _ _ _ _ _ _ _ _ _ _ _ _ _ _ _ _ _ _ _ _ _ _ _ _ _ _ _ _ _ _ _ _ _ _ _ _ _ _ _ _ _ _ _ _ _ _ _ _ _ _ _ _ _ _ _ _ _ _ _ _ _ _ _ _ _ _ _ _ _ _ _ _ _ _ _ _ _ _ _ _ _ _ _ _ _ _ _ _ _ _ _ _ _ _ _ _ _ _ _ _ _ _ _ _ _ _ _ _ _ _ _ _ _ _ _ _ (by kernel_rfl) _ _ (Lib.hid ?_)
  clear HB3 HBV bv
  intro v15 v16 v17 v18 v19 v20 v21 v22 v23 v24 v25 v26 v27 v28 v29 v30 v31 v32 v33 v34 v35 v36 v37 v38 v39 v40 v41 v42 v43 v44 v45 v46 v47 v48 v49 v50 v51 v52 v53 v54 v55 v56 v57 v58 v59 v60 v61 v62 v63 v64 v65 v66 v67 v68 v69 v70 v71 v72 v73 v74 v75 v76 v77 v78 v79 v80 v81 v82 v83 v84 v85 v86 v87 v88 v89 v90 v91 v92 v93 v94 v95 v96 v97 v98 v99 v100 v101 v102 v103 v104 v105 v106 v107 v108 v109 v110 v111 v112 v113 v114 v115 v116 v117 v118 v119 v120 v121 v122 v123 v124 v125 v126 v127 v128 v129 v130 v131 v132 v133 v134 v135 v136 v137 v138 v139 v140 v141 v142 v143 v144 v145 v146 v147 v148 v149 v150 v151 v152 v153 v154 v155 v156 v157 v158 v159 v160 v161 v162 v163 v164 v165 v166 v167 v168 v169 v170 v171 v172 v173 v174 v175 v176 v177 v178 v179 v180 v181 v182 v183 v184 v185 v186 v187 v188 v189 v190 v191 v192 v193 v194 v195 v196 v197 v198 v199 v200 v201 v202 v203 v204 v205 v206 v207 v208 v209 v210 v211 w9 HB3
  dsimp only
  clear w3
  obtain ⟨w3, hw3⟩ : ∃ w3, w3 = w9 := ⟨_, rfl⟩
  subst hw3
  obtain ⟨bv, HBV⟩ : ∃ bv, Hid (bv = (decide (t2 = 0) && decide (0 < mC))) := ⟨_, Lib.hid rfl⟩
  go_upto_region 16 with (fail)
  go_cut [163] from 300 (fun k1 w' => k1 = .bool bv ∧ Hid (Below w.heap.size w w'))
  case first =>
    by_cases hok : t2 = 0
    · by_cases hm0 : 0 < mC
      · obtain rfl : bv = true := by rw [HBV.out, hok]; simp [hm0]
        subst hok
        go_wp2
        go_meet
        case rel => exact ⟨rfl, HB3⟩
      · obtain rfl : bv = false := by rw [HBV.out]; simp [hm0]
        subst hok
        go_wp2
        go_meet
        case rel => exact ⟨rfl, HB3⟩
    · obtain rfl : bv = false := by rw [HBV.out]; simp [hok]
      have hok2 : (t2 == 0) = false := by simpa using hok
      go_wp2
      go_meet
      case rel => exact ⟨rfl, HB3⟩
  case rest =>
  obtain ⟨rfl, HB0⟩ := hcut
  clear HB3
  have HB3 := HB0
  clear HB0
  clear w3
  obtain ⟨w3, hw3⟩ : ∃ w3, w3 = wc := ⟨_, rfl⟩
  subst hw3
  go_upto_if 163 with (fail)
  refine partC XA xm xc s l A c m C AC cC mC an w HS HM hmm HA HN HSN HMC hmmC HAC HNC HAT HCAP HCAPS HCAPC HSM hsm hl hl2 hl3 r1 r2 q1 q2 t1 t2 HR HQ HT bv HBV w3 HB3 _ _ _ _ _ _ _ _ _ _ _ _ _ _ _ _ _ _ _ _ _ _ _ _ _ _ _ _ _ _ _ _ _ _ _ _ _ _ _ _ _ _ _ _ _ _ _ _ _ _ _ _ _ _ _ _ _ _ _ _ _ _ _ _ _ _ _ _ _ _ _ _ _ _ _ _ _ _ _ _ _ _ _ _ _ _ _ _ _ _ _ _ _ _ _ _ _ _ _ _ _ _ _ _ _ _ _ _ _ _ _ _ _ _ _ _ _ _ _ _ _ _ _ _ _ _ _ _ _ _ _ _ _ _ _ _ _ _ _ _ _ _ _ _ _ _ _ _ _ _ _ _ _ _ _ _ _ _ _ _ _ _ _ _ _ _ _ _ _ _ _ _ _ _ _ _ _ _ _ _ _ _ _ _ _ _ _ _ _ _ _ _ _ _ _ _ _ (by kernel_rfl) _ _ (Lib.hid ?_)
  clear HB3 HBV bv
  intro v15 v16 v17 v18 v19 v20 v21 v22 v23 v24 v25 v26 v27 v28 v29 v30 v31 v32 v33 v34 v35 v36 v37 v38 v39 v40 v41 v42 v43 v44 v45 v46 v47 v48 v49 v50 v51 v52 v53 v54 v55 v56 v57 v58 v59 v60 v61 v62 v63 v64 v65 v66 v67 v68 v69 v70 v71 v72 v73 v74 v75 v76 v77 v78 v79 v80 v81 v82 v83 v84 v85 v86 v87 v88 v89 v90 v91 v92 v93 v94 v95 v96 v97 v98 v99 v100 v101 v102 v103 v104 v105 v106 v107 v108 v109 v110 v111 v112 v113 v114 v115 v116 v117 v118 v119 v120 v121 v122 v123 v124 v125 v126 v127 v128 v129 v130 v131 v132 v133 v134 v135 v136 v137 v138 v139 v140 v141 v142 v143 v144 v145 v146 v147 v148 v149 v150 v151 v152 v153 v154 v155 v156 v157 v158 v159 v160 v161 v162 v163 v164 v165 v166 v167 v168 v169 v170 v171 v172 v173 v174 v175 v176 v177 v178 v179 v180 v181 v182 v183 v184 v185 v186 v187 v188 v189 v190 v191 v192 v193 v194 v195 v196 v197 v198 v199 v200 v201 v202 v203 v204 v205 v206 v207 v208 v209 v210 v211 w9 HB3
  dsimp only
  clear w3
  obtain ⟨w3, hw3⟩ : ∃ w3, w3 = w9 := ⟨_, rfl⟩
  subst hw3
  go_wp2_with fail
  refine (awake_any _).mono ?_
  rintro e w5 ⟨rfl, hb5⟩
  have HB5 := Lib.hid (bthen HB3.out hb5)
  clear hb5
  go_wp2
  go_ret
  exact ⟨rfl, HB5.out⟩
set_option maxRecDepth 100000 in
theorem lifted (os : Os) (started : os.Started) (H : Type) (enc : TypeId × Value → H) :
    ReturnsInHanded {} Try.checked os 5 .any (Rows.declPartsSpec.pre6 enc Try.prog Try.f5 Rows.declPartsRow.domain false) (Rows.declPartsSpec.post enc Try.prog Try.f5 false true false false) := by
  refine law_lifted started [24, 23, 25, 5] rfl (by kernel_rfl) Try.func5 rfl (by decide +kernel) rfl (fun ds hl => by
    match ds, hl with
    | [_, _, _, _], _ => rfl) (ChangeSpec.witness6 (enc := enc) (C := Try.checked) false ⟨#[], #[.slice none 0 0, .slice none 0 0, .slice none 0 0, .int .u8 0], []⟩ 8 (by kernel_rfl) (by kernel_rfl) (by kernel_rfl) (by kernel_rfl)) ?_
  intro W base args ds ps hval hA hlt hsz
  obtain ⟨v0, vs0, d0, ds0, p0, q0, hargs, rfl, rfl, h0, r0⟩ := trodAll_cons hA
  obtain ⟨v1, vs1, d1, ds1, p1, q1, rfl, rfl, rfl, h1, r1⟩ := trodAll_cons r0
  obtain ⟨v2, vs2, d2, ds2, p2, q2, rfl, rfl, rfl, h2, r2⟩ := trodAll_cons r1
  obtain ⟨v3, vs3, d3, ds3, p3, q3, rfl, rfl, rfl, h3, r3⟩ := trodAll_cons r2
  obtain ⟨rfl, rfl, rfl⟩ := trodAll_nil r3
  obtain rfl : args = #[v0, v1, v2, v3] := by cases args; simp_all
  obtain ⟨A0, c0, x0, rfl, b0, i0, z0, q0, m0, o0⟩ := open_v_arg (hval 0 24 v0 rfl rfl) h0 hsz 0 rfl rfl
  obtain ⟨A1, c1, x1, rfl, b1, i1, z1, q1, m1, o1⟩ := open_s_arg (hval 1 23 v1 rfl rfl) h1 hsz 1 rfl rfl
  obtain ⟨A2, c2, x2, rfl, b2, i2, z2, q2, m2, o2⟩ := open_c_arg (hval 2 25 v2 rfl rfl) h2 hsz 2 rfl rfl
  obtain ⟨x3, rfl, rfl, rfl, w3⟩ := open_int Try.underlying5 (hval 3 5 v3 rfl rfl) h3
  exact (by obtain ⟨an, han⟩ : ∃ an : Nat, x3 = (an : Int) ∧ an ≤ 255 := u8_nat w3; obtain ⟨rfl, ha⟩ := han; exact walk A1 x1.length c1 x1 x0 A0 c0 _ x2 A2 c2 _ an W ⟨rfl, b1, i1⟩ rfl b0 i0 z0 z1 rfl b2 i2 z2 ha q0 q1 q2)

set_option maxRecDepth 100000 in
theorem over : Rows.declPartsRow.holds Try.pinned (OpenSpec.ofChange Rows.declPartsSpec) :=
  OpenClaim.holds_of_wide 5 Try.f5 rfl rfl rfl rfl rfl rfl rfl ⟨rfl, rfl, rfl, rfl, rfl⟩ rfl rfl rfl rfl rfl (by kernel_rfl) Try.func5 (by kernel_rfl)
    (of_decide_eq_true (by kernel_rfl)) (by unfold Func.isWrapper; first | (rw [if_pos (by decide +kernel)]; kernel_rfl) | (rw [if_neg (by decide +kernel)]; exact ⟨rfl, rfl⟩))
    (fun os started H enc _ => lifted os started H enc)

theorem proved : Rows.DeclPartsSaid := over
#print axioms proved
end Go.Proofs.YtodloljpfbkkjaaRRRR.declParts
