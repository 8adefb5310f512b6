/- The law ExprFits' own env: what it makes of a scope and of numbers fits the scope, or it makes nothing. -/
import Derived.Test.YtodloljpfbkkjaaRRRRExprEnvEF
import Derived.Test.YtodloljpfbkkjaaRRRRExprEnvL1
import Derived.Test.YtodloljpfbkkjaaRRRRExprEnvL2
import Derived.Test.YtodloljpfbkkjaaRRRRExprEnvL3
import Derived.Test.YtodloljpfbkkjaaRRRRExprEnvL4
import Derived.Test.YtodloljpfbkkjaaRRRRExprEnvL5
namespace Go.Proofs.YtodloljpfbkkjaaRRRR.lenv
open Go.ChangeShapes Go.WideShapes Go.ChangeAt Go.RowKit

/-- What env leaves. -/
def EnvP (S : Sc) (w : World) (e : Ending) (w' : World) : Prop := Below w.heap.size w w' ∧ ((∃ Y : EvX, e = .returned (.tuple #[Y.v, .bool false])) ∨ ∃ (Y : EvX) (E : Ev), e = .returned (.tuple #[Y.v, .bool true]) ∧ ER w' Y E ∧ EF S E)
set_option maxRecDepth 100000 in
set_option maxHeartbeats 8000000 in
theorem env_any (X : ScX) (S : Sc) (A : Option Addr) (c m : Nat) (raw : List Int) (w : World) (h : SR w X S) (hm : m = raw.length) (hmm : m ≤ 1000000000000000) (hA : IA w A raw) (hW : W64 raw) (hn : X.n2 + X.n5 + X.n3 + X.n4 ≤ 100) :
    Calls Try.prog 7 #[X.v, .slice A m c] w (EnvP S w) := by
  have HM := Lib.hid hm
  have HA := Lib.hid hA
  have HW := Lib.hid hW
  have HS := Lib.hid h
  have hsm := h.small
  clear hm hA hW h
  go_enter Try.func7, Try.ntmps7
  go_wp2
  obtain ⟨hx0, hr0, hv0, hb0⟩ := start_facts X w 28 33 33
  have ho : w.heap.size ≤ w.heap.size ∧ w.heap.size ≤ w.heap.size + 1 ∧ w.heap.size ≤ w.heap.size + 1 + 1 ∧ w.heap.size ≠ w.heap.size + 1 + 1 ∧ w.heap.size + 1 ≠ w.heap.size + 1 + 1 ∧ w.heap.size ≠ w.heap.size + 1 := by omega
  refine envL1 X S A c m raw w HS HM hmm HA HW hn w.heap.size (w.heap.size + 1) (w.heap.size + 1 + 1) _ (Lib.hid hx0) (Lib.hid ⟨_, _, _, _, _, hr0⟩) none none none none 0 0 0 0 0 0 0 0 0 (Lib.hid hv0) (Lib.hid hb0) ho _ _ _ _ _ _ _ _ _ _ _ _ _ _ _ _ _ _ _ _ _ _ _ _ _ _ _ _ _ _ _ _ _ _ _ _ _ _ _ _ _ _ _ _ _ _ _ _ _ _ _ _ _ _ _ _ _ _ _ _ _ _ _ _ _ _ _ _ _ _ _ _ _ _ _ _ _ _ _ _ _ _ _ _ _ _ _ _ _ _ _ _ _ _ _ _ _ _ _ _ _ _ _ _ _ _ _ _ _ _ _ _ _ _ _ _ _ _ _ _ _ _ _ _ _ _ _ _ _ _ _ _ _ _ _ _ _ _ _ _ _ _ _ _ _ _ _ _ _ _ _ _ _ _ _ _ _ _ _ _ _ _ _ _ _ _ _ _ (by kernel_rfl) _ _ (Lib.hid ?_) (Lib.hid (by
    intro r7 r8 r9 r10 r11 r12 r13 r14 r15 r16 r17 r18 r19 r20 r21 r22 r23 r24 r25 r26 r27 r28 r29 r30 r31 r32 r33 r34 r35 r36 r37 r38 r39 r40 r41 r42 r43 r44 r45 r46 r47 r48 r49 r50 r51 r52 r53 r54 r55 r56 r57 r58 r59 r60 r61 r62 r63 r64 r65 r66 r67 r68 r69 r70 r71 r72 r73 r74 r75 r76 r77 r78 r79 r80 r81 r82 r83 r84 r85 r86 r87 r88 r89 r90 r91 r92 r93 r94 r95 r96 r97 r98 r99 r100 r101 r102 r103 r104 r105 r106 r107 r108 r109 r110 r111 r112 r113 r114 r115 r116 r117 r118 r119 r120 r121 r122 r123 r124 r125 r126 r127 r128 r129 r130 r131 r132 r133 r134 r135 r136 r137 r138 r139 r140 r141 r142 r143 r144 r145 r146 r147 r148 r149 r150 r151 r152 r153 r154 r155 r156 r157 r158 r159 r160 r161 r162 r163 r164 r165 r166 r167 r168 r169 r170 r171 r172 r173 r174 r175 r176 w' hf hb
    obtain ⟨a, b, c, d, i1, i2, i3, i4, i5, i6, i7, i8, e, h5⟩ := hf
    have h0 := h5.c0
    have h1 := h5.c1
    have h2 := h5.c2
    have h3 := h5.c3
    have h4 := h5.c4
    refine bodyPost_ret (v := .tuple #[.agg #[.slice a i1 i2, .slice b i3 i4, .slice c i5 i6, .slice d i7 i8, .int .i64 e], .bool false]) ?_ rfl ⟨hb, .inl ⟨⟨a, b, c, d, i1, i2, i3, i4, i5, i6, i7, i8, e⟩, rfl⟩⟩
    rw [results_cell_tmp rfl]
    go_simp))
  intro v7 v8 v9 v10 v11 v12 v13 v14 v15 v16 v17 v18 v19 v20 v21 v22 v23 v24 v25 v26 v27 v28 v29 v30 v31 v32 v33 v34 v35 v36 v37 v38 v39 v40 v41 v42 v43 v44 v45 v46 v47 v48 v49 v50 v51 v52 v53 v54 v55 v56 v57 v58 v59 v60 v61 v62 v63 v64 v65 v66 v67 v68 v69 v70 v71 v72 v73 v74 v75 v76 v77 v78 v79 v80 v81 v82 v83 v84 v85 v86 v87 v88 v89 v90 v91 v92 v93 v94 v95 v96 v97 v98 v99 v100 v101 v102 v103 v104 v105 v106 v107 v108 v109 v110 v111 v112 v113 v114 v115 v116 v117 v118 v119 v120 v121 v122 v123 v124 v125 v126 v127 v128 v129 v130 v131 v132 v133 v134 v135 v136 v137 v138 v139 v140 v141 v142 v143 v144 v145 v146 v147 v148 v149 v150 v151 v152 v153 v154 v155 v156 v157 v158 v159 v160 v161 v162 v163 v164 v165 v166 v167 v168 v169 v170 v171 v172 v173 v174 v175 v176 w1 hb1 hz1
  have HX1 := Lib.hid (hx0.below hb1)
  have HR1 : Hid (∃ a b c d e, Five w1 (w.heap.size + 1) a b c d e) := Lib.hid ⟨_, _, _, _, _, hr0.below hb1⟩
  have HV1 := Lib.hid (hv0.below hb1)
  have HB1 := Lib.hid (bthen hb0 hb1)
  have HZS : Hid (∀ j, j < S.sizes.length → 1 ≤ S.sizes.getD j 0 ∧ S.sizes.getD j 0 ≤ 50) := Lib.hid (by rw [← HS.out.l1]; exact hz1)
  clear hx0 hr0 hv0 hb0 hb1 hz1
  dsimp only
  obtain ⟨⟨c0, c1, c2, c3, c4, c5⟩, hz⟩ := HX1.out
  go_wp2

  refine envL2 X S A c m raw w HS HM hmm HA HW hn w.heap.size (w.heap.size + 1) (w.heap.size + 1 + 1) w1 HX1 HR1 none none none 0 0 0 0 0 0 0 HV1 HB1 ho HZS _ _ _ _ _ _ _ _ _ _ _ _ _ _ _ _ _ _ _ _ _ _ _ _ _ _ _ _ _ _ _ _ _ _ _ _ _ _ _ _ _ _ _ _ _ _ _ _ _ _ _ _ _ _ _ _ _ _ _ _ _ _ _ _ _ _ _ _ _ _ _ _ _ _ _ _ _ _ _ _ _ _ _ _ _ _ _ _ _ _ _ _ _ _ _ _ _ _ _ _ _ _ _ _ _ _ _ _ _ _ _ _ _ _ _ _ _ _ _ _ _ _ _ _ _ _ _ _ _ _ _ _ _ _ _ _ _ _ _ _ _ _ _ _ _ _ _ _ _ _ _ _ _ _ _ _ _ _ _ _ _ _ _ _ _ _ _ _ (by kernel_rfl) _ _ (Lib.hid ?_) (Lib.hid (by
    intro r7 r8 r9 r10 r11 r12 r13 r14 r15 r16 r17 r18 r19 r20 r21 r22 r23 r24 r25 r26 r27 r28 r29 r30 r31 r32 r33 r34 r35 r36 r37 r38 r39 r40 r41 r42 r43 r44 r45 r46 r47 r48 r49 r50 r51 r52 r53 r54 r55 r56 r57 r58 r59 r60 r61 r62 r63 r64 r65 r66 r67 r68 r69 r70 r71 r72 r73 r74 r75 r76 r77 r78 r79 r80 r81 r82 r83 r84 r85 r86 r87 r88 r89 r90 r91 r92 r93 r94 r95 r96 r97 r98 r99 r100 r101 r102 r103 r104 r105 r106 r107 r108 r109 r110 r111 r112 r113 r114 r115 r116 r117 r118 r119 r120 r121 r122 r123 r124 r125 r126 r127 r128 r129 r130 r131 r132 r133 r134 r135 r136 r137 r138 r139 r140 r141 r142 r143 r144 r145 r146 r147 r148 r149 r150 r151 r152 r153 r154 r155 r156 r157 r158 r159 r160 r161 r162 r163 r164 r165 r166 r167 r168 r169 r170 r171 r172 r173 r174 r175 r176 w' hf hb
    obtain ⟨a, b, c, d, i1, i2, i3, i4, i5, i6, i7, i8, e, h5⟩ := hf
    have h0 := h5.c0
    have h1 := h5.c1
    have h2 := h5.c2
    have h3 := h5.c3
    have h4 := h5.c4
    refine bodyPost_ret (v := .tuple #[.agg #[.slice a i1 i2, .slice b i3 i4, .slice c i5 i6, .slice d i7 i8, .int .i64 e], .bool false]) ?_ rfl ⟨hb, .inl ⟨⟨a, b, c, d, i1, i2, i3, i4, i5, i6, i7, i8, e⟩, rfl⟩⟩
    rw [results_cell_tmp rfl]
    go_simp))
  intro v7 v8 v9 v10 v11 v12 v13 v14 v15 v16 v17 v18 v19 v20 v21 v22 v23 v24 v25 v26 v27 v28 v29 v30 v31 v32 v33 v34 v35 v36 v37 v38 v39 v40 v41 v42 v43 v44 v45 v46 v47 v48 v49 v50 v51 v52 v53 v54 v55 v56 v57 v58 v59 v60 v61 v62 v63 v64 v65 v66 v67 v68 v69 v70 v71 v72 v73 v74 v75 v76 v77 v78 v79 v80 v81 v82 v83 v84 v85 v86 v87 v88 v89 v90 v91 v92 v93 v94 v95 v96 v97 v98 v99 v100 v101 v102 v103 v104 v105 v106 v107 v108 v109 v110 v111 v112 v113 v114 v115 v116 v117 v118 v119 v120 v121 v122 v123 v124 v125 v126 v127 v128 v129 v130 v131 v132 v133 v134 v135 v136 v137 v138 v139 v140 v141 v142 v143 v144 v145 v146 v147 v148 v149 v150 v151 v152 v153 v154 v155 v156 v157 v158 v159 v160 v161 v162 v163 v164 v165 v166 v167 v168 v169 v170 v171 v172 v173 v174 v175 v176 w2 P0 Z0 L0 ht hv hl hll hok
  have HT2 := Lib.hid ht
  have HO0 := Lib.hid hl
  have HLL0 := Lib.hid hll
  have HOK0 := Lib.hid hok
  have HX2 : Hid (Bx w2 w.heap.size X) := Lib.hid (Bx.turn HX1.out ht (by omega))
  have HR2 : Hid (∃ a b c d e, Five w2 (w.heap.size + 1) a b c d e) := Lib.hid (by
    obtain ⟨a, b, c, d, e, h5⟩ := HR1.out
    exact ⟨a, b, c, d, e, h5.turn ht (by omega)⟩)
  have HV2 := Lib.hid hv
  have HB2 : Hid (Below w.heap.size w w2) := Lib.hid (HB1.out.trans (Turn.below ht (fun q e => by rw [e]; omega) HB1.out.size))
  clear ht hv hl hll hok c0 c1 c2 c3 c4 c5 hz
  dsimp only
  obtain ⟨⟨c0, c1, c2, c3, c4, c5⟩, hz⟩ := HX2.out
  go_wp2
  refine envL3 X S A c m raw w HS HM hmm HA HW hn w.heap.size (w.heap.size + 1) (w.heap.size + 1 + 1) w2 HX2 HR2 P0 none none X.n2 0 0 Z0 0 0 0 HV2 HB2 ho HZS _ _ _ _ _ _ _ _ _ _ _ _ _ _ _ _ _ _ _ _ _ _ _ _ _ _ _ _ _ _ _ _ _ _ _ _ _ _ _ _ _ _ _ _ _ _ _ _ _ _ _ _ _ _ _ _ _ _ _ _ _ _ _ _ _ _ _ _ _ _ _ _ _ _ _ _ _ _ _ _ _ _ _ _ _ _ _ _ _ _ _ _ _ _ _ _ _ _ _ _ _ _ _ _ _ _ _ _ _ _ _ _ _ _ _ _ _ _ _ _ _ _ _ _ _ _ _ _ _ _ _ _ _ _ _ _ _ _ _ _ _ _ _ _ _ _ _ _ _ _ _ _ _ _ _ _ _ _ _ _ _ _ _ _ _ _ _ _ (by kernel_rfl) _ _ (Lib.hid ?_) (Lib.hid (by
    intro r7 r8 r9 r10 r11 r12 r13 r14 r15 r16 r17 r18 r19 r20 r21 r22 r23 r24 r25 r26 r27 r28 r29 r30 r31 r32 r33 r34 r35 r36 r37 r38 r39 r40 r41 r42 r43 r44 r45 r46 r47 r48 r49 r50 r51 r52 r53 r54 r55 r56 r57 r58 r59 r60 r61 r62 r63 r64 r65 r66 r67 r68 r69 r70 r71 r72 r73 r74 r75 r76 r77 r78 r79 r80 r81 r82 r83 r84 r85 r86 r87 r88 r89 r90 r91 r92 r93 r94 r95 r96 r97 r98 r99 r100 r101 r102 r103 r104 r105 r106 r107 r108 r109 r110 r111 r112 r113 r114 r115 r116 r117 r118 r119 r120 r121 r122 r123 r124 r125 r126 r127 r128 r129 r130 r131 r132 r133 r134 r135 r136 r137 r138 r139 r140 r141 r142 r143 r144 r145 r146 r147 r148 r149 r150 r151 r152 r153 r154 r155 r156 r157 r158 r159 r160 r161 r162 r163 r164 r165 r166 r167 r168 r169 r170 r171 r172 r173 r174 r175 r176 w' hf hb
    obtain ⟨a, b, c, d, i1, i2, i3, i4, i5, i6, i7, i8, e, h5⟩ := hf
    have h0 := h5.c0
    have h1 := h5.c1
    have h2 := h5.c2
    have h3 := h5.c3
    have h4 := h5.c4
    refine bodyPost_ret (v := .tuple #[.agg #[.slice a i1 i2, .slice b i3 i4, .slice c i5 i6, .slice d i7 i8, .int .i64 e], .bool false]) ?_ rfl ⟨hb, .inl ⟨⟨a, b, c, d, i1, i2, i3, i4, i5, i6, i7, i8, e⟩, rfl⟩⟩
    rw [results_cell_tmp rfl]
    go_simp))
  intro v7 v8 v9 v10 v11 v12 v13 v14 v15 v16 v17 v18 v19 v20 v21 v22 v23 v24 v25 v26 v27 v28 v29 v30 v31 v32 v33 v34 v35 v36 v37 v38 v39 v40 v41 v42 v43 v44 v45 v46 v47 v48 v49 v50 v51 v52 v53 v54 v55 v56 v57 v58 v59 v60 v61 v62 v63 v64 v65 v66 v67 v68 v69 v70 v71 v72 v73 v74 v75 v76 v77 v78 v79 v80 v81 v82 v83 v84 v85 v86 v87 v88 v89 v90 v91 v92 v93 v94 v95 v96 v97 v98 v99 v100 v101 v102 v103 v104 v105 v106 v107 v108 v109 v110 v111 v112 v113 v114 v115 v116 v117 v118 v119 v120 v121 v122 v123 v124 v125 v126 v127 v128 v129 v130 v131 v132 v133 v134 v135 v136 v137 v138 v139 v140 v141 v142 v143 v144 v145 v146 v147 v148 v149 v150 v151 v152 v153 v154 v155 v156 v157 v158 v159 v160 v161 v162 v163 v164 v165 v166 v167 v168 v169 v170 v171 v172 v173 v174 v175 v176 w3 P2 Z2 L2 ht hv hl hll hok
  have HT3 := Lib.hid ht
  have HO2 := Lib.hid hl
  have HLL2 := Lib.hid hll
  have HOK2 := Lib.hid hok
  have HX3 : Hid (Bx w3 w.heap.size X) := Lib.hid (Bx.turn HX2.out ht (by omega))
  have HR3 : Hid (∃ a b c d e, Five w3 (w.heap.size + 1) a b c d e) := Lib.hid (by
    obtain ⟨a, b, c, d, e, h5⟩ := HR2.out
    exact ⟨a, b, c, d, e, h5.turn ht (by omega)⟩)
  have HV3 := Lib.hid hv
  have HB3 : Hid (Below w.heap.size w w3) := Lib.hid (HB2.out.trans (Turn.below ht (fun q e => by rw [e]; omega) HB2.out.size))
  clear ht hv hl hll hok c0 c1 c2 c3 c4 c5 hz
  dsimp only
  obtain ⟨⟨c0, c1, c2, c3, c4, c5⟩, hz⟩ := HX3.out
  go_wp2
  refine envL4 X S A c m raw w HS HM hmm HA HW hn w.heap.size (w.heap.size + 1) (w.heap.size + 1 + 1) w3 HX3 HR3 P0 P2 none X.n2 X.n5 0 Z0 Z2 0 0 HV3 HB3 ho _ _ _ _ _ _ _ _ _ _ _ _ _ _ _ _ _ _ _ _ _ _ _ _ _ _ _ _ _ _ _ _ _ _ _ _ _ _ _ _ _ _ _ _ _ _ _ _ _ _ _ _ _ _ _ _ _ _ _ _ _ _ _ _ _ _ _ _ _ _ _ _ _ _ _ _ _ _ _ _ _ _ _ _ _ _ _ _ _ _ _ _ _ _ _ _ _ _ _ _ _ _ _ _ _ _ _ _ _ _ _ _ _ _ _ _ _ _ _ _ _ _ _ _ _ _ _ _ _ _ _ _ _ _ _ _ _ _ _ _ _ _ _ _ _ _ _ _ _ _ _ _ _ _ _ _ _ _ _ _ _ _ _ _ _ _ _ _ _ (by kernel_rfl) _ _ (Lib.hid ?_) (Lib.hid (by
    intro r7 r8 r9 r10 r11 r12 r13 r14 r15 r16 r17 r18 r19 r20 r21 r22 r23 r24 r25 r26 r27 r28 r29 r30 r31 r32 r33 r34 r35 r36 r37 r38 r39 r40 r41 r42 r43 r44 r45 r46 r47 r48 r49 r50 r51 r52 r53 r54 r55 r56 r57 r58 r59 r60 r61 r62 r63 r64 r65 r66 r67 r68 r69 r70 r71 r72 r73 r74 r75 r76 r77 r78 r79 r80 r81 r82 r83 r84 r85 r86 r87 r88 r89 r90 r91 r92 r93 r94 r95 r96 r97 r98 r99 r100 r101 r102 r103 r104 r105 r106 r107 r108 r109 r110 r111 r112 r113 r114 r115 r116 r117 r118 r119 r120 r121 r122 r123 r124 r125 r126 r127 r128 r129 r130 r131 r132 r133 r134 r135 r136 r137 r138 r139 r140 r141 r142 r143 r144 r145 r146 r147 r148 r149 r150 r151 r152 r153 r154 r155 r156 r157 r158 r159 r160 r161 r162 r163 r164 r165 r166 r167 r168 r169 r170 r171 r172 r173 r174 r175 r176 w' hf hb
    obtain ⟨a, b, c, d, i1, i2, i3, i4, i5, i6, i7, i8, e, h5⟩ := hf
    have h0 := h5.c0
    have h1 := h5.c1
    have h2 := h5.c2
    have h3 := h5.c3
    have h4 := h5.c4
    refine bodyPost_ret (v := .tuple #[.agg #[.slice a i1 i2, .slice b i3 i4, .slice c i5 i6, .slice d i7 i8, .int .i64 e], .bool false]) ?_ rfl ⟨hb, .inl ⟨⟨a, b, c, d, i1, i2, i3, i4, i5, i6, i7, i8, e⟩, rfl⟩⟩
    rw [results_cell_tmp rfl]
    go_simp))
  intro v7 v8 v9 v10 v11 v12 v13 v14 v15 v16 v17 v18 v19 v20 v21 v22 v23 v24 v25 v26 v27 v28 v29 v30 v31 v32 v33 v34 v35 v36 v37 v38 v39 v40 v41 v42 v43 v44 v45 v46 v47 v48 v49 v50 v51 v52 v53 v54 v55 v56 v57 v58 v59 v60 v61 v62 v63 v64 v65 v66 v67 v68 v69 v70 v71 v72 v73 v74 v75 v76 v77 v78 v79 v80 v81 v82 v83 v84 v85 v86 v87 v88 v89 v90 v91 v92 v93 v94 v95 v96 v97 v98 v99 v100 v101 v102 v103 v104 v105 v106 v107 v108 v109 v110 v111 v112 v113 v114 v115 v116 v117 v118 v119 v120 v121 v122 v123 v124 v125 v126 v127 v128 v129 v130 v131 v132 v133 v134 v135 v136 v137 v138 v139 v140 v141 v142 v143 v144 v145 v146 v147 v148 v149 v150 v151 v152 v153 v154 v155 v156 v157 v158 v159 v160 v161 v162 v163 v164 v165 v166 v167 v168 v169 v170 v171 v172 v173 v174 v175 v176 w4 P1 Z1 L1 ht hv hl hll hok
  have HT4 := Lib.hid ht
  have HO1 := Lib.hid hl
  have HLL1 := Lib.hid hll
  have HOK1 := Lib.hid hok
  have HX4 : Hid (Bx w4 w.heap.size X) := Lib.hid (Bx.turn HX3.out ht (by omega))
  have HR4 : Hid (∃ a b c d e, Five w4 (w.heap.size + 1) a b c d e) := Lib.hid (by
    obtain ⟨a, b, c, d, e, h5⟩ := HR3.out
    exact ⟨a, b, c, d, e, h5.turn ht (by omega)⟩)
  have HV4 := Lib.hid hv
  have HB4 : Hid (Below w.heap.size w w4) := Lib.hid (HB3.out.trans (Turn.below ht (fun q e => by rw [e]; omega) HB3.out.size))
  clear ht hv hl hll hok c0 c1 c2 c3 c4 c5 hz
  dsimp only
  obtain ⟨⟨c0, c1, c2, c3, c4, c5⟩, hz⟩ := HX4.out
  go_wp2
  refine envL5 X S A c m raw w HS HM hmm HA HW hn w.heap.size (w.heap.size + 1) (w.heap.size + 1 + 1) w4 HX4 HR4 P0 P1 P2 X.n2 X.n3 X.n5 Z0 Z1 Z2 0 HV4 HB4 ho _ _ _ _ _ _ _ _ _ _ _ _ _ _ _ _ _ _ _ _ _ _ _ _ _ _ _ _ _ _ _ _ _ _ _ _ _ _ _ _ _ _ _ _ _ _ _ _ _ _ _ _ _ _ _ _ _ _ _ _ _ _ _ _ _ _ _ _ _ _ _ _ _ _ _ _ _ _ _ _ _ _ _ _ _ _ _ _ _ _ _ _ _ _ _ _ _ _ _ _ _ _ _ _ _ _ _ _ _ _ _ _ _ _ _ _ _ _ _ _ _ _ _ _ _ _ _ _ _ _ _ _ _ _ _ _ _ _ _ _ _ _ _ _ _ _ _ _ _ _ _ _ _ _ _ _ _ _ _ _ _ _ _ _ _ _ _ _ (by kernel_rfl) _ _ (Lib.hid ?_) (Lib.hid (by
    intro r7 r8 r9 r10 r11 r12 r13 r14 r15 r16 r17 r18 r19 r20 r21 r22 r23 r24 r25 r26 r27 r28 r29 r30 r31 r32 r33 r34 r35 r36 r37 r38 r39 r40 r41 r42 r43 r44 r45 r46 r47 r48 r49 r50 r51 r52 r53 r54 r55 r56 r57 r58 r59 r60 r61 r62 r63 r64 r65 r66 r67 r68 r69 r70 r71 r72 r73 r74 r75 r76 r77 r78 r79 r80 r81 r82 r83 r84 r85 r86 r87 r88 r89 r90 r91 r92 r93 r94 r95 r96 r97 r98 r99 r100 r101 r102 r103 r104 r105 r106 r107 r108 r109 r110 r111 r112 r113 r114 r115 r116 r117 r118 r119 r120 r121 r122 r123 r124 r125 r126 r127 r128 r129 r130 r131 r132 r133 r134 r135 r136 r137 r138 r139 r140 r141 r142 r143 r144 r145 r146 r147 r148 r149 r150 r151 r152 r153 r154 r155 r156 r157 r158 r159 r160 r161 r162 r163 r164 r165 r166 r167 r168 r169 r170 r171 r172 r173 r174 r175 r176 w' hf hb
    obtain ⟨a, b, c, d, i1, i2, i3, i4, i5, i6, i7, i8, e, h5⟩ := hf
    have h0 := h5.c0
    have h1 := h5.c1
    have h2 := h5.c2
    have h3 := h5.c3
    have h4 := h5.c4
    refine bodyPost_ret (v := .tuple #[.agg #[.slice a i1 i2, .slice b i3 i4, .slice c i5 i6, .slice d i7 i8, .int .i64 e], .bool false]) ?_ rfl ⟨hb, .inl ⟨⟨a, b, c, d, i1, i2, i3, i4, i5, i6, i7, i8, e⟩, rfl⟩⟩
    rw [results_cell_tmp rfl]
    go_simp))
  intro v7 v8 v9 v10 v11 v12 v13 v14 v15 v16 v17 v18 v19 v20 v21 v22 v23 v24 v25 v26 v27 v28 v29 v30 v31 v32 v33 v34 v35 v36 v37 v38 v39 v40 v41 v42 v43 v44 v45 v46 v47 v48 v49 v50 v51 v52 v53 v54 v55 v56 v57 v58 v59 v60 v61 v62 v63 v64 v65 v66 v67 v68 v69 v70 v71 v72 v73 v74 v75 v76 v77 v78 v79 v80 v81 v82 v83 v84 v85 v86 v87 v88 v89 v90 v91 v92 v93 v94 v95 v96 v97 v98 v99 v100 v101 v102 v103 v104 v105 v106 v107 v108 v109 v110 v111 v112 v113 v114 v115 v116 v117 v118 v119 v120 v121 v122 v123 v124 v125 v126 v127 v128 v129 v130 v131 v132 v133 v134 v135 v136 v137 v138 v139 v140 v141 v142 v143 v144 v145 v146 v147 v148 v149 v150 v151 v152 v153 v154 v155 v156 v157 v158 v159 v160 v161 v162 v163 v164 v165 v166 v167 v168 v169 v170 v171 v172 v173 v174 v175 v176 w5 P3 Z3 L3 ht hv hl hll hok
  have HT5 := Lib.hid ht
  have HO3 := Lib.hid hl
  have HLL3 := Lib.hid hll
  have HOK3 := Lib.hid hok
  have HX5 : Hid (Bx w5 w.heap.size X) := Lib.hid (Bx.turn HX4.out ht (by omega))
  have HR5 : Hid (∃ a b c d e, Five w5 (w.heap.size + 1) a b c d e) := Lib.hid (by
    obtain ⟨a, b, c, d, e, h5⟩ := HR4.out
    exact ⟨a, b, c, d, e, h5.turn ht (by omega)⟩)
  have HV5 := Lib.hid hv
  have HB5 : Hid (Below w.heap.size w w5) := Lib.hid (HB4.out.trans (Turn.below ht (fun q e => by rw [e]; omega) HB4.out.size))
  clear ht hv hl hll hok c0 c1 c2 c3 c4 c5 hz
  dsimp only
  obtain ⟨⟨c0, c1, c2, c3, c4, c5⟩, hz⟩ := HX5.out
  have hs1 := HV1.out.lt
  have hs2 := HT2.out.size
  have hs3 := HT3.out.size
  have hs4 := HT4.out.size
  have hs5 := HT5.out.size
  have HFIN : Hid (∀ (sv : Int) (w9 : World), Turn (fun q => q < w1.heap.size) w5 w9 → (1 ≤ S.self → S.self ≤ S.sizes.length → 0 ≤ sv ∧ sv ≤ S.sizes.getD (S.self - 1).toNat 0) →
      ER w9 ⟨P0, P1, P2, P3, X.n2, Z0, X.n3, Z1, X.n5, Z2, X.n4, Z3, sv⟩ ⟨L0, L1, L2, L3, sv⟩ ∧ EF S ⟨L0, L1, L2, L3, sv⟩) := Lib.hid (fun sv w9 ht hs => by
    have o0 := (((HO0.out.turn HT3.out (fun q e => by rw [e]; exact hs1)).turn HT4.out (fun q e => by rw [e]; exact hs1)).turn HT5.out (fun q e => by rw [e]; exact hs1)).turn ht (fun q e => e)
    have o2 := ((OI.turn HO2.out HT4.out (fun q e => by rw [e]; omega)).turn HT5.out (fun q e => by rw [e]; omega)).turn ht (fun q e => by omega)
    have o1 := (OI.turn HO1.out HT5.out (fun q e => by rw [e]; omega)).turn ht (fun q e => by omega)
    have o3 := HO3.out.turn ht (fun q e => by omega)
    obtain ⟨A0, d0, e0, r0⟩ := o0.ri
    obtain ⟨A1, d1, e1, r1⟩ := o1.form
    obtain ⟨A2, d2, e2, r2⟩ := o2.form
    obtain ⟨A3, d3, e3, r3⟩ := o3.ri
    injection e0 with e0 _ _
    injection e1 with e1 _ _
    injection e2 with e2 _ _
    injection e3 with e3 _ _
    subst e0 e1 e2 e3
    exact ⟨⟨HLL0.out.symm, HLL1.out.symm, HLL2.out.symm, HLL3.out.symm, rfl, r0, r1, r2, r3⟩, ef_of HZS.out (by rw [HLL0.out, HS.out.l2]) (by rw [HLL2.out, HS.out.l5]) (by rw [HLL1.out, HS.out.l3]) (by rw [HLL3.out, HS.out.l4])
      (by rw [← HS.out.l2]; exact HOK0.out) (by rw [← HS.out.l5]; exact HOK2.out) (by rw [← HS.out.l3]; exact HOK1.out) (by rw [← HS.out.l4]; exact HOK3.out) hs⟩)
  by_cases h1 : 1 ≤ X.self
  · by_cases h2 : X.self ≤ X.n1
    · obtain ⟨j, hj⟩ : ∃ j : Nat, X.self = (j : Int) + 1 := ⟨(X.self - 1).toNat, by omega⟩
      have hjn : j < X.n1 := by omega
      obtain ⟨b, o, hAA, hb, hcc⟩ := (HS.out.r1.below HB5.out) (by rw [← HS.out.l1]; omega)
      obtain ⟨s, g0, g1⟩ := hcc j (by rw [← HS.out.l1]; exact hjn)
      have hzj := HZS.out j (by rw [← HS.out.l1]; exact hjn)
      obtain ⟨sz, HSZ⟩ : ∃ sz : Nat, Hid (S.sizes.getD j 0 = (sz : Int)) := ⟨(S.sizes.getD j 0).toNat, Lib.hid (by omega)⟩
      rw [HSZ.out] at g1 hzj
      have hsz1 : 1 ≤ sz := by omega
      have hsz2 : sz ≤ 50 := by omega
      have hbw : b < w.heap.size := by
        obtain ⟨b9, o9, e9, h9, _⟩ := HS.out.r1 (by rw [← HS.out.l1]; omega)
        rw [hAA] at e9
        injection e9 with e9
        injection e9 with e9
        rw [e9]
        exact h9
      have HJ := Lib.hid hj
      have hself : IntKind.i64.wrap (X.self - 1) = (j : Int) := (IntWalk.i64_in _ (by omega)).trans (by omega)
      have hj0 : (0 : Int) ≤ (j : Int) := by omega
      have hj9 : (j : Int) < (X.n1 : Int) := by omega
      have hN1 : ¬ (sz : Int) = 0 := by omega
      have hN2 : ((sz : Int) == 0) = false := by simpa using hN1
      have hN3 : ¬ sz = 0 := by omega
      rw [hAA] at c0
      obtain ⟨s0, hs0⟩ : ∃ s0 : Int, X.self = s0 := ⟨_, rfl⟩
      rw [hs0] at hself c5 h1 h2
      have HJ0 : Hid (s0 = (j : Int) + 1) := Lib.hid (by rw [← hs0]; exact hj)
      clear hj hcc hzj g0
      go_upto_region 37 with (fail)
      have k0 := c0
      have k5 := c5
      have HS0 : Hid ((fun w' : World => w'.cell? ⟨w.heap.size, 0, none⟩ = some (.slice (some ⟨b, o, none⟩) X.n1 X.c1) ∧ w'.cell? ⟨w.heap.size, 5, none⟩ = some (.int .i64 s0) ∧ w'.cell? ⟨b, o + j * 2 + 1, none⟩ = some (.int .i64 sz)) w5.drew) := Lib.hid ⟨c0, c5, g1⟩
      refine wp_region_noPanic ?_
      refine wp_region_held_drew (S := (fun w' : World => w'.cell? ⟨w.heap.size, 0, none⟩ = some (.slice (some ⟨b, o, none⟩) X.n1 X.c1) ∧ w'.cell? ⟨w.heap.size, 5, none⟩ = some (.int .i64 s0) ∧ w'.cell? ⟨b, o + j * 2 + 1, none⟩ = some (.int .i64 sz))) (by kernel_rfl) HS0.out (fun hHeld => ?_)
      clear hHeld
      refine wpAnyH_take (i := 0) (oi := ⟨some 153, _, _, _, _, _⟩) (v := .pointer (some ⟨w.heap.size, 0, none⟩)) rfl (by kernel_rfl) (by kernel_rfl) (by kernel_rfl) (fun _ _ _ h => h) (Or.inl ⟨by kernel_rfl, fun w9 hS => ?_⟩) HS0.out ?_
      · clear hS
        go_simp
      try simp only [Act.put, List.setIfInBounds_toArray, List.set_cons_zero, List.set_cons_succ]
      refine wpAnyH_take (i := 1) (oi := ⟨some 154, _, _, _, _, _⟩) (v := .slice (some ⟨b, o, none⟩) X.n1 X.c1) rfl (by kernel_rfl) (by kernel_rfl) (by kernel_rfl) (fun _ _ _ h => h) (Or.inl ⟨by kernel_rfl, fun w9 hS => ?_⟩) HS0.out ?_
      · obtain ⟨y0, y5, y1⟩ := hS
        go_simp
      try simp only [Act.put, List.setIfInBounds_toArray, List.set_cons_zero, List.set_cons_succ]
      refine wpAnyH_take (i := 2) (oi := ⟨some 155, _, _, _, _, _⟩) (v := .pointer (some ⟨w.heap.size, 5, none⟩)) rfl (by kernel_rfl) (by kernel_rfl) (by kernel_rfl) (fun _ _ _ h => h) (Or.inl ⟨by kernel_rfl, fun w9 hS => ?_⟩) HS0.out ?_
      · clear hS
        go_simp
      try simp only [Act.put, List.setIfInBounds_toArray, List.set_cons_zero, List.set_cons_succ]
      refine wpAnyH_take (i := 3) (oi := ⟨some 156, _, _, _, _, _⟩) (v := .int .i64 s0) rfl (by kernel_rfl) (by kernel_rfl) (by kernel_rfl) (fun _ _ _ h => h) (Or.inl ⟨by kernel_rfl, fun w9 hS => ?_⟩) HS0.out ?_
      · obtain ⟨y0, y5, y1⟩ := hS
        go_simp
      try simp only [Act.put, List.setIfInBounds_toArray, List.set_cons_zero, List.set_cons_succ]
      refine wpAnyH_take (i := 4) (oi := ⟨some 157, _, _, _, _, _⟩) (v := .int .i64 j) rfl (by kernel_rfl) (by kernel_rfl) (by kernel_rfl) (fun _ _ _ h => h) (Or.inl ⟨by kernel_rfl, fun w9 hS => ?_⟩) HS0.out ?_
      · clear hS
        go_simp
      try simp only [Act.put, List.setIfInBounds_toArray, List.set_cons_zero, List.set_cons_succ]
      refine wpAnyH_take (i := 5) (oi := ⟨some 158, _, _, _, _, _⟩) (v := .pointer (some ⟨b, o + j * 2, none⟩)) rfl (by kernel_rfl) (by kernel_rfl) (by kernel_rfl) (fun _ _ _ h => h) (Or.inl ⟨by kernel_rfl, fun w9 hS => ?_⟩) HS0.out ?_
      · clear hS
        go_simp
      try simp only [Act.put, List.setIfInBounds_toArray, List.set_cons_zero, List.set_cons_succ]
      refine wpAnyH_take (i := 6) (oi := ⟨some 159, _, _, _, _, _⟩) (v := .pointer (some ⟨b, o + j * 2 + 1, none⟩)) rfl (by kernel_rfl) (by kernel_rfl) (by kernel_rfl) (fun _ _ _ h => h) (Or.inl ⟨by kernel_rfl, fun w9 hS => ?_⟩) HS0.out ?_
      · clear hS
        go_simp
      try simp only [Act.put, List.setIfInBounds_toArray, List.set_cons_zero, List.set_cons_succ]
      refine wpAnyH_take (i := 7) (oi := ⟨some 160, _, _, _, _, _⟩) (v := .int .i64 sz) rfl (by kernel_rfl) (by kernel_rfl) (by kernel_rfl) (fun _ _ _ h => h) (Or.inl ⟨by kernel_rfl, fun w9 hS => ?_⟩) HS0.out ?_
      · obtain ⟨y0, y5, y1⟩ := hS
        go_simp
      try simp only [Act.put, List.setIfInBounds_toArray, List.set_cons_zero, List.set_cons_succ]
      refine wpAnyH_take (i := 8) (oi := ⟨some 161, _, _, _, _, _⟩) (v := .slice A m c) rfl (by kernel_rfl) (by kernel_rfl) (by kernel_rfl) (fun _ _ _ h => h) (Or.inl ⟨by kernel_rfl, fun w9 hS => ?_⟩) HS0.out ?_
      · clear hS
        go_simp
      try simp only [Act.put, List.setIfInBounds_toArray, List.set_cons_zero, List.set_cons_succ]
      refine wpAnyH_take (i := 12) (oi := ⟨some 165, _, _, _, _, _⟩) (v := .pointer (some ⟨w.heap.size, 0, none⟩)) rfl (by kernel_rfl) (by kernel_rfl) (by kernel_rfl) (fun _ _ _ h => h) (Or.inl ⟨by kernel_rfl, fun w9 hS => ?_⟩) HS0.out ?_
      · clear hS
        go_simp
      try simp only [Act.put, List.setIfInBounds_toArray, List.set_cons_zero, List.set_cons_succ]
      refine wpAnyH_take (i := 13) (oi := ⟨some 166, _, _, _, _, _⟩) (v := .slice (some ⟨b, o, none⟩) X.n1 X.c1) rfl (by kernel_rfl) (by kernel_rfl) (by kernel_rfl) (fun _ _ _ h => h) (Or.inl ⟨by kernel_rfl, fun w9 hS => ?_⟩) HS0.out ?_
      · obtain ⟨y0, y5, y1⟩ := hS
        go_simp
      try simp only [Act.put, List.setIfInBounds_toArray, List.set_cons_zero, List.set_cons_succ]
      refine wpAnyH_take (i := 14) (oi := ⟨some 167, _, _, _, _, _⟩) (v := .pointer (some ⟨w.heap.size, 5, none⟩)) rfl (by kernel_rfl) (by kernel_rfl) (by kernel_rfl) (fun _ _ _ h => h) (Or.inl ⟨by kernel_rfl, fun w9 hS => ?_⟩) HS0.out ?_
      · clear hS
        go_simp
      try simp only [Act.put, List.setIfInBounds_toArray, List.set_cons_zero, List.set_cons_succ]
      refine wpAnyH_take (i := 15) (oi := ⟨some 168, _, _, _, _, _⟩) (v := .int .i64 s0) rfl (by kernel_rfl) (by kernel_rfl) (by kernel_rfl) (fun _ _ _ h => h) (Or.inl ⟨by kernel_rfl, fun w9 hS => ?_⟩) HS0.out ?_
      · obtain ⟨y0, y5, y1⟩ := hS
        go_simp
      try simp only [Act.put, List.setIfInBounds_toArray, List.set_cons_zero, List.set_cons_succ]
      refine wpAnyH_take (i := 16) (oi := ⟨some 169, _, _, _, _, _⟩) (v := .int .i64 j) rfl (by kernel_rfl) (by kernel_rfl) (by kernel_rfl) (fun _ _ _ h => h) (Or.inl ⟨by kernel_rfl, fun w9 hS => ?_⟩) HS0.out ?_
      · clear hS
        go_simp
      try simp only [Act.put, List.setIfInBounds_toArray, List.set_cons_zero, List.set_cons_succ]
      refine wpAnyH_take (i := 17) (oi := ⟨some 170, _, _, _, _, _⟩) (v := .pointer (some ⟨b, o + j * 2, none⟩)) rfl (by kernel_rfl) (by kernel_rfl) (by kernel_rfl) (fun _ _ _ h => h) (Or.inl ⟨by kernel_rfl, fun w9 hS => ?_⟩) HS0.out ?_
      · clear hS
        go_simp
      try simp only [Act.put, List.setIfInBounds_toArray, List.set_cons_zero, List.set_cons_succ]
      refine wpAnyH_take (i := 18) (oi := ⟨some 171, _, _, _, _, _⟩) (v := .pointer (some ⟨b, o + j * 2 + 1, none⟩)) rfl (by kernel_rfl) (by kernel_rfl) (by kernel_rfl) (fun _ _ _ h => h) (Or.inl ⟨by kernel_rfl, fun w9 hS => ?_⟩) HS0.out ?_
      · clear hS
        go_simp
      try simp only [Act.put, List.setIfInBounds_toArray, List.set_cons_zero, List.set_cons_succ]
      refine wpAnyH_take (i := 19) (oi := ⟨some 172, _, _, _, _, _⟩) (v := .int .i64 sz) rfl (by kernel_rfl) (by kernel_rfl) (by kernel_rfl) (fun _ _ _ h => h) (Or.inl ⟨by kernel_rfl, fun w9 hS => ?_⟩) HS0.out ?_
      · obtain ⟨y0, y5, y1⟩ := hS
        go_simp
      try simp only [Act.put, List.setIfInBounds_toArray, List.set_cons_zero, List.set_cons_succ]
      refine wpAnyH_ready (rs := [9]) (by kernel_rfl) (by simp) ?_
      refine AllReadyH.cons (o := ⟨some 162, _, _, _, _, _⟩) rfl (fun K hK => ?_) AllReadyH.nil
      rw [if_pos (by kernel_rfl)]
      go_simp
      (go_at_call 18; refine (fill_any 1 m c 11 sz A raw _ (by decide) (by decide) HM.out hmm (HA.out.below HB5.out.drew) HW.out (by omega)).mono ?_; rintro e w6 ⟨L, rfl, hia, hb6, hl6, hf6⟩; (try dsimp only); have HFL : Hid (FillOk sz (L.getD 0 0)) := Lib.hid (hf6 _ (getD_mem (by omega))); obtain ⟨zn, HZN⟩ : ∃ zn : Nat, Hid (L.getD 0 0 = (zn : Int)) := ⟨(L.getD 0 0).toNat, Lib.hid (by have := HFL.out; unfold FillOk at this; rw [if_pos (by omega)] at this; omega)⟩; have d0 : w6.cell? ⟨w5.heap.size, 0, none⟩ = some (.int .i64 zn) := (ia_first hia (by omega)).trans (by rw [HZN.out]); obtain ⟨r, hr1, hr2⟩ : ∃ r : Nat, zn % sz = r ∧ r < sz := ⟨_, rfl, Nat.mod_lt _ (by omega)⟩; have hr3 : (zn : Int) % (sz : Int) = (r : Int) := (by rw [← hr1]; simp); have hr4 : (zn : Int).tmod (sz : Int) = (r : Int) := (by rw [Int.tmod_eq_emod_of_nonneg (by omega)]; exact hr3); have hr5 : IntKind.i64.wrap (1 + (r : Int)) = 1 + (r : Int) := IntWalk.i64_in _ (by omega); have HB6 : Hid (Below w5.heap.size w5 w6) := Lib.hid (((Below.refl _ w5).drew).trans hb6); have HV6 := Lib.hid (HV5.out.below HB6.out); have e4 := HV6.out.c4; have f4 := HV6.out.f 4; have m0 := (HB6.out.cell (p := ⟨w.heap.size, 0, none⟩) (by show w.heap.size < w5.heap.size; omega)).trans c0; have m5 := (HB6.out.cell (p := ⟨w.heap.size, 5, none⟩) (by show w.heap.size < w5.heap.size; omega)).trans c5; have m1 := (HB6.out.cell (p := ⟨b, o + j * 2 + 1, none⟩) (by show b < w5.heap.size; omega)).trans g1; have hf1 : w.heap.size + 1 + 1 ≠ w.heap.size := (by omega); have hf2 : w.heap.size + 1 + 1 ≠ b := (by omega); clear hia hb6 hl6 hf6)
      have HS1 : Hid ((fun w' : World => w'.cell? ⟨w.heap.size, 0, none⟩ = some (.slice (some ⟨b, o, none⟩) X.n1 X.c1) ∧ w'.cell? ⟨w.heap.size, 5, none⟩ = some (.int .i64 s0) ∧ w'.cell? ⟨b, o + j * 2 + 1, none⟩ = some (.int .i64 sz)) w6) := Lib.hid ⟨m0, m5, m1⟩
      refine hK.out _ _ HS1.out (fun _ => ?_)
      clear hK K
      try simp only [Act.put, List.setIfInBounds_toArray, List.set_cons_zero, List.set_cons_succ]
      refine wpAnyH_take (i := 10) (oi := ⟨some 163, _, _, _, _, _⟩) (v := .pointer (some ⟨w5.heap.size, 0, none⟩)) rfl (by kernel_rfl) (by kernel_rfl) (by kernel_rfl) (fun _ _ _ h => h) (Or.inl ⟨by kernel_rfl, fun w9 hS => ?_⟩) HS1.out ?_
      · clear hS
        go_simp
      try simp only [Act.put, List.setIfInBounds_toArray, List.set_cons_zero, List.set_cons_succ]
      refine wpAnyH_ready (rs := [11]) (by kernel_rfl) (by simp) ?_
      refine AllReadyH.cons (o := ⟨some 164, _, _, _, _, _⟩) rfl (fun K hK => ?_) AllReadyH.nil
      rw [if_pos (by kernel_rfl)]
      go_simp
      refine hK.out _ _ HS1.out (fun _ => ?_)
      clear hK K
      try simp only [Act.put, List.setIfInBounds_toArray, List.set_cons_zero, List.set_cons_succ]
      refine wpAnyH_take (i := 20) (oi := ⟨some 173, _, _, _, _, _⟩) (v := .int .i64 r) rfl (by kernel_rfl) (by kernel_rfl) (by kernel_rfl) (fun _ _ _ h => h) (Or.inl ⟨by kernel_rfl, fun w9 hS => ?_⟩) HS1.out ?_
      · clear hS
        go_simp
      try simp only [Act.put, List.setIfInBounds_toArray, List.set_cons_zero, List.set_cons_succ]
      refine wpAnyH_take (i := 21) (oi := ⟨some 174, _, _, _, _, _⟩) (v := .int .i64 (1 + (r : Int))) rfl (by kernel_rfl) (by kernel_rfl) (by kernel_rfl) (fun _ _ _ h => h) (Or.inl ⟨by kernel_rfl, fun w9 hS => ?_⟩) HS1.out ?_
      · clear hS
        go_simp
      try simp only [Act.put, List.setIfInBounds_toArray, List.set_cons_zero, List.set_cons_succ]
      refine wpAnyH_take (i := 22) (oi := ⟨some 175, _, _, _, _, _⟩) (v := .pointer (some ⟨w.heap.size + 1 + 1, 4, none⟩)) rfl (by kernel_rfl) (by kernel_rfl) (by kernel_rfl) (fun _ _ _ h => h) (Or.inl ⟨by kernel_rfl, fun w9 hS => ?_⟩) HS1.out ?_
      · clear hS
        go_simp
      try simp only [Act.put, List.setIfInBounds_toArray, List.set_cons_zero, List.set_cons_succ]
      refine wpAnyH_ready (rs := [23]) (by kernel_rfl) (by simp) ?_
      refine AllReadyH.cons (o := ⟨none, _, _, _, _, _⟩) rfl (fun K hK => ?_) AllReadyH.nil
      rw [if_pos (by kernel_rfl)]
      go_simp
      have HS2 : Hid ((fun w' : World => w'.cell? ⟨w.heap.size, 0, none⟩ = some (.slice (some ⟨b, o, none⟩) X.n1 X.c1) ∧ w'.cell? ⟨w.heap.size, 5, none⟩ = some (.int .i64 s0) ∧ w'.cell? ⟨b, o + j * 2 + 1, none⟩ = some (.int .i64 sz)) (w6.setCell ⟨w.heap.size + 1 + 1, 4, none⟩ (.int .i64 (1 + (r : Int))))) := Lib.hid ⟨(World.cell?_setCell_far _ _ _ _ hf1).trans m0, (World.cell?_setCell_far _ _ _ _ hf1).trans m5, (World.cell?_setCell_far _ _ _ _ hf2).trans m1⟩
      refine hK.out _ _ HS2.out (fun _ => ?_)
      clear hK K
      try simp only [Act.put, List.setIfInBounds_toArray, List.set_cons_zero, List.set_cons_succ]
      refine wpAnyH_done (by kernel_rfl) ?_ _
      refine NoPanic.normal ?_
      all_goals
        go_upto_region 38 with (fail)
        generalize hw7 : w6.setCell ⟨w.heap.size + 1 + 1, 4, none⟩ (.int .i64 (1 + (r : Int))) = w7
        have HV7 : Hid (Five w7 (w.heap.size + 1 + 1) (.slice P0 X.n2 Z0) (.slice P1 X.n3 Z1) (.slice P2 X.n5 Z2) (.slice P3 X.n4 Z3) (.int .i64 (1 + (r : Int)))) := Lib.hid (by rw [← hw7]; exact HV6.out.set4 _)
        have HT7 : Hid (Turn (fun q => q < w1.heap.size) w5 w7) := Lib.hid (by rw [← hw7]; exact Turn.set (Turn.of_below HB6.out) _ _ (by show w.heap.size + 1 + 1 < _; exact hs1))
        have HB7 : Hid (Below w.heap.size w w7) := Lib.hid (by rw [← hw7]; exact (HB5.out.trans (HB6.out.mono HB5.out.size)).setCell (p := ⟨w.heap.size + 1 + 1, 4, none⟩) (by show w.heap.size ≤ w.heap.size + 1 + 1; omega) _)
        obtain ⟨ra, rb, rc, rd, re, a0, a1, a2, a3, a4, af, al⟩ : ∃ a b c d e, Five w7 (w.heap.size + 1) a b c d e := by
          obtain ⟨a, b', c', d, e, h5⟩ := HR5.out
          rw [← hw7]
          exact ⟨a, b', c', d, e, (h5.below HB6.out).turn (T := fun q => q = w.heap.size + 1 + 1) (Turn.set (Turn.refl _ _) _ _ rfl) (by omega)⟩
        clear hw7 d0 e4 f4 m0 m5 m1 c0 c1 c2 c3 c4 c5 k0 k5 g1
        obtain ⟨b0, b1, b2, b3, b4, bf, bl⟩ := HV7.out
        have af0 := af 0
        have af1 := af 1
        have af2 := af 2
        have af3 := af 3
        have af4 := af 4
        clear af bf
        have HE := Lib.hid (HFIN.out (1 + (r : Int)) (((((w7.setCell ⟨w.heap.size + 1, 0, none⟩ (.slice P0 X.n2 Z0)).setCell ⟨w.heap.size + 1, 1, none⟩ (.slice P1 X.n3 Z1)).setCell ⟨w.heap.size + 1, 2, none⟩ (.slice P2 X.n5 Z2)).setCell ⟨w.heap.size + 1, 3, none⟩ (.slice P3 X.n4 Z3)).setCell ⟨w.heap.size + 1, 4, none⟩ (.int .i64 (1 + (r : Int)))) (HT7.out.trans (turn5 _ (by omega) _ _ _ _ _)) (fun q1 q2 => by
          have h9 : S.self = (j : Int) + 1 := by rw [← HS.out.self, hs0, HJ0.out]
          rw [h9, show ((j : Int) + 1 - 1).toNat = j by omega, HSZ.out]
          omega))
        have HB9 := Lib.hid (below5 HB7.out (w.heap.size + 1) (by omega) (.slice P0 X.n2 Z0) (.slice P1 X.n3 Z1) (.slice P2 X.n5 Z2) (.slice P3 X.n4 Z3) (.int .i64 (1 + (r : Int))))
        go_wp2
        (try simp only [Exit.inBlock, Exit.then])
        refine bodyPost_ret (v := .tuple #[.agg #[.slice P0 X.n2 Z0, .slice P1 X.n3 Z1, .slice P2 X.n5 Z2, .slice P3 X.n4 Z3, .int .i64 (1 + (r : Int))], .bool true]) ?_ rfl ⟨HB9.out, .inr ⟨⟨P0, P1, P2, P3, X.n2, Z0, X.n3, Z1, X.n5, Z2, X.n4, Z3, 1 + (r : Int)⟩, ⟨L0, L1, L2, L3, 1 + (r : Int)⟩, rfl, HE.out.1, HE.out.2⟩⟩
        rw [results_cell_tmp rfl]
        go_simp
    · obtain ⟨ra, rb, rc, rd, re, a0, a1, a2, a3, a4, af, al⟩ := HR5.out
      obtain ⟨b0, b1, b2, b3, b4, bf, bl⟩ := HV5.out
      have af0 := af 0
      have af1 := af 1
      have af2 := af 2
      have af3 := af 3
      have af4 := af 4
      clear af bf
      have HE := Lib.hid (HFIN.out 0 (((((w5.setCell ⟨w.heap.size + 1, 0, none⟩ (.slice P0 X.n2 Z0)).setCell ⟨w.heap.size + 1, 1, none⟩ (.slice P1 X.n3 Z1)).setCell ⟨w.heap.size + 1, 2, none⟩ (.slice P2 X.n5 Z2)).setCell ⟨w.heap.size + 1, 3, none⟩ (.slice P3 X.n4 Z3)).setCell ⟨w.heap.size + 1, 4, none⟩ (.int .i64 0)) (turn5 _ (by omega) _ _ _ _ _) (fun q1 q2 => absurd (And.intro q1 q2) (by rw [← HS.out.self, ← HS.out.l1]; omega)))
      have HB9 := Lib.hid (below5 HB5.out (w.heap.size + 1) (by omega) (.slice P0 X.n2 Z0) (.slice P1 X.n3 Z1) (.slice P2 X.n5 Z2) (.slice P3 X.n4 Z3) (.int .i64 0))
      go_wp2
      (try simp only [Exit.inBlock, Exit.then])
      refine bodyPost_ret (v := .tuple #[.agg #[.slice P0 X.n2 Z0, .slice P1 X.n3 Z1, .slice P2 X.n5 Z2, .slice P3 X.n4 Z3, .int .i64 0], .bool true]) ?_ rfl ⟨HB9.out, .inr ⟨⟨P0, P1, P2, P3, X.n2, Z0, X.n3, Z1, X.n5, Z2, X.n4, Z3, 0⟩, ⟨L0, L1, L2, L3, 0⟩, rfl, HE.out.1, HE.out.2⟩⟩
      rw [results_cell_tmp rfl]
      go_simp
  · obtain ⟨ra, rb, rc, rd, re, a0, a1, a2, a3, a4, af, al⟩ := HR5.out
    obtain ⟨b0, b1, b2, b3, b4, bf, bl⟩ := HV5.out
    have af0 := af 0
    have af1 := af 1
    have af2 := af 2
    have af3 := af 3
    have af4 := af 4
    clear af bf
    have HE := Lib.hid (HFIN.out 0 (((((w5.setCell ⟨w.heap.size + 1, 0, none⟩ (.slice P0 X.n2 Z0)).setCell ⟨w.heap.size + 1, 1, none⟩ (.slice P1 X.n3 Z1)).setCell ⟨w.heap.size + 1, 2, none⟩ (.slice P2 X.n5 Z2)).setCell ⟨w.heap.size + 1, 3, none⟩ (.slice P3 X.n4 Z3)).setCell ⟨w.heap.size + 1, 4, none⟩ (.int .i64 0)) (turn5 _ (by omega) _ _ _ _ _) (fun q1 q2 => absurd (And.intro q1 q2) (by rw [← HS.out.self, ← HS.out.l1]; omega)))
    have HB9 := Lib.hid (below5 HB5.out (w.heap.size + 1) (by omega) (.slice P0 X.n2 Z0) (.slice P1 X.n3 Z1) (.slice P2 X.n5 Z2) (.slice P3 X.n4 Z3) (.int .i64 0))
    go_wp2
    (try simp only [Exit.inBlock, Exit.then])
    refine bodyPost_ret (v := .tuple #[.agg #[.slice P0 X.n2 Z0, .slice P1 X.n3 Z1, .slice P2 X.n5 Z2, .slice P3 X.n4 Z3, .int .i64 0], .bool true]) ?_ rfl ⟨HB9.out, .inr ⟨⟨P0, P1, P2, P3, X.n2, Z0, X.n3, Z1, X.n5, Z2, X.n4, Z3, 0⟩, ⟨L0, L1, L2, L3, 0⟩, rfl, HE.out.1, HE.out.2⟩⟩
    rw [results_cell_tmp rfl]
    go_simp
end Go.Proofs.YtodloljpfbkkjaaRRRR.lenv
