/- The law ExprFits' own env: its loop 2. -/
import Derived.Test.YtodloljpfbkkjaaRRRRExprEnvB
namespace Go.Proofs.YtodloljpfbkkjaaRRRR.lenv
open Go.ChangeShapes Go.WideShapes Go.ChangeAt Go.RowKit

set_option maxRecDepth 100000 in
set_option maxHeartbeats 8000000 in
theorem envL2 (X : ScX) (S : Sc) (A : Option Addr) (c m : Nat) (raw : List Int) (w : World) (HS : Hid (SR w X S)) (HM : Hid (m = raw.length)) (hmm : m ≤ 1000000000000000) (HA : Hid (IA w A raw)) (HW : Hid (W64 raw)) (hn : X.n2 + X.n5 + X.n3 + X.n4 ≤ 100) (bS rB vB : Nat) (w0 : World) (HX : Hid (Bx w0 bS X)) (HR : Hid (∃ a b c d e, Five w0 rB a b c d e)) (p1 p2 p3 : Option Addr) (q1 q2 q3 z1 z2 z3 : Nat) (s4 : Int) (HV : Hid (Five w0 vB (.slice none 0 0) (.slice p1 q1 z1) (.slice p2 q2 z2) (.slice p3 q3 z3) (.int .i64 s4))) (HB : Hid (Below w.heap.size w w0)) (ho : w.heap.size ≤ bS ∧ w.heap.size ≤ rB ∧ w.heap.size ≤ vB ∧ bS ≠ vB ∧ rB ≠ vB ∧ bS ≠ rB) (HZS : Hid (∀ j, j < S.sizes.length → 1 ≤ S.sizes.getD j 0 ∧ S.sizes.getD j 0 ≤ 50))
    (u7 u8 u9 u10 u11 u12 u13 u14 u15 u16 u17 u18 u19 u20 u21 u22 u23 u24 u25 u26 u27 u28 u29 u30 u31 u32 u33 u34 u35 u36 u37 u38 u39 u43 u44 u45 u46 u47 u48 u49 u50 u51 u52 u53 u54 u55 u56 u57 u58 u59 u60 u61 u62 u63 u64 u65 u66 u67 u68 u69 u70 u71 u72 u73 u74 u75 u76 u77 u78 u79 u80 u81 u82 u83 u84 u85 u86 u87 u88 u89 u90 u91 u92 u93 u94 u95 u96 u97 u98 u99 u100 u101 u102 u103 u104 u105 u106 u107 u108 u109 u110 u111 u112 u113 u114 u115 u116 u117 u118 u119 u120 u121 u122 u123 u124 u125 u126 u127 u128 u129 u130 u131 u132 u133 u134 u135 u136 u137 u138 u139 u140 u141 u142 u143 u144 u145 u146 u147 u148 u149 u150 u151 u152 u153 u154 u155 u156 u157 u158 u159 u160 u161 u162 u163 u164 u165 u166 u167 u168 u169 u170 u171 u172 u173 u174 u175 u176 : Value) (cd : Code) (hcd : (Try.f7.body.bind (findBlock 2)) = some cd) (K : Act → World → Prop) (Q : Exit → Act → World → Prop)
    (HK : Hid (∀ (v7 v8 v9 v10 v11 v12 v13 v14 v15 v16 v17 v18 v19 v20 v21 v22 v23 v24 v25 v26 v27 v28 v29 v30 v31 v32 v33 v34 v35 v36 v37 v38 v39 v40 v41 v42 v43 v44 v45 v46 v47 v48 v49 v50 v51 v52 v53 v54 v55 v56 v57 v58 v59 v60 v61 v62 v63 v64 v65 v66 v67 v68 v69 v70 v71 v72 v73 v74 v75 v76 v77 v78 v79 v80 v81 v82 v83 v84 v85 v86 v87 v88 v89 v90 v91 v92 v93 v94 v95 v96 v97 v98 v99 v100 v101 v102 v103 v104 v105 v106 v107 v108 v109 v110 v111 v112 v113 v114 v115 v116 v117 v118 v119 v120 v121 v122 v123 v124 v125 v126 v127 v128 v129 v130 v131 v132 v133 v134 v135 v136 v137 v138 v139 v140 v141 v142 v143 v144 v145 v146 v147 v148 v149 v150 v151 v152 v153 v154 v155 v156 v157 v158 v159 v160 v161 v162 v163 v164 v165 v166 v167 v168 v169 v170 v171 v172 v173 v174 v175 v176 : Value) (w' : World), ∀ (P : Option Addr) (Z : Nat) (LL : List (List Int)), Turn (fun b => b = vB) w0 w' → Five w' vB (.slice P X.n2 Z) (.slice p1 q1 z1) (.slice p2 q2 z2) (.slice p3 q3 z3) (.int .i64 s4) → OV w0.heap.size w' (.slice P X.n2 Z) LL → LL.length = X.n2 → (∀ j, j < X.n2 → VarOk S (S.vars.getD j (0, 0)) (LL.getD j [])) → K { tmps := #[X.v, .slice A m c, .pointer (some ⟨bS, 0, none⟩), undef, .pointer (some ⟨rB, 0, none⟩), .bool false, .pointer (some ⟨vB, 0, none⟩), v7, v8, v9, v10, v11, v12, v13, v14, v15, v16, v17, v18, v19, v20, v21, v22, v23, v24, v25, v26, v27, v28, v29, v30, v31, v32, v33, v34, v35, v36, v37, v38, v39, v40, v41, v42, v43, v44, v45, v46, v47, v48, v49, v50, v51, v52, v53, v54, v55, v56, v57, v58, v59, v60, v61, v62, v63, v64, v65, v66, v67, v68, v69, v70, v71, v72, v73, v74, v75, v76, v77, v78, v79, v80, v81, v82, v83, v84, v85, v86, v87, v88, v89, v90, v91, v92, v93, v94, v95, v96, v97, v98, v99, v100, v101, v102, v103, v104, v105, v106, v107, v108, v109, v110, v111, v112, v113, v114, v115, v116, v117, v118, v119, v120, v121, v122, v123, v124, v125, v126, v127, v128, v129, v130, v131, v132, v133, v134, v135, v136, v137, v138, v139, v140, v141, v142, v143, v144, v145, v146, v147, v148, v149, v150, v151, v152, v153, v154, v155, v156, v157, v158, v159, v160, v161, v162, v163, v164, v165, v166, v167, v168, v169, v170, v171, v172, v173, v174, v175, v176], defers := [] } w'))
    (HRET : Hid (∀ (r7 r8 r9 r10 r11 r12 r13 r14 r15 r16 r17 r18 r19 r20 r21 r22 r23 r24 r25 r26 r27 r28 r29 r30 r31 r32 r33 r34 r35 r36 r37 r38 r39 r40 r41 r42 r43 r44 r45 r46 r47 r48 r49 r50 r51 r52 r53 r54 r55 r56 r57 r58 r59 r60 r61 r62 r63 r64 r65 r66 r67 r68 r69 r70 r71 r72 r73 r74 r75 r76 r77 r78 r79 r80 r81 r82 r83 r84 r85 r86 r87 r88 r89 r90 r91 r92 r93 r94 r95 r96 r97 r98 r99 r100 r101 r102 r103 r104 r105 r106 r107 r108 r109 r110 r111 r112 r113 r114 r115 r116 r117 r118 r119 r120 r121 r122 r123 r124 r125 r126 r127 r128 r129 r130 r131 r132 r133 r134 r135 r136 r137 r138 r139 r140 r141 r142 r143 r144 r145 r146 r147 r148 r149 r150 r151 r152 r153 r154 r155 r156 r157 r158 r159 r160 r161 r162 r163 r164 r165 r166 r167 r168 r169 r170 r171 r172 r173 r174 r175 r176 : Value) (w' : World), FiveS w' rB → Below w.heap.size w w' → Q .ret { tmps := #[X.v, .slice A m c, .pointer (some ⟨bS, 0, none⟩), undef, .pointer (some ⟨rB, 0, none⟩), .bool false, .pointer (some ⟨vB, 0, none⟩), r7, r8, r9, r10, r11, r12, r13, r14, r15, r16, r17, r18, r19, r20, r21, r22, r23, r24, r25, r26, r27, r28, r29, r30, r31, r32, r33, r34, r35, r36, r37, r38, r39, r40, r41, r42, r43, r44, r45, r46, r47, r48, r49, r50, r51, r52, r53, r54, r55, r56, r57, r58, r59, r60, r61, r62, r63, r64, r65, r66, r67, r68, r69, r70, r71, r72, r73, r74, r75, r76, r77, r78, r79, r80, r81, r82, r83, r84, r85, r86, r87, r88, r89, r90, r91, r92, r93, r94, r95, r96, r97, r98, r99, r100, r101, r102, r103, r104, r105, r106, r107, r108, r109, r110, r111, r112, r113, r114, r115, r116, r117, r118, r119, r120, r121, r122, r123, r124, r125, r126, r127, r128, r129, r130, r131, r132, r133, r134, r135, r136, r137, r138, r139, r140, r141, r142, r143, r144, r145, r146, r147, r148, r149, r150, r151, r152, r153, r154, r155, r156, r157, r158, r159, r160, r161, r162, r163, r164, r165, r166, r167, r168, r169, r170, r171, r172, r173, r174, r175, r176], defers := [] } w')) :
    Code.wp Try.prog cd (Exit.inBlock 2 (Exit.then K Q)) { tmps := #[X.v, .slice A m c, .pointer (some ⟨bS, 0, none⟩), undef, .pointer (some ⟨rB, 0, none⟩), .bool false, .pointer (some ⟨vB, 0, none⟩), u7, u8, u9, u10, u11, u12, u13, u14, u15, u16, u17, u18, u19, u20, u21, u22, u23, u24, u25, u26, u27, u28, u29, u30, u31, u32, u33, u34, u35, u36, u37, u38, u39, .slice X.a2 X.n2 X.c2, .int .i64 X.n2, .int .i64 0, u43, u44, u45, u46, u47, u48, u49, u50, u51, u52, u53, u54, u55, u56, u57, u58, u59, u60, u61, u62, u63, u64, u65, u66, u67, u68, u69, u70, u71, u72, u73, u74, u75, u76, u77, u78, u79, u80, u81, u82, u83, u84, u85, u86, u87, u88, u89, u90, u91, u92, u93, u94, u95, u96, u97, u98, u99, u100, u101, u102, u103, u104, u105, u106, u107, u108, u109, u110, u111, u112, u113, u114, u115, u116, u117, u118, u119, u120, u121, u122, u123, u124, u125, u126, u127, u128, u129, u130, u131, u132, u133, u134, u135, u136, u137, u138, u139, u140, u141, u142, u143, u144, u145, u146, u147, u148, u149, u150, u151, u152, u153, u154, u155, u156, u157, u158, u159, u160, u161, u162, u163, u164, u165, u166, u167, u168, u169, u170, u171, u172, u173, u174, u175, u176], defers := [] } w0 := by
  have e : some cd = some _ := hcd.symm.trans (show Try.f7.body.bind (findBlock 2) = some _ from rfl)
  injection e with e
  subst e
  clear hcd
  obtain ⟨ho1, ho2, ho3, ho4, ho5, ho6⟩ := ho
  dsimp only
  have hsm := HS.out.small
  have hvl := HV.out.lt
  go_loopw [5, 42] (fun f i wr => ∃ (k : Nat) (P : Option Addr) (Z : Nat) (LL : List (List Int)), k ≤ X.n2 ∧ f = .bool false ∧ i = .int .i64 k ∧ Hid (Turn (fun b => b = vB) w0 wr) ∧ Hid (Five wr vB (.slice P k Z) (.slice p1 q1 z1) (.slice p2 q2 z2) (.slice p3 q3 z3) (.int .i64 s4)) ∧ Hid (OV w0.heap.size wr (.slice P k Z) LL) ∧ Hid (LL.length = k) ∧ Hid (∀ j, j < k → VarOk S (S.vars.getD j (0, 0)) (LL.getD j []))) (fun _ i _ => X.n2 - (intOf i).toNat)
  case atStart => exact ⟨0, none, 0, [], Nat.zero_le _, rfl, rfl, Lib.hid (Turn.refl _ _), HV, Lib.hid (OV.nil _ _), Lib.hid rfl, Lib.hid (fun j hj => absurd hj (Nat.not_lt_zero _))⟩
  case round =>
    obtain ⟨k, P, Z, LL, hk, rfl, rfl, HT, HV5, HO, HLL, HZ⟩ := hrel
    have HBW : Hid (Below w.heap.size w wr) := Lib.hid (HB.out.trans (Turn.below HT.out (fun q e => by rw [e]; exact ho3) HB.out.size))
    have HXR : Hid (Bx wr bS X) := Lib.hid (Bx.turn HX.out HT.out ho4)
    by_cases hlt : k < X.n2
    · obtain ⟨b, o, hAA, hb, hc⟩ := (HS.out.below HBW.out).r2 (by rw [← HS.out.l2]; omega)
      obtain ⟨s, pp, qq, rr, g0, g1, g2, g3, g4, g5⟩ := hc k (by rw [← HS.out.l2]; omega)
      obtain ⟨x, y, HL⟩ : ∃ x y, Hid (S.vars.getD k (0, 0) = (x, y)) := ⟨_, _, Lib.hid rfl⟩
      rw [HL.out] at g1 g2
      simp only at g1 g2
      have hi0 : (0 : Int) ≤ (k : Int) := by omega
      have hi9 : (k : Int) < (X.n2 : Int) := by omega
      obtain ⟨ra, rb, rc, rd, re, HR5⟩ : ∃ a b c d e, Hid (Five wr rB a b c d e) := by
        obtain ⟨a, b, c, d, e, h5⟩ := HR.out
        exact ⟨a, b, c, d, e, Lib.hid (h5.turn HT.out ho5)⟩
      obtain ⟨⟨c0, c1, c2, c3, c4, c5⟩, hz⟩ := HXR.out
      have HAA := Lib.hid hAA
      clear hAA
      rw [HAA.out]
      clear hc
      go_wp2_with fail
      refine (lawCells_any X S.sizes s x y pp qq rr _ hsm HS.out.l1 (HS.out.r1.below (HBW.out.trans ((below_alloc1 _ _).mono HBW.out.size)))).mono ?_
      obtain ⟨cn, cm, cb, HC⟩ : ∃ cn cm cb, Hid (cellsL S.sizes x y = (cn, cm, cb)) := ⟨_, _, _, Lib.hid rfl⟩
      rw [HC.out]
      rintro e w2 ⟨rfl, hb2⟩
      have HB2 : Hid (Below wr.heap.size wr w2) := Lib.hid (bthen (below_alloc1 _ _) hb2)
      clear hb2 g0 g1 g2 g3 g4 g5 c0 c1 c2 c3 c4 c5
      obtain ⟨b0, b1, b2, b3, b4, bf, bl⟩ := HV5.out.below HB2.out
      cases cb with
      | false =>
        obtain ⟨a0, a1, a2, a3, a4, af, al⟩ := HR5.out.below HB2.out
        have af0 := af 0
        have af1 := af 1
        have af2 := af 2
        have af3 := af 3
        have af4 := af 4
        have HAF := Lib.hid af
        clear af bf
        go_wp2
        exact HRET.out _ _ _ _ _ _ _ _ _ _ _ _ _ _ _ _ _ _ _ _ _ _ _ _ _ _ _ _ _ _ _ _ _ _ _ _ _ _ _ _ _ _ _ _ _ _ _ _ _ _ _ _ _ _ _ _ _ _ _ _ _ _ _ _ _ _ _ _ _ _ _ _ _ _ _ _ _ _ _ _ _ _ _ _ _ _ _ _ _ _ _ _ _ _ _ _ _ _ _ _ _ _ _ _ _ _ _ _ _ _ _ _ _ _ _ _ _ _ _ _ _ _ _ _ _ _ _ _ _ _ _ _ _ _ _ _ _ _ _ _ _ _ _ _ _ _ _ _ _ _ _ _ _ _ _ _ _ _ _ _ _ _ _ _ _ _ _ _ _ _ _ (FiveS.of (five_set ⟨a0, a1, a2, a3, a4, HAF.out, al⟩ _ _ _ _ _)) (below5 (HBW.out.trans (HB2.out.mono HBW.out.size)) rB ho2 _ _ _ _ _)
      | true =>
        obtain ⟨hxy, hcn, hcm, h1n, h2n, h1m, h2m⟩ := cellsL_true HC.out HZS.out
        clear hxy hcn hcm
        have bf0 := bf 0
        clear bf
        obtain ⟨nn, hnn⟩ : ∃ nn : Nat, cn = (nn : Int) := ⟨cn.toNat, by omega⟩
        subst hnn
        go_upto_region 14 with (fail)
        have HW2 : Hid (Below w.heap.size w w2) := Lib.hid (HBW.out.trans (HB2.out.mono HBW.out.size))
        have hs02 : w0.heap.size ≤ w2.heap.size := Nat.le_trans HT.out.size HB2.out.size
        have HV2 : Hid (Five w2 vB (.slice P k Z) (.slice p1 q1 z1) (.slice p2 q2 z2) (.slice p3 q3 z3) (.int .i64 s4)) := Lib.hid (HV5.out.below HB2.out)
        have HO2 : Hid (OV w0.heap.size w2 (.slice P k Z) LL) := Lib.hid (HO.out.turn (T := fun _ => False) (Turn.of_below HB2.out) (fun _ h => h.elim))
        have HNE : Hid ((Value.slice P k Z).ownBlock ≠ some w2.heap.size) := Lib.hid (fun e => by
          obtain ⟨cs, hw, _⟩ := HO2.out.own
          have := (World.ownsRow.lt hw _ e).2
          omega)
        refine wp_region_noPanic ?_
        go_region_law
          (first
            | (rw [if_pos (by kernel_rfl)]; go_simp; go_at_call 18; refine (fill_any nn m c k cm A raw _ (by omega) (by omega) HM.out hmm (HA.out.below HW2.out.drew) HW.out (by omega)).mono ?_; rintro e w5 ⟨L, rfl, hia, hb5, hl5, hf5⟩; (try dsimp only); have HIA := Lib.hid hia; have HL5 := Lib.hid hl5; have HF5 := Lib.hid hf5; have HB5 : Hid (Below w2.heap.size w2 w5) := Lib.hid (((Below.refl _ w2).drew).trans hb5); have HV6 : Hid (Five w5 vB (.slice P k Z) (.slice p1 q1 z1) (.slice p2 q2 z2) (.slice p3 q3 z3) (.int .i64 s4)) := Lib.hid (HV2.out.below HB5.out); have HZ5 : Hid (w2.heap.size < w5.heap.size) := Lib.hid (by obtain ⟨b9, _, e9, h9, _⟩ := hia (by omega); injection e9 with e9; injection e9 with e9; exact e9 ▸ h9); have e2 := HV6.out.c0; have e3 := HV6.out.lt; clear hia hb5 hl5 hf5)
            | (refine step_row w0.heap.size _ (by rfl) (.tmp 58) (.tmp 64) (by rfl) (by rfl) (.slice P k Z) LL (by rfl) (HO2.out.turn (T := fun _ => False) (Turn.of_below (bthen HB5.out (below_alloc1 _ _))) (fun _ h => h.elim)) L w2.heap.size nn nn (by rfl) (by have := HLL.out; omega) (by have := HB5.out.size; simp; omega) _ (World.alloc_heap_new _ _) (k + 1) (by rw [HLL.out]) HL5.out.symm (by have := HL5.out; omega) (HIA.out.below (below_alloc1 _ _)) ⟨hs02, by have := HZ5.out; simp; omega⟩ HNE.out ?_; intro A6 c6 w6 ho6 hb6 _; have HV7 : Hid (Five w6 vB (.slice P k Z) (.slice p1 q1 z1) (.slice p2 q2 z2) (.slice p3 q3 z3) (.int .i64 s4)) := Lib.hid ((HV6.out.below (below_alloc1 _ _)).lower hb6 hvl); have j2 := HV7.out.c0; have j3 := HV7.out.f 0;
                have HREL : Hid (Turn (fun b => b = vB) w0 (w6.setCell ⟨vB, 0, none⟩ (.slice A6 (k + 1) c6)) ∧ (Five (w6.setCell ⟨vB, 0, none⟩ (.slice A6 (k + 1) c6)) vB (.slice A6 (k + 1) c6) (.slice p1 q1 z1) (.slice p2 q2 z2) (.slice p3 q3 z3) (.int .i64 s4)) ∧ OV w0.heap.size (w6.setCell ⟨vB, 0, none⟩ (.slice A6 (k + 1) c6)) (.slice A6 (k + 1) c6) (LL ++ [L]) ∧ (LL ++ [L]).length = k + 1 ∧ (∀ j, j < k + 1 → VarOk S (S.vars.getD j (0, 0)) ((LL ++ [L]).getD j []))) := Lib.hid ⟨Turn.set (Turn.then_below (HT.out.trans (Turn.of_below (bthen HB2.out (bthen HB5.out (below_alloc1 _ _))))) hb6) _ _ rfl, HV7.out.set0 _, ho6.turn (T := fun b => b = vB) (Turn.set (Turn.refl _ _) _ _ rfl) (fun q e => by rw [e]; exact hvl), by rw [List.length_append, HLL.out]; rfl, snoc_all HLL.out HZ.out (by rw [HL.out]; exact ⟨by rw [HC.out], by rw [HC.out]; exact congrArg Nat.cast HL5.out, by rw [HC.out]; exact HF5.out⟩)⟩; clear ho6 hb6 e2 e3)
            | fail)
        all_goals
          refine NoPanic.normal ?_
          go_wp2
          go_roundw
          case rel => exact ⟨k + 1, _, _, LL ++ [L], by omega, rfl, by go_num, Lib.hid HREL.out.1, Lib.hid HREL.out.2.1, Lib.hid HREL.out.2.2.1, Lib.hid HREL.out.2.2.2.1, Lib.hid HREL.out.2.2.2.2⟩
          case measure => simp [intOf]; omega
    · obtain rfl : k = X.n2 := by omega
      go_wp2
      exact HK.out _ _ _ _ _ _ _ _ _ _ _ _ _ _ _ _ _ _ _ _ _ _ _ _ _ _ _ _ _ _ _ _ _ _ _ _ _ _ _ _ _ _ _ _ _ _ _ _ _ _ _ _ _ _ _ _ _ _ _ _ _ _ _ _ _ _ _ _ _ _ _ _ _ _ _ _ _ _ _ _ _ _ _ _ _ _ _ _ _ _ _ _ _ _ _ _ _ _ _ _ _ _ _ _ _ _ _ _ _ _ _ _ _ _ _ _ _ _ _ _ _ _ _ _ _ _ _ _ _ _ _ _ _ _ _ _ _ _ _ _ _ _ _ _ _ _ _ _ _ _ _ _ _ _ _ _ _ _ _ _ _ _ _ _ _ _ _ _ _ _ _ P Z LL HT.out HV5.out HO.out HLL.out HZ.out

end Go.Proofs.YtodloljpfbkkjaaRRRR.lenv
