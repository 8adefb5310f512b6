/- The law ChansOrder: what is put is taken in the order in which it was put, whatever is taken between; the number of cells stays. No condition. -/
import Derived.Test.YtmebajighiedaaaChQueue
import Derived.Deep.CutRange
namespace Go.Proofs.Ytmebajighiedaaa.chansOrder
open Go.ChangeShapes Go.WideShapes Go.ChangeAt Go.RowKit Go.Proofs.Ytmebajighiedaaa.ch

theorem fitsU8 {x : Int} (h : (Lit.int .u8 x).wf = true) : 0 ≤ x ∧ x ≤ 255 := by
  have e1 : IntKind.u8.min = 0 := rfl
  have e2 : IntKind.u8.max = 255 := rfl
  simpa [Lit.wf, e1, e2] using h
theorem large (r : Int) (AP AT : Option Addr) (cP cT mp mt : Nat) (w : World) (h : 200 < mp) (hm : mp ≤ maxLen) : Calls Try.prog 6 #[.int .u8 r, .slice AP mp cP, .slice AT mt cT] w (LawPost w) := by
  unfold maxLen at hm
  have h2 : (200 : Int) < (mp : Int) := by omega
  go_enter Try.func6, Try.ntmps6
  go_wp2_with fail
  refine (lives_any w).mono ?_
  rintro e w6 ⟨rfl, hb6⟩
  go_wp2_with fail
  go_ret
  exact ⟨rfl, hb6⟩
set_option maxRecDepth 20000 in
set_option maxHeartbeats 8000000 in
theorem small (r : Int) (AP AT : Option Addr) (cP cT mp mt : Nat) (P : List Int) (T : List Bool) (w : World) (hr : 0 ≤ r ∧ r ≤ 255) (hmp : mp = P.length) (hmt : mt = T.length) (hP : IA w AP P) (hT : BL w AT T) (h : mp ≤ 200) (hm : mt ≤ maxLen) :
    Calls Try.prog 6 #[.int .u8 r, .slice AP mp cP, .slice AT mt cT] w (LawPost w) := by
  obtain ⟨i0, hi, hz0, hz1, hz2⟩ := info_parts Try.info3
  obtain ⟨n0, hn0⟩ : ∃ n0 : Nat, r.tmod 6 = (n0 : Int) := ⟨(r.tmod 6).toNat, by have := Int.tmod_nonneg 6 hr.1; omega⟩
  have hn6 : n0 < 6 := by have := Int.tmod_lt_of_pos r (show (0 : Int) < 6 by decide); omega
  obtain ⟨n, hn⟩ : ∃ n, n = n0 + 1 := ⟨_, rfl⟩
  have hni : (n0 : Int) + 1 = (n : Int) := by omega
  have hn7 : n ≤ 6 := by omega
  have hmk : ∀ W : World, (Instr.makeSlice 22 (.int .i64 (n : Int)) (.int .i64 (n : Int))).run Try.prog W = .ok (.slice (some ⟨W.heap.size, 0, none⟩) n n) (W.alloc (.cells (madeCells #[.int .i64 0] n) 3)) := fun W => by
    have hr := run_make (P := Try.prog) W 22 3 i0 _ (by kernel_rfl) hi hz0 .i64 .i64 (n : Int) (n : Int) (by omega) (Int.le_refl _) (by rw [hz2]; omega) (by omega)
    rw [hr, hz1]
    rw [Int.toNat_natCast, Nat.mul_one]
    rfl
  unfold maxLen at hm
  have HP := Lib.hid hP
  have HT := Lib.hid hT
  have HPL := Lib.hid hmp
  have HTL := Lib.hid hmt
  have HN8 : Hid (8 * n ≤ 140737488355328) := Lib.hid (by omega)
  have HR0 : Hid (([] : List Int).length + 1 ≤ n) := Lib.hid (by simp; omega)
  have R1 : Hid ((w.alloc (.cells (madeCells #[.int .i64 0] n) 3)).rowIs w.heap.size 3 n (fun i => .int .i64 ((cellsF n []).getD i 0))) := Lib.hid ((World.rowIs_made w (.int .i64 0) n 3).congr (fun j hj => by
    subst hn
    rw [cells_nil]
    simp [List.getD, List.getElem?_replicate, hj]))
  have B1 : Hid (Below w.heap.size w (w.alloc (.cells (madeCells #[.int .i64 0] n) 3))) := Lib.hid ((Below.refl _ _).alloc (Nat.le_refl _) _)
  have hrr := hr.1
  have hrr2 := hr.2
  clear hi hz0 hz1 hz2 hP hT hmp hmt hr hn
  go_enter Try.func6, Try.ntmps6
  go_wp2
  clear hmk
  have I1 : Hid (InS (w.alloc (.cells (madeCells #[.int .i64 0] n) 3)) (some ⟨w.heap.size, 0, none⟩) n (cellsF n [])) := Lib.hid ⟨fun _ => ⟨_, 0, rfl, R1.out.lt, fun i hi => by rw [Nat.zero_add]; exact R1.out.cell (by rwa [cells_length HR0.out] at hi)⟩, by rw [cells_length HR0.out]; exact Nat.le_refl _, by unfold maxLen; omega, fun e => by cases e⟩
  clear R1
  generalize w.alloc (.cells (madeCells #[.int .i64 0] n) 3) = w1 at I1 B1 ⊢
  go_loopw [7, 8, 27] (fun a v i wr => ∃ (k : Nat) (R : List Int) (A : Option Addr) (c : Nat), k ≤ mp ∧ i = .int .i64 k ∧ a = .slice A n c ∧ Hid (InS wr A c (cellsF n R)) ∧ Hid (QW w.heap.size wr v R) ∧ Hid (Below w.heap.size w wr) ∧ Hid (R.length + 1 ≤ n)) (fun _ _ i _ => mp - (intOf i).toNat)
  case atStart => exact ⟨0, [], _, n, by omega, rfl, rfl, I1, Lib.hid (QW.nil _ _), B1, HR0⟩
  case round =>
    obtain ⟨k, R, A, c, hk, rfl, rfl, HI, HQ, HB, HR⟩ := hrel
    have HN1 : Hid (n = (cellsF n R).length) := Lib.hid (cells_length HR.out).symm
    have HNC : Hid (n ≤ c) := Lib.hid (by have := HI.out.le; have := HN1.out; omega)
    by_cases hlt : k < mp
    · obtain ⟨bp, op, rfl, hbp, hcp⟩ := (HP.out.below HB.out) (by rw [← HPL.out]; omega)
      have cp := hcp k (by rw [← HPL.out]; exact hlt)
      generalize P.getD k 0 = x at cp
      clear hcp
      go_wp2_with fail
      refine (put_any A c n (cellsF n R) x _ HN1.out HI.out.ia HNC.out HI.out.max HN8.out).mono ?_
      rintro e w3 ⟨A3, c3, rfl, h3, hb3, hn3⟩
      have HB3 : Hid (Below w.heap.size w w3) := Lib.hid (HB.out.trans (hb3.mono HB.out.size))
      have HQ3 := Lib.hid (HQ.out.below hb3)
      rw [cells_room HR.out]
      have HNX : Hid ((putL (cellsF n R) x).length = if R.length + 1 < n then n else 0) := Lib.hid (by
        split
        · rename_i h; rw [cells_put h, cells_length (by simp; omega)]
        · rename_i h; rw [putL_no _ (by rw [cells_room HR.out]; exact decide_eq_false h)]; rfl)
      obtain ⟨D, d, rfl, hdi, hdl, hdm⟩ := HQ3.out.form
      obtain ⟨r0, HRL0⟩ : ∃ r, Hid (R.length = r) := ⟨_, Lib.hid rfl⟩
      rw [HRL0.out] at HQ3 HQ hdl
      rw [HNX.out, HRL0.out]
      obtain ⟨q, HQB⟩ : ∃ q, Hid (decide (r0 + 1 < n) = q) := ⟨_, Lib.hid rfl⟩
      have hq1 : decide ((r0 : Int) < (n : Int) - 1) = q := by
        rw [← HQB.out]; exact decide_eq_decide.2 (by omega)
      rw [HQB.out]
      have HI3 := Lib.hid h3
      have HIW : Hid (InS w3 A c (cellsF n R)) := Lib.hid ⟨HI.out.ia.below hb3, HI.out.le, HI.out.max, HI.out.non⟩
      have HNB : Hid (∀ a, A3 = some a → (Value.slice D r0 d).ownBlock ≠ some a.block) := Lib.hid (fun a e h => by
        have h1 := (hn3 a e).1
        have h2 := QW.own HQ.out h
        omega)
      have HL1 : Hid (R.length + 1 ≤ 10000000) := Lib.hid (by have := HR.out; omega)
      have HDL := Lib.hid hdl
      obtain ⟨n3, HN3⟩ : ∃ n3, Hid ((if r0 + 1 < n then n else 0) = n3) := ⟨_, Lib.hid rfl⟩
      rw [HN3.out]
      clear h3 hb3 hn3 hdi cp HQ HI hdl hdm
      go_upto_if 46 with (fail)
      go_cut [7, 8, 11] from 32 to 95 (fun a v s11 W => ∃ (AL : Option Addr) (cL : Nat) (R2 : List Int) (D2 : Option Addr) (d2 r : Nat), a = .slice AL n cL ∧ v = .slice D2 r d2 ∧ Hid (InS W AL cL (cellsF n R2)) ∧ Hid (QW w.heap.size W (.slice D2 r d2) R2) ∧ Hid (Below w.heap.size w W) ∧ Hid (R2.length + 1 ≤ n) ∧ Hid (R2.length = r))
      case first =>
        cases q with
        | false =>
          go_wp2
          go_meet
          case rel => exact ⟨A, c, R, D, d, r0, rfl, rfl, HIW, HQ3, HB3, HR, HRL0⟩
        | true =>
          have hroom : r0 + 1 < n := of_decide_eq_true HQB.out
          have hroom' : R.length + 1 < n := by rw [HRL0.out]; exact hroom
          have HI3' : Hid (InS w3 A3 c3 (cellsF n (R ++ [x]))) := Lib.hid (by have h := HI3.out; rwa [cells_put hroom'] at h)
          have hn3 : n3 = n := by rw [← HN3.out, if_pos hroom]
          have HRN : Hid ((R ++ [x]).length + 1 ≤ n) := Lib.hid (by simp; omega)
          rw [hn3]
          clear hroom hroom' hn3 hq1
          go_wp2_with (at_builtin; go_loud (refine append_qw rfl (.tmp 47) (.tmp 49) rfl w.heap.size _ R rfl HQ3.out x rfl HL1.out HB3.out.size ?_); intro v4 w4 hq4 hb4 hk4; have HQ4 := Lib.hid hq4; have HB4 := Lib.hid hb4; have HK4 := Lib.hid hk4; clear hq4 hb4 hk4)
          go_meet
          case rel =>
            have HTN : Turn (fun q => (Value.slice D r0 d).ownBlock = some q) w3 w4 := ⟨HB4.out.os, HB4.out.tape, HB4.out.output, HB4.out.size, fun q hq hne => HK4.out q hq hne⟩
            obtain ⟨D4, d4, rfl, _, _, _⟩ := HQ4.out.form
            exact ⟨A3, c3, R ++ [x], D4, d4, _, rfl, rfl, Lib.hid ⟨HI3'.out.ia.turn HTN HNB.out, HI3'.out.le, HI3'.out.max, HI3'.out.non⟩, HQ4, Lib.hid (HB3.out.trans HB4.out), HRN, Lib.hid rfl⟩
      case rest =>
        obtain ⟨AL, cL, R2, D2, d2, r2, rfl, rfl, HIR, HQR, HBR, HR2, HRL⟩ := hcut
        have HN2 : Hid (n = (cellsF n R2).length) := Lib.hid (cells_length HR2.out).symm
        have HLC : Hid (n ≤ cL) := Lib.hid (by have := HIR.out.le; have := HN2.out; omega)
        clear HQ3 HI3 HIW HNB HL1 HDL HN3 HQB hq1 HRL0 HB3 HNX
        by_cases ht1 : k < T.length
        · by_cases ht2 : T.getD k false = true
          · obtain ⟨bt, ot, rfl, hbt, hct⟩ := (HT.out.below HBR.out) (by omega)
            have ct := hct k ht1
            rw [ht2] at ct
            rw [← HTL.out] at ht1
            clear hct ht2
            go_wp2_with fail
            refine (take_any AL cL n (cellsF n R2) wc HN2.out HIR.out.ia HLC.out HIR.out.max HN8.out).mono ?_
            rintro e w5 ⟨A5, c5, rfl, h5, hb5, hn5⟩
            have HB5 : Hid (Below w.heap.size w w5) := Lib.hid (HBR.out.trans (hb5.mono HBR.out.size))
            have HQ5 := Lib.hid (HQR.out.below hb5)
            rw [cells_some HR2.out, HRL.out]
            by_cases hr : r2 = 0
            · subst hr
              obtain rfl : R2 = [] := List.eq_nil_of_length_eq_zero HRL.out
              have HI5 : Hid (InS w5 AL cL (cellsF n [])) := Lib.hid ⟨HIR.out.ia.below hb5, HIR.out.le, HIR.out.max, HIR.out.non⟩
              obtain ⟨n5, HN5⟩ : ∃ n5, Hid ((takeL (cellsF n [])).length = n5) := ⟨_, Lib.hid rfl⟩
              obtain ⟨x5, HX5⟩ : ∃ n5, Hid (takeV (cellsF n []) = n5) := ⟨_, Lib.hid rfl⟩
              rw [HN5.out, HX5.out]
              have hde : decide (0 < 0) = false := rfl
              rw [hde]
              clear h5 hb5 hn5 ct hde
              go_wp2_with fail
              go_roundw
              case rel => exact ⟨k + 1, [], AL, cL, by omega, by go_num, rfl, HI5, HQ5, HB5, HR2⟩
              case measure => simp [intOf]; omega
            · have hr0 : 0 < r2 := by omega
              have hr0' : 0 < R2.length := by rw [HRL.out]; exact hr0
              obtain ⟨ht1', ht2'⟩ := cells_take1 HR2.out hr0'
              rw [ht1'] at h5
              rw [ht1', ht2', decide_eq_true hr0]
              have hl5 : (cellsF n (R2.drop 1)).length = n := cells_length (by rw [List.length_drop]; have := HR2.out; omega)
              rw [hl5]
              have H5 := Lib.hid h5
              obtain ⟨D', d', he, hdi, hdl, hdm⟩ := HQ5.out.form
              injection he with he1 he2 he3
              clear he2
              subst he1 he3
              obtain ⟨bd, od, rfl, hbd, hcd⟩ := hdi hr0'
              have cd : w5.cell? ⟨bd, od, none⟩ = some (.int .i64 (R2.getD 0 0)) := hcd 0 hr0'
              have HQT := Lib.hid (QW.tail HQ5.out hr0')
              have HR3 : Hid ((R2.drop 1).length + 1 ≤ n) := Lib.hid (by rw [List.length_drop]; have := HR2.out; omega)
              rw [HRL.out] at hdl
              have HRD : Hid ((R2.drop 1).length = r2 - 1) := Lib.hid (by rw [List.length_drop, HRL.out])
              obtain ⟨B2, hB2⟩ : ∃ B2, B2 = (if d2 = 1 then some (⟨bd, od, none⟩ : Addr) else (some (⟨bd, od, none⟩ : Addr)).map (·.add 1)) := ⟨_, rfl⟩
              have hsl : ∀ W : World, (Instr.sliceAt 22 (.slice (some ⟨bd, od, none⟩) r2 d2) (some (.int .i64 1)) none none).run Try.prog W = .ok (.slice B2 (r2 - 1) (d2 - 1)) W := fun W => by rw [hB2]; exact tail1_run _ r2 d2 (by omega) W
              rw [← hB2] at HQT
              have hrz : (0 : Int) < (r2 : Int) := by omega
              unfold maxLen at hdm
              obtain ⟨y, HY⟩ : ∃ y, Hid (R2.getD 0 0 = y) := ⟨_, Lib.hid rfl⟩
              rw [HY.out] at cd ⊢
              clear h5 hb5 hn5 hr ct hl5 ht1' ht2' hcd hB2 hdi hr0'
              go_wp2
              go_quiet (fail)
              go_wp2
              go_roundw
              case rel => exact ⟨k + 1, R2.drop 1, A5, c5, by omega, by go_num, rfl, Lib.hid ⟨H5.out.ia.drewN _, H5.out.le, H5.out.max, H5.out.non⟩, Lib.hid (HQT.out.below (below_drewN (Below.refl _ _) _)), Lib.hid (below_drewN HB5.out _), HR3⟩
              case measure => simp [intOf]; omega
          · have ht3 : T.getD k false = false := by simpa using ht2
            obtain ⟨bt, ot, rfl, hbt, hct⟩ := (HT.out.below HBR.out) (by omega)
            have ct := hct k ht1
            rw [ht3] at ct
            rw [← HTL.out] at ht1
            clear hct ht2 ht3
            go_wp2_with fail
            go_roundw
            case rel => exact ⟨k + 1, R2, AL, cL, by omega, by go_num, rfl, HIR, HQR, HBR, HR2⟩
            case measure => simp [intOf]; omega
        · have ht3 : (mt : Int) ≤ (k : Int) := by have := HTL.out; omega
          clear ht1
          go_wp2_with fail
          go_roundw
          case rel => exact ⟨k + 1, R2, AL, cL, by omega, by go_num, rfl, HIR, HQR, HBR, HR2⟩
          case measure => simp [intOf]; omega
    · obtain rfl : mp = k := by omega
      obtain ⟨D, d, rfl, hdi, hdl, hdm⟩ := HQ.out.form
      have HDI := Lib.hid hdi
      obtain ⟨r0, HRL0⟩ : ∃ r, Hid (R.length = r) := ⟨_, Lib.hid rfl⟩
      have HRM : Hid (R.length ≤ maxLen) := Lib.hid (Nat.le_trans hdl hdm)
      rw [HRL0.out]
      clear hdi hdl hdm hlt
      go_wp2_with fail
      refine (items_any A c n (cellsF n R) _ HN1.out HI.out.ia HNC.out HI.out.max HN8.out).mono ?_
      rintro e w3 ⟨A3, c3, rfl, h3, hb3, _⟩
      rw [cells_items HR.out] at h3 ⊢
      rw [HRL0.out]
      have H3 := Lib.hid h3.ia
      have HB3 := Lib.hid (HB.out.trans (hb3.mono HB.out.size))
      have HD3 := Lib.hid (HDI.out.below hb3)
      have HI3 := Lib.hid (HI.out.ia.below hb3)
      clear h3 hb3
      go_wp2_with fail
      refine (same_any A3 D c3 d r0 r0 R R w3 HRL0.out.symm HRL0.out.symm H3.out HD3.out HRM.out HRM.out).mono ?_
      rintro e w4 ⟨rfl, j, rfl⟩
      rw [eqB_same]
      have HB4 := Lib.hid (below_drewN HB3.out j)
      have HI4 : Hid (IA (w3.drewN j) A (cellsF n R)) := Lib.hid (HI3.out.drewN j)
      generalize w3.drewN j = w4 at HB4 HI4 ⊢
      go_wp2_with fail
      refine (len_any A c n (cellsF n R) w4 HN1.out HI4.out HNC.out HI.out.max HN8.out).mono ?_
      rintro e w5 ⟨rfl, hb5⟩
      have HB5 := Lib.hid (HB4.out.trans (hb5.mono HB4.out.size))
      clear hb5
      rw [cells_items HR.out, HRL0.out]
      go_wp2_with fail
      refine (lives_any w5).mono ?_
      rintro e w6 ⟨rfl, hb6⟩
      have HB6 := Lib.hid (HB5.out.trans (hb6.mono HB5.out.size))
      clear hb6
      go_wp2_with fail
      go_ret
      exact ⟨rfl, HB6.out⟩

theorem walk (r : Int) (AP AT : Option Addr) (cP cT : Nat) (P : List Int) (T : List Bool) (w : World) (hr : 0 ≤ r ∧ r ≤ 255) (hP : IA w AP P) (hT : BL w AT T) (hp : 8 * P.length ≤ 140737488355328) (ht : T.length ≤ maxLen) :
    Calls Try.prog 6 #[.int .u8 r, .slice AP P.length cP, .slice AT T.length cT] w (LawPost w) := by
  by_cases h : 200 < P.length
  · exact large r AP AT cP cT _ _ w h (by unfold maxLen; omega)
  · exact small r AP AT cP cT _ _ P T w hr rfl rfl hP hT (by omega) ht

set_option maxRecDepth 100000 in
theorem lifted (os : Os) (started : os.Started) (H : Type) (enc : TypeId × Value → H) :
    ReturnsInHanded {} Try.checked os 6 .any (Rows.chansOrderSpec.pre6 enc Try.prog Try.f6 Rows.chansOrderRow.domain false) (Rows.chansOrderSpec.post enc Try.prog Try.f6 false true false false) := by
  refine law_lifted started [5, 22, 37] rfl (by kernel_rfl) Try.func6 rfl (by decide +kernel) rfl (fun ds hl => by
    match ds, hl with
    | [_, _, _], _ => rfl) (ChangeSpec.witness6 (enc := enc) (C := Try.checked) false ⟨#[], #[.int .u8 0, .slice none 0 0, .slice none 0 0], []⟩ 8 (by kernel_rfl) (by kernel_rfl) (by kernel_rfl) (by kernel_rfl)) ?_
  intro W base args ds ps hval hA hlt hsz
  obtain ⟨v0, vs0, d0, ds0, p0, q0, hargs, rfl, rfl, h0, r0⟩ := trodAll_cons hA
  obtain ⟨v1, vs1, d1, ds1, p1, q1, rfl, rfl, rfl, h1, r1⟩ := trodAll_cons r0
  obtain ⟨v2, vs2, d2, ds2, p2, q2, rfl, rfl, rfl, h2, r2⟩ := trodAll_cons r1
  obtain ⟨rfl, rfl, rfl⟩ := trodAll_nil r2
  obtain rfl : args = #[v0, v1, v2] := by cases args; simp_all
  obtain ⟨x0, rfl, rfl, rfl, w0⟩ := open_int Try.underlying5 (hval 0 5 v0 rfl rfl) h0
  obtain ⟨A1, c1, x1, rfl, b1, i1, z1⟩ := open_ints_arg (hval 1 22 v1 rfl rfl) h1 hsz 1 rfl rfl
  obtain ⟨A2, c2, l2, rfl, q2, m2, i2⟩ := open_bools_arg (hval 2 37 v2 rfl rfl) h2
  exact walk x0 A1 A2 c1 c2 x1 l2 W (fitsU8 w0) i1 i2 b1 (Nat.le_trans q2 m2)

set_option maxRecDepth 100000 in
theorem over : Rows.chansOrderRow.holds Try.pinned (OpenSpec.ofChange Rows.chansOrderSpec) :=
  OpenClaim.holds_of_wide 6 Try.f6 rfl rfl rfl rfl rfl rfl rfl ⟨rfl, rfl, rfl, rfl, rfl⟩ rfl rfl rfl rfl rfl (by kernel_rfl) Try.func6 (by kernel_rfl)
    (of_decide_eq_true (by kernel_rfl)) (by unfold Func.isWrapper; first | (rw [if_pos (by decide +kernel)]; kernel_rfl) | (rw [if_neg (by decide +kernel)]; exact ⟨rfl, rfl⟩))
    (fun os started H enc _ => lifted os started H enc)

theorem proved : Rows.ChansOrderSaid := over
#print axioms proved
end Go.Proofs.Ytmebajighiedaaa.chansOrder
