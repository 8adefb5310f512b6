/- The law WordTruths. -/
import Derived.Test.YtophajljjnjcdaaWdDocH
import Derived.Test.YtophajljjnjcdaaWdAwake
import Derived.Test.YtophajljjnjcdaaWdOpens
import Derived.Test.YtophajljjnjcdaaWdHd
import Derived.BigQuiet
namespace Go.Proofs.Ytophajljjnjcdaa.wordTruths
open Go.ChangeShapes Go.WideShapes Go.ChangeAt Go.RowKit Go.Deep sr lt nf wd

set_option maxRecDepth 20000 in
set_option maxHeartbeats 8000000 in
theorem walk (e : List (Int × Int)) (x : WX) (st lp : List Int) (FA : Option Addr) (fc fl : Nat) (w : World) (hf : fl = e.length) (hF : PA w FA e) (hX : WdA w x st lp) :
    Calls Try.prog 4 #[.slice FA fl fc, x.v] w fun r w' => r = .returned (.bool true) ∧ Below w.heap.size w w' := by
  obtain ⟨w1, HW1, HBZ, HS⟩ : ∃ w1, w.alloc (.cells #[.slice x.A x.n x.c, .slice x.B x.m x.d] 24) = w1 ∧ Hid (Below w.heap.size w w1) ∧ Hid (∀ W, Below w1.heap.size w1 W → W.cell? ⟨w.heap.size, 0, none⟩ = some (.slice x.A x.n x.c) ∧ W.cell? ⟨w.heap.size, 1, none⟩ = some (.slice x.B x.m x.d)) := by
    have e : (w.alloc (.cells #[.slice x.A x.n x.c, .slice x.B x.m x.d] 24)).heap.size = w.heap.size + 1 := by simp
    exact ⟨_, rfl, Lib.hid (below_one _ _), Lib.hid (fun W h => ⟨(h.cell (p := ⟨w.heap.size, 0, none⟩) (by show w.heap.size < _; omega)).trans (World.cell?_alloc_at _ _ _ _ (by simp)), (h.cell (p := ⟨w.heap.size, 1, none⟩) (by show w.heap.size < _; omega)).trans (World.cell?_alloc_at _ _ _ _ (by simp))⟩)⟩
  have HHV := Lib.hid (heavy_any FA fl fc x w1)
  have HAW := Lib.hid (fun W (_ : Below w1.heap.size w1 W) => awake_any W)
  have HF := Lib.hid hf
  by_cases hh : 60 < fl ∨ 30 < x.n ∨ 30 < x.m
  · rw [decide_eq_true hh] at HHV
    obtain ⟨A, s, c, B, q, d⟩ := x
    unfold WX.v at HHV ⊢
    dsimp only at HHV HS hh ⊢
    clear hX hh hF hf HF
    obtain ⟨y1, y2⟩ := HS.out w1 (Below.refl _ _)
    go_enter Try.func4, Try.ntmps4
    go_upto_region 1 with (fail)
    clear HW1
    go_wp2_with fail
    refine HHV.out.mono ?_
    rintro e2 w2 ⟨rfl, hb2⟩
    have HB2 := Lib.hid (HBZ.out.trans (hb2.mono HBZ.out.size))
    clear hb2 y1 y2
    go_wp2_with fail
    refine (awake_any w2).mono ?_
    rintro e3 w3 ⟨rfl, hb3⟩
    have HB3 := Lib.hid (HB2.out.trans (hb3.mono HB2.out.size))
    clear hb3
    go_wp2
    go_ret
    exact ⟨rfl, HB3.out⟩
  rw [decide_eq_false hh] at HHV
  have hx := hX.small (by omega) (by omega)
  have hfl : fl ≤ 60 := by omega
  have hxn : x.n ≤ 30 := by omega
  have hxm : x.m ≤ 30 := by omega
  clear hh hX
  obtain ⟨n, hn⟩ : ∃ n, x.n + x.m = n := ⟨_, rfl⟩
  have hnl : (st ++ lp).length = n := by rw [List.length_append]; have := hx.n1; have := hx.n2; omega
  have HTR := Lib.hid (fun W (hW : Below w1.heap.size w1 W) => truth_any e x st lp (st ++ lp) FA fc fl n W hf (by omega) (hF.below (HBZ.out.trans (hW.mono HBZ.out.size))) (hx.below (HBZ.out.trans (hW.mono HBZ.out.size))) hn rfl)
  have HRR := Lib.hid (fun W (hW : Below w1.heap.size w1 W) => refTruth_any e x st lp (st ++ lp) FA fc fl n W hf (by omega) (hF.below (HBZ.out.trans (hW.mono HBZ.out.size))) (hx.below (HBZ.out.trans (hW.mono HBZ.out.size))) hn rfl)
  have HPH := Lib.hid (fun W (hW : Below w1.heap.size w1 W) => holds_any e x st lp (st ++ lp) FA fc fl n W hf (by omega) (hF.below (HBZ.out.trans (hW.mono HBZ.out.size))) (hx.below (HBZ.out.trans (hW.mono HBZ.out.size))) hn rfl)
  have HRH := Lib.hid (fun W (hW : Below w1.heap.size w1 W) => refHolds_any e x st lp (st ++ lp) FA fc fl n W hf (by omega) (hF.below (HBZ.out.trans (hW.mono HBZ.out.size))) (hx.below (HBZ.out.trans (hW.mono HBZ.out.size))) hn rfl)
  obtain ⟨y, HY⟩ : ∃ y, Hid (hdF e (st ++ lp) x.n x.m = y) := ⟨_, Lib.hid rfl⟩
  rw [HY.out] at HPH HRH
  by_cases hok : okF e x.m = true
  · have HTR2 : Hid (∀ W, Below w1.heap.size w1 W → Calls Try.prog 16 #[.slice FA fl fc, x.v] W (RowsP W fl n (fun _ => True) (trJ e (outF e e.length) (st ++ lp) x.n))) := Lib.hid (fun W hW => (HTR.out W hW).mono (fun r w' h => by
      unfold TruP at h
      rw [if_pos hok] at h
      exact h))
    have HRT : Hid (∀ W, Below w1.heap.size w1 W → Calls Try.prog 17 #[.slice FA fl fc, x.v] W (RefTrY W e (st ++ lp) x.n n fl)) := Lib.hid (fun W hW => (HRR.out W hW).mono (fun r w' h => by
      unfold RefTr at h
      rw [if_pos hok] at h
      exact h))
    have HLE := Lib.hid (fun j (hj : j < e.length) => (tr_len (isF_iff.1 (okF_iff.1 hok).1) (st ++ lp) x.n hj).trans hnl)
    have hq0 := (okF_iff.1 hok).2
    have hn0 : 0 < n := by omega
    have hn60 : n ≤ 60 := by omega
    obtain ⟨tr, HTRJ⟩ : ∃ tr, Hid (trJ e (outF e e.length) (st ++ lp) x.n = tr) := ⟨_, Lib.hid rfl⟩
    unfold RefTrY at HRT
    rw [HTRJ.out] at HTR2 HRT HLE
    obtain ⟨A, s, c, B, q, d⟩ := x
    unfold WX.v at HHV HTR2 HRT HPH HRH ⊢
    dsimp only at HHV HS HTR2 HRT HPH HRH hxn hxm ⊢
    clear hx hF hf hn hnl HTR HRR hok HY HTRJ
    obtain ⟨y1, y2⟩ := HS.out w1 (Below.refl _ _)
    go_enter Try.func4, Try.ntmps4
    go_upto_region 1 with (fail)
    clear HW1
    go_wp2_with fail
    refine HHV.out.mono ?_
    rintro e2 w2 ⟨rfl, hb2⟩
    have HB2 := Lib.hid hb2
    clear hb2 y1 y2
    go_wp2_with fail
    obtain ⟨z1, z2⟩ := HS.out w2 HB2.out
    go_region_held3 (fun W => W.cell? ⟨w.heap.size, 0, none⟩ = some (.slice A s c) ∧ W.cell? ⟨w.heap.size, 1, none⟩ = some (.slice B q d))
      (first | exact HS.out _ HB2.out | exact HS.out _ HB2.out.drew | exact HS.out _ HB3.out | exact HS.out _ HB3.out.drew | exact HS.out _ HB4.out | go_keep)
      (first
        | (go_at_call 17; refine (HRT.out _ (by first | exact HB3.out | exact HB3.out.drew)).mono ?_; rintro e4 w4 ⟨b, off, oc, rfl, hbb, hb4, hr4⟩; have HB4 : Hid (Below w1.heap.size w1 w4) := Lib.hid (by first | exact HB3.out.trans (hb4.mono HB3.out.size) | exact HB3.out.drew.trans (hb4.mono HB3.out.drew.size)); have HR4 := Lib.hid hr4; have HBB := Lib.hid hbb; have HD4 : Hid (Below w3.heap.size w3 w4) := Lib.hid (by first | exact (Below.refl w3.heap.size w3).drew.trans hb4 | exact hb4); clear hr4 hbb; clear hb4)
        | (go_at_call 16; refine (HTR2.out _ (by first | exact HB2.out | exact HB2.out.drew)).mono ?_; rintro e3 w3 ⟨tb, X, rfl, hb3, _, hR⟩; have HB3 : Hid (Below w1.heap.size w1 w3) := Lib.hid (by first | exact HB2.out.trans (hb3.mono HB2.out.size) | exact HB2.out.drew.trans (hb3.mono HB2.out.drew.size)); have HR3 := Lib.hid hR; clear hR; clear hb3)
        | fail)
    all_goals
      have HT : Hid (∀ j, j < fl → ∃ g o c1 g2 o2 c2, ∀ W, Below w4.heap.size w4 W → W.cell? ⟨tb, j, none⟩ = some (.slice (some ⟨g, o, none⟩) n c1) ∧ W.cell? ⟨b, off + j, none⟩ = some (.slice (some ⟨g2, o2, none⟩) n c2) ∧ ∀ k, k < n → W.cell? ⟨g, o + k, none⟩ = some (.bool ((tr j).getD k false)) ∧ W.cell? ⟨g2, o2 + k, none⟩ = some (.bool ((tr j).getD k false))) := Lib.hid (fun j hj => by
        have hl := HLE.out j (by have := HF.out; omega)
        obtain ⟨m1, m2, m3, _⟩ := HR3.out.tru j hj trivial
        have t1 := HR3.out.row.cell (i := j) hj
        obtain ⟨A5, n5, c5, HXP⟩ : ∃ A n c, X j = (A, n, c) := ⟨_, _, _, rfl⟩
        rw [HXP] at m1 m2 t1
        dsimp only at m1 m2
        subst m1
        obtain ⟨g, o, rfl, hg, hc⟩ := m2 (by omega)
        obtain ⟨A6, c6, t2, q2⟩ := HR4.out j hj
        obtain ⟨g2, o2, rfl, hg2, hc2⟩ := q2 (by omega)
        refine ⟨g, o, c5, g2, o2, c6, fun W hW => ?_⟩
        have h3 : Below w3.heap.size w3 W := HD4.out.trans (hW.mono HD4.out.size)
        exact ⟨(h3.cell (p := ⟨tb, j, none⟩) HR3.out.row.lt).trans t1, (hW.cell (p := ⟨b, off + j, none⟩) HBB.out).trans t2, fun k hk => ⟨(h3.cell (p := ⟨g, o + k, none⟩) hg).trans (hc k (by omega)), (hW.cell (p := ⟨g2, o2 + k, none⟩) hg2).trans (hc2 k (by omega))⟩⟩)
      clear HTR2 HRT HR3 HR4 HHV z1 z2
      obtain ⟨z1, z2⟩ := HS.out w4 HB4.out
      go_wp2_with fail
      go_region_held3 (fun W => W.cell? ⟨w.heap.size, 0, none⟩ = some (.slice A s c) ∧ W.cell? ⟨w.heap.size, 1, none⟩ = some (.slice B q d))
        (first | exact HS.out _ HB4.out | exact HS.out _ HB4.out.drew | exact HS.out _ HB5.out | exact HS.out _ HB5.out.drew | exact HS.out _ HB6.out | go_keep)
        (first
          | (go_at_call 19; refine (HRH.out _ (by first | exact HB5.out | exact HB5.out.drew)).mono ?_; rintro e6 w6 ⟨rfl, hb6⟩; have HB6 : Hid (Below w1.heap.size w1 w6) := Lib.hid (by first | exact HB5.out.trans (hb6.mono HB5.out.size) | exact HB5.out.drew.trans (hb6.mono HB5.out.drew.size)); have HD6 : Hid (Below w4.heap.size w4 w6) := Lib.hid (by first | exact HD5.out.trans (hb6.mono HD5.out.size) | exact HD5.out.drew.trans (hb6.mono HD5.out.drew.size)); clear hb6)
          | (go_at_call 18; refine (HPH.out _ (by first | exact HB4.out | exact HB4.out.drew)).mono ?_; rintro e5 w5 ⟨rfl, hb5⟩; have HB5 : Hid (Below w1.heap.size w1 w5) := Lib.hid (by first | exact HB4.out.trans (hb5.mono HB4.out.size) | exact HB4.out.drew.trans (hb5.mono HB4.out.drew.size)); have HD5 : Hid (Below w4.heap.size w4 w5) := Lib.hid (by first | exact (Below.refl w4.heap.size w4).drew.trans hb5 | exact hb5); clear hb5)
          | fail)
      all_goals
        go_wp2
        go_loopw [7] (fun iv wr => ∃ i : Nat, i ≤ fl ∧ iv = .int .i64 i ∧ Hid (Below w4.heap.size w4 wr)) (fun iv _ => fl - (intOf iv).toNat)
        case atStart => exact ⟨0, Nat.zero_le _, rfl, HD6⟩
        case round =>
          clear HD6
          obtain ⟨i, hi, rfl, HB⟩ := hrel
          obtain ⟨wo, rfl⟩ : ∃ wo, wo = wr := ⟨wr, rfl⟩
          by_cases hlt : i < fl
          · have hlti : (i : Int) < fl := by omega
            obtain ⟨g, o, c1, g2, o2, c2, hcc⟩ := HT.out i hlt
            have HCC := Lib.hid hcc
            clear hcc
            obtain ⟨t1, t2, _⟩ := HCC.out wo HB.out
            go_wp2_with fail
            clear t1 t2
            obtain ⟨t1, t2, _⟩ := HCC.out wo HB.out
            go_quiet (fail)
            generalize hw7 : wo.drewN _ = w7
            have HB7 : Hid (Below w4.heap.size w4 w7) := Lib.hid (by rw [← hw7]; exact below_drewN HB.out _)
            clear hw7 t1 t2
            go_wp2
            go_loopw [8] (fun kv wq => ∃ k : Nat, k ≤ n ∧ kv = .int .i64 k ∧ Hid (Below w4.heap.size w4 wq)) (fun kv _ => n - (intOf kv).toNat)
            case atStart => exact ⟨0, Nat.zero_le _, rfl, HB7⟩
            case round =>
              clear HB HB7
              obtain ⟨k, hk, rfl, HB⟩ := hrel
              obtain ⟨wo, rfl⟩ : ∃ wo, wo = wr := ⟨wr, rfl⟩
              by_cases hlk : k < n
              · have hlki : (k : Int) < n := by omega
                obtain ⟨t1, t2, t3⟩ := HCC.out wo HB.out
                obtain ⟨t4, t5⟩ := t3 k hlk
                clear t3
                generalize (tr i).getD k false = v at t4 t5
                go_wp2_with fail
                go_quiet (fail)
                generalize hw8 : wo.drewN _ = w8
                have HB8 : Hid (Below w4.heap.size w4 w8) := Lib.hid (by rw [← hw8]; exact below_drewN HB.out _)
                clear hw8 t1 t2 t4 t5
                go_wp2
                go_roundw
                case rel => exact ⟨k + 1, by omega, by go_num, HB8⟩
                case measure => simp [intOf]; omega
              · obtain rfl : k = n := by omega
                have hlki : ¬ (k : Int) < k := by omega
                obtain ⟨t1, t2, _⟩ := HCC.out wo HB.out
                go_wp2
                exact ⟨⟨i + 1, by omega, by go_num, HB⟩, by simp [intOf]; omega⟩
          · obtain rfl : i = fl := by omega
            have hlti : ¬ (i : Int) < i := by omega
            have HBW : Hid (Below w1.heap.size w1 wo) := Lib.hid (HB4.out.trans (HB.out.mono HB4.out.size))
            go_wp2_with fail
            refine (awake_any _).mono ?_
            rintro e9 w9 ⟨rfl, hb9⟩
            have HB9 := Lib.hid (HBZ.out.trans ((HBW.out.trans (hb9.mono HBW.out.size)).mono HBZ.out.size))
            clear hb9
            go_wp2
            go_ret
            exact ⟨rfl, HB9.out⟩
  · have HTR2 : Hid (∀ W, Below w1.heap.size w1 W → Calls Try.prog 16 #[.slice FA fl fc, x.v] W (ValP W (.slice none 0 0))) := Lib.hid (fun W hW => (HTR.out W hW).mono (fun r w' h => by
      unfold TruP at h
      rw [if_neg hok] at h
      exact h))
    have HRT : Hid (∀ W, Below w1.heap.size w1 W → Calls Try.prog 17 #[.slice FA fl fc, x.v] W (ValP W (.slice none 0 0))) := Lib.hid (fun W hW => (HRR.out W hW).mono (fun r w' h => by
      unfold RefTr at h
      rw [if_neg hok] at h
      exact h))
    obtain ⟨A, s, c, B, q, d⟩ := x
    unfold WX.v at HHV HTR2 HRT HPH HRH ⊢
    dsimp only at HHV HS HTR2 HRT HPH HRH ⊢
    clear hx hF hf hn hnl HTR HRR hok HY
    obtain ⟨y1, y2⟩ := HS.out w1 (Below.refl _ _)
    go_enter Try.func4, Try.ntmps4
    go_upto_region 1 with (fail)
    clear HW1
    go_wp2_with fail
    refine HHV.out.mono ?_
    rintro e2 w2 ⟨rfl, hb2⟩
    have HB2 := Lib.hid hb2
    clear hb2 y1 y2
    go_wp2_with fail
    obtain ⟨z1, z2⟩ := HS.out w2 HB2.out
    go_region_held3 (fun W => W.cell? ⟨w.heap.size, 0, none⟩ = some (.slice A s c) ∧ W.cell? ⟨w.heap.size, 1, none⟩ = some (.slice B q d))
      (first | exact HS.out _ HB2.out | exact HS.out _ HB2.out.drew | exact HS.out _ HB3.out | exact HS.out _ HB3.out.drew | exact HS.out _ HB4.out | go_keep)
      (first
        | (go_at_call 17; refine (HRT.out _ (by first | exact HB3.out | exact HB3.out.drew)).mono ?_; rintro e4 w4 ⟨rfl, hb4⟩; have HB4 : Hid (Below w1.heap.size w1 w4) := Lib.hid (by first | exact HB3.out.trans (hb4.mono HB3.out.size) | exact HB3.out.drew.trans (hb4.mono HB3.out.drew.size)); clear hb4)
        | (go_at_call 16; refine (HTR2.out _ (by first | exact HB2.out | exact HB2.out.drew)).mono ?_; rintro e3 w3 ⟨rfl, hb3⟩; have HB3 : Hid (Below w1.heap.size w1 w3) := Lib.hid (by first | exact HB2.out.trans (hb3.mono HB2.out.size) | exact HB2.out.drew.trans (hb3.mono HB2.out.drew.size)); clear hb3)
        | fail)
    all_goals
      clear z1 z2
      obtain ⟨z1, z2⟩ := HS.out w4 HB4.out
      go_wp2_with fail
      go_region_held3 (fun W => W.cell? ⟨w.heap.size, 0, none⟩ = some (.slice A s c) ∧ W.cell? ⟨w.heap.size, 1, none⟩ = some (.slice B q d))
        (first | exact HS.out _ HB4.out | exact HS.out _ HB4.out.drew | exact HS.out _ HB5.out | exact HS.out _ HB5.out.drew | exact HS.out _ HB6.out | go_keep)
        (first
          | (go_at_call 19; refine (HRH.out _ (by first | exact HB5.out | exact HB5.out.drew)).mono ?_; rintro e6 w6 ⟨rfl, hb6⟩; have HB6 : Hid (Below w1.heap.size w1 w6) := Lib.hid (by first | exact HB5.out.trans (hb6.mono HB5.out.size) | exact HB5.out.drew.trans (hb6.mono HB5.out.drew.size)); have HD6 : Hid (Below w4.heap.size w4 w6) := Lib.hid (by first | exact HD5.out.trans (hb6.mono HD5.out.size) | exact HD5.out.drew.trans (hb6.mono HD5.out.drew.size)); clear hb6)
          | (go_at_call 18; refine (HPH.out _ (by first | exact HB4.out | exact HB4.out.drew)).mono ?_; rintro e5 w5 ⟨rfl, hb5⟩; have HB5 : Hid (Below w1.heap.size w1 w5) := Lib.hid (by first | exact HB4.out.trans (hb5.mono HB4.out.size) | exact HB4.out.drew.trans (hb5.mono HB4.out.drew.size)); have HD5 : Hid (Below w4.heap.size w4 w5) := Lib.hid (by first | exact (Below.refl w4.heap.size w4).drew.trans hb5 | exact hb5); clear hb5)
          | fail)
      all_goals
        go_wp2
        go_loopw [7] (fun iv wr => iv = .int .i64 0 ∧ Hid (Below w1.heap.size w1 wr)) (fun iv _ => 0)
        case atStart => exact ⟨rfl, HB6⟩
        case round =>
          obtain ⟨rfl, HBW⟩ := hrel
          go_wp2_with fail
          refine (awake_any _).mono ?_
          rintro e9 w9 ⟨rfl, hb9⟩
          have HB9 := Lib.hid (HBZ.out.trans ((HBW.out.trans (hb9.mono HBW.out.size)).mono HBZ.out.size))
          clear hb9
          go_wp2
          go_ret
          exact ⟨rfl, HB9.out⟩
set_option maxRecDepth 100000 in
theorem lifted (os : Os) (started : os.Started) (H : Type) (enc : TypeId × Value → H) :
    ReturnsInHanded {} Try.checked os 4 .any (Rows.wordTruthsSpec.pre6 enc Try.prog Try.f4 Rows.wordTruthsRow.domain false) (Rows.wordTruthsSpec.post enc Try.prog Try.f4 false true false false) := by
  refine law_lifted started [33, 24] rfl (by kernel_rfl) Try.func4 rfl (by decide +kernel) rfl (fun ds hl => by
    match ds, hl with
    | [_, _], _ => rfl) (ChangeSpec.witness6 (enc := enc) (C := Try.checked) false ⟨#[], #[.slice none 0 0, .agg #[.slice none 0 0, .slice none 0 0]], []⟩ 8 (by kernel_rfl) (by kernel_rfl) (by kernel_rfl) (by kernel_rfl)) ?_
  intro W base args ds ps hval hA hlt hsz
  obtain ⟨v0, vs0, d0, ds0, p0, q0, hargs, rfl, rfl, h0, r0⟩ := trodAll_cons hA
  obtain ⟨v1, vs1, d1, ds1, p1, q1, rfl, rfl, rfl, h1, r1⟩ := trodAll_cons r0
  obtain ⟨rfl, rfl, rfl⟩ := trodAll_nil r1
  obtain rfl : args = #[v0, v1] := by cases args; simp_all
  obtain ⟨A0, c0, x0, rfl, b0, q0, m0, i0, z0⟩ := open_pairs_arg Try.underlying33 Try.underlying44 (by kernel_rfl) (by kernel_rfl) rfl rfl rfl rfl (hval 0 33 v0 rfl rfl) h0 hsz 0 rfl rfl
  obtain ⟨x1, s1, l1, rfl, f1⟩ := wd.open_word_arg (hval 1 24 v1 rfl rfl) h1 hsz 1 rfl rfl
  exact walk x0 x1 s1 l1 A0 c0 _ W rfl i0 f1

set_option maxRecDepth 100000 in
theorem over : Rows.wordTruthsRow.holds Try.pinned (OpenSpec.ofChange Rows.wordTruthsSpec) :=
  OpenClaim.holds_of_wide 4 Try.f4 rfl rfl rfl rfl rfl rfl rfl ⟨rfl, rfl, rfl, rfl, rfl⟩ rfl rfl rfl rfl rfl (by kernel_rfl) Try.func4 (by kernel_rfl)
    (of_decide_eq_true (by kernel_rfl)) (by unfold Func.isWrapper; first | (rw [if_pos (by decide +kernel)]; kernel_rfl) | (rw [if_neg (by decide +kernel)]; exact ⟨rfl, rfl⟩))
    (fun os started H enc _ => lifted os started H enc)

theorem proved : Rows.WordTruthsSaid := over
#print axioms proved
end Go.Proofs.Ytophajljjnjcdaa.wordTruths
