/- The program's rows. -/
import Derived.Test.YtophajljjnjcdaaWdRowsA
namespace Go.Proofs.Ytophajljjnjcdaa.wd
open Go.ChangeShapes Go.WideShapes Go.ChangeAt Go.RowKit Go.Deep sr lt nf

set_option maxRecDepth 20000 in
set_option maxHeartbeats 8000000 in
theorem rows_some (e : List (Int × Int)) (x : WX) (st0 lp sets : List Int) (all : Bool) (A : Option Addr) (c m n : Nat) (w : World) (hm : m = e.length) (hm2 : m ≤ 1000) (hA : PA w A e) (hF : isF e = true) (hX : WdR w x st0 lp) (hn : x.n + x.m = n) (h0 : 0 < x.m) (hsets : st0 ++ lp = sets) :
    Calls Try.prog 30 #[.slice A m c, x.v, .bool all] w (RowsP w m n (fun j => all = true ∨ j + 1 = m) (trJ e (outF e e.length) sets x.n)) := by
  have HF := Lib.hid (isF_iff.1 hF)
  have HM := Lib.hid hm
  have HSL : Hid (sets.length = n) := Lib.hid (by rw [← hsets, List.length_append]; have := hX.n1; have := hX.n2; omega)
  have HSE := Lib.hid hsets
  have HX := Lib.hid hX
  have HA := Lib.hid hA
  have b1 := hX.b1
  have b2 := hX.b2
  have hck := fun W => check_any x W b1 b2
  have hc0 : chkF x.m = 0 := if_neg (by omega)
  rw [hc0] at hck
  have HK := Lib.hid hck
  have HN := Lib.hid hn
  have HH0 := Lib.hid h0
  have hmk := wd_mk2 m (by omega)
  have hsp : spansL e = outF e e.length := by unfold spansL; rw [if_pos hF]
  clear hm hA hF hX hsets hck hc0
  obtain ⟨As, s, cs, Al, q, d⟩ := x
  unfold WX.v at HK ⊢
  dsimp only at b1 b2 hn h0 HK HN HH0 ⊢
  obtain ⟨w1, HW1, HB1, HC1⟩ : ∃ w1, w.alloc (.cells #[.slice As s cs, .slice Al q d] 24) = w1 ∧ Hid (Below w.heap.size w w1) ∧ Hid (∀ W, Below w1.heap.size w1 W → W.cell? ⟨w.heap.size, 0, none⟩ = some (.slice As s cs) ∧ W.cell? ⟨w.heap.size, 1, none⟩ = some (.slice Al q d)) := by
    have e : (w.alloc (.cells #[.slice As s cs, .slice Al q d] 24)).heap.size = w.heap.size + 1 := by simp
    exact ⟨_, rfl, Lib.hid (below_one _ _), Lib.hid (fun W h => ⟨(h.cell (p := ⟨w.heap.size, 0, none⟩) (by show w.heap.size < _; omega)).trans (World.cell?_alloc_at _ _ _ _ (by simp)), (h.cell (p := ⟨w.heap.size, 1, none⟩) (by show w.heap.size < _; omega)).trans (World.cell?_alloc_at _ _ _ _ (by simp))⟩)⟩
  have HSP := Lib.hid (spans_new e A c m w1 HM.out hm2 (HA.out.below HB1.out))
  rw [hsp] at HSP
  clear hsp
  go_enter Try.func30, Try.ntmps30
  go_upto_region 1 with (fail)
  clear HW1
  go_wp2_with fail
  refine HSP.out.mono ?_
  rintro e2 w2 ⟨Bb, bd, rfl, hI, hb2, _⟩
  have HI := Lib.hid hI.1
  have HC2 := Lib.hid hb2
  clear hI hb2 HSP
  obtain ⟨bl, HBL, hbl⟩ : ∃ bl, Hid (bl = (outF e e.length).length) ∧ bl = m := ⟨_, Lib.hid rfl, by rw [outF_len, HM.out]⟩
  rw [← HBL.out]
  subst hbl
  have hpos : 0 < bl := by
    have := (whole_last HF.out).1
    have := HM.out
    omega
  have hne : ¬ (bl : Int) = 0 := by omega
  have hne2 : ((bl : Int) == 0) = false := by simpa using hne
  obtain ⟨z1, z2⟩ := HC1.out w2 HC2.out
  go_wp2_with fail
  refine (HK.out _).mono ?_
  rintro e3 w3 ⟨rfl, hb3⟩
  have HC3 : Hid (Below w1.heap.size w1 w3) := Lib.hid (HC2.out.trans (hb3.mono HC2.out.size))
  have HEL : Hid (∀ W, Below w3.heap.size w3 W → PA W A e ∧ IA W Bb (outF e e.length) ∧ W.cell? ⟨w.heap.size, 0, none⟩ = some (.slice As s cs) ∧ W.cell? ⟨w.heap.size, 1, none⟩ = some (.slice Al q d) ∧ WdR W ⟨As, s, cs, Al, q, d⟩ st0 lp) := Lib.hid (fun W hW => by
    have k1 : Below w1.heap.size w1 W := HC3.out.trans (hW.mono HC3.out.size)
    have k0 : Below w.heap.size w W := HB1.out.trans (k1.mono HB1.out.size)
    have k2 : Below w2.heap.size w2 W := hb3.trans (hW.mono hb3.size)
    exact ⟨HA.out.below k0, HI.out.below k2, (HC1.out W k1).1, (HC1.out W k1).2, HX.out.below k0⟩)
  have HB3 : Hid (Below w.heap.size w w3) := Lib.hid (HB1.out.trans (HC3.out.mono HB1.out.size))
  clear hb3 z1 z2 HC1 HC2 HC3 HB1 HI HA HX HK
  obtain ⟨w4, HW4, HB4, HR4⟩ : ∃ w4, w3.alloc (.cells (madeCells #[.slice none 0 0] bl) 36) = w4 ∧ Hid (Below w3.heap.size w3 w4) ∧ Hid (w4.rowIs w3.heap.size 36 bl (fun _ => .slice none 0 0)) :=
    ⟨_, rfl, Lib.hid (below_one _ _), Lib.hid (World.rowIs_made w3 _ bl _)⟩
  have hmk2 := hmk w3
  rw [HW4] at hmk2
  clear hmk HW4
  obtain ⟨tb, HTB, htb⟩ : ∃ tb, Hid (tb = w3.heap.size) ∧ w3.heap.size = tb := ⟨_, Lib.hid rfl, rfl⟩
  rw [htb] at hmk2 HR4
  clear htb
  go_wp2
  clear hmk2
  go_loopw [29] (fun iv wr => ∃ (i : Nat) (st : List Int) (X : Nat → Option Addr × Nat × Nat), i ≤ bl ∧ iv = .int .i64 i ∧ Hid (Ok e i st) ∧ Hid (RwW wr tb bl n X (kpF all st) (trJ e (outF e e.length) sets s) i) ∧ Hid (Below w3.heap.size w3 wr)) (fun iv _ => bl - (intOf iv).toNat)
  case atStart => exact ⟨0, [], fun _ => (none, 0, 0), Nat.zero_le _, rfl, Lib.hid (Ok.zero e), Lib.hid ⟨HR4.out, fun j hj => absurd hj (Nat.not_lt_zero _)⟩, HB4⟩
  case round =>
    clear HR4 HB4
    obtain ⟨i, st, X, hi, rfl, HOK, HR, HB⟩ := hrel
    obtain ⟨wo, rfl⟩ : ∃ wo, wo = wr := ⟨wr, rfl⟩
    by_cases hlt : i < bl
    · obtain ⟨hPA, hIA, z1, z2, hWX⟩ := HEL.out wo HB.out
      have HIL : Hid (i < e.length) := Lib.hid (by rw [← HM.out]; exact hlt)
      obtain ⟨op, N, HXY⟩ : ∃ op N, Hid (e.getD i (0, 0) = (op, N)) := ⟨_, _, Lib.hid rfl⟩
      obtain ⟨ab, ao, rfl, hab, hac⟩ := hPA (by have := HIL.out; omega)
      obtain ⟨c1, c2⟩ := hac i HIL.out
      rw [HXY.out] at c1 c2
      dsimp only at c1 c2
      have hii : (i : Int) < bl := by omega
      clear hac
      obtain ⟨w5, HW5, HB5, HP5, HS5, HN5⟩ : ∃ w5, (wo.alloc (.cells #[.int .i64 op, .int .i64 N] 44)).alloc (.cells #[.slice none 0 0, .slice none 0 0] 61) = w5 ∧ Hid (Below wo.heap.size wo w5) ∧ Hid (w5.rowIs (wo.heap.size + 1) 61 2 (fun _ => slv (none, 0, 0))) ∧ Hid (w5.heap.size = wo.heap.size + 2) ∧
          Hid (w5.cell? ⟨wo.heap.size, 0, none⟩ = some (.int .i64 op) ∧ w5.cell? ⟨wo.heap.size, 1, none⟩ = some (.int .i64 N)) := by
        obtain ⟨u1, hu1⟩ : ∃ u1, wo.alloc (.cells #[.int .i64 op, .int .i64 N] 44) = u1 := ⟨_, rfl⟩
        have s1 : u1.heap.size = wo.heap.size + 1 := by rw [← hu1]; simp
        have q1 : Below wo.heap.size wo u1 := by rw [← hu1]; exact below_one _ _
        obtain ⟨u2, hu2⟩ : ∃ u2, u1.alloc (.cells #[.slice none 0 0, .slice none 0 0] 61) = u2 := ⟨_, rfl⟩
        have q2 : Below u1.heap.size u1 u2 := by rw [← hu2]; exact below_one _ _
        refine ⟨u2, by rw [hu1, hu2], Lib.hid (q1.trans (q2.mono q1.size)), Lib.hid ?_, Lib.hid (by rw [← hu2]; simp [s1]), Lib.hid ⟨?_, ?_⟩⟩
        · rw [← s1, ← hu2]
          exact World.rowIs_alloc u1 #[.slice none 0 0, .slice none 0 0] _ (fun _ => slv (none, 0, 0)) (fun i hi => by
            have : i = 0 ∨ i = 1 := by simp at hi; omega
            rcases this with rfl | rfl <;> rfl)
        · exact (q2.cell (p := ⟨wo.heap.size, 0, none⟩) (by show wo.heap.size < _; omega)).trans (by rw [← hu1]; exact World.cell?_alloc_at _ _ _ _ (by simp))
        · exact (q2.cell (p := ⟨wo.heap.size, 1, none⟩) (by show wo.heap.size < _; omega)).trans (by rw [← hu1]; exact World.cell?_alloc_at _ _ _ _ (by simp))
      obtain ⟨len, L, st', a, b, p0, p1, hNS⟩ := node_step all HF.out sets s HIL.out HOK.out
      have HNS := Lib.hid hNS
      have hlen2 := hNS.len2.1
      have HTL : Hid (tb < wo.heap.size) := Lib.hid HR.out.row.lt
      have HT3 : Hid (w3.heap.size ≤ tb) := Lib.hid (Nat.le_of_eq HTB.out.symm)
      have HOW := Lib.hid (own_any hNS.own Bb bl bd w5 ((HEL.out w5 (HB.out.trans (HB5.out.mono HB.out.size))).2.1) HBL.out hlt hm2)
      clear hNS
      go_upto_region 9 with (fail)
      clear HW5 c1 c2 z1 z2
      go_wp2_with fail
      refine HOW.out.mono ?_
      rintro e6 w6 ⟨hl6, Ao, co, rfl, hIo, hb6, hnew⟩
      have HIO := Lib.hid hIo
      have HNEW := Lib.hid hnew
      have HB6 : Hid (Below w5.heap.size w5 w6) := Lib.hid hb6
      have HLL := Lib.hid hl6
      have HR6 : Hid (w6.rowIs tb 36 bl (fun j => slv (X j))) := Lib.hid (by
        have h5 := HR.out.row.of_block (HB5.out.block _ HR.out.row.lt)
        exact h5.of_block (hb6.block _ h5.lt))
      have HP6 : Hid (w6.rowIs (wo.heap.size + 1) 61 2 (fun j => slv ((fun _ => (none, 0, 0)) j))) := Lib.hid (HP5.out.of_block (hb6.block _ HP5.out.lt))
      clear hIo hnew hb6 hl6 HOW HP5
      obtain ⟨pa, HPA, hpa⟩ : ∃ pa, Hid (pa = wo.heap.size + 1) ∧ wo.heap.size + 1 = pa := ⟨_, Lib.hid rfl, rfl⟩
      rw [hpa] at HP6
      rw [hpa]
      clear hpa
      go_wp2
      go_loopw [38] (fun kv wq => ∃ (k : Nat) (Y P : Nat → Option Addr × Nat × Nat), k ≤ len ∧ kv = .int .i64 k ∧ Hid (wq.rowIs tb 36 bl (fun j => slv (Y j))) ∧ Hid (wq.rowIs pa 61 2 (fun j => slv (P j))) ∧ Hid (Turn (fun q => q = tb ∨ q = pa) w6 wq) ∧
        Hid (∀ j, (all = true ∨ (1 ≤ k → j ≠ p0) ∧ (2 ≤ k → j ≠ p1)) → Y j = X j) ∧ Hid ((1 ≤ k → P 0 = X p0) ∧ (2 ≤ k → P 1 = X p1))) (fun kv _ => len - (intOf kv).toNat)
      case atStart => exact ⟨0, X, _, Nat.zero_le _, rfl, HR6, HP6, Lib.hid (Turn.refl _ _), Lib.hid (fun _ _ => rfl), Lib.hid ⟨fun h => by omega, fun h => by omega⟩⟩
      case round =>
        clear HR6 HP6
        obtain ⟨k, Y, P, hk, rfl, HY, HP, HT, HYX, HPX⟩ := hrel
        by_cases hkl : k < len
        · obtain ⟨p, HPK, hpi⟩ : ∃ p : Nat, Hid (L.getD k 0 = (p : Int) ∧ (k = 0 → p = p0) ∧ (k = 1 → p = p1 ∧ p1 ≠ p0)) ∧ p < i := by
            have h01 : k = 0 ∨ k = 1 := by omega
            rcases h01 with rfl | rfl
            · obtain ⟨q1, q2, _⟩ := HNS.out.at0 (by omega)
              exact ⟨p0, Lib.hid ⟨q1, fun _ => rfl, fun h => by omega⟩, q2⟩
            · obtain ⟨q1, q2, _, q4⟩ := HNS.out.at1 (by omega)
              exact ⟨p1, Lib.hid ⟨q1, fun h => by omega, fun _ => ⟨rfl, q4⟩⟩, q2⟩
          have hpb : p < bl := by omega
          have hpbi : (p : Int) < bl := by omega
          have hk2 : k < 2 := by omega
          obtain ⟨gb, go, rfl, hgb, hgc⟩ := HIO.out (by rw [← HLL.out]; omega)
          have hg5 := HNEW.out _ rfl
          dsimp only at hg5
          have c0 : wr.cell? ⟨gb, go + k, none⟩ = some (.int .i64 p) := by
            rw [HT.out.cell (p := ⟨gb, go + k, none⟩) hgb (by have := HS5.out; have := HTL.out; have := HPA.out; show ¬ (gb = tb ∨ gb = pa); omega), hgc k (by rw [← HLL.out]; exact hkl), HPK.out.1]
          have HYP : Hid (Y p = X p) := Lib.hid (HYX.out p (.inr ⟨fun h => by
            have h1 : k = 1 := by omega
            have := HPK.out.2.2 h1
            omega, fun h => by omega⟩))
          obtain ⟨Ap, np, cp, HXP⟩ : ∃ Ap np cp, Hid (X p = (Ap, np, cp)) := ⟨_, _, _, Lib.hid rfl⟩
          have c1 := HY.out.cell hpb
          rw [HYP.out, HXP.out] at c1
          have d1 := HP.out.cell hk2
          have f1 := HP.out.frozen k
          unfold slv at c1
          dsimp only at c1
          generalize slv (P k) = u at d1
          have hpt : tb ≠ pa := by have := HTL.out; have := HPA.out; omega
          obtain ⟨v1, HV1, HY1, HP1, HT1⟩ : ∃ v1, wr.setCell ⟨pa, k, none⟩ (.slice Ap np cp) = v1 ∧ Hid (v1.rowIs tb 36 bl (fun j => slv (Y j))) ∧ Hid (v1.rowIs pa 61 2 (fun j => slv (putX P k (Ap, np, cp) j))) ∧ Hid (Turn (fun q => q = tb ∨ q = pa) w6 v1) :=
            ⟨_, rfl, Lib.hid (HY.out.setOther (show tb ≠ (⟨pa, k, none⟩ : Addr).block from hpt) _), Lib.hid ((HP.out.set k (slv (Ap, np, cp))).congr (fun j _ => by
              unfold putX
              by_cases hj : j = k
              · rw [if_pos hj, if_pos hj]
              · rw [if_neg hj, if_neg hj])), Lib.hid (HT.out.set ⟨pa, k, none⟩ _ (.inr rfl))⟩
          have HPX1 : Hid ((1 ≤ k + 1 → putX P k (Ap, np, cp) 0 = X p0) ∧ (2 ≤ k + 1 → putX P k (Ap, np, cp) 1 = X p1)) := Lib.hid (by
            have h01 : k = 0 ∨ k = 1 := by omega
            unfold putX
            rcases h01 with rfl | rfl
            · exact ⟨fun _ => by rw [if_pos rfl, ← HXP.out, HPK.out.2.1 rfl], fun h => by omega⟩
            · exact ⟨fun _ => by rw [if_neg (by omega)]; exact HPX.out.1 (by omega), fun _ => by rw [if_pos rfl, ← HXP.out, (HPK.out.2.2 rfl).1]⟩)
          cases all
          · have g1 := HY1.out.cell hpb
            have g2 := HY1.out.frozen p
            generalize slv (Y p) = u2 at g1
            have HY2 := Lib.hid (rowX_set (k := p) (y := (none, 0, 0)) HY1.out rfl)
            have HP2 : Hid ((v1.setCell ⟨tb, p, none⟩ (.slice none 0 0)).rowIs pa 61 2 (fun j => slv (putX P k (Ap, np, cp) j))) := Lib.hid (HP1.out.setOther (show pa ≠ (⟨tb, p, none⟩ : Addr).block from fun h => hpt h.symm) _)
            have HT2 : Hid (Turn (fun q => q = tb ∨ q = pa) w6 (v1.setCell ⟨tb, p, none⟩ (.slice none 0 0))) := Lib.hid (HT1.out.set ⟨tb, p, none⟩ _ (.inl rfl))
            have HYX2 : Hid (∀ j, (false = true ∨ (1 ≤ k + 1 → j ≠ p0) ∧ (2 ≤ k + 1 → j ≠ p1)) → putX Y p (none, 0, 0) j = X j) := Lib.hid (fun j hj => by
              rcases hj with hj | ⟨h1, h2⟩
              · cases hj
              · have hjp : j ≠ p := by
                  have h01 : k = 0 ∨ k = 1 := by omega
                  rcases h01 with rfl | rfl
                  · rw [HPK.out.2.1 rfl]; exact h1 (by omega)
                  · rw [(HPK.out.2.2 rfl).1]; exact h2 (by omega)
                unfold putX
                rw [if_neg hjp]
                exact HYX.out j (.inr ⟨fun _ => h1 (by omega), fun h => by omega⟩))
            clear hgc
            go_upto_region 13 with (fail)
            clear HV1 c0 c1 d1 f1
            go_wp2
            go_roundw
            case rel => exact ⟨k + 1, _, _, by omega, by go_num, HY2, HP2, HT2, HYX2, HPX1⟩
            case measure => simp [intOf]; omega
          · have HYX2 : Hid (∀ j, (true = true ∨ (1 ≤ k + 1 → j ≠ p0) ∧ (2 ≤ k + 1 → j ≠ p1)) → Y j = X j) := Lib.hid (fun j _ => HYX.out j (.inl rfl))
            clear hgc
            go_upto_region 13 with (fail)
            clear HV1 c0 c1 d1 f1
            go_wp2
            go_roundw
            case rel => exact ⟨k + 1, _, _, by omega, by go_num, HY1, HP1, HT1, Lib.hid (fun j _ => HYX2.out j (.inl rfl)), HPX1⟩
            case measure => simp [intOf]; omega
        · have HKL : Hid (k = len) := Lib.hid (by omega)
          have hkl2 : (k : Int) = (len : Int) := by omega
          have HTW : Hid (Turn (· = tb) wo wr) := Lib.hid (turn_more (Turn.of_below (HB5.out.trans (HB6.out.mono HB5.out.size))) HT.out (fun q hq h => by
            rcases h with h | h
            · exact h
            · have := HPA.out; omega))
          have HB3R : Hid (Below w3.heap.size w3 wr) := Lib.hid (HB.out.trans (HTW.out.below (fun q hq => by have := HT3.out; omega) HB.out.size))
          obtain ⟨_, _, z1, z2, hWX⟩ := HEL.out wr HB3R.out
          have HWX := Lib.hid hWX
          have n0 : wr.cell? ⟨wo.heap.size, 0, none⟩ = some (.int .i64 op) := (HT.out.cell (p := ⟨wo.heap.size, 0, none⟩) (by have := HB6.out.size; have := HS5.out; show wo.heap.size < _; omega) (by have := HTL.out; have := HPA.out; show ¬ (wo.heap.size = tb ∨ wo.heap.size = pa); omega)).trans ((HB6.out.cell (p := ⟨wo.heap.size, 0, none⟩) (by have := HS5.out; show wo.heap.size < _; omega)).trans HN5.out.1)
          have n1 : wr.cell? ⟨wo.heap.size, 1, none⟩ = some (.int .i64 N) := (HT.out.cell (p := ⟨wo.heap.size, 1, none⟩) (by have := HB6.out.size; have := HS5.out; show wo.heap.size < _; omega) (by have := HTL.out; have := HPA.out; show ¬ (wo.heap.size = tb ∨ wo.heap.size = pa); omega)).trans ((HB6.out.cell (p := ⟨wo.heap.size, 1, none⟩) (by have := HS5.out; show wo.heap.size < _; omega)).trans HN5.out.2)
          obtain ⟨Ar, nr, cr, HP0⟩ : ∃ Ar nr cr, Hid (P 0 = (Ar, nr, cr)) := ⟨_, _, _, Lib.hid rfl⟩
          obtain ⟨Al', nl, cl, HP1⟩ : ∃ Al nl cl, Hid (P 1 = (Al, nl, cl)) := ⟨_, _, _, Lib.hid rfl⟩
          have c0 := HP.out.cell (i := 0) (by decide)
          have c1 := HP.out.cell (i := 1) (by decide)
          rw [HP0.out] at c0
          rw [HP1.out] at c1
          unfold slv at c0 c1
          dsimp only at c0 c1
          have HXR : Hid (∀ j, j < i → kpF all st j → (X j).2.1 = n ∧ BL wr (X j).1 (trJ e (outF e e.length) sets s j) ∧ (trJ e (outF e e.length) sets s j).length = n ∧ ∀ a, (X j).1 = some a → a.block ≠ tb) := Lib.hid (fun j hj hk => by
            obtain ⟨q1, q2, q3, q4⟩ := HR.out.tru j hj hk
            exact ⟨q1, q2.turn HTW.out q4, q3, q4⟩)
          have HRC : Hid (Calls Try.prog 48 #[.agg #[.slice As s cs, .slice Al q d], .agg #[.int .i64 op, .int .i64 N], .slice Ar nr cr, .slice Al' nl cl] wr (OwnN wr n (trJ e (outF e e.length) sets s i))) := Lib.hid (by
            have hkk := HNS.out.kk
            rw [HXY.out] at hkk
            dsimp only at hkk
            have hnt := HNS.out.tr
            rw [HXY.out] at hnt
            rw [hnt]
            have hq := (kinds_of HF.out HIL.out).2
            rw [HXY.out] at hq
            have hl1 : 1 ≤ len → (nr = n ∧ BL wr Ar (trJ e (outF e e.length) sets s p0)) ∧ (trJ e (outF e e.length) sets s p0).length = n := fun h1 => by
              have h2 := HPX.out.1 (by have := HKL.out; omega)
              rw [HP0.out] at h2
              obtain ⟨_, h4, h5⟩ := HNS.out.at0 h1
              obtain ⟨q1, q2, q3, _⟩ := HXR.out p0 h4 h5
              rw [← h2] at q1 q2
              exact ⟨⟨q1, q2⟩, q3⟩
            have hl2 : 2 ≤ len → (nl = n ∧ BL wr Al' (trJ e (outF e e.length) sets s p1)) ∧ (trJ e (outF e e.length) sets s p1).length = n := fun h1 => by
              have h2 := HPX.out.2 (by have := HKL.out; omega)
              rw [HP1.out] at h2
              obtain ⟨_, h4, h5, _⟩ := HNS.out.at1 h1
              obtain ⟨q1, q2, q3, _⟩ := HXR.out p1 h4 h5
              rw [← h2] at q1 q2
              exact ⟨⟨q1, q2⟩, q3⟩
            refine row_any ⟨As, s, cs, Al, q, d⟩ st0 lp sets op N a b n nr cr nl cl Ar Al' wr HWX.out HN.out HH0.out HSE.out (by omega) hq ?_ ?_ ?_
            · intro h1
              have h2 : len = 1 ∨ len = 2 := by omega
              rcases h2 with h2 | h2
              · rw [if_pos (by omega), ← HNS.out.r1 h2]
                exact (hl1 (by omega)).1
              · rw [if_neg (by omega), ← (HNS.out.r2 h2).1]
                exact (hl1 (by omega)).1
            · intro h1
              have h2 : len = 1 ∨ len = 2 := by omega
              rcases h2 with h2 | h2
              · rw [← HNS.out.r1 h2]
                exact (hl1 (by omega)).2
              · rw [← (HNS.out.r2 h2).2]
                exact (hl2 (by omega)).2
            · intro h1
              have h2 : len = 2 := by omega
              refine ⟨by rw [← (HNS.out.r2 h2).1]; exact (hl1 (by omega)).2, ?_⟩
              rw [← (HNS.out.r2 h2).2]
              exact (hl2 (by omega)).1)
          clear hWX
          go_wp2_with fail
          clear c0 c1 n0 n1 z1 z2
          refine HRC.out.mono ?_
          rintro e8 w8 ⟨hl8, p8, rfl, hp8, hr8, hb8⟩
          have HB8 := Lib.hid hb8
          have HR8 := Lib.hid hr8
          have HL8 := Lib.hid hl8
          have HP8 : Hid (p8 ≠ tb ∧ tb < wr.heap.size) := Lib.hid (by have := HTW.out.size; have := HTL.out; exact ⟨by omega, by omega⟩)
          have HY8 : Hid (w8.rowIs tb 36 bl (fun j => slv (Y j))) := Lib.hid (HY.out.of_block (hb8.block _ HP8.out.2))
          have g1 := HY8.out.cell hlt
          have g2 := HY8.out.frozen i
          generalize slv (Y i) = u2 at g1
          clear hb8 hr8 hl8 hp8 HRC
          have HT9 : Hid (Turn (· = tb) wo (w8.setCell ⟨tb, i, none⟩ (.slice (some ⟨p8, 0, none⟩) n n))) := Lib.hid ((HTW.out.trans (Turn.of_below HB8.out)).set ⟨tb, i, none⟩ _ rfl)
          have HB9 : Hid (Below w3.heap.size w3 (w8.setCell ⟨tb, i, none⟩ (.slice (some ⟨p8, 0, none⟩) n n))) := Lib.hid (HB.out.trans (HT9.out.below (fun q hq => by have := HT3.out; omega) HB.out.size))
          have HR9 : Hid (RwW (w8.setCell ⟨tb, i, none⟩ (.slice (some ⟨p8, 0, none⟩) n n)) tb bl n (putX Y i (some ⟨p8, 0, none⟩, n, n)) (kpF all st') (trJ e (outF e e.length) sets s) (i + 1)) := Lib.hid ⟨rowX_set HY8.out rfl, fun j hj hkp => by
            unfold putX
            by_cases hji : j = i
            · subst hji
              rw [if_pos rfl]
              refine ⟨rfl, bl_row HL8.out (HR8.out.setOther (show p8 ≠ (⟨tb, j, none⟩ : Addr).block from HP8.out.1) _), HL8.out, fun a ha => by cases ha; exact HP8.out.1⟩
            · rw [if_neg hji]
              obtain ⟨q1, q2⟩ := HNS.out.keep j (by omega) hkp
              have hYX : Y j = X j := HYX.out j (by
                rcases q2 with q2 | ⟨q2, q3⟩
                · exact .inl q2
                · exact .inr ⟨fun h => q2 (by have := HKL.out; omega), fun h => q3 (by have := HKL.out; omega)⟩)
              rw [hYX]
              obtain ⟨r1, r2, r3, r4⟩ := HR.out.tru j (by omega) q1
              exact ⟨r1, r2.turn HT9.out r4, r3, r4⟩⟩
          go_wp2
          go_roundw
          case rel => exact ⟨i + 1, st', _, by omega, by go_num, Lib.hid HNS.out.ok, HR9, HB9⟩
          case measure => simp [intOf]; omega
    · obtain rfl : i = bl := by omega
      go_wp2
      go_ret
      refine ⟨tb, X, rfl, HB3.out.trans (HB.out.mono HB3.out.size), by have := HB3.out.size; have := HTB.out; omega, HR.out.row, fun j hj hk => HR.out.tru j hj ?_⟩
      rcases hk with hk | hk
      · exact .inl hk
      · have h1 := HOK.out.1
        rw [← hk] at h1
        obtain ⟨_, _, e5, _⟩ := h1.pos
        exact .inr (by rw [e5]; simp)
end Go.Proofs.Ytophajljjnjcdaa.wd
