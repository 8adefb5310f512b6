/- The law LexOrder: its walk. -/
import Derived.Test.YtcielemahmpppaaDoorLexScansLaw
namespace Go.Proofs.YtcielemahmpppaaDoor.lx
open Go.ChangeShapes Go.WideShapes Go.ChangeAt Go.RowKit Go.Deep Go.Proofs.YtcielemahmpppaaDoor.sr

set_option maxRecDepth 100000 in
set_option maxHeartbeats 4000000 in
theorem lexOrder_any (s : ByteArray) (w : World) (h : LexW w) : Calls Tryd.prog 6 #[.string s] w fun e w' => e = .returned (.bool true) ∧ Below w.heap.size w w' := by
  have HW := Lib.hid h
  clear h
  by_cases hz : 3000 < s.size
  · have g : (3000 : Int) < (s.size : Int) := by omega
    go_enter Tryd.func6, Tryd.ntmps6
    go_wp2_with fail
    refine (awake_any _ HW.out).mono ?_
    rintro e w1 ⟨rfl, hb1⟩
    go_wp2
    go_ret
    exact ⟨rfl, hb1⟩
  · have g : ¬ (3000 : Int) < (s.size : Int) := by omega
    have hz2 : s.size ≤ 20000 := by omega
    go_enter Tryd.func6, Tryd.ntmps6
    go_wp2_with fail
    refine (scan_sc s _ HW.out hz2).mono ?_
    rintro e w1 ⟨r, A, c, hsc, rfl, _, hr1, hb1⟩
    have HSC := Lib.hid hsc
    have HR1 := Lib.hid hr1
    have HB1 := Lib.hid hb1
    clear hsc hr1 hb1
    obtain ⟨l, at', why⟩ := r
    by_cases hw : why = 0
    · obtain ⟨T, hT, htk, _⟩ := HSC.out.tks hw
      rw [List.nil_append] at hT
      injection hT with e1 e2
      injection e2 with e2 e3
      subst e1 e2 e3
      have HTK := Lib.hid htk
      have hnl : l.length ≤ 6000 := by have := tks_len htk; omega
      obtain ⟨n, HN⟩ : ∃ n, Hid (n = l.length) := ⟨_, Lib.hid rfl⟩
      simp only at HR1 ⊢
      rw [← HN.out] at hnl ⊢
      clear htk hw
      go_wp2
      go_loopw [6, 7] (fun ev iv wr => ∃ (k en : Nat), k ≤ n ∧ iv = .int .i64 k ∧ ev = .int .i64 en ∧ en ≤ s.size ∧ Hid (Tks numD s en (l.drop k)) ∧ Hid (Below w1.heap.size w1 wr)) (fun _ iv _ => n - (intOf iv).toNat)
      case atStart => exact ⟨0, 0, Nat.zero_le _, rfl, rfl, Nat.zero_le _, HTK, Lib.hid (Below.refl _ _)⟩
      case round =>
        obtain ⟨k, en, hk, rfl, rfl, hen, HT, HB⟩ := hrel
        have HBW : Hid (Below w.heap.size w wr) := Lib.hid (HB1.out.trans (HB.out.mono HB1.out.size))
        by_cases hlt : k < n
        · obtain ⟨b, o, rfl, hb, hc⟩ := HR1.out (by rw [← HN.out]; omega)
          have hlL : k < l.length := by rw [← HN.out]; exact hlt
          have q2 := hc k hlL 2 (by decide)
          have q3 := hc k hlL 3 (by decide)
          obtain ⟨m, hg, hps, hf, htx, htk⟩ := HT.out.head (l.getD k default) (l.drop (k + 1)) (by rw [show l.getD k default = l[k]'hlL by simp [List.getD, hlL]]; exact (List.drop_eq_getElem_cons hlL))
          obtain ⟨t, HTT⟩ : ∃ t, Hid (l.getD k default = t) := ⟨_, Lib.hid rfl⟩
          rw [HTT.out] at q2 q3 hg hps hf htx htk
          obtain ⟨t0, t1, p, q⟩ := t
          simp only [cellT, List.getElem?_cons_zero, List.getElem?_cons_succ, Nat.add_zero] at q2 q3
          simp only at hg hps hf htx htk
          obtain ⟨f1, f2, _⟩ := first_ok hps hf
          have hqz : q.size = m := by rw [htx, ByteArray.size_extract]; omega
          have g2 := (HB.out.cell (p := ⟨b, o + k * 4 + 2, none⟩) hb).trans q2
          have g3 := (HB.out.cell (p := ⟨b, o + k * 4 + 3, none⟩) hb).trans q3
          have HGS : Hid (Sc numD (s.extract en p) 0 [] ([], 0, 0)) := Lib.hid (by have := hg.sc (nm := numD) (e := en) (l := []) (by omega) (Nat.le_refl _); rwa [Nat.sub_self] at this)
          have HTN := Lib.hid htk
          have hgl := hg.le
          subst hqz
          obtain ⟨E, HE⟩ : ∃ E, Hid (p + q.size = E) := ⟨_, Lib.hid rfl⟩
          obtain ⟨R, HRR⟩ : ∃ R, Hid (s.size - q.size = R) := ⟨_, Lib.hid rfl⟩
          rw [HE.out] at HTN
          have hEz : E ≤ s.size := by have := HE.out; omega
          have hpE : p ≤ E := by have := HE.out; omega
          have hEX : s.extract p E = q := by rw [← HE.out]; exact htx.symm
          have w1' : IntKind.i64.wrap ((p : Int) + (q.size : Int)) = (E : Int) := by rw [← HE.out]; exact (IntWalk.i64_in _ (by omega)).trans (by omega)
          have w2' : IntKind.i64.wrap ((s.size : Int) - (q.size : Int)) = (R : Int) := by rw [← HRR.out]; exact (IntWalk.i64_in _ (by omega)).trans (by omega)
          have c1 : decide ((p : Int) < (en : Int)) = false := decide_eq_false (by omega)
          have c2 : ((q.size : Int) == 0) = false := by rw [beq_eq_false_iff_ne]; omega
          have c3 : decide ((s.size : Int) < (q.size : Int)) = false := decide_eq_false (by omega)
          have c4 : decide ((R : Int) < (p : Int)) = false := decide_eq_false (by have := HRR.out; omega)
          have c1n : ¬ p < en := by omega
          have c3n : ¬ s.size < q.size := by omega
          have c4n : ¬ R < p := by have := HRR.out; omega
          have c2n : ¬ q.size = 0 := by omega
          have hsl : ∀ W, (Instr.slice 9 (.string s) (some (.int .i64 (p : Int))) (some (.int .i64 (E : Int))) none).run Tryd.prog W = .ok (.string q) W := fun W => by
            rw [run_slice_string W 9 s .i64 .i64 p E Tryd.underlying9 (by omega) (by omega) (by omega)]
            rw [← hEX]; rfl
          have HSL2 : Hid (∀ W, (Instr.slice 9 (.string s) (some (.int .i64 (en : Int))) (some (.int .i64 (p : Int))) none).run Tryd.prog W = .ok (.string (s.extract en p)) W) := Lib.hid (fun W => by
            rw [run_slice_string W 9 s .i64 .i64 en p Tryd.underlying9 (by omega) (by omega) (by omega)]
            rfl)
          have HQZ : Hid ((s.extract en p).size ≤ 20000) := Lib.hid (by rw [ByteArray.size_extract]; omega)
          generalize s.extract en p = gp at HGS HSL2 HQZ
          clear hc q2 q3 hlL hg hps hf htx htk hEX
          go_wp2
          go_quiet (fail)
          go_wp2
          go_quiet (fail)
          clear hsl g2 g3
          have hsl2 := HSL2.out
          go_wp2_with fail
          clear hsl2
          refine (scan_known gp _ (HW.out.below (by first | exact HBW.out | exact below_drewN HBW.out _ | exact HBW.out.drew)) HQZ.out _ HGS.out).mono ?_
          rintro e w3 ⟨A3, c3, rfl, _, _, hb3⟩
          have HB3 : Hid (Below w1.heap.size w1 w3) := Lib.hid (HB.out.trans (Below.mono (by first | exact hb3 | exact ((Below.refl _ _).drew).trans hb3 | exact (below_drewN (Below.refl _ _) _).trans hb3) HB.out.size))
          clear hb3
          simp only [List.length_nil]
          go_wp2
          go_roundw
          case rel => exact ⟨k + 1, E, by omega, by go_num, rfl, hEz, HTN, HB3⟩
          case measure => simp [intOf]; omega
        · obtain rfl : k = n := by omega
          go_wp2_with fail
          refine (awake_any _ (HW.out.below HBW.out)).mono ?_
          rintro e w4 ⟨rfl, hb4⟩
          have HB4 : Hid (Below w.heap.size w w4) := Lib.hid (HBW.out.trans (hb4.mono HBW.out.size))
          clear hb4
          go_wp2
          go_ret
          exact ⟨rfl, HB4.out⟩
    · have gw : ((why : Int) != 0) = true := by simp; omega
      go_wp2_with fail
      refine (awake_any _ (HW.out.below HB1.out)).mono ?_
      rintro e w2 ⟨rfl, hb2⟩
      have HB2 : Hid (Below w.heap.size w w2) := Lib.hid (HB1.out.trans (hb2.mono HB1.out.size))
      clear hb2
      go_wp2
      go_ret
      exact ⟨rfl, HB2.out⟩
end Go.Proofs.YtcielemahmpppaaDoor.lx
