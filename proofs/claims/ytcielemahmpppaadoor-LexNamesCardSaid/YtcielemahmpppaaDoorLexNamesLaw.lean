/- The law LexNames: its walk. -/
import Derived.Test.YtcielemahmpppaaDoorLexScansLaw
import Derived.Test.YtcielemahmpppaaDoorLexNum
namespace Go.Proofs.YtcielemahmpppaaDoor.lx
open Go.ChangeShapes Go.WideShapes Go.ChangeAt Go.RowKit Go.Deep Go.Proofs.YtcielemahmpppaaDoor.sr

theorem tail_zero (s : ByteArray) : tailS s 0 = s := by unfold tailS; exact ByteArray.extract_zero_size
/-- A text that is one word, as Scan has it. -/
theorem word_sc {nm : List UInt8 → Int × Bool} {s : ByteArray} (h0 : 1 ≤ s.size) (h16 : s.size ≤ 16) (hw : wordN s = s.size) : Sc nm s 0 [] ([⟨1, 0, 0, s⟩], 0, 0) := by
  have hf : firstP nm s = .ok (1, 0, s.size) := first_word s.size hw (by omega) h16
  obtain ⟨n1, n2⟩ := first_not_blank hf
  have ht : Tks nm s 0 [⟨1, 0, 0, s⟩] := tok_step 1 0 s.size s (by omega) n1 n2 (by rw [tail_zero]; exact hf) (by rw [Nat.zero_add]; exact ByteArray.extract_zero_size) (.done (by omega))
  exact ht.sc [] (by simp)
/-- One word that is all of a text. -/
theorem sc_word {nm : List UInt8 → Int × Bool} {s : ByteArray} {t : Tok} (h : Sc nm s 0 [] ([t], 0, 0)) (hk : t.kind = 1) (ht : t.text = s) : 1 ≤ s.size ∧ s.size ≤ 16 ∧ wordN s = s.size := by
  obtain ⟨T, e, htk, _⟩ := h.tks rfl
  have e1 : T = [t] := by injection e with e1 _; simpa using e1.symm
  obtain ⟨m, hg, hps, hf, htx, _⟩ := htk.head t [] e1
  obtain ⟨f1, f2, _⟩ := first_ok hps hf
  have hz : s.size = m := by
    have := congrArg ByteArray.size htx
    rw [ht, ByteArray.size_extract] at this
    omega
  have hp : t.pos = 0 := by omega
  rw [hp, tail_zero, hk] at hf
  refine ⟨by omega, ?_⟩
  unfold firstP at hf
  split at hf
  · cases hf
  · split at hf
    · injection hf with hf
      injection hf with _ hf
      injection hf with _ hf
      omega
    · split at hf
      · split at hf
        · injection hf with hf
          injection hf with e1 _
          cases e1
        · cases hf
      · split at hf
        · injection hf with hf
          injection hf with e1 _
          cases e1
        · cases hf
set_option maxRecDepth 100000 in
set_option maxHeartbeats 8000000 in
theorem lexNames_any (s : ByteArray) (w : World) (h : LexW w) : Calls Tryd.prog 7 #[.string s] w fun e w' => e = .returned (.bool true) ∧ Below w.heap.size w w' := by
  have HW := Lib.hid h
  clear h
  by_cases hz : 300 < s.size
  · have g : (300 : Int) < (s.size : Int) := by omega
    go_enter Tryd.func7, Tryd.ntmps7
    go_wp2_with fail
    refine (awake_any _ HW.out).mono ?_
    rintro e w1 ⟨rfl, hb1⟩
    go_wp2
    go_ret
    exact ⟨rfl, hb1⟩
  · have g : ¬ (300 : Int) < (s.size : Int) := by omega
    have hz2 : s.size ≤ 20000 := by omega
    obtain ⟨b1, h1⟩ : ∃ b1, (s.toList == [115, 101, 108, 102]) = b1 := ⟨_, rfl⟩
    obtain ⟨b2, h2⟩ : ∃ b2, (s.toList == [110, 111, 110, 101]) = b2 := ⟨_, rfl⟩
    obtain ⟨b3, h3⟩ : ∃ b3, (s.toList == [108, 101, 110]) = b3 := ⟨_, rfl⟩
    obtain ⟨b4, h4⟩ : ∃ b4, (s.toList == [97, 116]) = b4 := ⟨_, rfl⟩
    have HK : Hid (kwB s = (b1 || b2 || b3 || b4)) := Lib.hid (by unfold kwB kw1 kw2 kw3 kw4; rw [h1, h2, h3, h4])
    have H1 := Lib.hid h1
    have H2 := Lib.hid h2
    have H3 := Lib.hid h3
    have H4 := Lib.hid h4
    clear h1 h2 h3 h4
    go_enter Tryd.func7, Tryd.ntmps7
    go_wp2_with fail
    refine (scan_sc s _ HW.out hz2).mono ?_
    rintro e w1 ⟨r, A, c, hsc, rfl, _, hr1, hb1⟩
    have HSC := Lib.hid hsc
    have HR1 := Lib.hid hr1
    have HB1 := Lib.hid hb1
    clear hsc hr1 hb1
    have HAW := Lib.hid (fun W (hW : Below w.heap.size w W) => awake_any W (HW.out.below hW))
    by_cases hcore : 1 ≤ s.size ∧ s.size ≤ 16 ∧ wordN s = s.size
    · have hr := HSC.out.one (word_sc hcore.1 hcore.2.1 hcore.2.2)
      have HNM : Hid (nameB s = !(b1 || b2 || b3 || b4)) := Lib.hid (by
        unfold nameB
        rw [HK.out, decide_eq_true (show 1 ≤ s.size ∧ s.size ≤ 16 from ⟨hcore.1, hcore.2.1⟩), show stopF okB s s.size 0 = s.size from hcore.2.2, decide_eq_true rfl]
        simp)
      subst hr
      obtain ⟨b, o, rfl, hb, hc⟩ := HR1.out (by simp)
      have a0 : w1.cell? ⟨b, o, none⟩ = some (.int .i64 1) := hc 0 (by simp) 0 (by decide)
      have a3 : w1.cell? ⟨b, o + 3, none⟩ = some (.string s) := hc 0 (by simp) 3 (by decide)
      clear hc hcore
      simp only [List.length_cons, List.length_nil, Nat.zero_add]
      rcases b1 with _ | _
      · rcases b2 with _ | _
        · rcases b3 with _ | _
          · rcases b4 with _ | _
            all_goals
              have k1 := H1.out
              have k2 := H2.out
              have k3 := H3.out
              have k4 := H4.out
              go_wp2_with fail
              clear k1 k2 k3 k4
              refine (name_any s _).mono ?_
              rw [HNM.out]
              rintro e w2 ⟨rfl, hb2⟩
              have HB2 : Hid (Below w.heap.size w w2) := Lib.hid (HB1.out.trans (hb2.mono HB1.out.size))
              clear hb2
              go_wp2_with fail
              refine (HAW.out _ HB2.out).mono ?_
              rintro e w3 ⟨rfl, hb3⟩
              have HB3 : Hid (Below w.heap.size w w3) := Lib.hid (HB2.out.trans (hb3.mono HB2.out.size))
              clear hb3
              go_wp2
              go_ret
              exact ⟨rfl, HB3.out⟩
          · have k1 := H1.out
            have k2 := H2.out
            have k3 := H3.out
            go_wp2_with fail
            clear k1 k2 k3
            refine (name_any s _).mono ?_
            rw [HNM.out]
            rintro e w2 ⟨rfl, hb2⟩
            have HB2 : Hid (Below w.heap.size w w2) := Lib.hid (HB1.out.trans (hb2.mono HB1.out.size))
            clear hb2
            go_wp2_with fail
            refine (HAW.out _ HB2.out).mono ?_
            rintro e w3 ⟨rfl, hb3⟩
            have HB3 : Hid (Below w.heap.size w w3) := Lib.hid (HB2.out.trans (hb3.mono HB2.out.size))
            clear hb3
            go_wp2
            go_ret
            exact ⟨rfl, HB3.out⟩
        · have k1 := H1.out
          have k2 := H2.out
          go_wp2_with fail
          clear k1 k2
          refine (name_any s _).mono ?_
          rw [HNM.out]
          rintro e w2 ⟨rfl, hb2⟩
          have HB2 : Hid (Below w.heap.size w w2) := Lib.hid (HB1.out.trans (hb2.mono HB1.out.size))
          clear hb2
          go_wp2_with fail
          refine (HAW.out _ HB2.out).mono ?_
          rintro e w3 ⟨rfl, hb3⟩
          have HB3 : Hid (Below w.heap.size w w3) := Lib.hid (HB2.out.trans (hb3.mono HB2.out.size))
          clear hb3
          go_wp2
          go_ret
          exact ⟨rfl, HB3.out⟩
      · have k1 := H1.out
        go_wp2_with fail
        clear k1
        refine (name_any s _).mono ?_
        rw [HNM.out]
        rintro e w2 ⟨rfl, hb2⟩
        have HB2 : Hid (Below w.heap.size w w2) := Lib.hid (HB1.out.trans (hb2.mono HB1.out.size))
        clear hb2
        go_wp2_with fail
        refine (HAW.out _ HB2.out).mono ?_
        rintro e w3 ⟨rfl, hb3⟩
        have HB3 : Hid (Below w.heap.size w w3) := Lib.hid (HB2.out.trans (hb3.mono HB2.out.size))
        clear hb3
        go_wp2
        go_ret
        exact ⟨rfl, HB3.out⟩
    · have HNM : Hid (nameB s = false) := Lib.hid (by
        unfold nameB
        by_cases hf : 1 ≤ s.size ∧ s.size ≤ 16
        · rw [decide_eq_false (show ¬ stopF okB s s.size 0 = s.size from fun h => hcore ⟨hf.1, hf.2, h⟩)]; simp
        · rw [decide_eq_false hf]; simp)
      obtain ⟨l, at', why⟩ := r
      have HNO : Hid (∀ t, l = [t] → why = 0 → t.kind = 1 → t.text = s → False) := Lib.hid (fun t h1 h2 h3 h4 => by
        subst h1 h2
        obtain ⟨T, e, _, _⟩ := HSC.out.tks rfl
        injection e with e1 e2
        injection e2 with e2 _
        subst e2
        exact hcore (sc_word HSC.out h3 h4))
      clear hcore
      by_cases hw : why = 0
      · subst hw
        obtain ⟨n, HN⟩ : ∃ n, Hid (l.length = n) := ⟨_, Lib.hid rfl⟩
        simp only at HR1 ⊢
        rw [HN.out]
        by_cases hn : n = 1
        · subst hn
          obtain ⟨b, o, rfl, hb, hc⟩ := HR1.out (by rw [HN.out]; decide)
          have q0 := hc 0 (by rw [HN.out]; decide) 0 (by decide)
          have q3 := hc 0 (by rw [HN.out]; decide) 3 (by decide)
          have HL : Hid (l = [l.getD 0 default]) := Lib.hid (by
            match l, HN.out with
            | [t], _ => rfl)
          obtain ⟨t, HT⟩ : ∃ t, Hid (l.getD 0 default = t) := ⟨_, Lib.hid rfl⟩
          rw [HT.out] at q0 q3 HL
          obtain ⟨t0, t1, t2, t3⟩ := t
          simp only [cellT, List.getElem?_cons_zero, List.getElem?_cons_succ, Nat.add_zero, Nat.zero_mul] at q0 q3
          have HNT : Hid (t0 = 1 → t3 = s → False) := Lib.hid (fun h1 h2 => HNO.out _ HL.out rfl h1 h2)
          clear hc
          by_cases h0 : t0 = 1
          · have g3 : (t3.toList == s.toList) = false := str_ne (fun h => HNT.out h0 h)
            subst h0
            rcases b1 with _ | _
            · rcases b2 with _ | _
              · rcases b3 with _ | _
                · rcases b4 with _ | _
                  all_goals
                    have k1 := H1.out
                    have k2 := H2.out
                    have k3 := H3.out
                    have k4 := H4.out
                    go_wp2_with fail
                    clear k1 k2 k3 k4
                    refine (name_any s _).mono ?_
                    rw [HNM.out]
                    rintro e w2 ⟨rfl, hb2⟩
                    have HB2 : Hid (Below w.heap.size w w2) := Lib.hid (HB1.out.trans (hb2.mono HB1.out.size))
                    clear hb2
                    go_wp2_with fail
                    refine (HAW.out _ HB2.out).mono ?_
                    rintro e w3 ⟨rfl, hb3⟩
                    have HB3 : Hid (Below w.heap.size w w3) := Lib.hid (HB2.out.trans (hb3.mono HB2.out.size))
                    clear hb3
                    go_wp2
                    go_ret
                    exact ⟨rfl, HB3.out⟩
                · have k1 := H1.out
                  have k2 := H2.out
                  have k3 := H3.out
                  go_wp2_with fail
                  clear k1 k2 k3
                  refine (name_any s _).mono ?_
                  rw [HNM.out]
                  rintro e w2 ⟨rfl, hb2⟩
                  have HB2 : Hid (Below w.heap.size w w2) := Lib.hid (HB1.out.trans (hb2.mono HB1.out.size))
                  clear hb2
                  go_wp2_with fail
                  refine (HAW.out _ HB2.out).mono ?_
                  rintro e w3 ⟨rfl, hb3⟩
                  have HB3 : Hid (Below w.heap.size w w3) := Lib.hid (HB2.out.trans (hb3.mono HB2.out.size))
                  clear hb3
                  go_wp2
                  go_ret
                  exact ⟨rfl, HB3.out⟩
              · have k1 := H1.out
                have k2 := H2.out
                go_wp2_with fail
                clear k1 k2
                refine (name_any s _).mono ?_
                rw [HNM.out]
                rintro e w2 ⟨rfl, hb2⟩
                have HB2 : Hid (Below w.heap.size w w2) := Lib.hid (HB1.out.trans (hb2.mono HB1.out.size))
                clear hb2
                go_wp2_with fail
                refine (HAW.out _ HB2.out).mono ?_
                rintro e w3 ⟨rfl, hb3⟩
                have HB3 : Hid (Below w.heap.size w w3) := Lib.hid (HB2.out.trans (hb3.mono HB2.out.size))
                clear hb3
                go_wp2
                go_ret
                exact ⟨rfl, HB3.out⟩
            · have k1 := H1.out
              go_wp2_with fail
              clear k1
              refine (name_any s _).mono ?_
              rw [HNM.out]
              rintro e w2 ⟨rfl, hb2⟩
              have HB2 : Hid (Below w.heap.size w w2) := Lib.hid (HB1.out.trans (hb2.mono HB1.out.size))
              clear hb2
              go_wp2_with fail
              refine (HAW.out _ HB2.out).mono ?_
              rintro e w3 ⟨rfl, hb3⟩
              have HB3 : Hid (Below w.heap.size w w3) := Lib.hid (HB2.out.trans (hb3.mono HB2.out.size))
              clear hb3
              go_wp2
              go_ret
              exact ⟨rfl, HB3.out⟩
          · have g3 : ((t0 : Int) == 1) = false := by rw [beq_eq_false_iff_ne]; omega
            rcases b1 with _ | _
            · rcases b2 with _ | _
              · rcases b3 with _ | _
                · rcases b4 with _ | _
                  all_goals
                    have k1 := H1.out
                    have k2 := H2.out
                    have k3 := H3.out
                    have k4 := H4.out
                    go_wp2_with fail
                    clear k1 k2 k3 k4
                    refine (name_any s _).mono ?_
                    rw [HNM.out]
                    rintro e w2 ⟨rfl, hb2⟩
                    have HB2 : Hid (Below w.heap.size w w2) := Lib.hid (HB1.out.trans (hb2.mono HB1.out.size))
                    clear hb2
                    go_wp2_with fail
                    refine (HAW.out _ HB2.out).mono ?_
                    rintro e w3 ⟨rfl, hb3⟩
                    have HB3 : Hid (Below w.heap.size w w3) := Lib.hid (HB2.out.trans (hb3.mono HB2.out.size))
                    clear hb3
                    go_wp2
                    go_ret
                    exact ⟨rfl, HB3.out⟩
                · have k1 := H1.out
                  have k2 := H2.out
                  have k3 := H3.out
                  go_wp2_with fail
                  clear k1 k2 k3
                  refine (name_any s _).mono ?_
                  rw [HNM.out]
                  rintro e w2 ⟨rfl, hb2⟩
                  have HB2 : Hid (Below w.heap.size w w2) := Lib.hid (HB1.out.trans (hb2.mono HB1.out.size))
                  clear hb2
                  go_wp2_with fail
                  refine (HAW.out _ HB2.out).mono ?_
                  rintro e w3 ⟨rfl, hb3⟩
                  have HB3 : Hid (Below w.heap.size w w3) := Lib.hid (HB2.out.trans (hb3.mono HB2.out.size))
                  clear hb3
                  go_wp2
                  go_ret
                  exact ⟨rfl, HB3.out⟩
              · have k1 := H1.out
                have k2 := H2.out
                go_wp2_with fail
                clear k1 k2
                refine (name_any s _).mono ?_
                rw [HNM.out]
                rintro e w2 ⟨rfl, hb2⟩
                have HB2 : Hid (Below w.heap.size w w2) := Lib.hid (HB1.out.trans (hb2.mono HB1.out.size))
                clear hb2
                go_wp2_with fail
                refine (HAW.out _ HB2.out).mono ?_
                rintro e w3 ⟨rfl, hb3⟩
                have HB3 : Hid (Below w.heap.size w w3) := Lib.hid (HB2.out.trans (hb3.mono HB2.out.size))
                clear hb3
                go_wp2
                go_ret
                exact ⟨rfl, HB3.out⟩
            · have k1 := H1.out
              go_wp2_with fail
              clear k1
              refine (name_any s _).mono ?_
              rw [HNM.out]
              rintro e w2 ⟨rfl, hb2⟩
              have HB2 : Hid (Below w.heap.size w w2) := Lib.hid (HB1.out.trans (hb2.mono HB1.out.size))
              clear hb2
              go_wp2_with fail
              refine (HAW.out _ HB2.out).mono ?_
              rintro e w3 ⟨rfl, hb3⟩
              have HB3 : Hid (Below w.heap.size w w3) := Lib.hid (HB2.out.trans (hb3.mono HB2.out.size))
              clear hb3
              go_wp2
              go_ret
              exact ⟨rfl, HB3.out⟩
        · have g3 : ((n : Int) == 1) = false := by rw [beq_eq_false_iff_ne]; omega
          have g4 : ¬ n = 1 := hn
          rcases b1 with _ | _
          · rcases b2 with _ | _
            · rcases b3 with _ | _
              · rcases b4 with _ | _
                all_goals
                  have k1 := H1.out
                  have k2 := H2.out
                  have k3 := H3.out
                  have k4 := H4.out
                  go_wp2_with fail
                  clear k1 k2 k3 k4
                  refine (name_any s _).mono ?_
                  rw [HNM.out]
                  rintro e w2 ⟨rfl, hb2⟩
                  have HB2 : Hid (Below w.heap.size w w2) := Lib.hid (HB1.out.trans (hb2.mono HB1.out.size))
                  clear hb2
                  go_wp2_with fail
                  refine (HAW.out _ HB2.out).mono ?_
                  rintro e w3 ⟨rfl, hb3⟩
                  have HB3 : Hid (Below w.heap.size w w3) := Lib.hid (HB2.out.trans (hb3.mono HB2.out.size))
                  clear hb3
                  go_wp2
                  go_ret
                  exact ⟨rfl, HB3.out⟩
              · have k1 := H1.out
                have k2 := H2.out
                have k3 := H3.out
                go_wp2_with fail
                clear k1 k2 k3
                refine (name_any s _).mono ?_
                rw [HNM.out]
                rintro e w2 ⟨rfl, hb2⟩
                have HB2 : Hid (Below w.heap.size w w2) := Lib.hid (HB1.out.trans (hb2.mono HB1.out.size))
                clear hb2
                go_wp2_with fail
                refine (HAW.out _ HB2.out).mono ?_
                rintro e w3 ⟨rfl, hb3⟩
                have HB3 : Hid (Below w.heap.size w w3) := Lib.hid (HB2.out.trans (hb3.mono HB2.out.size))
                clear hb3
                go_wp2
                go_ret
                exact ⟨rfl, HB3.out⟩
            · have k1 := H1.out
              have k2 := H2.out
              go_wp2_with fail
              clear k1 k2
              refine (name_any s _).mono ?_
              rw [HNM.out]
              rintro e w2 ⟨rfl, hb2⟩
              have HB2 : Hid (Below w.heap.size w w2) := Lib.hid (HB1.out.trans (hb2.mono HB1.out.size))
              clear hb2
              go_wp2_with fail
              refine (HAW.out _ HB2.out).mono ?_
              rintro e w3 ⟨rfl, hb3⟩
              have HB3 : Hid (Below w.heap.size w w3) := Lib.hid (HB2.out.trans (hb3.mono HB2.out.size))
              clear hb3
              go_wp2
              go_ret
              exact ⟨rfl, HB3.out⟩
          · have k1 := H1.out
            go_wp2_with fail
            clear k1
            refine (name_any s _).mono ?_
            rw [HNM.out]
            rintro e w2 ⟨rfl, hb2⟩
            have HB2 : Hid (Below w.heap.size w w2) := Lib.hid (HB1.out.trans (hb2.mono HB1.out.size))
            clear hb2
            go_wp2_with fail
            refine (HAW.out _ HB2.out).mono ?_
            rintro e w3 ⟨rfl, hb3⟩
            have HB3 : Hid (Below w.heap.size w w3) := Lib.hid (HB2.out.trans (hb3.mono HB2.out.size))
            clear hb3
            go_wp2
            go_ret
            exact ⟨rfl, HB3.out⟩
      · have g3 : ((why : Int) == 0) = false := by rw [beq_eq_false_iff_ne]; omega
        have g4 : ¬ why = 0 := hw
        rcases b1 with _ | _
        · rcases b2 with _ | _
          · rcases b3 with _ | _
            · rcases b4 with _ | _
              all_goals
                have k1 := H1.out
                have k2 := H2.out
                have k3 := H3.out
                have k4 := H4.out
                go_wp2_with fail
                clear k1 k2 k3 k4
                refine (name_any s _).mono ?_
                rw [HNM.out]
                rintro e w2 ⟨rfl, hb2⟩
                have HB2 : Hid (Below w.heap.size w w2) := Lib.hid (HB1.out.trans (hb2.mono HB1.out.size))
                clear hb2
                go_wp2_with fail
                refine (HAW.out _ HB2.out).mono ?_
                rintro e w3 ⟨rfl, hb3⟩
                have HB3 : Hid (Below w.heap.size w w3) := Lib.hid (HB2.out.trans (hb3.mono HB2.out.size))
                clear hb3
                go_wp2
                go_ret
                exact ⟨rfl, HB3.out⟩
            · have k1 := H1.out
              have k2 := H2.out
              have k3 := H3.out
              go_wp2_with fail
              clear k1 k2 k3
              refine (name_any s _).mono ?_
              rw [HNM.out]
              rintro e w2 ⟨rfl, hb2⟩
              have HB2 : Hid (Below w.heap.size w w2) := Lib.hid (HB1.out.trans (hb2.mono HB1.out.size))
              clear hb2
              go_wp2_with fail
              refine (HAW.out _ HB2.out).mono ?_
              rintro e w3 ⟨rfl, hb3⟩
              have HB3 : Hid (Below w.heap.size w w3) := Lib.hid (HB2.out.trans (hb3.mono HB2.out.size))
              clear hb3
              go_wp2
              go_ret
              exact ⟨rfl, HB3.out⟩
          · have k1 := H1.out
            have k2 := H2.out
            go_wp2_with fail
            clear k1 k2
            refine (name_any s _).mono ?_
            rw [HNM.out]
            rintro e w2 ⟨rfl, hb2⟩
            have HB2 : Hid (Below w.heap.size w w2) := Lib.hid (HB1.out.trans (hb2.mono HB1.out.size))
            clear hb2
            go_wp2_with fail
            refine (HAW.out _ HB2.out).mono ?_
            rintro e w3 ⟨rfl, hb3⟩
            have HB3 : Hid (Below w.heap.size w w3) := Lib.hid (HB2.out.trans (hb3.mono HB2.out.size))
            clear hb3
            go_wp2
            go_ret
            exact ⟨rfl, HB3.out⟩
        · have k1 := H1.out
          go_wp2_with fail
          clear k1
          refine (name_any s _).mono ?_
          rw [HNM.out]
          rintro e w2 ⟨rfl, hb2⟩
          have HB2 : Hid (Below w.heap.size w w2) := Lib.hid (HB1.out.trans (hb2.mono HB1.out.size))
          clear hb2
          go_wp2_with fail
          refine (HAW.out _ HB2.out).mono ?_
          rintro e w3 ⟨rfl, hb3⟩
          have HB3 : Hid (Below w.heap.size w w3) := Lib.hid (HB2.out.trans (hb3.mono HB2.out.size))
          clear hb3
          go_wp2
          go_ret
          exact ⟨rfl, HB3.out⟩
end Go.Proofs.YtcielemahmpppaaDoor.lx
