/- The document's Scan. -/
import Derived.Test.YtcielemahmpppaaDoorLexBegins
import Derived.Test.YtcielemahmpppaaDoorLexBackR
import Derived.Test.YtcielemahmpppaaDoorLexRefNum
namespace Go.Proofs.YtcielemahmpppaaDoor.lx
open Go.ChangeShapes Go.WideShapes Go.ChangeAt Go.RowKit Go.Deep Go.Proofs.YtcielemahmpppaaDoor.sr

/-- A token's cells in a block of their own. -/
def TC (W : World) (b : Nat) (t : Tok) : Prop := W.cell? ⟨b, 0, none⟩ = some (.int .i64 (t.kind : Nat)) ∧ W.cell? ⟨b, 1, none⟩ = some (.int .i64 t.num) ∧ W.cell? ⟨b, 2, none⟩ = some (.int .i64 (t.pos : Nat)) ∧ W.cell? ⟨b, 3, none⟩ = some (.string t.text) ∧ b < W.heap.size ∧ ∀ i, W.frozen? ⟨b, i, none⟩ = false
theorem TC.below {W W' : World} {b : Nat} {t : Tok} (h : TC W b t) (k : Below W.heap.size W W') : TC W' b t :=
  ⟨(k.cell (p := ⟨b, 0, none⟩) h.2.2.2.2.1).trans h.1, (k.cell (p := ⟨b, 1, none⟩) h.2.2.2.2.1).trans h.2.1, (k.cell (p := ⟨b, 2, none⟩) h.2.2.2.2.1).trans h.2.2.1, (k.cell (p := ⟨b, 3, none⟩) h.2.2.2.2.1).trans h.2.2.2.1, Nat.lt_of_lt_of_le h.2.2.2.2.1 k.size, fun i => (World.frozen?_of_block (k.block b h.2.2.2.2.1)).trans (h.2.2.2.2.2 i)⟩
theorem TC.made (w : World) (t : TypeId) (k p : Nat) (n : Int) (q : ByteArray) : TC (w.alloc (.cells #[.int .i64 k, .int .i64 n, .int .i64 p, .string q] t)) w.heap.size ⟨k, n, p, q⟩ :=
  ⟨World.cell?_alloc_at _ _ _ _ (by simp), World.cell?_alloc_at _ _ _ _ (by simp), World.cell?_alloc_at _ _ _ _ (by simp), World.cell?_alloc_at _ _ _ _ (by simp), by simp, fun i => World.frozen?_alloc_at _ _ _ _ (by simp)⟩
theorem TC.num {W : World} {b k p : Nat} {n : Int} {q : ByteArray} (v : Int) (h : TC W b ⟨k, n, p, q⟩) : TC (W.setCell ⟨b, 1, none⟩ (.int .i64 v)) b ⟨k, v, p, q⟩ :=
  ⟨(World.cell?_setCell_other _ _ _ _ (by intro e; cases e)).trans h.1, World.cell?_setCell_same' _ _ _ (by rw [h.2.1]; rfl), (World.cell?_setCell_other _ _ _ _ (by intro e; cases e)).trans h.2.2.1, (World.cell?_setCell_other _ _ _ _ (by intro e; cases e)).trans h.2.2.2.1, by rw [World.size_setCell]; exact h.2.2.2.2.1, fun i => by rw [World.frozen?_setCell]; exact h.2.2.2.2.2 i⟩
/-- What begins tells, beside what first tells. -/
theorem docF_first (nm : List UInt8 → Int × Bool) {s : ByteArray} {a : Nat} (h : a < s.size) : ∃ n, a + n ≤ s.size ∧
    ((docF s a = (n, 1) ∧ 16 < n ∧ firstP nm (tailS s a) = .error 6) ∨ (docF s a = (n, 1) ∧ 0 < n ∧ n ≤ 16 ∧ firstP nm (tailS s a) = .ok (1, 0, n)) ∨
     (docF s a = (n, 2) ∧ 0 < n ∧ (nm (s.extract a (a + n)).data.toList).2 = false ∧ firstP nm (tailS s a) = .error 10) ∨ (docF s a = (n, 2) ∧ 0 < n ∧ (nm (s.extract a (a + n)).data.toList).2 = true ∧ firstP nm (tailS s a) = .ok (2, (nm (s.extract a (a + n)).data.toList).1, n)) ∨
     (docF s a = (n, 3) ∧ 0 < n ∧ firstP nm (tailS s a) = .ok (3, 0, n)) ∨ (docF s a = (n, 0) ∧ n = 0 ∧ firstP nm (tailS s a) = .error 13)) := by
  have hz : (tailS s a).size = s.size - a := tail_size
  have hb : bt (tailS s a) 0 = bt s a := by rw [tail_bt (by omega), Nat.add_zero]
  obtain ⟨w1, w2, w3⟩ := wordN_spec (tailS s a)
  obtain ⟨d1, d2, d3⟩ := digN_spec (tailS s a)
  cases hl : letB (bt s a) with
  | true =>
    have h0 : 0 < wordN (tailS s a) := by
      rcases Nat.eq_zero_or_pos (wordN (tailS s a)) with e | e
      · rw [e] at w3
        have := w3 (by omega)
        rw [hb, ok_first, hl] at this
        cases this
      · exact e
    have hD : docF s a = (wordN (tailS s a), 1) := by unfold docF; rw [if_pos hl]
    refine ⟨wordN (tailS s a), by omega, ?_⟩
    by_cases h16 : 16 < wordN (tailS s a)
    · exact .inl ⟨hD, h16, by unfold firstP; rw [if_pos h16]⟩
    · exact .inr (.inl ⟨hD, h0, by omega, by unfold firstP; rw [if_neg h16, if_pos h0]⟩)
  | false =>
    have hw := wordE_none h hl
    cases hd : digB (bt s a) with
    | true =>
      have h0 : 0 < digN (tailS s a) := by
        rcases Nat.eq_zero_or_pos (digN (tailS s a)) with e | e
        · rw [e] at d3
          have := d3 (by omega)
          rw [hb, hd] at this
          cases this
        · exact e
      have hD : docF s a = (digN (tailS s a), 2) := by unfold docF; rw [if_neg (by rw [hl]; decide), if_pos hd]
      refine ⟨digN (tailS s a), by omega, ?_⟩
      rw [← extract_tail_in (by omega)]
      cases hn : (nm ((tailS s a).extract 0 (digN (tailS s a))).data.toList).2 with
      | true => exact .inr (.inr (.inr (.inl ⟨hD, h0, rfl, by unfold firstP; rw [if_neg (by omega), if_neg (by omega), if_pos h0, if_pos hn]⟩)))
      | false => exact .inr (.inr (.inl ⟨hD, h0, rfl, by unfold firstP; rw [if_neg (by omega), if_neg (by omega), if_pos h0, if_neg (by rw [hn]; decide)]⟩))
    | false =>
      have hdn := digE_none h hd
      have hs : signN (tailS s a) ≤ s.size - a := by rw [← hz]; exact signN_le _
      refine ⟨signN (tailS s a), by omega, ?_⟩
      by_cases h0 : signN (tailS s a) = 0
      · exact .inr (.inr (.inr (.inr (.inr ⟨by unfold docF; rw [if_neg (by rw [hl]; decide), if_neg (by rw [hd]; decide), if_pos h0, h0], h0, by unfold firstP; rw [if_neg (by omega), if_neg (by omega), if_neg (by omega), if_neg (by omega)]⟩))))
      · exact .inr (.inr (.inr (.inr (.inl ⟨by unfold docF; rw [if_neg (by rw [hl]; decide), if_neg (by rw [hd]; decide), if_neg h0], by omega, by unfold firstP; rw [if_neg (by omega), if_neg (by omega), if_neg (by omega), if_pos (by omega)]⟩))))
def RefScanP (s : ByteArray) (w : World) (e : Ending) (w' : World) : Prop :=
  ∃ r v, Sc numD s 0 [] r ∧ e = .returned (.tuple #[v, .int .i64 (r.2.1 : Nat), .int .i64 (r.2.2 : Nat)]) ∧ OTr w.heap.size w' v r.1 ∧ Below w.heap.size w w'
theorem OTr.nil (base : Nat) (w : World) : OTr base w (.slice none 0 0) [] := World.ownsRow_nil _ _ _ _
theorem OTr.form {base : Nat} {w : World} {v : Value} {l : List Tok} (h : OTr base w v l) : ∃ A c, v = .slice A l.length c := by
  rcases h.2 with ⟨e, e2⟩ | ⟨g, cap, cur, e, _⟩
  · exact ⟨none, 0, by rw [e, e2]⟩
  · exact ⟨_, cap, e⟩
set_option maxRecDepth 100000 in
set_option maxHeartbeats 8000000 in
theorem refScan_any (s : ByteArray) (w : World) (hz : s.size ≤ 20000) : Calls Tryd.prog 11 #[.string s] w (RefScanP s w) := by
  have g : ¬ (20000 : Int) < (s.size : Int) := by omega
  go_enter Tryd.func11, Tryd.ntmps11
  go_wp2_with fail
  refine (skip_any s 0 _ (Nat.zero_le _) hz).mono ?_
  rintro e w' ⟨⟨k0, rfl, hg0, hk0, hn0⟩, rfl⟩
  have HG0 := Lib.hid hg0
  have HN0 := Lib.hid hn0
  clear hg0 hn0
  go_wp2
  go_loopw [5, 6] (fun ov iv wr => ∃ (k : Nat) (l : List Tok), k ≤ s.size ∧ iv = .int .i64 k ∧ Hid (OTr w.heap.size wr ov l) ∧ Hid (Below w.heap.size w wr) ∧ Hid (∀ r, Sc numD s k l r → Sc numD s 0 [] r) ∧ Hid (k < s.size → blankB (bt s k) = false ∧ bt s k ≠ 35) ∧ Hid (l.length ≤ 6000)) (fun _ iv _ => s.size - (intOf iv).toNat)
  case atStart => exact ⟨k0, [], hk0, rfl, Lib.hid (OTr.nil _ _), Lib.hid (Below.refl _ _), Lib.hid (fun r h => HG0.out.to h), HN0, Lib.hid (by simp)⟩
  case round =>
    obtain ⟨k, l, hk, rfl, HO, HB, HS, HNB, HL⟩ := hrel
    obtain ⟨Av, cv, hv⟩ := HO.out.form
    subst hv
    by_cases hlt : k < s.size
    · have hlt2 : (k : Int) < (s.size : Int) := by omega
      obtain ⟨len, HLN⟩ : ∃ len, Hid (l.length = len) := ⟨_, Lib.hid rfl⟩
      have hlen : len ≤ 6000 := by rw [← HLN.out]; exact HL.out
      obtain ⟨n, hkn, hcs⟩ := docF_first numD hlt
      have HCS := Lib.hid hcs
      have HBEG := Lib.hid (fun W => begins_all s k W hlt hz)
      obtain ⟨nb1, nb2⟩ := HNB.out hlt
      have HNB1 := Lib.hid nb1
      have HNB2 := Lib.hid nb2
      rw [HLN.out]
      clear hcs nb1 nb2
      by_cases hm : len = 6000
      · have HR : Hid (Sc numD s 0 [] ([], k, 11)) := Lib.hid (HS.out _ (.many hlt HNB1.out HNB2.out (by rw [HLN.out]; exact hm)))
        have gm : ((len : Int) == 6000) = true := by simp [hm]; try omega
        clear HCS
        go_wp2_with fail
        refine (HBEG.out _).mono ?_
        rintro e w3 ⟨rfl, hb3⟩
        have HB3 : Hid (Below w.heap.size w w3) := Lib.hid (HB.out.trans (hb3.mono HB.out.size))
        clear hb3
        generalize docF s k = q
        go_wp2
        go_ret3
        exact ⟨([], k, 11), _, HR.out, rfl, OTr.nil _ _, HB3.out⟩
      · have gm : ((len : Int) == 6000) = false := by simp; omega
        have HM : Hid (l.length ≠ 6000) := Lib.hid (by rw [HLN.out]; exact hm)
        have HTK : Hid (∀ kd nn, firstP numD (tailS s k) = .ok (kd, nn, n) → ∀ r, Sc numD s (k + n) (l ++ [⟨kd, nn, k, s.extract k (k + n)⟩]) r → Sc numD s 0 [] r) := Lib.hid (fun kd nn hf r h => HS.out r (.token hlt HNB1.out HNB2.out HM.out hf h))
        have HER : Hid (∀ why, firstP numD (tailS s k) = .error why → Sc numD s 0 [] ([], k, why)) := Lib.hid (fun why hf => HS.out _ (.wrong hlt HNB1.out HNB2.out HM.out hf))
        obtain ⟨E, HE⟩ : ∃ E, Hid (k + n = E) := ⟨_, Lib.hid rfl⟩
        have hkE : k ≤ E := by have := HE.out; omega
        have hEz : E ≤ s.size := by have := HE.out; omega
        have hwn : IntKind.i64.wrap ((k : Int) + (n : Int)) = (E : Int) := by rw [← HE.out]; exact (IntWalk.i64_in _ (by omega)).trans (by omega)
        have hsl : ∀ W, (Instr.slice 9 (.string s) (some (.int .i64 (k : Int))) (some (.int .i64 (E : Int))) none).run Tryd.prog W = .ok (.string (s.extract k E)) W := fun W => by
          rw [run_slice_string W 9 s .i64 .i64 k E Tryd.underlying9 (by omega) (by omega) (by omega)]
          rfl
        rw [HE.out] at HTK HCS
        have HQZ : Hid ((s.extract k E).size ≤ 20000) := Lib.hid (by rw [ByteArray.size_extract]; omega)
        rcases HCS.out with ⟨hd, h1, hf⟩ | ⟨hd, h1, h2, hf⟩ | ⟨hd, h1, h2, hf⟩ | ⟨hd, h1, h2, hf⟩ | ⟨hd, h1, hf⟩ | ⟨hd, h1, hf⟩
        · have HR := Lib.hid (HER.out 6 hf)
          have g1 : (16 : Int) < (n : Int) := by omega
          have g0 : ((n : Int) == 0) = false := by simp; omega
          have HD := Lib.hid hd
          clear hd hf HCS HNB
          go_wp2_with fail
          refine (HBEG.out _).mono ?_
          unfold BegP
          rw [HD.out]
          rintro e w3 ⟨rfl, hb3⟩
          have HB3 : Hid (Below w.heap.size w w3) := Lib.hid (HB.out.trans (hb3.mono HB.out.size))
          have HO3 := Lib.hid (HO.out.below hb3)
          have hz3 : w.heap.size ≤ w3.heap.size := HB3.out.size
          clear hb3
          go_wp2
          go_ret3
          exact ⟨([], k, 6), _, HR.out, rfl, OTr.nil _ _, by (repeat' (first | exact HB3.out | exact hz3 | refine Below.alloc ?_ ?_ _))⟩
        · have HT0 := Lib.hid (HTK.out 1 0 hf)
          have g0 : ((n : Int) == 0) = false := by simp; omega
          have g1 : ¬ (16 : Int) < (n : Int) := by omega
          have HD := Lib.hid hd
          clear hd hf HCS HNB
          go_wp2_with fail
          refine (HBEG.out _).mono ?_
          unfold BegP
          rw [HD.out]
          rintro e w3 ⟨rfl, hb3⟩
          have HB3 : Hid (Below w.heap.size w w3) := Lib.hid (HB.out.trans (hb3.mono HB.out.size))
          have HO3 := Lib.hid (HO.out.below hb3)
          have hz3 : w.heap.size ≤ w3.heap.size := HB3.out.size
          clear hb3
          obtain ⟨q, HQ⟩ : ∃ q, Hid (s.extract k E = q) := ⟨_, Lib.hid rfl⟩
          rw [HQ.out] at hsl HQZ
          have HT : Hid (∀ r, Sc numD s E (l ++ [⟨1, 0, k, q⟩]) r → Sc numD s 0 [] r) := Lib.hid (by rw [← HQ.out]; exact HT0.out)
          clear HTK HER HT0
          go_upto_region 19 with (fail)
          obtain ⟨tb, HTB⟩ : ∃ tb, Hid (tb = w3.heap.size) := ⟨_, Lib.hid rfl⟩
          have HTC : Hid (TC (w3.alloc (.cells #[.int .i64 (1 : Nat), .int .i64 0, .int .i64 (k : Nat), .string q] 34)) tb ⟨1, 0, k, q⟩) := Lib.hid (by rw [HTB.out]; exact TC.made _ _ _ _ _ _)
          have HAL : Hid (Below w3.heap.size w3 (w3.alloc (.cells #[.int .i64 (1 : Nat), .int .i64 0, .int .i64 (k : Nat), .string q] 34))) := Lib.hid ((Below.refl _ _).alloc (Nat.le_refl _) _)
          rw [← HTB.out]
          generalize w3.alloc (.cells #[.int .i64 1, .int .i64 0, .int .i64 (k : Nat), .string q] 34) = w6 at HTC HAL ⊢
          have HO6 := Lib.hid (HO3.out.below HAL.out)
          rw [HLN.out] at HO6
          have HB6 : Hid (Below w.heap.size w w6) := Lib.hid (HB3.out.trans (HAL.out.mono hz3))
          have hz6 : w.heap.size ≤ w6.heap.size := HB6.out.size
          obtain ⟨cc0, cc1, cc2, cc3, ccz, ccf⟩ := HTC.out
          have hll : l.length ≤ 100000 := by have := HL.out; omega
          have HSK : Hid (∀ W, Calls Tryd.prog 22 #[.string s, .int .i64 E] W fun e w' => (∃ b : Nat, e = .returned (.int .i64 b) ∧ Gap s E b ∧ b ≤ s.size ∧ (b < s.size → blankB (bt s b) = false ∧ bt s b ≠ 35)) ∧ W = w') := Lib.hid (fun W => skip_any s E W hEz hz)
          go_wp2_with (at_builtin; go_loud (refine list_append_own cellT_len cellT_one Tryd.underlying27 infoR rfl (by decide) (by decide) w.heap.size _ rfl (.tmp 63) (.tmp 65) rfl rfl _ l rfl (World.ownsRow.alloc HO6.out _) (⟨1, 0, k, q⟩ : Tok) _ rfl rfl hll (by first | omega | (simp; omega)) _ (World.alloc_heap_new _ _) ?_); intro v7 w7 ho7 hb7 _; have HO7 := Lib.hid ho7; have HB7 : Hid (Below w.heap.size w w7) := Lib.hid ((HB6.out.alloc HB6.out.size _).trans hb7); clear ho7 hb7)
          refine (HSK.out _).mono ?_
          rintro e w8 ⟨⟨b, rfl, hgp, hbz, hnb⟩, rfl⟩
          have HGP := Lib.hid hgp
          have HNBB := Lib.hid hnb
          have hEb : E ≤ b := hgp.le
          clear hgp hnb
          go_wp2
          go_roundw
          case rel => exact ⟨b, l ++ [⟨1, 0, k, q⟩], hbz, rfl, HO7, HB7, Lib.hid (fun r h => HT.out r (HGP.out.to h)), HNBB, Lib.hid (by rw [List.length_append, HLN.out]; simp; omega)⟩
          case measure => have := HE.out; simp [intOf]; omega
        · have HR := Lib.hid (HER.out 10 hf)
          have g0 : ((n : Int) == 0) = false := by simp; omega
          obtain ⟨vv, HV0⟩ : ∃ vv, Hid ((numD (s.extract k E).data.toList).1 = vv) := ⟨_, Lib.hid rfl⟩
          have HNV0 : Hid (numD (s.extract k E).data.toList = (vv, false)) := Lib.hid (Prod.ext HV0.out h2)
          clear h2
          have HD := Lib.hid hd
          clear hd hf HCS HV0 HNB
          go_wp2_with fail
          refine (HBEG.out _).mono ?_
          unfold BegP
          rw [HD.out]
          rintro e w3 ⟨rfl, hb3⟩
          have HB3 : Hid (Below w.heap.size w w3) := Lib.hid (HB.out.trans (hb3.mono HB.out.size))
          have HO3 := Lib.hid (HO.out.below hb3)
          have hz3 : w.heap.size ≤ w3.heap.size := HB3.out.size
          clear hb3
          obtain ⟨q, HQ⟩ : ∃ q, Hid (s.extract k E = q) := ⟨_, Lib.hid rfl⟩
          rw [HQ.out] at hsl HQZ HNV0
          have HNV : Hid (numD q.data.toList = (vv, false)) := HNV0
          clear HTK HER HNV0
          go_upto_region 15 with (fail)
          obtain ⟨tb, HTB⟩ : ∃ tb, Hid (tb = w3.heap.size) := ⟨_, Lib.hid rfl⟩
          have HTC3 : Hid (TC (w3.alloc (.cells #[.int .i64 (2 : Nat), .int .i64 0, .int .i64 (k : Nat), .string q] 34)) tb ⟨2, 0, k, q⟩) := Lib.hid (by rw [HTB.out]; exact TC.made _ _ _ _ _ _)
          have HAL : Hid (Below w3.heap.size w3 (w3.alloc (.cells #[.int .i64 (2 : Nat), .int .i64 0, .int .i64 (k : Nat), .string q] 34))) := Lib.hid ((Below.refl _ _).alloc (Nat.le_refl _) _)
          have HTL : Hid (w3.heap.size ≤ tb) := Lib.hid (by rw [HTB.out]; exact Nat.le_refl _)
          rw [← HTB.out]
          generalize w3.alloc (.cells #[.int .i64 2, .int .i64 0, .int .i64 (k : Nat), .string q] 34) = w4 at HTC3 HAL ⊢
          have c3 := HTC3.out.2.2.2.1
          go_wp2_with fail
          clear c3
          refine (refNumber_any q _ HQZ.out).mono ?_
          rw [HNV.out]
          rintro e w5 ⟨rfl, hb5⟩
          have HO5 := Lib.hid ((HO3.out.below HAL.out).below hb5)
          have HTC5 := Lib.hid (HTC3.out.below hb5)
          have HB4 : Hid (Below w.heap.size w w4) := Lib.hid (HB3.out.trans (HAL.out.mono hz3))
          have HB5 : Hid (Below w.heap.size w w5) := Lib.hid (HB4.out.trans (hb5.mono HB4.out.size))
          clear hb5
          go_wp2
          go_ret3
          exact ⟨([], k, 10), _, HR.out, rfl, OTr.nil _ _, HB5.out⟩
        · have HT0 := Lib.hid (HTK.out 2 _ hf)
          have g0 : ((n : Int) == 0) = false := by simp; omega
          obtain ⟨vv, HV0⟩ : ∃ vv, Hid ((numD (s.extract k E).data.toList).1 = vv) := ⟨_, Lib.hid rfl⟩
          have HNV0 : Hid (numD (s.extract k E).data.toList = (vv, true)) := Lib.hid (Prod.ext HV0.out h2)
          rw [HV0.out] at HT0
          clear h2
          have HD := Lib.hid hd
          clear hd hf HCS HV0 HNB
          go_wp2_with fail
          refine (HBEG.out _).mono ?_
          unfold BegP
          rw [HD.out]
          rintro e w3 ⟨rfl, hb3⟩
          have HB3 : Hid (Below w.heap.size w w3) := Lib.hid (HB.out.trans (hb3.mono HB.out.size))
          have HO3 := Lib.hid (HO.out.below hb3)
          have hz3 : w.heap.size ≤ w3.heap.size := HB3.out.size
          clear hb3
          obtain ⟨q, HQ⟩ : ∃ q, Hid (s.extract k E = q) := ⟨_, Lib.hid rfl⟩
          rw [HQ.out] at hsl HQZ HT0 HNV0
          have HNV : Hid (numD q.data.toList = (vv, true)) := HNV0
          have HT : Hid (∀ r, Sc numD s E (l ++ [⟨2, vv, k, q⟩]) r → Sc numD s 0 [] r) := HT0
          clear HTK HER HNV0
          go_upto_region 15 with (fail)
          obtain ⟨tb, HTB⟩ : ∃ tb, Hid (tb = w3.heap.size) := ⟨_, Lib.hid rfl⟩
          have HTC3 : Hid (TC (w3.alloc (.cells #[.int .i64 (2 : Nat), .int .i64 0, .int .i64 (k : Nat), .string q] 34)) tb ⟨2, 0, k, q⟩) := Lib.hid (by rw [HTB.out]; exact TC.made _ _ _ _ _ _)
          have HAL : Hid (Below w3.heap.size w3 (w3.alloc (.cells #[.int .i64 (2 : Nat), .int .i64 0, .int .i64 (k : Nat), .string q] 34))) := Lib.hid ((Below.refl _ _).alloc (Nat.le_refl _) _)
          have HTL : Hid (w3.heap.size ≤ tb) := Lib.hid (by rw [HTB.out]; exact Nat.le_refl _)
          rw [← HTB.out]
          generalize w3.alloc (.cells #[.int .i64 2, .int .i64 0, .int .i64 (k : Nat), .string q] 34) = w4 at HTC3 HAL ⊢
          have c3 := HTC3.out.2.2.2.1
          go_wp2_with fail
          clear c3
          refine (refNumber_any q _ HQZ.out).mono ?_
          rw [HNV.out]
          rintro e w5 ⟨rfl, hb5⟩
          have HO5 := Lib.hid ((HO3.out.below HAL.out).below hb5)
          have HTC5 := Lib.hid (HTC3.out.below hb5)
          have HB4 : Hid (Below w.heap.size w w4) := Lib.hid (HB3.out.trans (HAL.out.mono hz3))
          have HB5 : Hid (Below w.heap.size w w5) := Lib.hid (HB4.out.trans (hb5.mono HB4.out.size))
          clear hb5
          have cn := HTC5.out.2.1
          have fn := HTC5.out.2.2.2.2.2 1
          go_upto_region 19 with (fail)
          clear cn fn
          have HTC : Hid (TC (w5.setCell ⟨tb, 1, none⟩ (.int .i64 vv)) tb ⟨2, vv, k, q⟩) := Lib.hid (HTC5.out.num vv)
          have HO6 : Hid (OTr w.heap.size (w5.setCell ⟨tb, 1, none⟩ (.int .i64 vv)) _ l) := Lib.hid (ownsRow_setCell_other HO5.out (fun e => by
            have h9 := HO3.out
            have := (World.ownsRow.lt h9 tb e).2
            have := HTL.out
            omega) _)
          rw [HLN.out] at HO6
          have HB6 : Hid (Below w.heap.size w (w5.setCell ⟨tb, 1, none⟩ (.int .i64 vv))) := Lib.hid (HB5.out.setCell (by have := HTL.out; show w.heap.size ≤ tb; omega) _)
          generalize w5.setCell ⟨tb, 1, none⟩ (.int .i64 vv) = w6 at HTC HO6 HB6 ⊢
          have hz6 : w.heap.size ≤ w6.heap.size := HB6.out.size
          obtain ⟨cc0, cc1, cc2, cc3, ccz, ccf⟩ := HTC.out
          have hll : l.length ≤ 100000 := by have := HL.out; omega
          have HSK : Hid (∀ W, Calls Tryd.prog 22 #[.string s, .int .i64 E] W fun e w' => (∃ b : Nat, e = .returned (.int .i64 b) ∧ Gap s E b ∧ b ≤ s.size ∧ (b < s.size → blankB (bt s b) = false ∧ bt s b ≠ 35)) ∧ W = w') := Lib.hid (fun W => skip_any s E W hEz hz)
          go_wp2_with (at_builtin; go_loud (refine list_append_own cellT_len cellT_one Tryd.underlying27 infoR rfl (by decide) (by decide) w.heap.size _ rfl (.tmp 63) (.tmp 65) rfl rfl _ l rfl (World.ownsRow.alloc HO6.out _) (⟨2, vv, k, q⟩ : Tok) _ rfl rfl hll (by first | omega | (simp; omega)) _ (World.alloc_heap_new _ _) ?_); intro v7 w7 ho7 hb7 _; have HO7 := Lib.hid ho7; have HB7 : Hid (Below w.heap.size w w7) := Lib.hid ((HB6.out.alloc HB6.out.size _).trans hb7); clear ho7 hb7)
          refine (HSK.out _).mono ?_
          rintro e w8 ⟨⟨b, rfl, hgp, hbz, hnb⟩, rfl⟩
          have HGP := Lib.hid hgp
          have HNBB := Lib.hid hnb
          have hEb : E ≤ b := hgp.le
          clear hgp hnb
          go_wp2
          go_roundw
          case rel => exact ⟨b, l ++ [⟨2, vv, k, q⟩], hbz, rfl, HO7, HB7, Lib.hid (fun r h => HT.out r (HGP.out.to h)), HNBB, Lib.hid (by rw [List.length_append, HLN.out]; simp; omega)⟩
          case measure => have := HE.out; simp [intOf]; omega
        · have HT0 := Lib.hid (HTK.out 3 0 hf)
          have g0 : ((n : Int) == 0) = false := by simp; omega
          have HD := Lib.hid hd
          clear hd hf HCS HNB
          go_wp2_with fail
          refine (HBEG.out _).mono ?_
          unfold BegP
          rw [HD.out]
          rintro e w3 ⟨rfl, hb3⟩
          have HB3 : Hid (Below w.heap.size w w3) := Lib.hid (HB.out.trans (hb3.mono HB.out.size))
          have HO3 := Lib.hid (HO.out.below hb3)
          have hz3 : w.heap.size ≤ w3.heap.size := HB3.out.size
          clear hb3
          obtain ⟨q, HQ⟩ : ∃ q, Hid (s.extract k E = q) := ⟨_, Lib.hid rfl⟩
          rw [HQ.out] at hsl HQZ
          have HT : Hid (∀ r, Sc numD s E (l ++ [⟨3, 0, k, q⟩]) r → Sc numD s 0 [] r) := Lib.hid (by rw [← HQ.out]; exact HT0.out)
          clear HTK HER HT0
          go_upto_region 19 with (fail)
          obtain ⟨tb, HTB⟩ : ∃ tb, Hid (tb = w3.heap.size) := ⟨_, Lib.hid rfl⟩
          have HTC : Hid (TC (w3.alloc (.cells #[.int .i64 (3 : Nat), .int .i64 0, .int .i64 (k : Nat), .string q] 34)) tb ⟨3, 0, k, q⟩) := Lib.hid (by rw [HTB.out]; exact TC.made _ _ _ _ _ _)
          have HAL : Hid (Below w3.heap.size w3 (w3.alloc (.cells #[.int .i64 (3 : Nat), .int .i64 0, .int .i64 (k : Nat), .string q] 34))) := Lib.hid ((Below.refl _ _).alloc (Nat.le_refl _) _)
          rw [← HTB.out]
          generalize w3.alloc (.cells #[.int .i64 3, .int .i64 0, .int .i64 (k : Nat), .string q] 34) = w6 at HTC HAL ⊢
          have HO6 := Lib.hid (HO3.out.below HAL.out)
          rw [HLN.out] at HO6
          have HB6 : Hid (Below w.heap.size w w6) := Lib.hid (HB3.out.trans (HAL.out.mono hz3))
          have hz6 : w.heap.size ≤ w6.heap.size := HB6.out.size
          obtain ⟨cc0, cc1, cc2, cc3, ccz, ccf⟩ := HTC.out
          have hll : l.length ≤ 100000 := by have := HL.out; omega
          have HSK : Hid (∀ W, Calls Tryd.prog 22 #[.string s, .int .i64 E] W fun e w' => (∃ b : Nat, e = .returned (.int .i64 b) ∧ Gap s E b ∧ b ≤ s.size ∧ (b < s.size → blankB (bt s b) = false ∧ bt s b ≠ 35)) ∧ W = w') := Lib.hid (fun W => skip_any s E W hEz hz)
          go_wp2_with (at_builtin; go_loud (refine list_append_own cellT_len cellT_one Tryd.underlying27 infoR rfl (by decide) (by decide) w.heap.size _ rfl (.tmp 63) (.tmp 65) rfl rfl _ l rfl (World.ownsRow.alloc HO6.out _) (⟨3, 0, k, q⟩ : Tok) _ rfl rfl hll (by first | omega | (simp; omega)) _ (World.alloc_heap_new _ _) ?_); intro v7 w7 ho7 hb7 _; have HO7 := Lib.hid ho7; have HB7 : Hid (Below w.heap.size w w7) := Lib.hid ((HB6.out.alloc HB6.out.size _).trans hb7); clear ho7 hb7)
          refine (HSK.out _).mono ?_
          rintro e w8 ⟨⟨b, rfl, hgp, hbz, hnb⟩, rfl⟩
          have HGP := Lib.hid hgp
          have HNBB := Lib.hid hnb
          have hEb : E ≤ b := hgp.le
          clear hgp hnb
          go_wp2
          go_roundw
          case rel => exact ⟨b, l ++ [⟨3, 0, k, q⟩], hbz, rfl, HO7, HB7, Lib.hid (fun r h => HT.out r (HGP.out.to h)), HNBB, Lib.hid (by rw [List.length_append, HLN.out]; simp; omega)⟩
          case measure => have := HE.out; simp [intOf]; omega
        · have HR := Lib.hid (HER.out 13 hf)
          subst h1
          have HD := Lib.hid hd
          clear hd hf HCS HNB
          go_wp2_with fail
          refine (HBEG.out _).mono ?_
          unfold BegP
          rw [HD.out]
          rintro e w3 ⟨rfl, hb3⟩
          have HB3 : Hid (Below w.heap.size w w3) := Lib.hid (HB.out.trans (hb3.mono HB.out.size))
          have HO3 := Lib.hid (HO.out.below hb3)
          have hz3 : w.heap.size ≤ w3.heap.size := HB3.out.size
          clear hb3
          go_wp2
          go_ret3
          exact ⟨([], k, 13), _, HR.out, rfl, OTr.nil _ _, HB3.out⟩
    · obtain rfl : k = s.size := by omega
      have HR : Hid (Sc numD s 0 [] (l, 0, 0)) := Lib.hid (HS.out _ (.done (Nat.le_refl _)))
      go_wp2
      go_ret3
      exact ⟨(l, 0, 0), _, HR.out, rfl, HO.out, HB.out⟩
end Go.Proofs.YtcielemahmpppaaDoor.lx
