/- The document's Takes and Spans; the document's comparison of numbers. -/
import Derived.Test.YtjciamefkacchaaExprSpans
import Derived.Deep.QuietTactic
namespace Go.Proofs.Ytjciamefkacchaa
open Go.ChangeShapes Go.WideShapes Go.ChangeAt Go.RowKit

set_option maxHeartbeats 4000000 in
theorem refTakes_any (op : Int) (w : World) : Calls Try.prog 43 #[.int .i64 op] w fun e w' => e = .returned (.int .i64 (takesZ op)) ∧ w = w' := by
  by_cases h : op < 1 ∨ 19 < op
  · have hc : op ≠ 1 ∧ op ≠ 2 ∧ op ≠ 3 ∧ op ≠ 4 ∧ op ≠ 5 ∧ op ≠ 6 ∧ op ≠ 7 ∧ op ≠ 8 ∧ op ≠ 9 ∧ op ≠ 10 ∧ op ≠ 11 ∧ op ≠ 12 ∧ op ≠ 13 ∧ op ≠ 14 ∧ op ≠ 15 ∧ op ≠ 16 ∧ op ≠ 17 ∧ op ≠ 18 ∧ op ≠ 19 := by omega
    obtain ⟨h1, h2, h3, h4, h5, h6, h7, h8, h9, h10, h11, h12, h13, h14, h15, h16, h17, h18, h19⟩ := hc
    have HT : Hid (takesZ op = -1) := Lib.hid (by unfold takesZ; rw [if_neg (by omega), if_neg (by omega), if_neg (by omega)])
    rw [HT.out]
    clear h
    go_enter Try.func43, Try.ntmps43
    go_wp2
    go_ret
    exact ⟨rfl, rfl⟩
  · have hc : op = 1 ∨ op = 2 ∨ op = 3 ∨ op = 4 ∨ op = 5 ∨ op = 6 ∨ op = 7 ∨ op = 8 ∨ op = 9 ∨ op = 10 ∨ op = 11 ∨ op = 12 ∨ op = 13 ∨ op = 14 ∨ op = 15 ∨ op = 16 ∨ op = 17 ∨ op = 18 ∨ op = 19 := by omega
    clear h
    rcases hc with rfl | rfl | rfl | rfl | rfl | rfl | rfl | rfl | rfl | rfl | rfl | rfl | rfl | rfl | rfl | rfl | rfl | rfl | rfl
    all_goals
      go_enter Try.func43, Try.ntmps43
      go_wp2
      go_ret
      exact ⟨rfl, rfl⟩

theorem spans_fail {e : List (Int × Int)} {k : Nat} {S : Sp} (hk : k < e.length) (h : spAt e k = some S) (hc : takesZ (e.getD k (0, 0)).1 < 0 ∨ (S.st.length : Int) < takesZ (e.getD k (0, 0)).1) : spansF e = none := by
  unfold spansF
  rw [spAt_none (spAt_stop h hc) _ hk]

set_option maxRecDepth 20000 in
set_option maxHeartbeats 4000000 in
theorem refSpans_any (e : List (Int × Int)) (A : Option Addr) (c m : Nat) (w : World) (hm : m = e.length) (hm2 : m ≤ 1000) (hA : PA w A e) :
    Calls Try.prog 21 #[.slice A m c] w (SpansP w (spansF e)) := by
  have HM := Lib.hid hm
  have HA := Lib.hid hA
  clear hm hA
  go_enter Try.func21, Try.ntmps21
  go_wp2
  go_loopw [4, 5] (fun v i wr => ∃ (k : Nat) (B : Option Addr) (d : Nat) (S : Sp), k ≤ m ∧ i = .int .i64 k ∧ v = .slice B k d ∧ Hid (OI w.heap.size wr (.slice B k d) S.out) ∧ Hid (spAt e k = some S) ∧ Hid (Below w.heap.size w wr)) (fun _ i _ => m - (intOf i).toNat)
  case atStart => exact ⟨0, none, 0, ⟨[], []⟩, Nat.zero_le _, rfl, rfl, Lib.hid (OI.nil _ _), Lib.hid rfl, Lib.hid (Below.refl _ _)⟩
  case round =>
    obtain ⟨k, B, d, S, hk, rfl, rfl, HO, HS, HB⟩ := hrel
    have HOK := Lib.hid (spAt_ok HS.out)
    by_cases hlt : k < m
    · have HK : Hid (k < e.length) := Lib.hid (by rw [← HM.out]; exact hlt)
      obtain ⟨b, o, rfl, hb, hc⟩ := (HA.out.below HB.out) (by rw [← HM.out]; omega)
      obtain ⟨c1, _⟩ := hc k HK.out
      obtain ⟨op, HOP⟩ : ∃ op, Hid ((e.getD k (0, 0)).1 = op) := ⟨_, Lib.hid rfl⟩
      rw [HOP.out] at c1
      clear hc
      go_wp2_with fail
      refine (refTakes_any op wr).mono ?_
      rintro x w' ⟨rfl, rfl⟩
      clear c1
      have hr := takesZ_range op
      by_cases hneg : takesZ op < 0
      · have HE : Hid (spansF e = none) := Lib.hid (spans_fail HK.out HS.out (.inl (by rw [HOP.out]; exact hneg)))
        obtain ⟨z, hz⟩ : ∃ z, takesZ op = z := ⟨_, rfl⟩
        rw [hz] at hneg ⊢
        clear hz hr
        go_wp2
        go_ret2
        refine ⟨HB.out, ?_⟩
        rw [HE.out]
        rfl
      · obtain ⟨t, HT⟩ : ∃ t : Nat, Hid (takesZ op = t) := ⟨(takesZ op).toNat, Lib.hid (by omega)⟩
        have ht2 : t ≤ 2 := by have := HT.out; omega
        rw [HT.out]
        clear hneg hr
        go_wp2
        go_loop [7, 8] (fun f j => ∃ (s q : Nat), q ≤ t ∧ s ≤ k ∧ j = .int .i64 q ∧ f = .int .i64 s ∧ Hid (q ≤ S.st.length ∧ Ch S.out s (S.st.take (S.st.length - q)) ∧ (0 < q → S.st.getD (S.st.length - q) 0 = (s : Int)) ∧ (q = 0 → s = k))) (fun _ j => t - (intOf j).toNat)
        case atStart => exact ⟨k, 0, Nat.zero_le _, Nat.le_refl _, rfl, rfl, Lib.hid ⟨Nat.zero_le _, by rw [Nat.sub_zero, List.take_length]; exact HOK.out.2.1, fun h => absurd h (by omega), fun _ => rfl⟩⟩
        case round =>
          obtain ⟨s, q, hq, hs, rfl, rfl, HQ⟩ := hrel
          by_cases hqt : q < t
          · by_cases hql : q < S.st.length
            · obtain ⟨hs0, q2, h1, h2, hg, h3⟩ := HOK.out.2.1.step hql HQ.out.2.1
              have HN : Hid (q + 1 ≤ S.st.length ∧ Ch S.out q2 (S.st.take (S.st.length - (q + 1))) ∧ (0 < q + 1 → S.st.getD (S.st.length - (q + 1)) 0 = (q2 : Int)) ∧ (q + 1 = 0 → q2 = k)) := Lib.hid ⟨hql, h3, fun _ => hg, fun h => absurd h (by omega)⟩
              have hok1 : S.out.length = k := HOK.out.1
              obtain ⟨B', d', hf, hi⟩ := HO.out.form
              injection hf with hf hfa hfb
              subst hf
              clear hfa hfb
              obtain ⟨b2, o2, rfl, hb2, hc2⟩ := hi (by omega)
              have c2 := hc2 (s - 1) (by omega)
              rw [h2] at c2
              obtain ⟨s', rfl⟩ : ∃ s', s = s' + 1 := ⟨s - 1, by omega⟩
              rw [Nat.add_sub_cancel] at c2
              clear h2 hg h3 hi hc2 hok1
              go_wp2
              go_round
              case rel => exact ⟨q2, q + 1, by omega, by omega, by go_num, rfl, HN⟩
              case measure => simp [intOf]; omega
            · have hs0 : s = 0 := by
                have h := HQ.out.2.1
                have e : q = S.st.length := by have := HQ.out.1; omega
                rw [e] at h
                exact h.stop
              subst hs0
              have HE : Hid (spansF e = none) := Lib.hid (spans_fail HK.out HS.out (.inr (by rw [HOP.out, HT.out]; omega)))
              go_wp2
              go_ret2
              refine ⟨HB.out, ?_⟩
              rw [HE.out]
              rfl
          · obtain rfl : q = t := by omega
            have HTK : Hid (takesZ (e.getD k (0, 0)).1 = (q : Int)) := Lib.hid (by rw [HOP.out, HT.out])
            have HV : Hid ((spF k (e.getD k (0, 0)) (S.st.drop (S.st.length - q))).1 = (s : Int)) := Lib.hid (by
              unfold spF
              by_cases h0 : q = 0
              · subst h0
                rw [if_neg (by simp), HQ.out.2.2.2 rfl]
              · rw [if_pos (by have := HQ.out.1; simp; omega), ← HQ.out.2.2.1 (by omega)]
                simp [List.getD])
            have HNX := Lib.hid (spAt_next HS.out HTK.out HQ.out.1)
            rw [HV.out] at HNX
            have hwz : w.heap.size ≤ wr.heap.size := HB.out.size
            have HL : Hid (S.out.length = k) := Lib.hid HOK.out.1
            have HLX : Hid ((S.out ++ [(s : Int)]).length = k + 1) := Lib.hid (by simp [HL.out])
            clear hqt
            go_wp2_with (at_builtin; refine append_one rfl (.tmp 36) (.tmp 38) rfl w.heap.size _ S.out rfl HO.out (s : Int) rfl (by have := HL.out; omega) hwz ?_; intro v4 w4 ho4 hb4; obtain ⟨A4, c4, rfl, _⟩ := ho4.form; rw [HLX.out] at ho4 ⊢; have HO4 := Lib.hid ho4; have HB4 := Lib.hid hb4; clear ho4 hb4)
            go_roundw
            case rel => exact ⟨k + 1, A4, c4, _, by omega, by go_num, rfl, HO4, HNX, Lib.hid (HB.out.trans (HB4.out.mono (Nat.le_refl _)))⟩
            case measure => simp [intOf]; omega
    · obtain rfl : k = m := by omega
      have HSP : Hid (spansF e = if S.st.length = 1 then some S.out else none) := Lib.hid (by
        have h := HS.out
        unfold spansF
        rw [← HM.out, h])
      clear hlt
      by_cases h0 : k = 0
      · subst h0
        have HE : Hid (spansF e = none) := Lib.hid (by rw [HSP.out, if_neg (by have := HOK.out.2.2; omega)])
        go_wp2
        go_ret2
        refine ⟨HB.out, ?_⟩
        rw [HE.out]
        rfl
      · have hok1 : S.out.length = k := HOK.out.1
        obtain ⟨B', d', hf, hi⟩ := HO.out.form
        injection hf with hf hfa hfb
        subst hf
        clear hfa hfb
        obtain ⟨b2, o2, rfl, hb2, hc2⟩ := hi (by omega)
        have c2 := hc2 (k - 1) (by omega)
        obtain ⟨s, st', e1, e2, e3, e4⟩ := HOK.out.2.1.pos (by omega)
        rw [e3] at c2
        obtain ⟨k', rfl⟩ : ∃ k', k = k' + 1 := ⟨k - 1, by omega⟩
        rw [Nat.add_sub_cancel] at c2
        by_cases hs : s = 0
        · subst hs
          have HE : Hid (spansF e = some S.out) := Lib.hid (by rw [HSP.out, if_pos]; rw [e1, e4.zero]; rfl)
          have HL : Hid (S.out.length = k' + 1) := Lib.hid hok1
          clear e1 e3 e4 hi hc2 hok1 h0
          go_wp2
          go_ret2
          refine ⟨HB.out, ?_⟩
          rw [HE.out]
          obtain ⟨A5, c5, f5, i5, _⟩ := HO.out.ins
          rw [HL.out] at f5
          injection f5 with f5 _ f6
          subst f5 f6
          exact ⟨_, _, by rw [HL.out]; rfl, i5⟩
        · have hs2 : ((s : Int) != 0) = true := by simpa using hs
          have HE : Hid (spansF e = none) := Lib.hid (by
            rw [HSP.out, if_neg]
            intro h1
            rw [e1] at h1
            have hz : st' = [] := List.eq_nil_of_length_eq_zero (by simpa using h1)
            rw [hz] at e4
            rcases Nat.eq_zero_or_pos s with g | g
            · exact hs g
            · obtain ⟨_, _, e, _⟩ := e4.pos g
              simp at e)
          clear e1 e3 e4 hi hc2 hok1 h0
          go_wp2
          go_ret2
          refine ⟨HB.out, ?_⟩
          rw [HE.out]
          rfl

set_option maxHeartbeats 1000000 in
theorem same_ints (A B : Option Addr) (c d m1 m2 : Nat) (xs ys : List Int) (w : World) (hm1 : m1 = xs.length) (hm2 : m2 = ys.length) (hA : IA w A xs) (hB : IA w B ys) (hxl : xs.length ≤ maxLen) (hyl : ys.length ≤ maxLen) :
    Calls Try.prog 22 #[.slice A m1 c, .slice B m2 d] w fun e w' => e = .returned (.bool (eqB xs ys)) ∧ ∃ n, w' = w.drewN n := by
  subst hm1 hm2
  unfold maxLen at hxl hyl
  by_cases hl : xs.length = ys.length
  · have H := Lib.hid hl
    clear hl
    go_enter Try.func22, Try.ntmps22
    have hl0 : (xs.length : Int) = (ys.length : Int) := by rw [H.out]
    go_wp2
    clear hl0
    go_loopw [5] (fun i wr => ∃ (k j : Nat), k ≤ ys.length ∧ i = .int .i64 k ∧ wr = w.drewN j ∧ Hid (∀ i, i < k → xs.getD i 0 = ys.getD i 0)) (fun i _ => ys.length - (intOf i).toNat)
    case atStart => exact ⟨0, 0, Nat.zero_le _, rfl, rfl, Lib.hid (fun i hi => absurd hi (by omega))⟩
    case round =>
      obtain ⟨k, j, hk, rfl, rfl, HV⟩ := hrel
      by_cases hlty : k < ys.length
      · have hlt : k < xs.length := by rw [H.out]; exact hlty
        obtain ⟨bA, oA, rfl, hbA, hcA⟩ := hA (by omega)
        obtain ⟨bB, oB, rfl, hbB, hcB⟩ := hB (by omega)
        have c1 := hcA k hlt
        have c2 := hcB k hlty
        by_cases t1 : xs.getD k 0 = ys.getD k 0
        · have HS : Hid (∀ i, i < k + 1 → xs.getD i 0 = ys.getD i 0) := Lib.hid (fun i hi => by
            by_cases hik : i = k
            · subst hik; exact t1
            · exact HV.out i (by omega))
          rw [← t1] at c2
          generalize xs.getD k 0 = x at c1 c2
          clear hcA hcB hA hB t1 HV
          go_wp2
          go_quiet (fail)
          go_wp2
          go_roundw
          case rel => exact ⟨k + 1, _, by omega, by go_num, rfl, HS⟩
          case measure => simp [intOf]; omega
        · have HE : Hid (eqB xs ys = false) := Lib.hid (decide_eq_false (fun h => t1 (by rw [h])))
          generalize xs.getD k 0 = x at c1 t1
          generalize ys.getD k 0 = y at c2 t1
          have t2 : (x != y) = true := by simpa using t1
          clear hcA hcB hA hB t1 HV
          go_wp2
          go_quiet (fail)
          go_wp2
          go_ret
          exact ⟨ret_bool HE.out.symm, _, World.drewN_drewN _ _ _⟩
      · have hk2 : k = xs.length := by rw [H.out]; omega
        subst hk2
        have HE : Hid (eqB xs ys = true) := Lib.hid (decide_eq_true (getD_ext' H.out HV.out))
        have hge : ys.length ≤ xs.length := by omega
        clear hlty hk
        go_wp2
        go_ret
        exact ⟨ret_bool HE.out.symm, _, rfl⟩
  · have e : eqB xs ys = false := decide_eq_false (fun h => hl (by rw [h]))
    rw [e]
    go_enter Try.func22, Try.ntmps22
    go_wp2
    go_ret
    exact ⟨rfl, 0, rfl⟩

end Go.Proofs.Ytjciamefkacchaa
