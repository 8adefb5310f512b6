/- The document's Takes, Begins and Parts. -/
import Derived.Test.YtmdfiamffipbcaaDoorNnfPure
import Derived.Test.YtmdfiamffipbcaaDoorLtlIa
import Derived.Test.YtmdfiamffipbcaaDoorLtlNd
import Derived.Deep.Cut
namespace Go.Proofs.YtmdfiamffipbcaaDoor.nf
open Go.ChangeShapes Go.WideShapes Go.ChangeAt Go.RowKit Go.Deep sr lt

/-- How many parts a node takes, in the document's words. -/
def tkF (x : Int × Int) : Int := if x.1 = 3 ∧ (x.2 < 0 ∨ 8 ≤ x.2) then -1 else kT x.1
theorem tk_iff {n : Nat} {x : Int × Int} : ndW n x = 0 ↔ 0 ≤ tkF x ∧ tkF x ≤ n := by
  unfold tkF ndW
  by_cases h1 : x.1 = 3 ∧ (x.2 < 0 ∨ 8 ≤ x.2)
  · have hk : kT x.1 = 0 := by rw [h1.1]; decide
    rw [if_pos h1, if_neg (by omega), if_neg (by omega), if_pos h1]
    omega
  · rw [if_neg h1]
    by_cases h2 : kT x.1 < 0
    · rw [if_pos h2]; omega
    · rw [if_neg h2]
      by_cases h3 : (n : Int) < kT x.1
      · rw [if_pos h3]; omega
      · rw [if_neg h3, if_neg h1]; omega
theorem tk_range (x : Int × Int) : tkF x = -1 ∨ tkF x = 0 ∨ tkF x = 1 ∨ tkF x = 2 := by
  have := kT_range x.1
  unfold tkF
  split
  · exact .inl rfl
  · exact this
theorem tk_kT {x : Int × Int} (h : 0 ≤ tkF x) : kT x.1 = tkF x := by
  unfold tkF at h ⊢
  split at h
  · omega
  · rename_i h1; rw [if_neg h1]
set_option maxRecDepth 20000 in
set_option maxHeartbeats 4000000 in
theorem takes_any (op q : Int) (w : World) : Calls Tryd.prog 25 #[.agg #[.int .i64 op, .int .i64 q]] w fun e w' => e = .returned (.int .i64 (tkF (op, q))) ∧ Below w.heap.size w w' := by
  obtain ⟨r, HR⟩ : ∃ r, Hid (tkF (op, q) = r) := ⟨_, Lib.hid rfl⟩
  rw [HR.out]
  have HK : Hid (∀ k, kT op = k → op ≠ 3 → r = k) := Lib.hid (fun k h1 h2 => by rw [← HR.out]; unfold tkF; rw [if_neg (fun h => h2 h.1)]; exact h1)
  have HB := Lib.hid (below_one w (.cells #[.int .i64 op, .int .i64 q] 38))
  rcases kT_cases op with ⟨h1, h2⟩ | ⟨h1, h2⟩ | ⟨h1, h2⟩ | ⟨h1, h2⟩
  · rcases h2 with rfl | rfl | rfl
    · have hr := HK.out 0 h1 (by decide)
      clear h1
      subst hr
      go_enter Tryd.func25, Tryd.ntmps25
      go_wp2
      go_ret
      exact ⟨rfl, HB.out⟩
    · have hr := HK.out 0 h1 (by decide)
      clear h1
      subst hr
      go_enter Tryd.func25, Tryd.ntmps25
      go_wp2
      go_ret
      exact ⟨rfl, HB.out⟩
    · clear h1
      by_cases q0 : 0 ≤ q
      · by_cases q8 : q < 8
        · have hr : r = 0 := by rw [← HR.out]; unfold tkF; rw [if_neg (by omega)]; exact (by decide : kT 3 = 0)
          subst hr
          go_enter Tryd.func25, Tryd.ntmps25
          go_wp2
          go_ret
          exact ⟨rfl, HB.out⟩
        · have hr : r = -1 := by rw [← HR.out]; unfold tkF; rw [if_pos (by omega)]
          subst hr
          go_enter Tryd.func25, Tryd.ntmps25
          go_wp2
          go_ret
          exact ⟨rfl, HB.out⟩
      · have hr : r = -1 := by rw [← HR.out]; unfold tkF; rw [if_pos (by omega)]
        subst hr
        have q0b : ¬ q ≥ 0 := by omega
        go_enter Tryd.func25, Tryd.ntmps25
        go_wp2
        go_ret
        exact ⟨rfl, HB.out⟩
  · have hr := HK.out 1 h1 (by rintro rfl; revert h1; decide)
    subst hr
    clear h1
    rcases h2 with rfl | rfl | rfl | rfl
    all_goals
      go_enter Tryd.func25, Tryd.ntmps25
      go_wp2
      go_ret
      exact ⟨rfl, HB.out⟩
  · have hr := HK.out 2 h1 (by rintro rfl; revert h1; decide)
    subst hr
    clear h1
    rcases h2 with rfl | rfl | rfl | rfl | rfl
    all_goals
      go_enter Tryd.func25, Tryd.ntmps25
      go_wp2
      go_ret
      exact ⟨rfl, HB.out⟩
  · have hr := HK.out (-1) h1 (by omega)
    subst hr
    obtain ⟨h1, h2, h3, h4, h5, h6, h7, h8, h9, h10, h11, h12⟩ : op ≠ 1 ∧ op ≠ 2 ∧ op ≠ 3 ∧ op ≠ 4 ∧ op ≠ 5 ∧ op ≠ 6 ∧ op ≠ 7 ∧ op ≠ 8 ∧ op ≠ 9 ∧ op ≠ 10 ∧ op ≠ 11 ∧ op ≠ 12 := by omega
    go_enter Tryd.func25, Tryd.ntmps25
    go_wp2
    go_ret
    exact ⟨rfl, HB.out⟩
/-- How far k parts behind a place lead back. -/
theorem bgn_at {e : List (Int × Int)} {i : Nat} {st : List Int} (h : Ok e i st) {k : Nat} (hk : k ≤ st.length) (hk2 : k ≤ 2) : ∃ s : Nat, bgn (outF e i) i k = (s : Int) ∧ s ≤ i ∧ (s = 0 ↔ st.length = k) := by
  obtain ⟨s, s1, s2, s3, _⟩ := h.1.takes hk hk2
  refine ⟨s, s2, s1, ⟨fun h0 => ?_, fun h0 => ?_⟩⟩
  · subst h0
    have := s3.zero
    have h2 : (st.take (st.length - k)).length = 0 := by rw [this]; rfl
    rw [List.length_take] at h2
    omega
  · have : st.take (st.length - k) = [] := by rw [h0, Nat.sub_self, List.take_zero]
    rw [this] at s3
    exact s3.none
theorem bgn_next {out : List Int} {i k s : Nat} (hk : k < 2) (h : bgn out i k = (s : Int)) : bgn out i (k + 1) = out.getD (s - 1) 0 := by
  have h2 : k = 0 ∨ k = 1 := by omega
  rcases h2 with rfl | rfl
  · have h1 : bgn out i 0 = (i : Int) := rfl
    rw [h1] at h
    obtain rfl : s = i := by omega
    rfl
  · have h1 : bgn out i 1 = out.getD (i - 1) 0 := rfl
    rw [h1] at h
    show out.getD ((out.getD (i - 1) 0).toNat - 1) 0 = _
    rw [h]
    rfl
/-- append of one int onto a row of the call's own, as long as memory bears. -/
theorem append_big {w : World} {ops : Array Oper} {rest : List Oper} {o : Oper} {a : Act} {Q : Exit → Act → World → Prop} (hgd : o.guard = none) (s x : Operand)
    (ho : o.op = .call { callee := .builtin .append, args := #[s, x], argTypes := #[27, 27] })
    (base : Nat) (v : Value) (l : List Int) (hs : a.eval s = v) (hown : OI base w v l) (z : Int)
    (hx : a.eval x = .slice (some ⟨w.heap.size, 0, none⟩) 1 1)
    (hlen : 8 * (l.length + 1) ≤ 140737488355328) (hbase : base ≤ w.heap.size)
    (h : ∀ v' w', OI base w' v' (l ++ [z]) → Below base w w' → wpList Tryd.prog ops Q rest (a.put o.dst v') w') :
    wpList Tryd.prog ops Q (o :: rest) a (w.alloc (.cells #[.int .i64 z] 3)) := by
  obtain ⟨i0, hi, hz0, hz1, hz2⟩ := info_parts Tryd.info3
  refine wpList_append_own_at _ hgd s x 27 ho base 3 i0 (.int .i64 0) 1 8 Tryd.underlying27 hi hz0 hz1 hz2 rfl (by decide) v l.length _ hs (hown.alloc _) ⟨w.heap.size, 0, none⟩ 1 1 [.int .i64 z] hx rfl (cell_one_new _ _ _) (by simp [Value.oneCell']) (by unfold maxLen; omega) (by omega) (by simp; omega) ?_
  intro v' w' hown' hgrow _ hb
  exact h v' w' (oi_snoc hown') (Below.grown ((Below.refl _ _).alloc hbase _) hgrow (by simp; omega) (fun k hk => (hown.lt k hk).1))
/-- What Begins leaves. -/
def BegP (w : World) (e : List (Int × Int)) (r : Ending) (w' : World) : Prop := ∃ v, r = .returned (.tuple #[v, .bool (isF e)]) ∧ (isF e = true → OI w.heap.size w' v (outF e e.length)) ∧ (isF e = false → v = .slice none 0 0) ∧ Below w.heap.size w w'
theorem isF_no {e : List (Int × Int)} {i : Nat} {st : List Int} (h : Ok e i st) (hi : i < e.length) (hn : ndW st.length (e.getD i (0, 0)) ≠ 0) : isF e = false := by
  rcases hf : isF e with _ | _
  · rfl
  · obtain ⟨st2, h1, h2⟩ := Ok.of_is (isF_iff.1 hf) i (Nat.le_of_lt hi)
    rw [h1.uniq h] at h2
    exact absurd (h2 hi) hn
set_option maxRecDepth 20000 in
set_option maxHeartbeats 8000000 in
theorem begins_any (e : List (Int × Int)) (A : Option Addr) (c m : Nat) (w : World) (hm : m = e.length) (hm2 : 16 * m ≤ 140737488355328) (hA : PA w A e) :
    Calls Tryd.prog 17 #[.slice A m c] w (BegP w e) := by
  have HM := Lib.hid hm
  have HA := Lib.hid hA
  clear hm hA
  go_enter Tryd.func17, Tryd.ntmps17
  go_wp2
  go_loopw [4, 5] (fun ov iv wr => ∃ (i : Nat) (v : Value), i ≤ m ∧ iv = .int .i64 i ∧ v = ov ∧ Hid (∃ st, Ok e i st) ∧ Hid (OI w.heap.size wr v (outF e i)) ∧ Hid (Below w.heap.size w wr)) (fun _ iv _ => m - (intOf iv).toNat)
  case atStart => exact ⟨0, _, Nat.zero_le _, rfl, rfl, Lib.hid ⟨[], Ok.zero _⟩, Lib.hid (OI.nil _ _), Lib.hid (Below.refl _ _)⟩
  case round =>
    obtain ⟨i, v, hi, rfl, rfl, HOK, HO, HB⟩ := hrel
    obtain ⟨st, hok⟩ := HOK.out
    have HOKS := Lib.hid hok
    clear hok
    by_cases hlt : i < m
    · have HIL : Hid (i < e.length) := Lib.hid (by rw [← HM.out]; exact hlt)
      obtain ⟨b, o, rfl, hb, hc⟩ := (HA.out.below HB.out) (by rw [← HM.out]; omega)
      obtain ⟨c1, c2⟩ := hc i HIL.out
      obtain ⟨x, y, HXY⟩ : ∃ x y, Hid (e.getD i (0, 0) = (x, y)) := ⟨_, _, Lib.hid rfl⟩
      rw [HXY.out] at c1 c2
      dsimp only at c1 c2
      have HTK := Lib.hid (takes_any x y wr)
      obtain ⟨t, HT⟩ : ∃ t, Hid (tkF (x, y) = t) := ⟨_, Lib.hid rfl⟩
      rw [HT.out] at HTK
      have htr := tk_range (x, y)
      rw [HT.out] at htr
      clear hc
      go_wp2_with fail
      refine HTK.out.mono ?_
      rintro r w2 ⟨rfl, hb2⟩
      have HB2 : Hid (Below w.heap.size w w2) := Lib.hid (HB.out.trans (hb2.mono HB.out.size))
      have HO2 : Hid (OI w.heap.size w2 v (outF e i)) := Lib.hid (World.ownsRow.kept (row := none) HO.out ⟨hb2.os, hb2.tape, hb2.output, hb2.size, fun k hk _ => hb2.block k hk⟩ (by rcases hv : v.ownBlock with _ | g; exact .inl rfl; exact .inr (fun e => by cases e)))
      clear hb2 c1 c2
      by_cases htn : t < 0
      · have HE : Hid (isF e = false) := Lib.hid (isF_no HOKS.out HIL.out (fun h => by rw [HXY.out] at h; have := (tk_iff.1 h).1; rw [HT.out] at this; omega))
        go_wp2
        go_ret2
        exact ⟨_, by rw [HE.out]; rfl, fun h => (by rw [HE.out] at h; cases h), fun _ => rfl, HB2.out⟩
      · obtain ⟨n, rfl⟩ : ∃ n : Nat, t = n := ⟨t.toNat, by omega⟩
        have hn2 : n ≤ 2 := by omega
        have htnn : ¬ ((n : Int) < 0) := htn
        obtain ⟨A2, c3, hv2, hia2⟩ := OI.form HO2.out
        rw [outF_len] at hv2
        subst hv2
        have HIA2 := Lib.hid hia2
        clear hia2 htr
        go_wp2
        go_loopw [7, 8] (fun fv kv wq => ∃ (k s : Nat), k ≤ n ∧ fv = .int .i64 s ∧ kv = .int .i64 k ∧ wq = w2 ∧ Hid (k ≤ st.length ∧ bgn (outF e i) i k = (s : Int) ∧ s ≤ i)) (fun _ kv _ => n - (intOf kv).toNat)
        case atStart => exact ⟨0, i, Nat.zero_le _, rfl, rfl, rfl, Lib.hid ⟨Nat.zero_le _, rfl, Nat.le_refl _⟩⟩
        case round =>
          obtain ⟨k, s, hk, rfl, rfl, rfl, HS⟩ := hrel
          obtain ⟨s2, hs2, hs3, hs4⟩ := bgn_at HOKS.out HS.out.1 (by omega)
          obtain rfl : s2 = s := by have := HS.out.2.1; omega
          have HS4 := Lib.hid hs4
          clear hs2 hs4
          by_cases hkn : k < n
          · by_cases h0 : s2 = 0
            · subst h0
              have HE : Hid (isF e = false) := Lib.hid (isF_no HOKS.out HIL.out (fun h => by rw [HXY.out] at h; have := (tk_iff.1 h).2; rw [HT.out] at this; have := HS4.out.1 rfl; omega))
              go_wp2
              go_ret2
              exact ⟨_, by rw [HE.out]; rfl, fun h => (by rw [HE.out] at h; cases h), fun _ => rfl, HB2.out⟩
            · obtain ⟨s, rfl⟩ : ∃ s, s2 = s + 1 := ⟨s2 - 1, by omega⟩
              have hsb : (((s + 1 : Nat) : Int) == 0) = false := by rw [beq_eq_false_iff_ne]; omega
              have hs1 : ((s + 1 : Nat) : Int) - 1 = (s : Int) := by omega
              have hsi : (s : Int) < (i : Int) := by omega
              obtain ⟨b4, o4, rfl, hb4, hc4⟩ := IA.at_ HIA2.out (i := s) (by rw [outF_len]; omega)
              have HNX := Lib.hid (bgn_next (show k < 2 by omega) HS.out.2.1)
              rw [Nat.add_sub_cancel] at HNX
              have hkl : k + 1 ≤ st.length := by
                have h1 := HS.out.1
                rcases Nat.lt_or_ge k st.length with h2 | h2
                · exact h2
                · have := HS4.out.2 (by omega); omega
              obtain ⟨s5, h5, h6, _⟩ := bgn_at HOKS.out hkl (by omega)
              rw [← HNX.out, h5] at hc4
              have H5 : Hid (k + 1 ≤ st.length ∧ bgn (outF e i) i (k + 1) = (s5 : Int) ∧ s5 ≤ i) := Lib.hid ⟨hkl, h5, h6⟩
              clear h5 h0 hkl
              go_wp2
              go_roundw
              case rel => exact ⟨k + 1, s5, by omega, by go_num, by go_num, trivial, H5⟩
              case measure => simp [intOf]; omega
          · obtain rfl : k = n := by omega
            have HND : Hid (ndW st.length (e.getD i (0, 0)) = 0) := Lib.hid (by rw [HXY.out, tk_iff, HT.out]; have := HS.out.1; omega)
            have HNX := Lib.hid (HOKS.out.next HIL.out HND.out)
            have HON : Hid (outF e i ++ [(s2 : Int)] = outF e (i + 1)) := Lib.hid (by
              rw [outF_succ, HXY.out]
              have h9 := tk_kT (x := (x, y)) (by rw [HT.out]; omega)
              rw [HT.out] at h9
              rw [h9, Int.toNat_natCast, HS.out.2.1])
            have HBIG : Hid (8 * ((outF e i).length + 1) ≤ 140737488355328) := Lib.hid (by rw [outF_len]; omega)
            go_upto_region 15 with (fail)
            go_wp2_with (at_builtin; go_loud (refine append_big rfl (.tmp 35) (.tmp 37) rfl w.heap.size _ (outF e i) rfl HO2.out (s2 : Int) rfl HBIG.out HB2.out.size ?_); intro v5 w5 ho5 hb5; rw [HON.out] at ho5; have HO5 := Lib.hid ho5; have HB5 : Hid (Below w.heap.size w w5) := Lib.hid (HB2.out.trans hb5); clear ho5 hb5)
            go_roundw
            case rel => exact ⟨i + 1, _, by omega, by go_num, rfl, Lib.hid ⟨_, HNX.out⟩, HO5, HB5⟩
            case measure => simp [intOf]; omega
    · obtain rfl : i = m := by omega
      have HWR : Hid (wrF 0 e = if st.length = 0 then 4 else if 1 < st.length then 5 else 0) := Lib.hid (by rw [HOKS.out.2, wr_end (by rw [← HM.out]; exact Nat.le_refl _)])
      by_cases h0 : i = 0
      · subst h0
        have HE : Hid (isF e = false) := Lib.hid (by
          have : e = [] := List.eq_nil_of_length_eq_zero HM.out.symm
          subst this
          decide)
        go_wp2
        go_ret2
        exact ⟨_, by rw [HE.out]; rfl, fun h => (by rw [HE.out] at h; cases h), fun _ => rfl, HB.out⟩
      · obtain ⟨j, rfl⟩ : ∃ j, i = j + 1 := ⟨i - 1, by omega⟩
        have h0b : (((j + 1 : Nat) : Int) == 0) = false := by rw [beq_eq_false_iff_ne]; omega
        have hj1 : ((j + 1 : Nat) : Int) - 1 = (j : Int) := by omega
        obtain ⟨A2, c3, hv2, hia2⟩ := OI.form HO.out
        rw [outF_len] at hv2
        subst hv2
        obtain ⟨b4, o4, rfl, hb4, hc4⟩ := IA.at_ hia2 (i := j) (by rw [outF_len]; omega)
        obtain ⟨s, st', e1, e2, e3, e4, e5⟩ := HOKS.out.1.pos
        rw [e4] at hc4
        have HLE : Hid (s = 0 ↔ st.length = 1) := Lib.hid (by
          rw [e1, List.length_append, List.length_singleton]
          constructor
          · intro h
            subst h
            rw [e5.zero]
            rfl
          · intro h
            have : st' = [] := List.eq_nil_of_length_eq_zero (by omega)
            subst this
            exact e5.none)
        have HPO : Hid (0 < st.length) := Lib.hid (by rw [e1]; simp)
        clear e1 e2 e3 e4 e5 hia2 h0
        by_cases hs : s = 0
        · subst hs
          have HE : Hid (isF e = true) := Lib.hid (isF_iff.2 (by rw [HWR.out]; have := HLE.out.1 rfl; rw [this]; rfl))
          go_wp2
          go_ret2
          exact ⟨_, by rw [HE.out]; rfl, fun _ => by rw [← HM.out]; exact HO.out, fun h => (by rw [HE.out] at h; cases h), HB.out⟩
        · have hsb : ((s : Int) != 0) = true := by simp; omega
          have HE : Hid (isF e = false) := Lib.hid (by
            rcases hf : isF e with _ | _
            · rfl
            · have h1 := isF_iff.1 hf
              rw [HWR.out, if_neg (by have := HPO.out; omega)] at h1
              by_cases h2 : 1 < st.length
              · rw [if_pos h2] at h1; cases h1
              · exact absurd (HLE.out.2 (by have := HPO.out; omega)) hs)
          go_wp2
          go_ret2
          exact ⟨_, by rw [HE.out]; rfl, fun h => (by rw [HE.out] at h; cases h), fun _ => rfl, HB.out⟩
end Go.Proofs.YtmdfiamffipbcaaDoor.nf
