/- The document's Spans and Kids. -/
import Derived.Test.YtophajljjnjcdaaLtlIa
import Derived.Test.YtophajljjnjcdaaLtlWrong
import Derived.Lib.SmallJoins
namespace Go.Proofs.Ytophajljjnjcdaa.lt
open Go.ChangeShapes Go.WideShapes Go.ChangeAt Go.RowKit

theorem oi_mono {base base' : Nat} {w : World} {v : Value} {l : List Int} (h : OI base w v l) (hb : base' ≤ base) : OI base' w v l := Go.Joins.ownsRow_le h hb
theorem oi_empty (w : World) (base : Nat) (hb : base ≤ w.heap.size) : OI base (w.alloc (.cells #[] 3)) (.slice (some ⟨w.heap.size, 0, none⟩) 0 0) [] :=
  ⟨rfl, .inr ⟨w.heap.size, 0, #[], rfl, hb, World.alloc_heap_new _ _, Nat.le_refl _, Nat.zero_le _, by simp, by simp⟩⟩
/-- append of one int onto a row of the call's own, and which block turns. -/
theorem append_one_g {w : World} {ops : Array Oper} {rest : List Oper} {o : Oper} {a : Act} {Q : Exit → Act → World → Prop} (hgd : o.guard = none) (s x : Operand)
    (ho : o.op = .call { callee := .builtin .append, args := #[s, x], argTypes := #[59, 59] })
    (base : Nat) (v : Value) (l : List Int) (hs : a.eval s = v) (hown : OI base w v l) (z : Int)
    (hx : a.eval x = .slice (some ⟨w.heap.size, 0, none⟩) 1 1)
    (hlen : l.length + 1 ≤ 1000000) (hbase : base ≤ w.heap.size)
    (h : ∀ v' w', OI base w' v' (l ++ [z]) → Below base w w' → (w.alloc (.cells #[.int .i64 z] 3)).grownBy w' v.ownBlock → wpList Try.prog ops Q rest (a.put o.dst v') w') :
    wpList Try.prog ops Q (o :: rest) a (w.alloc (.cells #[.int .i64 z] 3)) := by
  obtain ⟨i0, hi, hz0, hz1, hz2⟩ := info_parts Try.info3
  refine wpList_append_own_at _ hgd s x 59 ho base 3 i0 (.int .i64 0) 1 8 Try.underlying59 hi hz0 hz1 hz2 rfl (by decide) v l.length _ hs (hown.alloc _) ⟨w.heap.size, 0, none⟩ 1 1 [.int .i64 z] hx rfl (cell_one_new _ _ _) (by simp [Value.oneCell']) (by unfold maxLen; omega) (by omega) (by simp; omega) ?_
  intro v' w' hown' hgrow _ hb
  exact h v' w' (oi_snoc hown') (Below.grown ((Below.refl _ _).alloc hbase _) hgrow (by simp; omega) (fun k hk => (hown.lt k hk).1)) hgrow
/-- A row of a later base stays when an elder one grows. -/
theorem oi_apart {base base2 : Nat} {wr w w' : World} {v lv : Value} {l L : List Int} (hO : OI base wr v l) (hb2 : wr.heap.size ≤ base2) (hL : OI base2 w lv L) (hg : w.grownBy w' v.ownBlock) : OI base2 w' lv L := by
  refine World.ownsRow.kept hL hg ?_
  rcases hv : lv.ownBlock with _ | b
  · exact .inl rfl
  · refine .inr (fun e => ?_)
    have h1 := (World.ownsRow.lt hL b hv).1
    have h2 := (World.ownsRow.lt hO b (by rw [← e])).2
    omega
set_option maxRecDepth 20000 in
set_option maxHeartbeats 8000000 in
theorem refSpans_any (e : List (Int × Int)) (A : Option Addr) (c m : Nat) (w : World) (hm : m = e.length) (hm2 : m ≤ 1000) (hA : PA w A e) :
    Calls Try.prog 45 #[.slice A m c] w (RowP w (spansL e)) := by
  have HM := Lib.hid hm
  have HA := Lib.hid hA
  have HK := Lib.hid (refIs_any e A c m w hm hm2 hA)
  clear hm hA
  obtain ⟨z, HZ⟩ : ∃ z, Hid (isF e = z) := ⟨_, Lib.hid rfl⟩
  go_enter Try.func45, Try.ntmps45
  go_wp2_with fail
  refine HK.out.mono ?_
  rintro x w1 ⟨rfl, rfl⟩
  rw [HZ.out]
  clear HK
  cases z with
  | true =>
    have HI : Hid (wrF 0 e = 0) := Lib.hid (isF_iff.1 HZ.out)
    have HU : Hid (spansL e = outF e m) := Lib.hid (by rw [spansL_is HI.out, HM.out])
    go_wp2
    go_loopw [3, 4, 5] (fun ov sv iv wr => ∃ (i n : Nat) (C B : Option Addr) (d2 d : Nat) (pt : List Int), i ≤ m ∧ iv = .int .i64 i ∧ ov = .slice C i d2 ∧ sv = .slice B n d ∧ Hid (n = pt.length) ∧ Hid (Ok e i pt) ∧ Hid (OI w.heap.size wr (.slice C i d2) (outF e i)) ∧ Hid (InS wr B d (bst e i pt)) ∧ Hid (Below w.heap.size w wr)) (fun _ _ iv _ => m - (intOf iv).toNat)
    case atStart => exact ⟨0, 0, none, none, 0, 0, [], Nat.zero_le _, rfl, rfl, rfl, Lib.hid rfl, Lib.hid (Ok.zero _), Lib.hid (OI.nil _ _), Lib.hid ⟨IA.nil _ _, Nat.le_refl _, Nat.zero_le _, fun _ => rfl⟩, Lib.hid (Below.refl _ _)⟩
    case round =>
      obtain ⟨i, n, C, B, d2, d, pt, hi, rfl, rfl, rfl, HN, HOK, HO, HS, HB⟩ := hrel
      by_cases hlt : i < m
      · have HIL : Hid (i < e.length) := Lib.hid (by rw [← HM.out]; exact hlt)
        obtain ⟨b, o, rfl, hb, hc⟩ := (HA.out.below HB.out) (by rw [← HM.out]; omega)
        obtain ⟨c1, _⟩ := hc i HIL.out
        have HND : Hid (ndW pt.length (e.getD i (0, 0)) = 0) := Lib.hid (by
          obtain ⟨st, h1, h2⟩ := Ok.of_is HI.out i (by rw [← HM.out]; omega)
          rw [h1.uniq HOK.out] at h2
          exact h2 HIL.out)
        have HNK := Lib.hid (ndW_ok HND.out)
        obtain ⟨op, HOP⟩ : ∃ op, Hid ((e.getD i (0, 0)).1 = op) := ⟨_, Lib.hid rfl⟩
        rw [HOP.out] at c1
        obtain ⟨t, HT⟩ : ∃ t : Nat, Hid (kT op = t) := ⟨(kT op).toNat, Lib.hid (by have := HNK.out.1; rw [HOP.out] at this; omega)⟩
        have HKT : Hid (kT (e.getD i (0, 0)).1 = t) := Lib.hid (by rw [HOP.out, HT.out])
        have htn : t ≤ n := by have h := HNK.out.2.1; rw [HKT.out, ← HN.out] at h; omega
        have ht2 : t ≤ 2 := by have := kT_range op; have := HT.out; omega
        have HPL : Hid (n ≤ i) := Lib.hid (by rw [HN.out]; exact HOK.out.1.len)
        clear hc
        obtain ⟨left, rfl⟩ : ∃ left, n = left + t := ⟨n - t, by omega⟩
        have HNT : Hid (pt.length - t = left) := Lib.hid (by have := HN.out; omega)
        have HBL : Hid ((bst e i pt).length = left + t) := Lib.hid (by rw [bst_len, HN.out])
        have EH := wi.head_run B left t d (by have := HS.out.le; rw [HBL.out] at this; exact this)
        obtain ⟨bv, HBV⟩ : ∃ bv, Hid (bgn (outF e i) i t = bv) := ⟨_, Lib.hid rfl⟩
        have HBN := Lib.hid (bst_next HOK.out.1 HKT.out)
        have HON : Hid (outF e (i + 1) = outF e i ++ [bv]) := Lib.hid (by rw [outF_succ, HKT.out, Int.toNat_natCast, HBV.out])
        have HNX := Lib.hid (HOK.out.next HIL.out HND.out)
        have HTL : Hid (((bst e i pt).take left).length = left) := Lib.hid (by rw [List.length_take, HBL.out]; omega)
        have HIA : Hid (IA wr B ((bst e i pt).take left)) := Lib.hid (fun h0 => by
          obtain ⟨b', o', e', hb', hc'⟩ := HS.out.ia (by rw [List.length_take] at h0; omega)
          refine ⟨b', o', e', hb', fun j hj => ?_⟩
          rw [HTL.out] at hj
          rw [hc' j (by rw [HBL.out]; omega)]
          simp [List.getD, hj])
        have HNON : Hid (B = none → d = 0) := Lib.hid HS.out.non
        have HFIRST : Hid (0 < t → (bst e i pt).getD left 0 = bv) := Lib.hid (fun h0 => by
          rw [← HBV.out, ← bst_first HOK.out.1 h0 (by have := HN.out; omega) ht2, HNT.out]
          simp [List.getD])
        have HSB : Hid (InS wr B d (bst e i pt)) := HS
        rw [HNT.out, HBV.out] at HBN
        rw [HKT.out, Int.toNat_natCast, HNT.out] at HNX
        have hwz : w.heap.size ≤ wr.heap.size := HB.out.size
        have HOL : Hid ((outF e i).length = i) := Lib.hid (outF_len e i)
        have hr : ((left + t : Nat) : Int) - t = (left : Int) := by omega
        have HRR := Lib.hid hr
        have HE0 : Hid (t = 0 → bv = i) := Lib.hid (fun h => by rw [← HBV.out, h]; rfl)
        clear hr
        go_wp2_with fail
        refine (refTakes_any op wr).mono ?_
        rintro x w' ⟨rfl, rfl⟩
        rw [HT.out]
        have HL5 : Hid ((bst e (i + 1) (pt.take left ++ [(i : Int)])).length = left + 1) := Lib.hid (by rw [bst_len, List.length_append, List.length_take, ← HN.out, List.length_singleton]; omega)
        have HL7 : Hid ((pt.take left ++ [(i : Int)]).length = left + 1) := Lib.hid (by rw [List.length_append, List.length_take, ← HN.out, List.length_singleton]; omega)
        have HL6 : Hid ((outF e (i + 1)).length = i + 1) := Lib.hid (outF_len _ _)
        have HBW : Hid ((bst e i pt).take left ++ [bv] = bst e (i + 1) (pt.take left ++ [(i : Int)])) := Lib.hid HBN.out.symm
        have HOW : Hid (outF e i ++ [bv] = outF e (i + 1)) := Lib.hid HON.out.symm
        clear HBN HON
        have hlb : left ≤ 1000 := by have := HPL.out; omega
        have ht3 : t = 0 ∨ t = 1 ∨ t = 2 := by omega
        rcases ht3 with rfl | rfl | rfl
        · obtain rfl : bv = (i : Int) := HE0.out rfl
          simp only [Nat.add_zero] at EH
          clear HFIRST HE0 c1
          go_upto_region 11 with (fail)

          go_wp2_with (first
            | (at_builtin; refine append_list rfl (.tmp 34) (.tmp 40) rfl wr.heap.size _ [] rfl (oi_empty wr wr.heap.size (Nat.le_refl _)) B left d ((bst e i pt).take left) HTL.out.symm rfl (HIA.out.below (below_one _ _)) HNON.out (by rw [HTL.out]; have := HPL.out; simp; omega) (by simp) ?_; intro v4 w4 ho4 hb4; rw [List.nil_append] at ho4; obtain ⟨A4, c4, hv4, _⟩ := ho4.form; rw [HTL.out] at hv4; subst hv4; have HO4 := Lib.hid ho4; have HB4 : Hid (Below wr.heap.size wr w4) := Lib.hid ((below_one _ _).trans hb4); clear ho4 hb4)
            | (at_builtin; refine append_one rfl (.tmp 41) (.tmp 43) rfl wr.heap.size _ ((bst e i pt).take left) rfl HO4.out (i : Int) rfl (by rw [HTL.out]; have := HPL.out; omega) HB4.out.size ?_; intro v5 w5 ho5 hb5; rw [HBW.out] at ho5; obtain ⟨A5, c5, hv5, _⟩ := ho5.form; rw [HL5.out] at hv5; subst hv5; have HO5 := Lib.hid ho5; have HB5 : Hid (Below wr.heap.size wr w5) := Lib.hid (HB4.out.trans hb5); clear ho5 hb5)
            | (at_builtin; refine append_one_g rfl (.tmp 45) (.tmp 47) rfl w.heap.size _ (outF e i) rfl (HO.out.below HB5.out) (i : Int) rfl (by rw [HOL.out]; have := HPL.out; omega) (Nat.le_trans hwz HB5.out.size) ?_; intro v6 w6 ho6 hb6 hg6; rw [HOW.out] at ho6; obtain ⟨A6, c6, hv6, _⟩ := ho6.form; rw [HL6.out] at hv6; subst hv6; have HO6 := Lib.hid ho6; have HB6 : Hid (Below w.heap.size w w6) := Lib.hid ((HB.out.trans (HB5.out.mono hwz)).trans hb6); have HO56 : Hid (OI wr.heap.size w6 (.slice A5 (left + 1) c5) (bst e (i + 1) (pt.take left ++ [(i : Int)]))) := Lib.hid (oi_apart HO.out (Nat.le_refl _) (World.ownsRow.alloc HO5.out _) hg6); clear ho6 hb6 hg6)
            | fail)
          go_roundw
          case rel =>
            obtain ⟨A7, c7, f7, i7, _⟩ := HO56.out.ins
            rw [HL5.out] at f7
            injection f7 with f7 _ f8
            subst f7 f8
            exact ⟨i + 1, left + 1, A6, A5, c6, c5, pt.take left ++ [(i : Int)], by omega, by go_num, rfl, rfl, Lib.hid HL7.out.symm, HNX, HO6, Lib.hid i7, HB6⟩
          case measure => simp [intOf]; omega
        · have HF := Lib.hid (HFIRST.out (by decide))
          obtain ⟨b2, o2, rfl, hb2, hc2⟩ := HS.out.ia (by rw [HBL.out]; omega)
          have c2 := hc2 left (by rw [HBL.out]; omega)
          rw [HF.out] at c2
          clear HFIRST HE0 c1 hc2
          go_upto_region 11 with (fail)
          generalize hBB : some (⟨b2, o2, none⟩ : Addr) = B at *

          go_wp2_with (first
            | (at_builtin; refine append_list rfl (.tmp 34) (.tmp 40) rfl wr.heap.size _ [] rfl (oi_empty wr wr.heap.size (Nat.le_refl _)) B left d ((bst e i pt).take left) HTL.out.symm rfl (HIA.out.below (below_one _ _)) HNON.out (by rw [HTL.out]; have := HPL.out; simp; omega) (by simp) ?_; intro v4 w4 ho4 hb4; rw [List.nil_append] at ho4; obtain ⟨A4, c4, hv4, _⟩ := ho4.form; rw [HTL.out] at hv4; subst hv4; have HO4 := Lib.hid ho4; have HB4 : Hid (Below wr.heap.size wr w4) := Lib.hid ((below_one _ _).trans hb4); clear ho4 hb4)
            | (at_builtin; refine append_one rfl (.tmp 41) (.tmp 43) rfl wr.heap.size _ ((bst e i pt).take left) rfl HO4.out bv rfl (by rw [HTL.out]; have := HPL.out; omega) HB4.out.size ?_; intro v5 w5 ho5 hb5; rw [HBW.out] at ho5; obtain ⟨A5, c5, hv5, _⟩ := ho5.form; rw [HL5.out] at hv5; subst hv5; have HO5 := Lib.hid ho5; have HB5 : Hid (Below wr.heap.size wr w5) := Lib.hid (HB4.out.trans hb5); clear ho5 hb5)
            | (at_builtin; refine append_one_g rfl (.tmp 45) (.tmp 47) rfl w.heap.size _ (outF e i) rfl (HO.out.below HB5.out) bv rfl (by rw [HOL.out]; have := HPL.out; omega) (Nat.le_trans hwz HB5.out.size) ?_; intro v6 w6 ho6 hb6 hg6; rw [HOW.out] at ho6; obtain ⟨A6, c6, hv6, _⟩ := ho6.form; rw [HL6.out] at hv6; subst hv6; have HO6 := Lib.hid ho6; have HB6 : Hid (Below w.heap.size w w6) := Lib.hid ((HB.out.trans (HB5.out.mono hwz)).trans hb6); have HO56 : Hid (OI wr.heap.size w6 (.slice A5 (left + 1) c5) (bst e (i + 1) (pt.take left ++ [(i : Int)]))) := Lib.hid (oi_apart HO.out (Nat.le_refl _) (World.ownsRow.alloc HO5.out _) hg6); clear ho6 hb6 hg6)
            | fail)
          go_roundw
          case rel =>
            obtain ⟨A7, c7, f7, i7, _⟩ := HO56.out.ins
            rw [HL5.out] at f7
            injection f7 with f7 _ f8
            subst f7 f8
            exact ⟨i + 1, left + 1, A6, A5, c6, c5, pt.take left ++ [(i : Int)], by omega, by go_num, rfl, rfl, Lib.hid HL7.out.symm, HNX, HO6, Lib.hid i7, HB6⟩
          case measure => simp [intOf]; omega
        · have HF := Lib.hid (HFIRST.out (by decide))
          obtain ⟨b2, o2, rfl, hb2, hc2⟩ := HS.out.ia (by rw [HBL.out]; omega)
          have c2 := hc2 left (by rw [HBL.out]; omega)
          rw [HF.out] at c2
          clear HFIRST HE0 c1 hc2
          go_upto_region 11 with (fail)
          generalize hBB : some (⟨b2, o2, none⟩ : Addr) = B at *

          go_wp2_with (first
            | (at_builtin; refine append_list rfl (.tmp 34) (.tmp 40) rfl wr.heap.size _ [] rfl (oi_empty wr wr.heap.size (Nat.le_refl _)) B left d ((bst e i pt).take left) HTL.out.symm rfl (HIA.out.below (below_one _ _)) HNON.out (by rw [HTL.out]; have := HPL.out; simp; omega) (by simp) ?_; intro v4 w4 ho4 hb4; rw [List.nil_append] at ho4; obtain ⟨A4, c4, hv4, _⟩ := ho4.form; rw [HTL.out] at hv4; subst hv4; have HO4 := Lib.hid ho4; have HB4 : Hid (Below wr.heap.size wr w4) := Lib.hid ((below_one _ _).trans hb4); clear ho4 hb4)
            | (at_builtin; refine append_one rfl (.tmp 41) (.tmp 43) rfl wr.heap.size _ ((bst e i pt).take left) rfl HO4.out bv rfl (by rw [HTL.out]; have := HPL.out; omega) HB4.out.size ?_; intro v5 w5 ho5 hb5; rw [HBW.out] at ho5; obtain ⟨A5, c5, hv5, _⟩ := ho5.form; rw [HL5.out] at hv5; subst hv5; have HO5 := Lib.hid ho5; have HB5 : Hid (Below wr.heap.size wr w5) := Lib.hid (HB4.out.trans hb5); clear ho5 hb5)
            | (at_builtin; refine append_one_g rfl (.tmp 45) (.tmp 47) rfl w.heap.size _ (outF e i) rfl (HO.out.below HB5.out) bv rfl (by rw [HOL.out]; have := HPL.out; omega) (Nat.le_trans hwz HB5.out.size) ?_; intro v6 w6 ho6 hb6 hg6; rw [HOW.out] at ho6; obtain ⟨A6, c6, hv6, _⟩ := ho6.form; rw [HL6.out] at hv6; subst hv6; have HO6 := Lib.hid ho6; have HB6 : Hid (Below w.heap.size w w6) := Lib.hid ((HB.out.trans (HB5.out.mono hwz)).trans hb6); have HO56 : Hid (OI wr.heap.size w6 (.slice A5 (left + 1) c5) (bst e (i + 1) (pt.take left ++ [(i : Int)]))) := Lib.hid (oi_apart HO.out (Nat.le_refl _) (World.ownsRow.alloc HO5.out _) hg6); clear ho6 hb6 hg6)
            | fail)
          go_roundw
          case rel =>
            obtain ⟨A7, c7, f7, i7, _⟩ := HO56.out.ins
            rw [HL5.out] at f7
            injection f7 with f7 _ f8
            subst f7 f8
            exact ⟨i + 1, left + 1, A6, A5, c6, c5, pt.take left ++ [(i : Int)], by omega, by go_num, rfl, rfl, Lib.hid HL7.out.symm, HNX, HO6, Lib.hid i7, HB6⟩
          case measure => simp [intOf]; omega
      · obtain rfl : i = m := by omega
        go_wp2
        go_ret
        obtain ⟨A5, c5, f5, i5, _⟩ := HO.out.ins
        rw [outF_len] at f5
        injection f5 with f5 _ f6
        subst f5 f6
        exact ⟨_, _, by rw [HU.out, outF_len]; rfl, by rw [HU.out]; exact i5, HB.out⟩
  | false =>
    have HU : Hid (spansL e = []) := Lib.hid (by unfold spansL; rw [HZ.out]; rfl)
    go_wp2
    go_ret
    exact RowP.nil HU.out (Below.refl _ _)
end Go.Proofs.Ytophajljjnjcdaa.lt
