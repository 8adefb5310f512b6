/- The document's Unrank. -/
import Derived.Test.YtkaddfbnlkmehaaRefPermRank
import Derived.Test.YtkaddfbnlkmehaaPermUnrank
import Derived.Deep.Cut
import Derived.Deep.RegionHeld3
namespace Go.Proofs.Ytkaddfbnlkmehaa
open Go.ChangeShapes Go.WideShapes Go.ChangeAt Go.RowKit

theorem OI.below {base : Nat} {w w' : World} {v : Value} {l : List Int} (h : OI base w v l) (hb : Below w.heap.size w w') : OI base w' v l := by
  refine ⟨h.1, ?_⟩
  rcases h.2 with h2 | ⟨g, cap, cur, e, hb', hg, rest⟩
  · exact .inl h2
  · exact .inr ⟨g, cap, cur, e, hb', (hb.block g (Array.getElem?_eq_some_iff.1 hg).1).trans hg, rest⟩

/-- An append whose run is known, at a step of a region that draws its order. -/
theorem step_append_run {w w' : World} {ops : Array Oper} {o : Oper} {a : Act} {K : Act → World → Prop} {Q : Exit → Act → World → Prop} {E : Prop} {v u v' : Value} (hgd : o.guard = none) (s x : Operand)
    (ho : o.op = .call { callee := .builtin .append, args := #[s, x], argTypes := #[22, 22] }) (hty : o.type = 22) (hs : a.eval s = v) (hx : a.eval x = u)
    (hr : (Builtin.append_ #[22, 22] 22 #[v, u]).run Try.prog w = .ok v' w') (h : K (a.put o.dst v') w') :
    if Region.wanted o (yielded ops a.tmps) = true then Oper.wp Try.prog o a w K Q else E := by
  have hw : Region.wanted o (yielded ops a.tmps) = true := by simp [Region.wanted, hgd]
  rw [if_pos hw]
  unfold Oper.wp execOp
  simp only [ho, resolve, invoke, builtin, Sem.run_bind, Sem.run_pure, Result.andThen_ok, List.map_toArray, List.map_cons, List.map_nil, hs, hx, hty, hr]
  exact h

/-- append of what a slice reads as onto a row of the call's own: the run. -/
theorem run_append_list {w : World} (base : Nat) (v : Value) (l : List Int) (hown : OI base w v l) (A : Option Addr) (m c : Nat) (l2 : List Int) (hm : m = l2.length)
    (hA : IA w A l2) (hN : A = none → c = 0) (hlen : l.length + l2.length ≤ 1000000) (hbase : base ≤ w.heap.size) :
    ∃ v' w', (Builtin.append_ #[22, 22] 22 #[v, .slice A m c]).run Try.prog w = .ok v' w' ∧ OI base w' v' (l ++ l2) ∧ Below base w w' := by
  obtain ⟨i0, hi, hz0, hz1, hz2⟩ := info_parts Try.info3
  subst hm
  cases A with
  | none =>
    have h0 : l2 = [] := by
      rcases Nat.eq_zero_or_pos l2.length with h | h
      · exact List.eq_nil_of_length_eq_zero h
      · obtain ⟨b, o, e, _⟩ := hA h
        cases e
    subst h0
    rw [hN rfl]
    exact ⟨v, w, run_append_owned_none (P := Try.prog) (w := w) base 22 22 3 i0 1 Try.underlying22 hi v l.length _ hown, by rw [List.append_nil]; exact hown, Below.refl _ _⟩
  | some ad =>
    obtain ⟨v', w', hr, h2, h3, _, h5⟩ := run_append_own_at (P := Try.prog) w base 22 22 3 i0 (.int .i64 0) 1 8 Try.underlying22 hi hz0 hz1 hz2 rfl (by decide) v l.length _ hown ad l2.length c (l2.map (Value.int .i64)) (by simp) (fun j u hu => by
      rw [List.getElem?_map] at hu
      cases e : l2[j]? with
      | none => rw [e] at hu; cases hu
      | some y =>
        rw [e] at hu
        injection hu with hu
        subst hu
        have hj : j < l2.length := (List.getElem?_eq_some_iff.1 e).1
        obtain ⟨b, o2, e2, _, hc⟩ := hA (by omega)
        injection e2 with e2
        subst e2
        rw [add_plain, hc j hj]
        simp [List.getD, e]) (fun u hu => by
      obtain ⟨y, _, rfl⟩ := List.mem_map.1 hu
      simp [Value.oneCell']) (by unfold maxLen; omega) (by omega) hbase
    refine ⟨v', w', hr, ?_, Below.grown (Below.refl _ _) h3 hbase (fun k hk => (World.ownsRow.lt hown k hk).1)⟩
    unfold OI
    rw [List.length_append, List.map_append]
    exact h2

theorem IA.take_ {w : World} {A : Option Addr} {l : List Int} (h : IA w A l) (d : Nat) : IA w A (l.take d) := fun hn => by
  rw [List.length_take] at hn
  obtain ⟨b, o, e, hb, hc⟩ := h (by omega)
  refine ⟨b, o, e, hb, fun i hi => ?_⟩
  rw [List.length_take] at hi
  rw [hc i (by omega)]
  simp [List.getD, List.getElem?_take_of_lt (show i < d by omega)]
theorem IA.drop_ {w : World} {b o : Nat} {l : List Int} (h : IA w (some ⟨b, o, none⟩) l) (d : Nat) : IA w (some ⟨b, o + d, none⟩) (l.drop d) := fun hn => by
  rw [List.length_drop] at hn
  obtain ⟨b', o', e, hb, hc⟩ := h (by omega)
  injection e with e
  injection e with e1 e2
  subst e1 e2
  refine ⟨_, _, rfl, hb, fun i hi => ?_⟩
  rw [List.length_drop] at hi
  rw [Nat.add_assoc, hc (d + i) (by omega)]
  simp [List.getD]

/-- append of one int onto a row of the call's own, other rows beside it. -/
theorem append_one' {w : World} {ops : Array Oper} {rest : List Oper} {o : Oper} {a : Act} {Q : Exit → Act → World → Prop} (hgd : o.guard = none) (s x : Operand)
    (ho : o.op = .call { callee := .builtin .append, args := #[s, x], argTypes := #[22, 22] })
    (base : Nat) (v : Value) (l : List Int) (hs : a.eval s = v) (hown : OI base w v l) (z : Int)
    (hx : a.eval x = .slice (some ⟨w.heap.size, 0, none⟩) 1 1)
    (hlen : l.length + 1 ≤ 1000000) (hbase : base ≤ w.heap.size)
    (h : ∀ v' w', OI base w' v' (l ++ [z]) → Below base w w' → (∀ k, k < w.heap.size → v.ownBlock ≠ some k → w'.heap[k]? = w.heap[k]?) → (∀ k, v'.ownBlock = some k → v.ownBlock = some k ∨ w.heap.size ≤ k) → wpList Try.prog ops Q rest (a.put o.dst v') w') :
    wpList Try.prog ops Q (o :: rest) a (w.alloc (.cells #[.int .i64 z] 3)) := by
  obtain ⟨i0, hi, hz0, hz1, hz2⟩ := info_parts Try.info3
  refine wpList_append_own_at _ hgd s x 22 ho base 3 i0 (.int .i64 0) 1 8 Try.underlying22 hi hz0 hz1 hz2 rfl (by decide) v l.length _ hs (hown.alloc _) ⟨w.heap.size, 0, none⟩ 1 1 [.int .i64 z] hx rfl (cell_one_new _ _ _) (by simp [Value.oneCell']) (by unfold maxLen; omega) (by omega) (by simp; omega) ?_
  intro v' w' hown' hgrow _ hb
  refine h v' w' (oi_snoc hown') (Below.grown ((Below.refl _ _).alloc hbase _) hgrow (by simp; omega) (fun k hk => (hown.lt k hk).1)) (fun k hk hne => ?_) (fun k hk => ?_)
  · rw [hgrow.block k (by simp; omega) (fun e => hne e.symm)]
    exact Below.heap_alloc _ _ _ hk
  · rcases hb with hb | hb
    · exact .inl (hb ▸ hk)
    · rw [hb] at hk
      injection hk with hk
      simp at hk
      exact .inr (by omega)

set_option maxRecDepth 100000 in
set_option maxHeartbeats 8000000 in
theorem refUnrank_yes (m K : Nat) (w : World) (hm8 : m ≤ 8) (hK : K < fct m) :
    Calls Try.prog 41 #[.int .i64 m, .int .i64 K] w (RowP w (uns m K m)) := by
  have HI : Hid (idF m = ups m) := Lib.hid (by unfold idF; rw [if_pos (by omega)]; simp)
  have HUL : Hid ((ups m).length = m) := Lib.hid (ups_length m)
  have HF8 : fct m ≤ 40320 := fct_le hm8
  have hmx : Try.prog.follows .mixedOrders = true := by kernel_rfl
  go_enter Try.func41, Try.ntmps41
  go_wp2_with fail
  refine (fact_any m w hm8).mono ?_
  rintro e w' ⟨rfl, rfl⟩
  have hK2 : ¬ ((fct m : Nat) : Int) ≤ (K : Int) := by omega
  go_wp2_with fail
  refine (refId_any m w).mono ?_
  rw [HI.out]
  rintro e w1 ⟨A0, c0, rfl, h1, hb1⟩
  rw [HUL.out]
  have H1 := Lib.hid h1
  have HB1 := Lib.hid hb1
  clear h1 hb1
  go_wp2
  go_loopw [1, 5, 6, 7, 8, 9] (fun kv lf out i _ _ wr => ∃ (q : Nat) (v : Value) (A : Option Addr) (c : Nat), q ≤ m ∧ kv = .int .i64 ((K % fct (m - q) : Nat) : Int) ∧ lf = .slice A (m - q) c ∧ out = v ∧ i = .int .i64 q ∧ Hid (InS wr A c (lft (uns m K q) m)) ∧
    Hid (OI w.heap.size wr v (uns m K q)) ∧ Hid (Below w.heap.size w wr) ∧ Hid (∀ a, A = some a → v.ownBlock ≠ some a.block)) (fun _ _ _ i _ _ _ => m - (intOf i).toNat)
  case atStart => exact ⟨0, _, A0, c0, by omega, by rw [Nat.sub_zero, Nat.mod_eq_of_lt hK], rfl, rfl, rfl, Lib.hid (by rw [uns, lft_nil]; exact H1.out), Lib.hid (OI.nil _ _), HB1, Lib.hid (fun _ _ h => by cases h)⟩
  case round =>
    obtain ⟨q, v, A, c, hq, rfl, rfl, rfl, rfl, HL, HO, HB, HAP⟩ := hrel
    by_cases hlt : q < m
    · have HDV : Hid (((K % fct (m - q) : Nat) : Int) / ((fct (m - 1 - q) : Nat) : Int) = ((dgs m K q : Nat) : Int) ∧ ((K % fct (m - q) : Nat) : Int) % ((fct (m - 1 - q) : Nat) : Int) = ((K % fct (m - 1 - q) : Nat) : Int)) := Lib.hid (by
        rw [← Int.natCast_ediv, ← Int.natCast_emod, dgs_mod K hlt, mod_mod K hlt]
        exact ⟨rfl, rfl⟩)
      have HDN : Hid ((m : Int) - 1 - (q : Int) = ((m - 1 - q : Nat) : Int)) := Lib.hid (by omega)
      have HK1 : Hid (K % fct (m - q) ≤ 40320) := Lib.hid (Nat.le_trans (Nat.mod_le _ _) (by omega))
      have HFP := Lib.hid (fct_pos (m - 1 - q))
      have hdl : dgs m K q < m - q := dgs_lt hlt
      have HLL : Hid ((lft (uns m K q) m).length = m - q) := Lib.hid (uns_ok K q hq).2.2
      have HUQ : Hid ((uns m K q).length = q) := Lib.hid (uns_length m K q)
      have HU1 : Hid (uns m K (q + 1) = uns m K q ++ [(lft (uns m K q) m).getD (dgs m K q) 0]) := Lib.hid rfl
      have HER : Hid ((lft (uns m K q) m).take (dgs m K q) ++ (lft (uns m K q) m).drop (dgs m K q + 1) = lft (uns m K (q + 1)) m) := Lib.hid (by rw [HU1.out]; exact lft_erase (by rw [HLL.out]; exact hdl))
      go_wp2_with fail
      rw [HDN.out]
      refine (fact_any (m - 1 - q) _ (by omega)).mono ?_
      rintro e w' ⟨rfl, rfl⟩
      obtain ⟨x, HX⟩ : ∃ x : Int, Hid (((K % fct (m - q) : Nat) : Int) = x) := ⟨_, Lib.hid rfl⟩
      obtain ⟨f, HFF⟩ : ∃ f : Int, Hid (((fct (m - 1 - q) : Nat) : Int) = f) := ⟨_, Lib.hid rfl⟩
      have hx0 : 0 ≤ x := by have := HX.out; omega
      have hx1 : x ≤ 40320 := by have := HX.out; have := HK1.out; omega
      have hf1 : ¬ f < 1 := by have := HFF.out; have := HFP.out; omega
      have HD1 := HDV.out.1
      have HD2 := HDV.out.2
      rw [HX.out, HFF.out] at HD1 HD2
      have hd2 : x / f = ((dgs m K q : Nat) : Int) := HD1
      have hd3 : x % f = ((K % fct (m - 1 - q) : Nat) : Int) := HD2
      obtain ⟨y, HY⟩ : ∃ y : Int, Hid (((K % fct (m - 1 - q) : Nat) : Int) = y) := ⟨_, Lib.hid rfl⟩
      rw [HY.out] at hd3
      rw [HX.out, HFF.out]
      obtain ⟨bL, oL, rfl, hbL, hcL⟩ := HL.out.ia.at_ (i := dgs m K q) (by rw [HLL.out]; exact hdl)
      have HXX : Hid ((lft (uns m K q) m).getD (dgs m K q) 0 = (lft (uns m K q) m).getD (dgs m K q) 0) := Lib.hid rfl
      generalize (lft (uns m K q) m).getD (dgs m K q) 0 = z at hcL HU1 HXX
      generalize dgs m K q = d at *
      clear HD1 HD2 HDV
      have hle : (uns m K q).length + 1 ≤ 1000000 := by rw [HUQ.out]; omega
      have HLE := Lib.hid hle
      have hz := HB.out.size
      clear hle
      go_upto_region 12 with (at_builtin; refine append_one' rfl (.tmp 44) (.tmp 49) rfl w.heap.size _ (uns m K q) rfl HO.out z rfl HLE.out hz ?_; intro v3 w3 ho3 hb3 hk3 hn3; have HO3 := Lib.hid ho3; have HB3 := Lib.hid hb3; have HK3 := Lib.hid hk3; have HN3 := Lib.hid hn3; clear ho3 hb3 hk3 hn3)
      have HW3 : Hid (Below w.heap.size w w3) := Lib.hid (HB.out.trans HB3.out)
      have HL3 : Hid (IA w3 (some ⟨bL, oL, none⟩) (lft (uns m K q) m)) := Lib.hid (fun hn => by
        obtain ⟨b, o, e, hb, hc⟩ := HL.out.ia hn
        injection e with e
        injection e with e1 e2
        subst e1 e2
        refine ⟨_, _, rfl, Nat.lt_of_lt_of_le hb HB3.out.size, fun i hi => ?_⟩
        rw [World.cell?_of_block (a := ⟨bL, oL + i, none⟩) (HK3.out bL hb (HAP.out _ rfl))]
        exact hc i hi)
      have HV3 : Hid (∀ k, v3.ownBlock = some k → k < w3.heap.size) := Lib.hid (fun k hk => (World.ownsRow.lt HO3.out k hk).2)
      have HO4 : Hid (OI w3.heap.size (w3.alloc (.cells #[] 3)).drew (.slice (some ⟨w3.heap.size, 0, none⟩) 0 0) []) := Lib.hid ⟨rfl, .inr ⟨w3.heap.size, 0, #[], rfl, Nat.le_refl _, World.alloc_heap_new w3 _, Nat.le_refl _, Nat.zero_le _, rfl, rfl⟩⟩
      have hb4 : Below w3.heap.size w3 (w3.alloc (.cells #[] 3)).drew := ((Below.refl _ w3).alloc (Nat.le_refl _) _).drew
      have hz4 : (w3.alloc (.cells #[] 3)).drew.heap.size = w3.heap.size + 1 := by simp
      have hlc := HL.out.le
      rw [HLL.out] at hlc
      have hcm := HL.out.max
      obtain ⟨v5, w5, e5, ho5, hb5⟩ := run_append_list w3.heap.size _ [] HO4.out (some ⟨bL, oL, none⟩) d c ((lft (uns m K q) m).take d) (by rw [List.length_take, HLL.out]; omega) (((HL3.out.below hb4)).take_ d) (fun h => by cases h) (by rw [List.length_take, HLL.out]; simp; omega) (by rw [hz4]; omega)
      rw [List.nil_append] at ho5
      clear HO4
      obtain ⟨A5, c5, rfl, _⟩ := ho5.form
      have hl5 : ((lft (uns m K q) m).take d).length = d := by rw [List.length_take, HLL.out]; omega
      rw [hl5] at e5
      have ho5' : OI w3.heap.size w5 (.slice A5 d c5) ((lft (uns m K q) m).take d) := by rw [hl5] at ho5; exact ho5
      have hbb5 := hb4.trans hb5
      have hz5 := hbb5.size
      have hI6 : IA w5 (some ⟨bL, oL + (d + 1), none⟩) ((lft (uns m K q) m).drop (d + 1)) := (HL3.out.below hbb5).drop_ (d + 1)
      have hl6 : ((lft (uns m K q) m).drop (d + 1)).length = m - q - (d + 1) := by rw [List.length_drop, HLL.out]
      obtain ⟨v6, w6, e6, ho6, hb6⟩ := run_append_list w3.heap.size (.slice A5 d c5) ((lft (uns m K q) m).take d) ho5' (if c = d + 1 then some ⟨bL, oL, none⟩ else some ⟨bL, oL + (d + 1), none⟩) (m - q - (d + 1)) (c - (d + 1)) ((lft (uns m K q) m).drop (d + 1)) hl6.symm (by
        by_cases hcd : c = d + 1
        · intro hn
          rw [hl6] at hn
          omega
        · rw [if_neg hcd]
          exact hI6) (by split <;> intro h <;> cases h) (by rw [hl5, hl6]; omega) hz5
      have ho6' : OI w3.heap.size w6 v6 (lft (uns m K (q + 1)) m) := by rw [← HER.out]; exact ho6
      obtain ⟨A6, c6, rfl, hi6, hblk⟩ := ho6'.ins
      have HI6 := Lib.hid hi6
      have HBLK := Lib.hid hblk
      have HL7 : Hid ((lft (uns m K (q + 1)) m).length = m - (q + 1)) := Lib.hid (uns_ok K (q + 1) (by omega)).2.2
      rw [HL7.out] at e6
      have HO7 : Hid (OI w.heap.size w6 v3 (uns m K (q + 1))) := Lib.hid (by rw [HU1.out]; exact HO3.out.below (hbb5.trans hb6))
      have HY2 : Hid (Value.int .i64 y = .int .i64 ((K % fct (m - (q + 1)) : Nat) : Int)) := Lib.hid (by rw [← HY.out, show m - (q + 1) = m - 1 - q by omega])
      have HAP2 : Hid (∀ a, A6 = some a → v3.ownBlock ≠ some a.block) := Lib.hid (fun a e h => by
        have h1 := HV3.out _ h
        have h2 := (HBLK.out a e).1
        omega)
      have HB7 : Hid (Below w.heap.size w w6) := Lib.hid (HW3.out.trans ((hbb5.trans hb6).mono HW3.out.size))
      have HB6 := Lib.hid (hbb5.trans hb6)
      have hdc : d ≤ c := by omega
      have hdc2 : d + 1 ≤ c := by omega
      have hd8 : d ≤ 8 := by omega
      obtain ⟨L, HLm⟩ : ∃ L, Hid (m - q = L) := ⟨_, Lib.hid rfl⟩
      rw [HLm.out] at hdl e6 ⊢
      have hdl2 : d + 1 ≤ L := hdl
      clear HL HO hI6 ho5' hl6 hl5 ho5 hb4 hb5 hz4 hbb5 ho6 hb6 hi6 hblk ho6' hd3
      have i1 : (0 : Int) ≤ (d : Int) := by omega
      have i2 : (d : Int) ≤ 8 := by omega
      have i3 : (0 : Int) ≤ (d : Int) + 1 := by omega
      have i4 : (d : Int) + 1 ≤ (L : Int) := by omega
      have i5 : (d : Int) + 1 ≤ (c : Int) := by omega
      have i6 : (d : Int) ≤ (c : Int) := by omega
      have i7 : IntKind.i64.wrap ((d : Int) + 1) = (d : Int) + 1 := IntWalk.i64_in _ (by omega)
      have E5 := Lib.hid e5
      have E6 := Lib.hid e6
      clear e5 e6
      go_region_held3 (fun _ => True) (trivial) (first | (refine step_append_run (by rfl) (.tmp 51) (.tmp 54) (by rfl) (by rfl) (by rfl) (by rfl) E5.out ?_) | (refine step_append_run (by rfl) (.tmp 55) (.tmp 59) (by rfl) (by rfl) (by rfl) (by rfl) E6.out ?_))
      all_goals
        go_wp2
        go_roundw
        case rel => exact ⟨q + 1, v3, A6, c6, by omega, HY2.out, rfl, rfl, by go_num, HI6.out, HO7.out, HB7.out, HAP2.out⟩
        case measure => simp [intOf]; omega
    · obtain rfl : q = m := by omega
      go_wp2
      go_ret
      exact HO.out.row HB.out

set_option maxHeartbeats 1000000 in
theorem refUnrank_no (n k : Int) (w : World) (h : ¬ (0 ≤ n ∧ n ≤ 8 ∧ 0 ≤ k ∧ k < fct n.toNat)) :
    Calls Try.prog 41 #[.int .i64 n, .int .i64 k] w fun e w' => e = .returned (.slice none 0 0) ∧ w = w' := by
  by_cases h8 : 0 ≤ n ∧ n ≤ 8
  · obtain ⟨m, rfl⟩ : ∃ m : Nat, n = (m : Int) := ⟨n.toNat, by omega⟩
    have hm8 : m ≤ 8 := by omega
    by_cases hk : k < 0
    · clear h h8
      go_enter Try.func41, Try.ntmps41
      go_wp2
      go_ret
      exact ⟨rfl, rfl⟩
    · have hkf : ((fct m : Nat) : Int) ≤ k := by
        rw [Int.toNat_natCast] at h
        omega
      clear h h8
      go_enter Try.func41, Try.ntmps41
      go_wp2_with fail
      refine (fact_any m w hm8).mono ?_
      rintro e w' ⟨rfl, rfl⟩
      go_wp2
      go_ret
      exact ⟨rfl, rfl⟩
  · by_cases h0 : n < 0
    · clear h h8
      go_enter Try.func41, Try.ntmps41
      go_wp2
      go_ret
      exact ⟨rfl, rfl⟩
    · have h9 : 8 < n := by omega
      clear h h8
      go_enter Try.func41, Try.ntmps41
      go_wp2
      go_ret
      exact ⟨rfl, rfl⟩
theorem refUnrank_any (n k : Int) (w : World) : Calls Try.prog 41 #[.int .i64 n, .int .i64 k] w (RowP w (unF n k)) := by
  by_cases h : 0 ≤ n ∧ n ≤ 8 ∧ 0 ≤ k ∧ k < fct n.toNat
  · obtain ⟨m, rfl⟩ : ∃ m : Nat, n = (m : Int) := ⟨n.toNat, by omega⟩
    obtain ⟨K, rfl⟩ : ∃ K : Nat, k = (K : Int) := ⟨k.toNat, by omega⟩
    have e : unF m K = uns m K m := by unfold unF; rw [if_pos h]; simp
    rw [e]
    exact refUnrank_yes m K w (by omega) (by have := h.2.2.2; simpa using this)
  · have e : unF n k = [] := by unfold unF; rw [if_neg h]
    rw [e]
    refine (refUnrank_no n k w h).mono ?_
    rintro e w' ⟨rfl, rfl⟩
    exact RowP.nil rfl (Below.refl _ _)
theorem refRank_any (A : Option Addr) (c m : Nat) (p : List Int) (w : World) (hm : m = p.length) (hA : IA w A p) (ha : p.length ≤ 1000000) :
    Calls Try.prog 40 #[.slice A m c] w fun e w' => e = .returned (.int .i64 (rkF p)) ∧ ∃ j, w' = w.drewN j := by
  unfold rkF
  by_cases h : chk p = true
  · rw [if_pos h, ← hm]
    exact refRank_yes A c m p w hm hA (chk_iff.1 h)
  · rw [if_neg h]
    exact refRank_no A c m p w hm hA ha (by simpa using h)
end Go.Proofs.Ytkaddfbnlkmehaa
