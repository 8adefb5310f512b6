/- The document's Same. -/
import Derived.Test.YtophajljjnjcdaaWdDocS
import Derived.Test.YtophajljjnjcdaaWdSame
import Derived.Deep.CutRange
namespace Go.Proofs.Ytophajljjnjcdaa.wd
open Go.ChangeShapes Go.WideShapes Go.ChangeAt Go.RowKit Go.Deep sr lt nf

/-- A word's rows do not lie in a block. -/
structure Apt (X : WX) (st lp : List Int) (b : Nat) : Prop where
  a : 0 < st.length → ∀ q, X.A = some q → q.block ≠ b
  b : 0 < lp.length → ∀ q, X.B = some q → q.block ≠ b
theorem Apt.new {X : WX} {st lp : List Int} {b B : Nat} (na : ∀ a, X.A = some a → B ≤ a.block) (nb : ∀ a, X.B = some a → B ≤ a.block) (h : b < B) : Apt X st lp b :=
  ⟨fun _ q hq => by have := na q hq; omega, fun _ q hq => by have := nb q hq; omega⟩
theorem Apt.old {w : World} {X : WX} {st lp : List Int} {b : Nat} (hX : WdR w X st lp) (h : w.heap.size ≤ b) : Apt X st lp b := by
  constructor
  · intro h0 q hq
    obtain ⟨g, o, e, hb, _⟩ := hX.r1 h0
    rw [hq] at e
    injection e with e
    subst e
    show g ≠ b
    omega
  · intro h0 q hq
    obtain ⟨g, o, e, hb, _⟩ := hX.r2 h0
    rw [hq] at e
    injection e with e
    subst e
    show g ≠ b
    omega
theorem ua_put {w w' : World} {A : Option Addr} {l : List Int} {b : Nat} (h : UA w A l) (k : Turn (· = b) w w') (hT : 0 < l.length → ∀ a, A = some a → a.block ≠ b) : UA w' A l := fun hn => (h.turn k (fun a ha => hT hn a ha)) hn
theorem WdR.put {w w' : World} {X : WX} {st lp : List Int} {b : Nat} (h : WdR w X st lp) (k : Turn (· = b) w w') (m : Apt X st lp b) : WdR w' X st lp :=
  { h with r1 := ua_put h.r1 k m.a, r2 := ua_put h.r2 k m.b }
theorem zero_row (w : World) : (w.alloc (.cells #[.slice none 0 0, .slice none 0 0] 24)).rowIs w.heap.size 24 2 (fun _ => .slice none 0 0) :=
  World.rowIs_alloc w #[.slice none 0 0, .slice none 0 0] _ (fun _ => .slice none 0 0) (fun i hi => by
    have : i = 0 ∨ i = 1 := by simp at hi; omega
    rcases this with rfl | rfl <;> rfl)
/-- The two words in variables of their own. -/
structure SmW (w2 W : World) (P Q : Nat) (X Y : WX) (L1 L2 : List Int × List Int) : Prop where
  c0 : W.cell? ⟨P, 0, none⟩ = some (.slice X.A X.n X.c)
  c1 : W.cell? ⟨P, 1, none⟩ = some (.slice X.B X.m X.d)
  e0 : W.cell? ⟨Q, 0, none⟩ = some (.slice Y.A Y.n Y.c)
  e1 : W.cell? ⟨Q, 1, none⟩ = some (.slice Y.B Y.m Y.d)
  x : WdR W X L1.1 L1.2
  y : WdR W Y L2.1 L2.2
  hp : P < W.heap.size
  hq : Q < W.heap.size
  hb : Below w2.heap.size w2 W
theorem SmW.below {w2 W W' : World} {P Q : Nat} {X Y : WX} {L1 L2 : List Int × List Int} (h : SmW w2 W P Q X Y L1 L2) (k : Below W.heap.size W W') : SmW w2 W' P Q X Y L1 L2 where
  c0 := (k.cell (p := ⟨P, 0, none⟩) h.hp).trans h.c0
  c1 := (k.cell (p := ⟨P, 1, none⟩) h.hp).trans h.c1
  e0 := (k.cell (p := ⟨Q, 0, none⟩) h.hq).trans h.e0
  e1 := (k.cell (p := ⟨Q, 1, none⟩) h.hq).trans h.e1
  x := h.x.below k
  y := h.y.below k
  hp := Nat.lt_of_lt_of_le h.hp k.size
  hq := Nat.lt_of_lt_of_le h.hq k.size
  hb := h.hb.trans (k.mono h.hb.size)
theorem at_eq {st lp st2 lp2 : List Int} (h1 : st.length = st2.length) (h2 : lp.length = lp2.length) (h : ∀ j : Nat, j < st.length + lp.length → atF st lp (j : Int) = atF st2 lp2 (j : Int)) : st = st2 ∧ lp = lp2 := by
  have e : st ++ lp = st2 ++ lp2 := ext_getD (by rw [List.length_append, List.length_append, h1, h2]) (fun i hi => by
    rw [List.length_append] at hi
    rw [← at_sets hi, ← at_sets (by omega), h i hi])
  exact List.append_inj e h1
set_option maxRecDepth 20000 in
set_option maxHeartbeats 4000000 in
theorem refSame_any (x y : WX) (st lp st2 lp2 : List Int) (w : World) (hX : WdR w x st lp) (hY : WdR w y st2 lp2) : Calls Try.prog 26 #[x.v, y.v] w (ValP w (.bool (sameF st lp st2 lp2))) := by
  have HX := Lib.hid hX
  have HY := Lib.hid hY
  have hlp := hX.n2
  have hlp2 := hY.n2
  have HC1 := Lib.hid (fun W => refCheck_any x W HX.out.b1 HX.out.b2)
  have HC2 := Lib.hid (fun W => refCheck_any y W HY.out.b1 HY.out.b2)
  clear hX hY
  obtain ⟨A, n, c, B, m, d⟩ := x
  obtain ⟨C, n2, c2, D, m2, d2⟩ := y
  unfold WX.v at HC1 HC2 ⊢
  dsimp only at hlp hlp2 HC1 HC2 ⊢
  obtain ⟨w2, HW2, HB2, HS2, HRR⟩ := two_boxes w (.slice A n c) (.slice B m d) (.slice C n2 c2) (.slice D m2 d2)
  have HS : Hid (∀ W, Below w2.heap.size w2 W → W.cell? ⟨w.heap.size, 0, none⟩ = some (.slice A n c) ∧ W.cell? ⟨w.heap.size, 1, none⟩ = some (.slice B m d) ∧ W.cell? ⟨w.heap.size + 1, 0, none⟩ = some (.slice C n2 c2) ∧ W.cell? ⟨w.heap.size + 1, 1, none⟩ = some (.slice D m2 d2)) := Lib.hid (fun W hW => by
    obtain ⟨r1, r2⟩ := HRR.out W hW
    exact ⟨r1.cell (i := 0) (by decide), r1.cell (i := 1) (by decide), r2.cell (i := 0) (by decide), r2.cell (i := 1) (by decide)⟩)
  obtain ⟨p1, p2, p3, p4⟩ := HS.out w2 (Below.refl _ _)
  obtain ⟨z, HZ⟩ : ∃ z, Hid (sameF st lp st2 lp2 = z) := ⟨_, Lib.hid rfl⟩
  rw [HZ.out]
  by_cases h0 : m = 0
  · have hz : z = false := by rw [← HZ.out]; exact same_no1 (.inl (by omega))
    subst hz
    have hk : chkF m = 8 := if_pos h0
    rw [hk] at HC1
    subst h0
    clear hk hlp hlp2
    go_enter Try.func26, Try.ntmps26
    go_upto_region 1 with (fail)
    clear HW2
    go_wp2_with fail
    refine (HC1.out _).mono ?_
    rintro e3 w3 ⟨rfl, hb3⟩
    have HB3 := Lib.hid (HB2.out.trans (hb3.mono HB2.out.size))
    clear hb3 p1 p2 p3 p4
    go_wp2
    go_ret
    exact ⟨rfl, HB3.out⟩
  have hk : chkF m = 0 := if_neg h0
  rw [hk] at HC1
  by_cases h02 : m2 = 0
  · have hz : z = false := by rw [← HZ.out]; exact same_no1 (.inr (by omega))
    subst hz
    have hk2 : chkF m2 = 8 := if_pos h02
    rw [hk2] at HC2
    subst h02
    clear hk hk2 h0 hlp hlp2
    go_enter Try.func26, Try.ntmps26
    go_upto_region 1 with (fail)
    clear HW2
    go_wp2_with fail
    refine (HC1.out _).mono ?_
    rintro e3 w3 ⟨rfl, hb3⟩
    have HB3 := Lib.hid hb3
    clear p1 p2 p3 p4
    obtain ⟨p1, p2, p3, p4⟩ := HS.out w3 HB3.out
    clear hb3
    go_wp2_with fail
    refine (HC2.out _).mono ?_
    rintro e4 w4 ⟨rfl, hb4⟩
    have HB4 := Lib.hid (HB2.out.trans ((HB3.out.trans (hb4.mono HB3.out.size)).mono HB2.out.size))
    clear hb4 p1 p2 p3 p4
    go_wp2
    go_ret
    exact ⟨rfl, HB4.out⟩
  have hk2 : chkF m2 = 0 := if_neg h02
  rw [hk2] at HC2
  have HZ2 : Hid (z = decide (nrmF st lp = nrmF st2 lp2)) := Lib.hid (by rw [← HZ.out]; unfold sameF; rw [decide_eq_true (show 0 < lp.length by omega), decide_eq_true (show 0 < lp2.length by omega)]; rfl)
  have HLP1 := Lib.hid (nrm_pos (st := st) (lp := lp) (by omega))
  have HLP2 := Lib.hid (nrm_pos (st := st2) (lp := lp2) (by omega))
  have HN1 : Hid (∀ W, Below w2.heap.size w2 W → Calls Try.prog 22 #[.agg #[.slice A n c, .slice B m d]] W (WordP W (nrmF st lp).1 (nrmF st lp).2)) := Lib.hid (fun W hW => refNorm_new ⟨A, n, c, B, m, d⟩ st lp W (HX.out.below (HB2.out.trans (hW.mono HB2.out.size))) h0)
  have HN2 : Hid (∀ W, Below w2.heap.size w2 W → Calls Try.prog 22 #[.agg #[.slice C n2 c2, .slice D m2 d2]] W (WordP W (nrmF st2 lp2).1 (nrmF st2 lp2).2)) := Lib.hid (fun W hW => refNorm_new ⟨C, n2, c2, D, m2, d2⟩ st2 lp2 W (HY.out.below (HB2.out.trans (hW.mono HB2.out.size))) h02)
  obtain ⟨L1, HL1⟩ : ∃ L1, Hid (nrmF st lp = L1) := ⟨_, Lib.hid rfl⟩
  obtain ⟨L2, HL2⟩ : ∃ L2, Hid (nrmF st2 lp2 = L2) := ⟨_, Lib.hid rfl⟩
  rw [HL1.out] at HN1 HZ2 HLP1
  rw [HL2.out] at HN2 HZ2 HLP2
  clear hk hk2 h0 h02 hlp hlp2 HZ
  go_enter Try.func26, Try.ntmps26
  go_upto_region 1 with (fail)
  clear HW2
  go_wp2_with fail
  refine (HC1.out _).mono ?_
  rintro e3 w7 ⟨rfl, hb3⟩
  have HB7 := Lib.hid hb3
  clear p1 p2 p3 p4
  obtain ⟨p1, p2, p3, p4⟩ := HS.out w7 HB7.out
  clear hb3
  go_wp2_with fail
  refine (HC2.out _).mono ?_
  rintro e4 w9 ⟨rfl, hb4⟩
  have HB9 := Lib.hid (HB7.out.trans (hb4.mono HB7.out.size))
  clear p1 p2 p3 p4
  obtain ⟨p1, p2, p3, p4⟩ := HS.out w9 HB9.out
  clear hb4
  go_upto_region 3 with (fail)
  clear p1 p2 p3 p4
  have HKEEP := HB9
  go_cut [5, 6] from 16 (fun pv qv W => ∃ (P Q : Nat) (X Y : WX), pv = .pointer (some ⟨P, 0, none⟩) ∧ qv = .pointer (some ⟨Q, 0, none⟩) ∧ Hid (SmW w2 W P Q X Y L1 L2))
  case first =>
    refine wp_region_held_drew (S := (fun W => W.cell? ⟨w.heap.size, 0, none⟩ = some (.slice A n c) ∧ W.cell? ⟨w.heap.size, 1, none⟩ = some (.slice B m d) ∧ W.cell? ⟨w.heap.size + 1, 0, none⟩ = some (.slice C n2 c2) ∧ W.cell? ⟨w.heap.size + 1, 1, none⟩ = some (.slice D m2 d2))) (by kernel_rfl) (HS.out w9.drew HB9.out.drew) (fun hS0 => ?_)
    have HR0 := Lib.hid hS0
    clear hS0
    simp only [Array.replicate, List.replicate]
    refine wpAnyH_take (i := 0) (oi := ⟨some 16, _, _, _, _, _⟩) (v := .agg #[.slice A n c, .slice B m d]) rfl (by kernel_rfl) (by kernel_rfl) (by kernel_rfl) (fun _ _ _ h => h) (Or.inl ⟨by kernel_rfl, fun w9 hS => ?_⟩) HR0.out ?_
    · obtain ⟨s0, s1, s2, s3⟩ := hS
      go_simp
    try simp only [Act.put, List.setIfInBounds_toArray, List.set_cons_zero, List.set_cons_succ]
    refine wpAnyH_take (i := 2) (oi := ⟨some 18, _, _, _, _, _⟩) (v := .agg #[.slice C n2 c2, .slice D m2 d2]) rfl (by kernel_rfl) (by kernel_rfl) (by kernel_rfl) (fun _ _ _ h => h) (Or.inl ⟨by kernel_rfl, fun w9 hS => ?_⟩) HR0.out ?_
    · obtain ⟨s0, s1, s2, s3⟩ := hS
      go_simp
    try simp only [Act.put, List.setIfInBounds_toArray, List.set_cons_zero, List.set_cons_succ]
    refine wpAnyH_ready (rs := [1, 4, 5]) (by kernel_rfl) (by simp) ?_
    refine AllReadyH.cons (o := ⟨some 17, _, _, _, _, _⟩) rfl (fun K hK => ?_) (AllReadyH.cons (o := ⟨some 5, _, _, _, _, _⟩) rfl (fun K hK => ?_) (AllReadyH.cons (o := ⟨some 6, _, _, _, _, _⟩) rfl (fun K hK => ?_) AllReadyH.nil))
    · rw [if_pos (by kernel_rfl)]
      go_simp
      go_at_call 22
      refine (HN1.out _ (HKEEP.out.drew)).mono ?_
      rintro e u1 ⟨X, rfl, hx, hb, na, nb⟩
      obtain ⟨A3, n3, c3, B3, m3, d3⟩ := X
      unfold WX.v
      dsimp only at na nb ⊢
      have HKEEP : Hid (Below w2.heap.size w2 u1) := Lib.hid ((HKEEP.out.drew).trans (hb.mono (HKEEP.out.drew).size))
      have X1 := Lib.hid hx
      have HR1 : Hid _ := Lib.hid (HS.out _ HKEEP.out)
      refine hK.out _ _ HR1.out (fun _ => ?_)
      clear hK K hx hb na nb
      try simp only [Act.put, List.setIfInBounds_toArray, List.set_cons_zero, List.set_cons_succ]
      refine wpAnyH_ready (rs := [3, 4, 5]) (by kernel_rfl) (by simp) ?_
      refine AllReadyH.cons (o := ⟨some 19, _, _, _, _, _⟩) rfl (fun K hK => ?_) (AllReadyH.cons (o := ⟨some 5, _, _, _, _, _⟩) rfl (fun K hK => ?_) (AllReadyH.cons (o := ⟨some 6, _, _, _, _, _⟩) rfl (fun K hK => ?_) AllReadyH.nil))
      · rw [if_pos (by kernel_rfl)]
        go_simp
        go_at_call 22
        refine (HN2.out _ (HKEEP.out)).mono ?_
        rintro e u2 ⟨X, rfl, hx, hb, na, nb⟩
        obtain ⟨A4, n4, c4, B4, m4, d4⟩ := X
        unfold WX.v
        dsimp only at na nb ⊢
        have HKEEP : Hid (Below w2.heap.size w2 u2) := Lib.hid ((HKEEP.out).trans (hb.mono (HKEEP.out).size))
        have X1 := Lib.hid (X1.out.below hb)
        have X3 := Lib.hid hx
        have HR2 : Hid _ := Lib.hid (HS.out _ HKEEP.out)
        refine hK.out _ _ HR2.out (fun _ => ?_)
        clear hK K hx hb na nb
        try simp only [Act.put, List.setIfInBounds_toArray, List.set_cons_zero, List.set_cons_succ]
        refine wpAnyH_ready (rs := [4, 5]) (by kernel_rfl) (by simp) ?_
        refine AllReadyH.cons (o := ⟨some 5, _, _, _, _, _⟩) rfl (fun K hK => ?_) (AllReadyH.cons (o := ⟨some 6, _, _, _, _, _⟩) rfl (fun K hK => ?_) AllReadyH.nil)
        · rw [if_pos (by kernel_rfl)]
          go_simp
          have HZ4 : Hid (w2.heap.size ≤ u2.heap.size) := Lib.hid HKEEP.out.size
          have hB : Below u2.heap.size u2 (u2.alloc (.cells #[.slice none 0 0, .slice none 0 0] 24)) := (below_one u2 _)
          have hF : (u2.alloc (.cells #[.slice none 0 0, .slice none 0 0] 24)).rowIs u2.heap.size 24 2 (fun _ => .slice none 0 0) := zero_row u2
          have HKEEP : Hid (Below w2.heap.size w2 (u2.alloc (.cells #[.slice none 0 0, .slice none 0 0] 24))) := Lib.hid (HKEEP.out.trans (hB.mono HKEEP.out.size))
          have M1_4 := Lib.hid (Apt.old X1.out (b := u2.heap.size) (Nat.le_refl _))
          have X1 := Lib.hid (X1.out.below hB)
          have M3_4 := Lib.hid (Apt.old X3.out (b := u2.heap.size) (Nat.le_refl _))
          have X3 := Lib.hid (X3.out.below hB)
          have F4 := Lib.hid hF
          have HR3 : Hid _ := Lib.hid (HS.out _ HKEEP.out)
          refine hK.out _ _ HR3.out (fun _ => ?_)
          clear hK K hB hF
          try dsimp only
          generalize (u2.alloc (.cells #[.slice none 0 0, .slice none 0 0] 24)) = u3 at *
          refine wpAnyH_ready (rs := [5]) (by kernel_rfl) (by simp) ?_
          refine AllReadyH.cons (o := ⟨some 6, _, _, _, _, _⟩) rfl (fun K hK => ?_) AllReadyH.nil
          rw [if_pos (by kernel_rfl)]
          go_simp
          have HZ5 : Hid (w2.heap.size ≤ u3.heap.size) := Lib.hid HKEEP.out.size
          have hB : Below u3.heap.size u3 (u3.alloc (.cells #[.slice none 0 0, .slice none 0 0] 24)) := (below_one u3 _)
          have hF : (u3.alloc (.cells #[.slice none 0 0, .slice none 0 0] 24)).rowIs u3.heap.size 24 2 (fun _ => .slice none 0 0) := zero_row u3
          have HKEEP : Hid (Below w2.heap.size w2 (u3.alloc (.cells #[.slice none 0 0, .slice none 0 0] 24))) := Lib.hid (HKEEP.out.trans (hB.mono HKEEP.out.size))
          have N4_5 : Hid (u2.heap.size ≠ u3.heap.size) := Lib.hid (by have := F4.out.lt; omega)
          have F4 := Lib.hid (F4.out.of_block (hB.block _ F4.out.lt))
          have M1_5 := Lib.hid (Apt.old X1.out (b := u3.heap.size) (Nat.le_refl _))
          have X1 := Lib.hid (X1.out.below hB)
          have M3_5 := Lib.hid (Apt.old X3.out (b := u3.heap.size) (Nat.le_refl _))
          have X3 := Lib.hid (X3.out.below hB)
          have F5 := Lib.hid hF
          have HR4 : Hid _ := Lib.hid (HS.out _ HKEEP.out)
          refine hK.out _ _ HR4.out (fun _ => ?_)
          clear hK K hB hF
          try dsimp only
          generalize (u3.alloc (.cells #[.slice none 0 0, .slice none 0 0] 24)) = u4 at *
          have NE : Hid (¬ u2.heap.size = u3.heap.size) := Lib.hid (by first | exact N4_5.out | exact fun e => N5_4.out e.symm)
          obtain ⟨v1, HWv1, e0, e1, ht, d0, d1, f0, f1, d2, f2⟩ := put_word F4.out (.slice A3 n3 c3) (.slice B3 m3 d3)
          refine wpAnyH_ready (rs := [6]) (by kernel_rfl) (by simp) ?_
          refine AllReadyH.cons (o := ⟨none, _, _, _, _, _⟩) rfl (fun K hK => ?_) AllReadyH.nil
          go_simp
          try rw [HWv1]
          clear HWv1 d0 d1 d2 f0 f1 f2
          have HKEEP : Hid (Below w2.heap.size w2 v1) := Lib.hid (HKEEP.out.trans (ht.below (fun q hq => by have := HZ4.out; omega) HKEEP.out.size))
          have X1 := Lib.hid (X1.out.put ht M1_4.out)
          have X3 := Lib.hid (X3.out.put ht M3_4.out)
          have E4 : Hid (v1.cell? ⟨u2.heap.size, 0, none⟩ = some (.slice A3 n3 c3) ∧ v1.cell? ⟨u2.heap.size, 1, none⟩ = some (.slice B3 m3 d3) ∧ u2.heap.size < v1.heap.size) := Lib.hid ⟨e0, e1, Nat.lt_of_lt_of_le F4.out.lt ht.size⟩
          have F5 := Lib.hid (F5.out.of_block (ht.block _ F5.out.lt (by have := NE.out; omega)))
          have HRv1 : Hid _ := Lib.hid (HS.out _ HKEEP.out)
          refine hK.out _ _ HRv1.out (fun _ => ?_)
          clear hK K ht e0 e1
          try dsimp only
          obtain ⟨v2, HWv2, e0, e1, ht, d0, d1, f0, f1, d2, f2⟩ := put_word F5.out (.slice A4 n4 c4) (.slice B4 m4 d4)
          refine wpAnyH_ready (rs := [7]) (by kernel_rfl) (by simp) ?_
          refine AllReadyH.cons (o := ⟨none, _, _, _, _, _⟩) rfl (fun K hK => ?_) AllReadyH.nil
          go_simp
          try rw [HWv2]
          clear HWv2 d0 d1 d2 f0 f1 f2
          have HKEEP : Hid (Below w2.heap.size w2 v2) := Lib.hid (HKEEP.out.trans (ht.below (fun q hq => by have := HZ5.out; omega) HKEEP.out.size))
          have X1 := Lib.hid (X1.out.put ht M1_5.out)
          have X3 := Lib.hid (X3.out.put ht M3_5.out)
          have E5 : Hid (v2.cell? ⟨u3.heap.size, 0, none⟩ = some (.slice A4 n4 c4) ∧ v2.cell? ⟨u3.heap.size, 1, none⟩ = some (.slice B4 m4 d4) ∧ u3.heap.size < v2.heap.size) := Lib.hid ⟨e0, e1, Nat.lt_of_lt_of_le F5.out.lt ht.size⟩
          have E4 : Hid (v2.cell? ⟨u2.heap.size, 0, none⟩ = some (.slice A3 n3 c3) ∧ v2.cell? ⟨u2.heap.size, 1, none⟩ = some (.slice B3 m3 d3) ∧ u2.heap.size < v2.heap.size) := Lib.hid ⟨(ht.cell (p := ⟨u2.heap.size, 0, none⟩) E4.out.2.2 (by show ¬ _ = _; exact NE.out)).trans E4.out.1, (ht.cell (p := ⟨u2.heap.size, 1, none⟩) E4.out.2.2 (by show ¬ _ = _; exact NE.out)).trans E4.out.2.1, Nat.lt_of_lt_of_le E4.out.2.2 ht.size⟩
          have HRv2 : Hid _ := Lib.hid (HS.out _ HKEEP.out)
          refine hK.out _ _ HRv2.out (fun _ => ?_)
          clear hK K ht e0 e1
          try dsimp only
          refine wpAnyH_done (by kernel_rfl) ?_ _
          have HFIN : Hid (SmW w2 v2 u2.heap.size u3.heap.size ⟨A3, n3, c3, B3, m3, d3⟩ ⟨A4, n4, c4, B4, m4, d4⟩ L1 L2) := Lib.hid ⟨E4.out.1, E4.out.2.1, E5.out.1, E5.out.2.1, X1.out, X3.out, E4.out.2.2, E5.out.2.2, HKEEP.out⟩
          go_wp2
          go_meet
          case rel => exact ⟨u2.heap.size, u3.heap.size, ⟨A3, n3, c3, B3, m3, d3⟩, ⟨A4, n4, c4, B4, m4, d4⟩, rfl, rfl, HFIN⟩
        · rw [if_pos (by kernel_rfl)]
          go_simp
          have HZ5 : Hid (w2.heap.size ≤ u2.heap.size) := Lib.hid HKEEP.out.size
          have hB : Below u2.heap.size u2 (u2.alloc (.cells #[.slice none 0 0, .slice none 0 0] 24)) := (below_one u2 _)
          have hF : (u2.alloc (.cells #[.slice none 0 0, .slice none 0 0] 24)).rowIs u2.heap.size 24 2 (fun _ => .slice none 0 0) := zero_row u2
          have HKEEP : Hid (Below w2.heap.size w2 (u2.alloc (.cells #[.slice none 0 0, .slice none 0 0] 24))) := Lib.hid (HKEEP.out.trans (hB.mono HKEEP.out.size))
          have M1_5 := Lib.hid (Apt.old X1.out (b := u2.heap.size) (Nat.le_refl _))
          have X1 := Lib.hid (X1.out.below hB)
          have M3_5 := Lib.hid (Apt.old X3.out (b := u2.heap.size) (Nat.le_refl _))
          have X3 := Lib.hid (X3.out.below hB)
          have F5 := Lib.hid hF
          have HR5 : Hid _ := Lib.hid (HS.out _ HKEEP.out)
          refine hK.out _ _ HR5.out (fun _ => ?_)
          clear hK K hB hF
          try dsimp only
          generalize (u2.alloc (.cells #[.slice none 0 0, .slice none 0 0] 24)) = u5 at *
          refine wpAnyH_ready (rs := [4]) (by kernel_rfl) (by simp) ?_
          refine AllReadyH.cons (o := ⟨some 5, _, _, _, _, _⟩) rfl (fun K hK => ?_) AllReadyH.nil
          rw [if_pos (by kernel_rfl)]
          go_simp
          have HZ4 : Hid (w2.heap.size ≤ u5.heap.size) := Lib.hid HKEEP.out.size
          have hB : Below u5.heap.size u5 (u5.alloc (.cells #[.slice none 0 0, .slice none 0 0] 24)) := (below_one u5 _)
          have hF : (u5.alloc (.cells #[.slice none 0 0, .slice none 0 0] 24)).rowIs u5.heap.size 24 2 (fun _ => .slice none 0 0) := zero_row u5
          have HKEEP : Hid (Below w2.heap.size w2 (u5.alloc (.cells #[.slice none 0 0, .slice none 0 0] 24))) := Lib.hid (HKEEP.out.trans (hB.mono HKEEP.out.size))
          have N5_4 : Hid (u2.heap.size ≠ u5.heap.size) := Lib.hid (by have := F5.out.lt; omega)
          have F5 := Lib.hid (F5.out.of_block (hB.block _ F5.out.lt))
          have M1_4 := Lib.hid (Apt.old X1.out (b := u5.heap.size) (Nat.le_refl _))
          have X1 := Lib.hid (X1.out.below hB)
          have M3_4 := Lib.hid (Apt.old X3.out (b := u5.heap.size) (Nat.le_refl _))
          have X3 := Lib.hid (X3.out.below hB)
          have F4 := Lib.hid hF
          have HR6 : Hid _ := Lib.hid (HS.out _ HKEEP.out)
          refine hK.out _ _ HR6.out (fun _ => ?_)
          clear hK K hB hF
          try dsimp only
          generalize (u5.alloc (.cells #[.slice none 0 0, .slice none 0 0] 24)) = u6 at *
          have NE : Hid (¬ u5.heap.size = u2.heap.size) := Lib.hid (by first | exact N4_5.out | exact fun e => N5_4.out e.symm)
          obtain ⟨v1, HWv1, e0, e1, ht, d0, d1, f0, f1, d2, f2⟩ := put_word F4.out (.slice A3 n3 c3) (.slice B3 m3 d3)
          refine wpAnyH_ready (rs := [6]) (by kernel_rfl) (by simp) ?_
          refine AllReadyH.cons (o := ⟨none, _, _, _, _, _⟩) rfl (fun K hK => ?_) AllReadyH.nil
          go_simp
          try rw [HWv1]
          clear HWv1 d0 d1 d2 f0 f1 f2
          have HKEEP : Hid (Below w2.heap.size w2 v1) := Lib.hid (HKEEP.out.trans (ht.below (fun q hq => by have := HZ4.out; omega) HKEEP.out.size))
          have X1 := Lib.hid (X1.out.put ht M1_4.out)
          have X3 := Lib.hid (X3.out.put ht M3_4.out)
          have E4 : Hid (v1.cell? ⟨u5.heap.size, 0, none⟩ = some (.slice A3 n3 c3) ∧ v1.cell? ⟨u5.heap.size, 1, none⟩ = some (.slice B3 m3 d3) ∧ u5.heap.size < v1.heap.size) := Lib.hid ⟨e0, e1, Nat.lt_of_lt_of_le F4.out.lt ht.size⟩
          have F5 := Lib.hid (F5.out.of_block (ht.block _ F5.out.lt (by have := NE.out; omega)))
          have HRv1 : Hid _ := Lib.hid (HS.out _ HKEEP.out)
          refine hK.out _ _ HRv1.out (fun _ => ?_)
          clear hK K ht e0 e1
          try dsimp only
          obtain ⟨v2, HWv2, e0, e1, ht, d0, d1, f0, f1, d2, f2⟩ := put_word F5.out (.slice A4 n4 c4) (.slice B4 m4 d4)
          refine wpAnyH_ready (rs := [7]) (by kernel_rfl) (by simp) ?_
          refine AllReadyH.cons (o := ⟨none, _, _, _, _, _⟩) rfl (fun K hK => ?_) AllReadyH.nil
          go_simp
          try rw [HWv2]
          clear HWv2 d0 d1 d2 f0 f1 f2
          have HKEEP : Hid (Below w2.heap.size w2 v2) := Lib.hid (HKEEP.out.trans (ht.below (fun q hq => by have := HZ5.out; omega) HKEEP.out.size))
          have X1 := Lib.hid (X1.out.put ht M1_5.out)
          have X3 := Lib.hid (X3.out.put ht M3_5.out)
          have E5 : Hid (v2.cell? ⟨u2.heap.size, 0, none⟩ = some (.slice A4 n4 c4) ∧ v2.cell? ⟨u2.heap.size, 1, none⟩ = some (.slice B4 m4 d4) ∧ u2.heap.size < v2.heap.size) := Lib.hid ⟨e0, e1, Nat.lt_of_lt_of_le F5.out.lt ht.size⟩
          have E4 : Hid (v2.cell? ⟨u5.heap.size, 0, none⟩ = some (.slice A3 n3 c3) ∧ v2.cell? ⟨u5.heap.size, 1, none⟩ = some (.slice B3 m3 d3) ∧ u5.heap.size < v2.heap.size) := Lib.hid ⟨(ht.cell (p := ⟨u5.heap.size, 0, none⟩) E4.out.2.2 (by show ¬ _ = _; exact NE.out)).trans E4.out.1, (ht.cell (p := ⟨u5.heap.size, 1, none⟩) E4.out.2.2 (by show ¬ _ = _; exact NE.out)).trans E4.out.2.1, Nat.lt_of_lt_of_le E4.out.2.2 ht.size⟩
          have HRv2 : Hid _ := Lib.hid (HS.out _ HKEEP.out)
          refine hK.out _ _ HRv2.out (fun _ => ?_)
          clear hK K ht e0 e1
          try dsimp only
          refine wpAnyH_done (by kernel_rfl) ?_ _
          have HFIN : Hid (SmW w2 v2 u5.heap.size u2.heap.size ⟨A3, n3, c3, B3, m3, d3⟩ ⟨A4, n4, c4, B4, m4, d4⟩ L1 L2) := Lib.hid ⟨E4.out.1, E4.out.2.1, E5.out.1, E5.out.2.1, X1.out, X3.out, E4.out.2.2, E5.out.2.2, HKEEP.out⟩
          go_wp2
          go_meet
          case rel => exact ⟨u5.heap.size, u2.heap.size, ⟨A3, n3, c3, B3, m3, d3⟩, ⟨A4, n4, c4, B4, m4, d4⟩, rfl, rfl, HFIN⟩
      · rw [if_pos (by kernel_rfl)]
        go_simp
        have HZ4 : Hid (w2.heap.size ≤ u1.heap.size) := Lib.hid HKEEP.out.size
        have hB : Below u1.heap.size u1 (u1.alloc (.cells #[.slice none 0 0, .slice none 0 0] 24)) := (below_one u1 _)
        have hF : (u1.alloc (.cells #[.slice none 0 0, .slice none 0 0] 24)).rowIs u1.heap.size 24 2 (fun _ => .slice none 0 0) := zero_row u1
        have HKEEP : Hid (Below w2.heap.size w2 (u1.alloc (.cells #[.slice none 0 0, .slice none 0 0] 24))) := Lib.hid (HKEEP.out.trans (hB.mono HKEEP.out.size))
        have M1_4 := Lib.hid (Apt.old X1.out (b := u1.heap.size) (Nat.le_refl _))
        have X1 := Lib.hid (X1.out.below hB)
        have F4 := Lib.hid hF
        have HR7 : Hid _ := Lib.hid (HS.out _ HKEEP.out)
        refine hK.out _ _ HR7.out (fun _ => ?_)
        clear hK K hB hF
        try dsimp only
        generalize (u1.alloc (.cells #[.slice none 0 0, .slice none 0 0] 24)) = u7 at *
        refine wpAnyH_ready (rs := [3, 5]) (by kernel_rfl) (by simp) ?_
        refine AllReadyH.cons (o := ⟨some 19, _, _, _, _, _⟩) rfl (fun K hK => ?_) (AllReadyH.cons (o := ⟨some 6, _, _, _, _, _⟩) rfl (fun K hK => ?_) AllReadyH.nil)
        · rw [if_pos (by kernel_rfl)]
          go_simp
          go_at_call 22
          refine (HN2.out _ (HKEEP.out)).mono ?_
          rintro e u8 ⟨X, rfl, hx, hb, na, nb⟩
          obtain ⟨A4, n4, c4, B4, m4, d4⟩ := X
          unfold WX.v
          dsimp only at na nb ⊢
          have M3_4 := Lib.hid (Apt.new (X := ⟨A4, n4, c4, B4, m4, d4⟩) (st := L2.1) (lp := L2.2) na nb F4.out.lt)
          have F4 := Lib.hid (F4.out.of_block (hb.block _ F4.out.lt))
          have HKEEP : Hid (Below w2.heap.size w2 u8) := Lib.hid ((HKEEP.out).trans (hb.mono (HKEEP.out).size))
          have X1 := Lib.hid (X1.out.below hb)
          have X3 := Lib.hid hx
          have HR8 : Hid _ := Lib.hid (HS.out _ HKEEP.out)
          refine hK.out _ _ HR8.out (fun _ => ?_)
          clear hK K hx hb na nb
          try simp only [Act.put, List.setIfInBounds_toArray, List.set_cons_zero, List.set_cons_succ]
          refine wpAnyH_ready (rs := [5]) (by kernel_rfl) (by simp) ?_
          refine AllReadyH.cons (o := ⟨some 6, _, _, _, _, _⟩) rfl (fun K hK => ?_) AllReadyH.nil
          rw [if_pos (by kernel_rfl)]
          go_simp
          have HZ5 : Hid (w2.heap.size ≤ u8.heap.size) := Lib.hid HKEEP.out.size
          have hB : Below u8.heap.size u8 (u8.alloc (.cells #[.slice none 0 0, .slice none 0 0] 24)) := (below_one u8 _)
          have hF : (u8.alloc (.cells #[.slice none 0 0, .slice none 0 0] 24)).rowIs u8.heap.size 24 2 (fun _ => .slice none 0 0) := zero_row u8
          have HKEEP : Hid (Below w2.heap.size w2 (u8.alloc (.cells #[.slice none 0 0, .slice none 0 0] 24))) := Lib.hid (HKEEP.out.trans (hB.mono HKEEP.out.size))
          have N4_5 : Hid (u1.heap.size ≠ u8.heap.size) := Lib.hid (by have := F4.out.lt; omega)
          have F4 := Lib.hid (F4.out.of_block (hB.block _ F4.out.lt))
          have M1_5 := Lib.hid (Apt.old X1.out (b := u8.heap.size) (Nat.le_refl _))
          have X1 := Lib.hid (X1.out.below hB)
          have M3_5 := Lib.hid (Apt.old X3.out (b := u8.heap.size) (Nat.le_refl _))
          have X3 := Lib.hid (X3.out.below hB)
          have F5 := Lib.hid hF
          have HR9 : Hid _ := Lib.hid (HS.out _ HKEEP.out)
          refine hK.out _ _ HR9.out (fun _ => ?_)
          clear hK K hB hF
          try dsimp only
          generalize (u8.alloc (.cells #[.slice none 0 0, .slice none 0 0] 24)) = u9 at *
          have NE : Hid (¬ u1.heap.size = u8.heap.size) := Lib.hid (by first | exact N4_5.out | exact fun e => N5_4.out e.symm)
          obtain ⟨v1, HWv1, e0, e1, ht, d0, d1, f0, f1, d2, f2⟩ := put_word F4.out (.slice A3 n3 c3) (.slice B3 m3 d3)
          refine wpAnyH_ready (rs := [6]) (by kernel_rfl) (by simp) ?_
          refine AllReadyH.cons (o := ⟨none, _, _, _, _, _⟩) rfl (fun K hK => ?_) AllReadyH.nil
          go_simp
          try rw [HWv1]
          clear HWv1 d0 d1 d2 f0 f1 f2
          have HKEEP : Hid (Below w2.heap.size w2 v1) := Lib.hid (HKEEP.out.trans (ht.below (fun q hq => by have := HZ4.out; omega) HKEEP.out.size))
          have X1 := Lib.hid (X1.out.put ht M1_4.out)
          have X3 := Lib.hid (X3.out.put ht M3_4.out)
          have E4 : Hid (v1.cell? ⟨u1.heap.size, 0, none⟩ = some (.slice A3 n3 c3) ∧ v1.cell? ⟨u1.heap.size, 1, none⟩ = some (.slice B3 m3 d3) ∧ u1.heap.size < v1.heap.size) := Lib.hid ⟨e0, e1, Nat.lt_of_lt_of_le F4.out.lt ht.size⟩
          have F5 := Lib.hid (F5.out.of_block (ht.block _ F5.out.lt (by have := NE.out; omega)))
          have HRv1 : Hid _ := Lib.hid (HS.out _ HKEEP.out)
          refine hK.out _ _ HRv1.out (fun _ => ?_)
          clear hK K ht e0 e1
          try dsimp only
          obtain ⟨v2, HWv2, e0, e1, ht, d0, d1, f0, f1, d2, f2⟩ := put_word F5.out (.slice A4 n4 c4) (.slice B4 m4 d4)
          refine wpAnyH_ready (rs := [7]) (by kernel_rfl) (by simp) ?_
          refine AllReadyH.cons (o := ⟨none, _, _, _, _, _⟩) rfl (fun K hK => ?_) AllReadyH.nil
          go_simp
          try rw [HWv2]
          clear HWv2 d0 d1 d2 f0 f1 f2
          have HKEEP : Hid (Below w2.heap.size w2 v2) := Lib.hid (HKEEP.out.trans (ht.below (fun q hq => by have := HZ5.out; omega) HKEEP.out.size))
          have X1 := Lib.hid (X1.out.put ht M1_5.out)
          have X3 := Lib.hid (X3.out.put ht M3_5.out)
          have E5 : Hid (v2.cell? ⟨u8.heap.size, 0, none⟩ = some (.slice A4 n4 c4) ∧ v2.cell? ⟨u8.heap.size, 1, none⟩ = some (.slice B4 m4 d4) ∧ u8.heap.size < v2.heap.size) := Lib.hid ⟨e0, e1, Nat.lt_of_lt_of_le F5.out.lt ht.size⟩
          have E4 : Hid (v2.cell? ⟨u1.heap.size, 0, none⟩ = some (.slice A3 n3 c3) ∧ v2.cell? ⟨u1.heap.size, 1, none⟩ = some (.slice B3 m3 d3) ∧ u1.heap.size < v2.heap.size) := Lib.hid ⟨(ht.cell (p := ⟨u1.heap.size, 0, none⟩) E4.out.2.2 (by show ¬ _ = _; exact NE.out)).trans E4.out.1, (ht.cell (p := ⟨u1.heap.size, 1, none⟩) E4.out.2.2 (by show ¬ _ = _; exact NE.out)).trans E4.out.2.1, Nat.lt_of_lt_of_le E4.out.2.2 ht.size⟩
          have HRv2 : Hid _ := Lib.hid (HS.out _ HKEEP.out)
          refine hK.out _ _ HRv2.out (fun _ => ?_)
          clear hK K ht e0 e1
          try dsimp only
          refine wpAnyH_done (by kernel_rfl) ?_ _
          have HFIN : Hid (SmW w2 v2 u1.heap.size u8.heap.size ⟨A3, n3, c3, B3, m3, d3⟩ ⟨A4, n4, c4, B4, m4, d4⟩ L1 L2) := Lib.hid ⟨E4.out.1, E4.out.2.1, E5.out.1, E5.out.2.1, X1.out, X3.out, E4.out.2.2, E5.out.2.2, HKEEP.out⟩
          go_wp2
          go_meet
          case rel => exact ⟨u1.heap.size, u8.heap.size, ⟨A3, n3, c3, B3, m3, d3⟩, ⟨A4, n4, c4, B4, m4, d4⟩, rfl, rfl, HFIN⟩
        · rw [if_pos (by kernel_rfl)]
          go_simp
          have HZ5 : Hid (w2.heap.size ≤ u7.heap.size) := Lib.hid HKEEP.out.size
          have hB : Below u7.heap.size u7 (u7.alloc (.cells #[.slice none 0 0, .slice none 0 0] 24)) := (below_one u7 _)
          have hF : (u7.alloc (.cells #[.slice none 0 0, .slice none 0 0] 24)).rowIs u7.heap.size 24 2 (fun _ => .slice none 0 0) := zero_row u7
          have HKEEP : Hid (Below w2.heap.size w2 (u7.alloc (.cells #[.slice none 0 0, .slice none 0 0] 24))) := Lib.hid (HKEEP.out.trans (hB.mono HKEEP.out.size))
          have N4_5 : Hid (u1.heap.size ≠ u7.heap.size) := Lib.hid (by have := F4.out.lt; omega)
          have F4 := Lib.hid (F4.out.of_block (hB.block _ F4.out.lt))
          have M1_5 := Lib.hid (Apt.old X1.out (b := u7.heap.size) (Nat.le_refl _))
          have X1 := Lib.hid (X1.out.below hB)
          have F5 := Lib.hid hF
          have HR10 : Hid _ := Lib.hid (HS.out _ HKEEP.out)
          refine hK.out _ _ HR10.out (fun _ => ?_)
          clear hK K hB hF
          try dsimp only
          generalize (u7.alloc (.cells #[.slice none 0 0, .slice none 0 0] 24)) = u10 at *
          refine wpAnyH_ready (rs := [3]) (by kernel_rfl) (by simp) ?_
          refine AllReadyH.cons (o := ⟨some 19, _, _, _, _, _⟩) rfl (fun K hK => ?_) AllReadyH.nil
          rw [if_pos (by kernel_rfl)]
          go_simp
          go_at_call 22
          refine (HN2.out _ (HKEEP.out)).mono ?_
          rintro e u11 ⟨X, rfl, hx, hb, na, nb⟩
          obtain ⟨A4, n4, c4, B4, m4, d4⟩ := X
          unfold WX.v
          dsimp only at na nb ⊢
          have M3_4 := Lib.hid (Apt.new (X := ⟨A4, n4, c4, B4, m4, d4⟩) (st := L2.1) (lp := L2.2) na nb F4.out.lt)
          have M3_5 := Lib.hid (Apt.new (X := ⟨A4, n4, c4, B4, m4, d4⟩) (st := L2.1) (lp := L2.2) na nb F5.out.lt)
          have F4 := Lib.hid (F4.out.of_block (hb.block _ F4.out.lt))
          have F5 := Lib.hid (F5.out.of_block (hb.block _ F5.out.lt))
          have HKEEP : Hid (Below w2.heap.size w2 u11) := Lib.hid ((HKEEP.out).trans (hb.mono (HKEEP.out).size))
          have X1 := Lib.hid (X1.out.below hb)
          have X3 := Lib.hid hx
          have HR11 : Hid _ := Lib.hid (HS.out _ HKEEP.out)
          refine hK.out _ _ HR11.out (fun _ => ?_)
          clear hK K hx hb na nb
          try simp only [Act.put, List.setIfInBounds_toArray, List.set_cons_zero, List.set_cons_succ]
          have NE : Hid (¬ u1.heap.size = u7.heap.size) := Lib.hid (by first | exact N4_5.out | exact fun e => N5_4.out e.symm)
          obtain ⟨v1, HWv1, e0, e1, ht, d0, d1, f0, f1, d2, f2⟩ := put_word F4.out (.slice A3 n3 c3) (.slice B3 m3 d3)
          refine wpAnyH_ready (rs := [6]) (by kernel_rfl) (by simp) ?_
          refine AllReadyH.cons (o := ⟨none, _, _, _, _, _⟩) rfl (fun K hK => ?_) AllReadyH.nil
          go_simp
          try rw [HWv1]
          clear HWv1 d0 d1 d2 f0 f1 f2
          have HKEEP : Hid (Below w2.heap.size w2 v1) := Lib.hid (HKEEP.out.trans (ht.below (fun q hq => by have := HZ4.out; omega) HKEEP.out.size))
          have X1 := Lib.hid (X1.out.put ht M1_4.out)
          have X3 := Lib.hid (X3.out.put ht M3_4.out)
          have E4 : Hid (v1.cell? ⟨u1.heap.size, 0, none⟩ = some (.slice A3 n3 c3) ∧ v1.cell? ⟨u1.heap.size, 1, none⟩ = some (.slice B3 m3 d3) ∧ u1.heap.size < v1.heap.size) := Lib.hid ⟨e0, e1, Nat.lt_of_lt_of_le F4.out.lt ht.size⟩
          have F5 := Lib.hid (F5.out.of_block (ht.block _ F5.out.lt (by have := NE.out; omega)))
          have HRv1 : Hid _ := Lib.hid (HS.out _ HKEEP.out)
          refine hK.out _ _ HRv1.out (fun _ => ?_)
          clear hK K ht e0 e1
          try dsimp only
          obtain ⟨v2, HWv2, e0, e1, ht, d0, d1, f0, f1, d2, f2⟩ := put_word F5.out (.slice A4 n4 c4) (.slice B4 m4 d4)
          refine wpAnyH_ready (rs := [7]) (by kernel_rfl) (by simp) ?_
          refine AllReadyH.cons (o := ⟨none, _, _, _, _, _⟩) rfl (fun K hK => ?_) AllReadyH.nil
          go_simp
          try rw [HWv2]
          clear HWv2 d0 d1 d2 f0 f1 f2
          have HKEEP : Hid (Below w2.heap.size w2 v2) := Lib.hid (HKEEP.out.trans (ht.below (fun q hq => by have := HZ5.out; omega) HKEEP.out.size))
          have X1 := Lib.hid (X1.out.put ht M1_5.out)
          have X3 := Lib.hid (X3.out.put ht M3_5.out)
          have E5 : Hid (v2.cell? ⟨u7.heap.size, 0, none⟩ = some (.slice A4 n4 c4) ∧ v2.cell? ⟨u7.heap.size, 1, none⟩ = some (.slice B4 m4 d4) ∧ u7.heap.size < v2.heap.size) := Lib.hid ⟨e0, e1, Nat.lt_of_lt_of_le F5.out.lt ht.size⟩
          have E4 : Hid (v2.cell? ⟨u1.heap.size, 0, none⟩ = some (.slice A3 n3 c3) ∧ v2.cell? ⟨u1.heap.size, 1, none⟩ = some (.slice B3 m3 d3) ∧ u1.heap.size < v2.heap.size) := Lib.hid ⟨(ht.cell (p := ⟨u1.heap.size, 0, none⟩) E4.out.2.2 (by show ¬ _ = _; exact NE.out)).trans E4.out.1, (ht.cell (p := ⟨u1.heap.size, 1, none⟩) E4.out.2.2 (by show ¬ _ = _; exact NE.out)).trans E4.out.2.1, Nat.lt_of_lt_of_le E4.out.2.2 ht.size⟩
          have HRv2 : Hid _ := Lib.hid (HS.out _ HKEEP.out)
          refine hK.out _ _ HRv2.out (fun _ => ?_)
          clear hK K ht e0 e1
          try dsimp only
          refine wpAnyH_done (by kernel_rfl) ?_ _
          have HFIN : Hid (SmW w2 v2 u1.heap.size u7.heap.size ⟨A3, n3, c3, B3, m3, d3⟩ ⟨A4, n4, c4, B4, m4, d4⟩ L1 L2) := Lib.hid ⟨E4.out.1, E4.out.2.1, E5.out.1, E5.out.2.1, X1.out, X3.out, E4.out.2.2, E5.out.2.2, HKEEP.out⟩
          go_wp2
          go_meet
          case rel => exact ⟨u1.heap.size, u7.heap.size, ⟨A3, n3, c3, B3, m3, d3⟩, ⟨A4, n4, c4, B4, m4, d4⟩, rfl, rfl, HFIN⟩
      · rw [if_pos (by kernel_rfl)]
        go_simp
        have HZ5 : Hid (w2.heap.size ≤ u1.heap.size) := Lib.hid HKEEP.out.size
        have hB : Below u1.heap.size u1 (u1.alloc (.cells #[.slice none 0 0, .slice none 0 0] 24)) := (below_one u1 _)
        have hF : (u1.alloc (.cells #[.slice none 0 0, .slice none 0 0] 24)).rowIs u1.heap.size 24 2 (fun _ => .slice none 0 0) := zero_row u1
        have HKEEP : Hid (Below w2.heap.size w2 (u1.alloc (.cells #[.slice none 0 0, .slice none 0 0] 24))) := Lib.hid (HKEEP.out.trans (hB.mono HKEEP.out.size))
        have M1_5 := Lib.hid (Apt.old X1.out (b := u1.heap.size) (Nat.le_refl _))
        have X1 := Lib.hid (X1.out.below hB)
        have F5 := Lib.hid hF
        have HR12 : Hid _ := Lib.hid (HS.out _ HKEEP.out)
        refine hK.out _ _ HR12.out (fun _ => ?_)
        clear hK K hB hF
        try dsimp only
        generalize (u1.alloc (.cells #[.slice none 0 0, .slice none 0 0] 24)) = u12 at *
        refine wpAnyH_ready (rs := [3, 4]) (by kernel_rfl) (by simp) ?_
        refine AllReadyH.cons (o := ⟨some 19, _, _, _, _, _⟩) rfl (fun K hK => ?_) (AllReadyH.cons (o := ⟨some 5, _, _, _, _, _⟩) rfl (fun K hK => ?_) AllReadyH.nil)
        · rw [if_pos (by kernel_rfl)]
          go_simp
          go_at_call 22
          refine (HN2.out _ (HKEEP.out)).mono ?_
          rintro e u13 ⟨X, rfl, hx, hb, na, nb⟩
          obtain ⟨A4, n4, c4, B4, m4, d4⟩ := X
          unfold WX.v
          dsimp only at na nb ⊢
          have M3_5 := Lib.hid (Apt.new (X := ⟨A4, n4, c4, B4, m4, d4⟩) (st := L2.1) (lp := L2.2) na nb F5.out.lt)
          have F5 := Lib.hid (F5.out.of_block (hb.block _ F5.out.lt))
          have HKEEP : Hid (Below w2.heap.size w2 u13) := Lib.hid ((HKEEP.out).trans (hb.mono (HKEEP.out).size))
          have X1 := Lib.hid (X1.out.below hb)
          have X3 := Lib.hid hx
          have HR13 : Hid _ := Lib.hid (HS.out _ HKEEP.out)
          refine hK.out _ _ HR13.out (fun _ => ?_)
          clear hK K hx hb na nb
          try simp only [Act.put, List.setIfInBounds_toArray, List.set_cons_zero, List.set_cons_succ]
          refine wpAnyH_ready (rs := [4]) (by kernel_rfl) (by simp) ?_
          refine AllReadyH.cons (o := ⟨some 5, _, _, _, _, _⟩) rfl (fun K hK => ?_) AllReadyH.nil
          rw [if_pos (by kernel_rfl)]
          go_simp
          have HZ4 : Hid (w2.heap.size ≤ u13.heap.size) := Lib.hid HKEEP.out.size
          have hB : Below u13.heap.size u13 (u13.alloc (.cells #[.slice none 0 0, .slice none 0 0] 24)) := (below_one u13 _)
          have hF : (u13.alloc (.cells #[.slice none 0 0, .slice none 0 0] 24)).rowIs u13.heap.size 24 2 (fun _ => .slice none 0 0) := zero_row u13
          have HKEEP : Hid (Below w2.heap.size w2 (u13.alloc (.cells #[.slice none 0 0, .slice none 0 0] 24))) := Lib.hid (HKEEP.out.trans (hB.mono HKEEP.out.size))
          have N5_4 : Hid (u1.heap.size ≠ u13.heap.size) := Lib.hid (by have := F5.out.lt; omega)
          have F5 := Lib.hid (F5.out.of_block (hB.block _ F5.out.lt))
          have M1_4 := Lib.hid (Apt.old X1.out (b := u13.heap.size) (Nat.le_refl _))
          have X1 := Lib.hid (X1.out.below hB)
          have M3_4 := Lib.hid (Apt.old X3.out (b := u13.heap.size) (Nat.le_refl _))
          have X3 := Lib.hid (X3.out.below hB)
          have F4 := Lib.hid hF
          have HR14 : Hid _ := Lib.hid (HS.out _ HKEEP.out)
          refine hK.out _ _ HR14.out (fun _ => ?_)
          clear hK K hB hF
          try dsimp only
          generalize (u13.alloc (.cells #[.slice none 0 0, .slice none 0 0] 24)) = u14 at *
          have NE : Hid (¬ u13.heap.size = u1.heap.size) := Lib.hid (by first | exact N4_5.out | exact fun e => N5_4.out e.symm)
          obtain ⟨v1, HWv1, e0, e1, ht, d0, d1, f0, f1, d2, f2⟩ := put_word F4.out (.slice A3 n3 c3) (.slice B3 m3 d3)
          refine wpAnyH_ready (rs := [6]) (by kernel_rfl) (by simp) ?_
          refine AllReadyH.cons (o := ⟨none, _, _, _, _, _⟩) rfl (fun K hK => ?_) AllReadyH.nil
          go_simp
          try rw [HWv1]
          clear HWv1 d0 d1 d2 f0 f1 f2
          have HKEEP : Hid (Below w2.heap.size w2 v1) := Lib.hid (HKEEP.out.trans (ht.below (fun q hq => by have := HZ4.out; omega) HKEEP.out.size))
          have X1 := Lib.hid (X1.out.put ht M1_4.out)
          have X3 := Lib.hid (X3.out.put ht M3_4.out)
          have E4 : Hid (v1.cell? ⟨u13.heap.size, 0, none⟩ = some (.slice A3 n3 c3) ∧ v1.cell? ⟨u13.heap.size, 1, none⟩ = some (.slice B3 m3 d3) ∧ u13.heap.size < v1.heap.size) := Lib.hid ⟨e0, e1, Nat.lt_of_lt_of_le F4.out.lt ht.size⟩
          have F5 := Lib.hid (F5.out.of_block (ht.block _ F5.out.lt (by have := NE.out; omega)))
          have HRv1 : Hid _ := Lib.hid (HS.out _ HKEEP.out)
          refine hK.out _ _ HRv1.out (fun _ => ?_)
          clear hK K ht e0 e1
          try dsimp only
          obtain ⟨v2, HWv2, e0, e1, ht, d0, d1, f0, f1, d2, f2⟩ := put_word F5.out (.slice A4 n4 c4) (.slice B4 m4 d4)
          refine wpAnyH_ready (rs := [7]) (by kernel_rfl) (by simp) ?_
          refine AllReadyH.cons (o := ⟨none, _, _, _, _, _⟩) rfl (fun K hK => ?_) AllReadyH.nil
          go_simp
          try rw [HWv2]
          clear HWv2 d0 d1 d2 f0 f1 f2
          have HKEEP : Hid (Below w2.heap.size w2 v2) := Lib.hid (HKEEP.out.trans (ht.below (fun q hq => by have := HZ5.out; omega) HKEEP.out.size))
          have X1 := Lib.hid (X1.out.put ht M1_5.out)
          have X3 := Lib.hid (X3.out.put ht M3_5.out)
          have E5 : Hid (v2.cell? ⟨u1.heap.size, 0, none⟩ = some (.slice A4 n4 c4) ∧ v2.cell? ⟨u1.heap.size, 1, none⟩ = some (.slice B4 m4 d4) ∧ u1.heap.size < v2.heap.size) := Lib.hid ⟨e0, e1, Nat.lt_of_lt_of_le F5.out.lt ht.size⟩
          have E4 : Hid (v2.cell? ⟨u13.heap.size, 0, none⟩ = some (.slice A3 n3 c3) ∧ v2.cell? ⟨u13.heap.size, 1, none⟩ = some (.slice B3 m3 d3) ∧ u13.heap.size < v2.heap.size) := Lib.hid ⟨(ht.cell (p := ⟨u13.heap.size, 0, none⟩) E4.out.2.2 (by show ¬ _ = _; exact NE.out)).trans E4.out.1, (ht.cell (p := ⟨u13.heap.size, 1, none⟩) E4.out.2.2 (by show ¬ _ = _; exact NE.out)).trans E4.out.2.1, Nat.lt_of_lt_of_le E4.out.2.2 ht.size⟩
          have HRv2 : Hid _ := Lib.hid (HS.out _ HKEEP.out)
          refine hK.out _ _ HRv2.out (fun _ => ?_)
          clear hK K ht e0 e1
          try dsimp only
          refine wpAnyH_done (by kernel_rfl) ?_ _
          have HFIN : Hid (SmW w2 v2 u13.heap.size u1.heap.size ⟨A3, n3, c3, B3, m3, d3⟩ ⟨A4, n4, c4, B4, m4, d4⟩ L1 L2) := Lib.hid ⟨E4.out.1, E4.out.2.1, E5.out.1, E5.out.2.1, X1.out, X3.out, E4.out.2.2, E5.out.2.2, HKEEP.out⟩
          go_wp2
          go_meet
          case rel => exact ⟨u13.heap.size, u1.heap.size, ⟨A3, n3, c3, B3, m3, d3⟩, ⟨A4, n4, c4, B4, m4, d4⟩, rfl, rfl, HFIN⟩
        · rw [if_pos (by kernel_rfl)]
          go_simp
          have HZ4 : Hid (w2.heap.size ≤ u12.heap.size) := Lib.hid HKEEP.out.size
          have hB : Below u12.heap.size u12 (u12.alloc (.cells #[.slice none 0 0, .slice none 0 0] 24)) := (below_one u12 _)
          have hF : (u12.alloc (.cells #[.slice none 0 0, .slice none 0 0] 24)).rowIs u12.heap.size 24 2 (fun _ => .slice none 0 0) := zero_row u12
          have HKEEP : Hid (Below w2.heap.size w2 (u12.alloc (.cells #[.slice none 0 0, .slice none 0 0] 24))) := Lib.hid (HKEEP.out.trans (hB.mono HKEEP.out.size))
          have N5_4 : Hid (u1.heap.size ≠ u12.heap.size) := Lib.hid (by have := F5.out.lt; omega)
          have F5 := Lib.hid (F5.out.of_block (hB.block _ F5.out.lt))
          have M1_4 := Lib.hid (Apt.old X1.out (b := u12.heap.size) (Nat.le_refl _))
          have X1 := Lib.hid (X1.out.below hB)
          have F4 := Lib.hid hF
          have HR15 : Hid _ := Lib.hid (HS.out _ HKEEP.out)
          refine hK.out _ _ HR15.out (fun _ => ?_)
          clear hK K hB hF
          try dsimp only
          generalize (u12.alloc (.cells #[.slice none 0 0, .slice none 0 0] 24)) = u15 at *
          refine wpAnyH_ready (rs := [3]) (by kernel_rfl) (by simp) ?_
          refine AllReadyH.cons (o := ⟨some 19, _, _, _, _, _⟩) rfl (fun K hK => ?_) AllReadyH.nil
          rw [if_pos (by kernel_rfl)]
          go_simp
          go_at_call 22
          refine (HN2.out _ (HKEEP.out)).mono ?_
          rintro e u16 ⟨X, rfl, hx, hb, na, nb⟩
          obtain ⟨A4, n4, c4, B4, m4, d4⟩ := X
          unfold WX.v
          dsimp only at na nb ⊢
          have M3_5 := Lib.hid (Apt.new (X := ⟨A4, n4, c4, B4, m4, d4⟩) (st := L2.1) (lp := L2.2) na nb F5.out.lt)
          have M3_4 := Lib.hid (Apt.new (X := ⟨A4, n4, c4, B4, m4, d4⟩) (st := L2.1) (lp := L2.2) na nb F4.out.lt)
          have F5 := Lib.hid (F5.out.of_block (hb.block _ F5.out.lt))
          have F4 := Lib.hid (F4.out.of_block (hb.block _ F4.out.lt))
          have HKEEP : Hid (Below w2.heap.size w2 u16) := Lib.hid ((HKEEP.out).trans (hb.mono (HKEEP.out).size))
          have X1 := Lib.hid (X1.out.below hb)
          have X3 := Lib.hid hx
          have HR16 : Hid _ := Lib.hid (HS.out _ HKEEP.out)
          refine hK.out _ _ HR16.out (fun _ => ?_)
          clear hK K hx hb na nb
          try simp only [Act.put, List.setIfInBounds_toArray, List.set_cons_zero, List.set_cons_succ]
          have NE : Hid (¬ u12.heap.size = u1.heap.size) := Lib.hid (by first | exact N4_5.out | exact fun e => N5_4.out e.symm)
          obtain ⟨v1, HWv1, e0, e1, ht, d0, d1, f0, f1, d2, f2⟩ := put_word F4.out (.slice A3 n3 c3) (.slice B3 m3 d3)
          refine wpAnyH_ready (rs := [6]) (by kernel_rfl) (by simp) ?_
          refine AllReadyH.cons (o := ⟨none, _, _, _, _, _⟩) rfl (fun K hK => ?_) AllReadyH.nil
          go_simp
          try rw [HWv1]
          clear HWv1 d0 d1 d2 f0 f1 f2
          have HKEEP : Hid (Below w2.heap.size w2 v1) := Lib.hid (HKEEP.out.trans (ht.below (fun q hq => by have := HZ4.out; omega) HKEEP.out.size))
          have X1 := Lib.hid (X1.out.put ht M1_4.out)
          have X3 := Lib.hid (X3.out.put ht M3_4.out)
          have E4 : Hid (v1.cell? ⟨u12.heap.size, 0, none⟩ = some (.slice A3 n3 c3) ∧ v1.cell? ⟨u12.heap.size, 1, none⟩ = some (.slice B3 m3 d3) ∧ u12.heap.size < v1.heap.size) := Lib.hid ⟨e0, e1, Nat.lt_of_lt_of_le F4.out.lt ht.size⟩
          have F5 := Lib.hid (F5.out.of_block (ht.block _ F5.out.lt (by have := NE.out; omega)))
          have HRv1 : Hid _ := Lib.hid (HS.out _ HKEEP.out)
          refine hK.out _ _ HRv1.out (fun _ => ?_)
          clear hK K ht e0 e1
          try dsimp only
          obtain ⟨v2, HWv2, e0, e1, ht, d0, d1, f0, f1, d2, f2⟩ := put_word F5.out (.slice A4 n4 c4) (.slice B4 m4 d4)
          refine wpAnyH_ready (rs := [7]) (by kernel_rfl) (by simp) ?_
          refine AllReadyH.cons (o := ⟨none, _, _, _, _, _⟩) rfl (fun K hK => ?_) AllReadyH.nil
          go_simp
          try rw [HWv2]
          clear HWv2 d0 d1 d2 f0 f1 f2
          have HKEEP : Hid (Below w2.heap.size w2 v2) := Lib.hid (HKEEP.out.trans (ht.below (fun q hq => by have := HZ5.out; omega) HKEEP.out.size))
          have X1 := Lib.hid (X1.out.put ht M1_5.out)
          have X3 := Lib.hid (X3.out.put ht M3_5.out)
          have E5 : Hid (v2.cell? ⟨u1.heap.size, 0, none⟩ = some (.slice A4 n4 c4) ∧ v2.cell? ⟨u1.heap.size, 1, none⟩ = some (.slice B4 m4 d4) ∧ u1.heap.size < v2.heap.size) := Lib.hid ⟨e0, e1, Nat.lt_of_lt_of_le F5.out.lt ht.size⟩
          have E4 : Hid (v2.cell? ⟨u12.heap.size, 0, none⟩ = some (.slice A3 n3 c3) ∧ v2.cell? ⟨u12.heap.size, 1, none⟩ = some (.slice B3 m3 d3) ∧ u12.heap.size < v2.heap.size) := Lib.hid ⟨(ht.cell (p := ⟨u12.heap.size, 0, none⟩) E4.out.2.2 (by show ¬ _ = _; exact NE.out)).trans E4.out.1, (ht.cell (p := ⟨u12.heap.size, 1, none⟩) E4.out.2.2 (by show ¬ _ = _; exact NE.out)).trans E4.out.2.1, Nat.lt_of_lt_of_le E4.out.2.2 ht.size⟩
          have HRv2 : Hid _ := Lib.hid (HS.out _ HKEEP.out)
          refine hK.out _ _ HRv2.out (fun _ => ?_)
          clear hK K ht e0 e1
          try dsimp only
          refine wpAnyH_done (by kernel_rfl) ?_ _
          have HFIN : Hid (SmW w2 v2 u12.heap.size u1.heap.size ⟨A3, n3, c3, B3, m3, d3⟩ ⟨A4, n4, c4, B4, m4, d4⟩ L1 L2) := Lib.hid ⟨E4.out.1, E4.out.2.1, E5.out.1, E5.out.2.1, X1.out, X3.out, E4.out.2.2, E5.out.2.2, HKEEP.out⟩
          go_wp2
          go_meet
          case rel => exact ⟨u12.heap.size, u1.heap.size, ⟨A3, n3, c3, B3, m3, d3⟩, ⟨A4, n4, c4, B4, m4, d4⟩, rfl, rfl, HFIN⟩
    · rw [if_pos (by kernel_rfl)]
      go_simp
      have HZ4 : Hid (w2.heap.size ≤ w9.heap.size) := Lib.hid HKEEP.out.size
      have hB : Below w9.heap.size w9 (w9.alloc (.cells #[.slice none 0 0, .slice none 0 0] 24)).drew := (below_one w9 _).drew
      have hF : (w9.alloc (.cells #[.slice none 0 0, .slice none 0 0] 24)).drew.rowIs w9.heap.size 24 2 (fun _ => .slice none 0 0) := zero_row w9 |>.of_block rfl
      have HKEEP : Hid (Below w2.heap.size w2 (w9.alloc (.cells #[.slice none 0 0, .slice none 0 0] 24)).drew) := Lib.hid (HKEEP.out.trans (hB.mono HKEEP.out.size))
      have F4 := Lib.hid hF
      have HR17 : Hid _ := Lib.hid (HS.out _ HKEEP.out)
      refine hK.out _ _ HR17.out (fun _ => ?_)
      clear hK K hB hF
      try dsimp only
      generalize (w9.alloc (.cells #[.slice none 0 0, .slice none 0 0] 24)).drew = u17 at *
      refine wpAnyH_ready (rs := [1, 5]) (by kernel_rfl) (by simp) ?_
      refine AllReadyH.cons (o := ⟨some 17, _, _, _, _, _⟩) rfl (fun K hK => ?_) (AllReadyH.cons (o := ⟨some 6, _, _, _, _, _⟩) rfl (fun K hK => ?_) AllReadyH.nil)
      · rw [if_pos (by kernel_rfl)]
        go_simp
        go_at_call 22
        refine (HN1.out _ (HKEEP.out)).mono ?_
        rintro e u18 ⟨X, rfl, hx, hb, na, nb⟩
        obtain ⟨A3, n3, c3, B3, m3, d3⟩ := X
        unfold WX.v
        dsimp only at na nb ⊢
        have M1_4 := Lib.hid (Apt.new (X := ⟨A3, n3, c3, B3, m3, d3⟩) (st := L1.1) (lp := L1.2) na nb F4.out.lt)
        have F4 := Lib.hid (F4.out.of_block (hb.block _ F4.out.lt))
        have HKEEP : Hid (Below w2.heap.size w2 u18) := Lib.hid ((HKEEP.out).trans (hb.mono (HKEEP.out).size))
        have X1 := Lib.hid hx
        have HR18 : Hid _ := Lib.hid (HS.out _ HKEEP.out)
        refine hK.out _ _ HR18.out (fun _ => ?_)
        clear hK K hx hb na nb
        try simp only [Act.put, List.setIfInBounds_toArray, List.set_cons_zero, List.set_cons_succ]
        refine wpAnyH_ready (rs := [3, 5]) (by kernel_rfl) (by simp) ?_
        refine AllReadyH.cons (o := ⟨some 19, _, _, _, _, _⟩) rfl (fun K hK => ?_) (AllReadyH.cons (o := ⟨some 6, _, _, _, _, _⟩) rfl (fun K hK => ?_) AllReadyH.nil)
        · rw [if_pos (by kernel_rfl)]
          go_simp
          go_at_call 22
          refine (HN2.out _ (HKEEP.out)).mono ?_
          rintro e u19 ⟨X, rfl, hx, hb, na, nb⟩
          obtain ⟨A4, n4, c4, B4, m4, d4⟩ := X
          unfold WX.v
          dsimp only at na nb ⊢
          have M3_4 := Lib.hid (Apt.new (X := ⟨A4, n4, c4, B4, m4, d4⟩) (st := L2.1) (lp := L2.2) na nb F4.out.lt)
          have F4 := Lib.hid (F4.out.of_block (hb.block _ F4.out.lt))
          have HKEEP : Hid (Below w2.heap.size w2 u19) := Lib.hid ((HKEEP.out).trans (hb.mono (HKEEP.out).size))
          have X1 := Lib.hid (X1.out.below hb)
          have X3 := Lib.hid hx
          have HR19 : Hid _ := Lib.hid (HS.out _ HKEEP.out)
          refine hK.out _ _ HR19.out (fun _ => ?_)
          clear hK K hx hb na nb
          try simp only [Act.put, List.setIfInBounds_toArray, List.set_cons_zero, List.set_cons_succ]
          refine wpAnyH_ready (rs := [5]) (by kernel_rfl) (by simp) ?_
          refine AllReadyH.cons (o := ⟨some 6, _, _, _, _, _⟩) rfl (fun K hK => ?_) AllReadyH.nil
          rw [if_pos (by kernel_rfl)]
          go_simp
          have HZ5 : Hid (w2.heap.size ≤ u19.heap.size) := Lib.hid HKEEP.out.size
          have hB : Below u19.heap.size u19 (u19.alloc (.cells #[.slice none 0 0, .slice none 0 0] 24)) := (below_one u19 _)
          have hF : (u19.alloc (.cells #[.slice none 0 0, .slice none 0 0] 24)).rowIs u19.heap.size 24 2 (fun _ => .slice none 0 0) := zero_row u19
          have HKEEP : Hid (Below w2.heap.size w2 (u19.alloc (.cells #[.slice none 0 0, .slice none 0 0] 24))) := Lib.hid (HKEEP.out.trans (hB.mono HKEEP.out.size))
          have N4_5 : Hid (w9.heap.size ≠ u19.heap.size) := Lib.hid (by have := F4.out.lt; omega)
          have F4 := Lib.hid (F4.out.of_block (hB.block _ F4.out.lt))
          have M1_5 := Lib.hid (Apt.old X1.out (b := u19.heap.size) (Nat.le_refl _))
          have X1 := Lib.hid (X1.out.below hB)
          have M3_5 := Lib.hid (Apt.old X3.out (b := u19.heap.size) (Nat.le_refl _))
          have X3 := Lib.hid (X3.out.below hB)
          have F5 := Lib.hid hF
          have HR20 : Hid _ := Lib.hid (HS.out _ HKEEP.out)
          refine hK.out _ _ HR20.out (fun _ => ?_)
          clear hK K hB hF
          try dsimp only
          generalize (u19.alloc (.cells #[.slice none 0 0, .slice none 0 0] 24)) = u20 at *
          have NE : Hid (¬ w9.heap.size = u19.heap.size) := Lib.hid (by first | exact N4_5.out | exact fun e => N5_4.out e.symm)
          obtain ⟨v1, HWv1, e0, e1, ht, d0, d1, f0, f1, d2, f2⟩ := put_word F4.out (.slice A3 n3 c3) (.slice B3 m3 d3)
          refine wpAnyH_ready (rs := [6]) (by kernel_rfl) (by simp) ?_
          refine AllReadyH.cons (o := ⟨none, _, _, _, _, _⟩) rfl (fun K hK => ?_) AllReadyH.nil
          go_simp
          try rw [HWv1]
          clear HWv1 d0 d1 d2 f0 f1 f2
          have HKEEP : Hid (Below w2.heap.size w2 v1) := Lib.hid (HKEEP.out.trans (ht.below (fun q hq => by have := HZ4.out; omega) HKEEP.out.size))
          have X1 := Lib.hid (X1.out.put ht M1_4.out)
          have X3 := Lib.hid (X3.out.put ht M3_4.out)
          have E4 : Hid (v1.cell? ⟨w9.heap.size, 0, none⟩ = some (.slice A3 n3 c3) ∧ v1.cell? ⟨w9.heap.size, 1, none⟩ = some (.slice B3 m3 d3) ∧ w9.heap.size < v1.heap.size) := Lib.hid ⟨e0, e1, Nat.lt_of_lt_of_le F4.out.lt ht.size⟩
          have F5 := Lib.hid (F5.out.of_block (ht.block _ F5.out.lt (by have := NE.out; omega)))
          have HRv1 : Hid _ := Lib.hid (HS.out _ HKEEP.out)
          refine hK.out _ _ HRv1.out (fun _ => ?_)
          clear hK K ht e0 e1
          try dsimp only
          obtain ⟨v2, HWv2, e0, e1, ht, d0, d1, f0, f1, d2, f2⟩ := put_word F5.out (.slice A4 n4 c4) (.slice B4 m4 d4)
          refine wpAnyH_ready (rs := [7]) (by kernel_rfl) (by simp) ?_
          refine AllReadyH.cons (o := ⟨none, _, _, _, _, _⟩) rfl (fun K hK => ?_) AllReadyH.nil
          go_simp
          try rw [HWv2]
          clear HWv2 d0 d1 d2 f0 f1 f2
          have HKEEP : Hid (Below w2.heap.size w2 v2) := Lib.hid (HKEEP.out.trans (ht.below (fun q hq => by have := HZ5.out; omega) HKEEP.out.size))
          have X1 := Lib.hid (X1.out.put ht M1_5.out)
          have X3 := Lib.hid (X3.out.put ht M3_5.out)
          have E5 : Hid (v2.cell? ⟨u19.heap.size, 0, none⟩ = some (.slice A4 n4 c4) ∧ v2.cell? ⟨u19.heap.size, 1, none⟩ = some (.slice B4 m4 d4) ∧ u19.heap.size < v2.heap.size) := Lib.hid ⟨e0, e1, Nat.lt_of_lt_of_le F5.out.lt ht.size⟩
          have E4 : Hid (v2.cell? ⟨w9.heap.size, 0, none⟩ = some (.slice A3 n3 c3) ∧ v2.cell? ⟨w9.heap.size, 1, none⟩ = some (.slice B3 m3 d3) ∧ w9.heap.size < v2.heap.size) := Lib.hid ⟨(ht.cell (p := ⟨w9.heap.size, 0, none⟩) E4.out.2.2 (by show ¬ _ = _; exact NE.out)).trans E4.out.1, (ht.cell (p := ⟨w9.heap.size, 1, none⟩) E4.out.2.2 (by show ¬ _ = _; exact NE.out)).trans E4.out.2.1, Nat.lt_of_lt_of_le E4.out.2.2 ht.size⟩
          have HRv2 : Hid _ := Lib.hid (HS.out _ HKEEP.out)
          refine hK.out _ _ HRv2.out (fun _ => ?_)
          clear hK K ht e0 e1
          try dsimp only
          refine wpAnyH_done (by kernel_rfl) ?_ _
          have HFIN : Hid (SmW w2 v2 w9.heap.size u19.heap.size ⟨A3, n3, c3, B3, m3, d3⟩ ⟨A4, n4, c4, B4, m4, d4⟩ L1 L2) := Lib.hid ⟨E4.out.1, E4.out.2.1, E5.out.1, E5.out.2.1, X1.out, X3.out, E4.out.2.2, E5.out.2.2, HKEEP.out⟩
          go_wp2
          go_meet
          case rel => exact ⟨w9.heap.size, u19.heap.size, ⟨A3, n3, c3, B3, m3, d3⟩, ⟨A4, n4, c4, B4, m4, d4⟩, rfl, rfl, HFIN⟩
        · rw [if_pos (by kernel_rfl)]
          go_simp
          have HZ5 : Hid (w2.heap.size ≤ u18.heap.size) := Lib.hid HKEEP.out.size
          have hB : Below u18.heap.size u18 (u18.alloc (.cells #[.slice none 0 0, .slice none 0 0] 24)) := (below_one u18 _)
          have hF : (u18.alloc (.cells #[.slice none 0 0, .slice none 0 0] 24)).rowIs u18.heap.size 24 2 (fun _ => .slice none 0 0) := zero_row u18
          have HKEEP : Hid (Below w2.heap.size w2 (u18.alloc (.cells #[.slice none 0 0, .slice none 0 0] 24))) := Lib.hid (HKEEP.out.trans (hB.mono HKEEP.out.size))
          have N4_5 : Hid (w9.heap.size ≠ u18.heap.size) := Lib.hid (by have := F4.out.lt; omega)
          have F4 := Lib.hid (F4.out.of_block (hB.block _ F4.out.lt))
          have M1_5 := Lib.hid (Apt.old X1.out (b := u18.heap.size) (Nat.le_refl _))
          have X1 := Lib.hid (X1.out.below hB)
          have F5 := Lib.hid hF
          have HR21 : Hid _ := Lib.hid (HS.out _ HKEEP.out)
          refine hK.out _ _ HR21.out (fun _ => ?_)
          clear hK K hB hF
          try dsimp only
          generalize (u18.alloc (.cells #[.slice none 0 0, .slice none 0 0] 24)) = u21 at *
          refine wpAnyH_ready (rs := [3]) (by kernel_rfl) (by simp) ?_
          refine AllReadyH.cons (o := ⟨some 19, _, _, _, _, _⟩) rfl (fun K hK => ?_) AllReadyH.nil
          rw [if_pos (by kernel_rfl)]
          go_simp
          go_at_call 22
          refine (HN2.out _ (HKEEP.out)).mono ?_
          rintro e u22 ⟨X, rfl, hx, hb, na, nb⟩
          obtain ⟨A4, n4, c4, B4, m4, d4⟩ := X
          unfold WX.v
          dsimp only at na nb ⊢
          have M3_4 := Lib.hid (Apt.new (X := ⟨A4, n4, c4, B4, m4, d4⟩) (st := L2.1) (lp := L2.2) na nb F4.out.lt)
          have M3_5 := Lib.hid (Apt.new (X := ⟨A4, n4, c4, B4, m4, d4⟩) (st := L2.1) (lp := L2.2) na nb F5.out.lt)
          have F4 := Lib.hid (F4.out.of_block (hb.block _ F4.out.lt))
          have F5 := Lib.hid (F5.out.of_block (hb.block _ F5.out.lt))
          have HKEEP : Hid (Below w2.heap.size w2 u22) := Lib.hid ((HKEEP.out).trans (hb.mono (HKEEP.out).size))
          have X1 := Lib.hid (X1.out.below hb)
          have X3 := Lib.hid hx
          have HR22 : Hid _ := Lib.hid (HS.out _ HKEEP.out)
          refine hK.out _ _ HR22.out (fun _ => ?_)
          clear hK K hx hb na nb
          try simp only [Act.put, List.setIfInBounds_toArray, List.set_cons_zero, List.set_cons_succ]
          have NE : Hid (¬ w9.heap.size = u18.heap.size) := Lib.hid (by first | exact N4_5.out | exact fun e => N5_4.out e.symm)
          obtain ⟨v1, HWv1, e0, e1, ht, d0, d1, f0, f1, d2, f2⟩ := put_word F4.out (.slice A3 n3 c3) (.slice B3 m3 d3)
          refine wpAnyH_ready (rs := [6]) (by kernel_rfl) (by simp) ?_
          refine AllReadyH.cons (o := ⟨none, _, _, _, _, _⟩) rfl (fun K hK => ?_) AllReadyH.nil
          go_simp
          try rw [HWv1]
          clear HWv1 d0 d1 d2 f0 f1 f2
          have HKEEP : Hid (Below w2.heap.size w2 v1) := Lib.hid (HKEEP.out.trans (ht.below (fun q hq => by have := HZ4.out; omega) HKEEP.out.size))
          have X1 := Lib.hid (X1.out.put ht M1_4.out)
          have X3 := Lib.hid (X3.out.put ht M3_4.out)
          have E4 : Hid (v1.cell? ⟨w9.heap.size, 0, none⟩ = some (.slice A3 n3 c3) ∧ v1.cell? ⟨w9.heap.size, 1, none⟩ = some (.slice B3 m3 d3) ∧ w9.heap.size < v1.heap.size) := Lib.hid ⟨e0, e1, Nat.lt_of_lt_of_le F4.out.lt ht.size⟩
          have F5 := Lib.hid (F5.out.of_block (ht.block _ F5.out.lt (by have := NE.out; omega)))
          have HRv1 : Hid _ := Lib.hid (HS.out _ HKEEP.out)
          refine hK.out _ _ HRv1.out (fun _ => ?_)
          clear hK K ht e0 e1
          try dsimp only
          obtain ⟨v2, HWv2, e0, e1, ht, d0, d1, f0, f1, d2, f2⟩ := put_word F5.out (.slice A4 n4 c4) (.slice B4 m4 d4)
          refine wpAnyH_ready (rs := [7]) (by kernel_rfl) (by simp) ?_
          refine AllReadyH.cons (o := ⟨none, _, _, _, _, _⟩) rfl (fun K hK => ?_) AllReadyH.nil
          go_simp
          try rw [HWv2]
          clear HWv2 d0 d1 d2 f0 f1 f2
          have HKEEP : Hid (Below w2.heap.size w2 v2) := Lib.hid (HKEEP.out.trans (ht.below (fun q hq => by have := HZ5.out; omega) HKEEP.out.size))
          have X1 := Lib.hid (X1.out.put ht M1_5.out)
          have X3 := Lib.hid (X3.out.put ht M3_5.out)
          have E5 : Hid (v2.cell? ⟨u18.heap.size, 0, none⟩ = some (.slice A4 n4 c4) ∧ v2.cell? ⟨u18.heap.size, 1, none⟩ = some (.slice B4 m4 d4) ∧ u18.heap.size < v2.heap.size) := Lib.hid ⟨e0, e1, Nat.lt_of_lt_of_le F5.out.lt ht.size⟩
          have E4 : Hid (v2.cell? ⟨w9.heap.size, 0, none⟩ = some (.slice A3 n3 c3) ∧ v2.cell? ⟨w9.heap.size, 1, none⟩ = some (.slice B3 m3 d3) ∧ w9.heap.size < v2.heap.size) := Lib.hid ⟨(ht.cell (p := ⟨w9.heap.size, 0, none⟩) E4.out.2.2 (by show ¬ _ = _; exact NE.out)).trans E4.out.1, (ht.cell (p := ⟨w9.heap.size, 1, none⟩) E4.out.2.2 (by show ¬ _ = _; exact NE.out)).trans E4.out.2.1, Nat.lt_of_lt_of_le E4.out.2.2 ht.size⟩
          have HRv2 : Hid _ := Lib.hid (HS.out _ HKEEP.out)
          refine hK.out _ _ HRv2.out (fun _ => ?_)
          clear hK K ht e0 e1
          try dsimp only
          refine wpAnyH_done (by kernel_rfl) ?_ _
          have HFIN : Hid (SmW w2 v2 w9.heap.size u18.heap.size ⟨A3, n3, c3, B3, m3, d3⟩ ⟨A4, n4, c4, B4, m4, d4⟩ L1 L2) := Lib.hid ⟨E4.out.1, E4.out.2.1, E5.out.1, E5.out.2.1, X1.out, X3.out, E4.out.2.2, E5.out.2.2, HKEEP.out⟩
          go_wp2
          go_meet
          case rel => exact ⟨w9.heap.size, u18.heap.size, ⟨A3, n3, c3, B3, m3, d3⟩, ⟨A4, n4, c4, B4, m4, d4⟩, rfl, rfl, HFIN⟩
      · rw [if_pos (by kernel_rfl)]
        go_simp
        have HZ5 : Hid (w2.heap.size ≤ u17.heap.size) := Lib.hid HKEEP.out.size
        have hB : Below u17.heap.size u17 (u17.alloc (.cells #[.slice none 0 0, .slice none 0 0] 24)) := (below_one u17 _)
        have hF : (u17.alloc (.cells #[.slice none 0 0, .slice none 0 0] 24)).rowIs u17.heap.size 24 2 (fun _ => .slice none 0 0) := zero_row u17
        have HKEEP : Hid (Below w2.heap.size w2 (u17.alloc (.cells #[.slice none 0 0, .slice none 0 0] 24))) := Lib.hid (HKEEP.out.trans (hB.mono HKEEP.out.size))
        have N4_5 : Hid (w9.heap.size ≠ u17.heap.size) := Lib.hid (by have := F4.out.lt; omega)
        have F4 := Lib.hid (F4.out.of_block (hB.block _ F4.out.lt))
        have F5 := Lib.hid hF
        have HR23 : Hid _ := Lib.hid (HS.out _ HKEEP.out)
        refine hK.out _ _ HR23.out (fun _ => ?_)
        clear hK K hB hF
        try dsimp only
        generalize (u17.alloc (.cells #[.slice none 0 0, .slice none 0 0] 24)) = u23 at *
        refine wpAnyH_ready (rs := [1]) (by kernel_rfl) (by simp) ?_
        refine AllReadyH.cons (o := ⟨some 17, _, _, _, _, _⟩) rfl (fun K hK => ?_) AllReadyH.nil
        rw [if_pos (by kernel_rfl)]
        go_simp
        go_at_call 22
        refine (HN1.out _ (HKEEP.out)).mono ?_
        rintro e u24 ⟨X, rfl, hx, hb, na, nb⟩
        obtain ⟨A3, n3, c3, B3, m3, d3⟩ := X
        unfold WX.v
        dsimp only at na nb ⊢
        have M1_4 := Lib.hid (Apt.new (X := ⟨A3, n3, c3, B3, m3, d3⟩) (st := L1.1) (lp := L1.2) na nb F4.out.lt)
        have M1_5 := Lib.hid (Apt.new (X := ⟨A3, n3, c3, B3, m3, d3⟩) (st := L1.1) (lp := L1.2) na nb F5.out.lt)
        have F4 := Lib.hid (F4.out.of_block (hb.block _ F4.out.lt))
        have F5 := Lib.hid (F5.out.of_block (hb.block _ F5.out.lt))
        have HKEEP : Hid (Below w2.heap.size w2 u24) := Lib.hid ((HKEEP.out).trans (hb.mono (HKEEP.out).size))
        have X1 := Lib.hid hx
        have HR24 : Hid _ := Lib.hid (HS.out _ HKEEP.out)
        refine hK.out _ _ HR24.out (fun _ => ?_)
        clear hK K hx hb na nb
        try simp only [Act.put, List.setIfInBounds_toArray, List.set_cons_zero, List.set_cons_succ]
        refine wpAnyH_ready (rs := [3]) (by kernel_rfl) (by simp) ?_
        refine AllReadyH.cons (o := ⟨some 19, _, _, _, _, _⟩) rfl (fun K hK => ?_) AllReadyH.nil
        rw [if_pos (by kernel_rfl)]
        go_simp
        go_at_call 22
        refine (HN2.out _ (HKEEP.out)).mono ?_
        rintro e u25 ⟨X, rfl, hx, hb, na, nb⟩
        obtain ⟨A4, n4, c4, B4, m4, d4⟩ := X
        unfold WX.v
        dsimp only at na nb ⊢
        have M3_4 := Lib.hid (Apt.new (X := ⟨A4, n4, c4, B4, m4, d4⟩) (st := L2.1) (lp := L2.2) na nb F4.out.lt)
        have M3_5 := Lib.hid (Apt.new (X := ⟨A4, n4, c4, B4, m4, d4⟩) (st := L2.1) (lp := L2.2) na nb F5.out.lt)
        have F4 := Lib.hid (F4.out.of_block (hb.block _ F4.out.lt))
        have F5 := Lib.hid (F5.out.of_block (hb.block _ F5.out.lt))
        have HKEEP : Hid (Below w2.heap.size w2 u25) := Lib.hid ((HKEEP.out).trans (hb.mono (HKEEP.out).size))
        have X1 := Lib.hid (X1.out.below hb)
        have X3 := Lib.hid hx
        have HR25 : Hid _ := Lib.hid (HS.out _ HKEEP.out)
        refine hK.out _ _ HR25.out (fun _ => ?_)
        clear hK K hx hb na nb
        try simp only [Act.put, List.setIfInBounds_toArray, List.set_cons_zero, List.set_cons_succ]
        have NE : Hid (¬ w9.heap.size = u17.heap.size) := Lib.hid (by first | exact N4_5.out | exact fun e => N5_4.out e.symm)
        obtain ⟨v1, HWv1, e0, e1, ht, d0, d1, f0, f1, d2, f2⟩ := put_word F4.out (.slice A3 n3 c3) (.slice B3 m3 d3)
        refine wpAnyH_ready (rs := [6]) (by kernel_rfl) (by simp) ?_
        refine AllReadyH.cons (o := ⟨none, _, _, _, _, _⟩) rfl (fun K hK => ?_) AllReadyH.nil
        go_simp
        try rw [HWv1]
        clear HWv1 d0 d1 d2 f0 f1 f2
        have HKEEP : Hid (Below w2.heap.size w2 v1) := Lib.hid (HKEEP.out.trans (ht.below (fun q hq => by have := HZ4.out; omega) HKEEP.out.size))
        have X1 := Lib.hid (X1.out.put ht M1_4.out)
        have X3 := Lib.hid (X3.out.put ht M3_4.out)
        have E4 : Hid (v1.cell? ⟨w9.heap.size, 0, none⟩ = some (.slice A3 n3 c3) ∧ v1.cell? ⟨w9.heap.size, 1, none⟩ = some (.slice B3 m3 d3) ∧ w9.heap.size < v1.heap.size) := Lib.hid ⟨e0, e1, Nat.lt_of_lt_of_le F4.out.lt ht.size⟩
        have F5 := Lib.hid (F5.out.of_block (ht.block _ F5.out.lt (by have := NE.out; omega)))
        have HRv1 : Hid _ := Lib.hid (HS.out _ HKEEP.out)
        refine hK.out _ _ HRv1.out (fun _ => ?_)
        clear hK K ht e0 e1
        try dsimp only
        obtain ⟨v2, HWv2, e0, e1, ht, d0, d1, f0, f1, d2, f2⟩ := put_word F5.out (.slice A4 n4 c4) (.slice B4 m4 d4)
        refine wpAnyH_ready (rs := [7]) (by kernel_rfl) (by simp) ?_
        refine AllReadyH.cons (o := ⟨none, _, _, _, _, _⟩) rfl (fun K hK => ?_) AllReadyH.nil
        go_simp
        try rw [HWv2]
        clear HWv2 d0 d1 d2 f0 f1 f2
        have HKEEP : Hid (Below w2.heap.size w2 v2) := Lib.hid (HKEEP.out.trans (ht.below (fun q hq => by have := HZ5.out; omega) HKEEP.out.size))
        have X1 := Lib.hid (X1.out.put ht M1_5.out)
        have X3 := Lib.hid (X3.out.put ht M3_5.out)
        have E5 : Hid (v2.cell? ⟨u17.heap.size, 0, none⟩ = some (.slice A4 n4 c4) ∧ v2.cell? ⟨u17.heap.size, 1, none⟩ = some (.slice B4 m4 d4) ∧ u17.heap.size < v2.heap.size) := Lib.hid ⟨e0, e1, Nat.lt_of_lt_of_le F5.out.lt ht.size⟩
        have E4 : Hid (v2.cell? ⟨w9.heap.size, 0, none⟩ = some (.slice A3 n3 c3) ∧ v2.cell? ⟨w9.heap.size, 1, none⟩ = some (.slice B3 m3 d3) ∧ w9.heap.size < v2.heap.size) := Lib.hid ⟨(ht.cell (p := ⟨w9.heap.size, 0, none⟩) E4.out.2.2 (by show ¬ _ = _; exact NE.out)).trans E4.out.1, (ht.cell (p := ⟨w9.heap.size, 1, none⟩) E4.out.2.2 (by show ¬ _ = _; exact NE.out)).trans E4.out.2.1, Nat.lt_of_lt_of_le E4.out.2.2 ht.size⟩
        have HRv2 : Hid _ := Lib.hid (HS.out _ HKEEP.out)
        refine hK.out _ _ HRv2.out (fun _ => ?_)
        clear hK K ht e0 e1
        try dsimp only
        refine wpAnyH_done (by kernel_rfl) ?_ _
        have HFIN : Hid (SmW w2 v2 w9.heap.size u17.heap.size ⟨A3, n3, c3, B3, m3, d3⟩ ⟨A4, n4, c4, B4, m4, d4⟩ L1 L2) := Lib.hid ⟨E4.out.1, E4.out.2.1, E5.out.1, E5.out.2.1, X1.out, X3.out, E4.out.2.2, E5.out.2.2, HKEEP.out⟩
        go_wp2
        go_meet
        case rel => exact ⟨w9.heap.size, u17.heap.size, ⟨A3, n3, c3, B3, m3, d3⟩, ⟨A4, n4, c4, B4, m4, d4⟩, rfl, rfl, HFIN⟩
    · rw [if_pos (by kernel_rfl)]
      go_simp
      have HZ5 : Hid (w2.heap.size ≤ w9.heap.size) := Lib.hid HKEEP.out.size
      have hB : Below w9.heap.size w9 (w9.alloc (.cells #[.slice none 0 0, .slice none 0 0] 24)).drew := (below_one w9 _).drew
      have hF : (w9.alloc (.cells #[.slice none 0 0, .slice none 0 0] 24)).drew.rowIs w9.heap.size 24 2 (fun _ => .slice none 0 0) := zero_row w9 |>.of_block rfl
      have HKEEP : Hid (Below w2.heap.size w2 (w9.alloc (.cells #[.slice none 0 0, .slice none 0 0] 24)).drew) := Lib.hid (HKEEP.out.trans (hB.mono HKEEP.out.size))
      have F5 := Lib.hid hF
      have HR26 : Hid _ := Lib.hid (HS.out _ HKEEP.out)
      refine hK.out _ _ HR26.out (fun _ => ?_)
      clear hK K hB hF
      try dsimp only
      generalize (w9.alloc (.cells #[.slice none 0 0, .slice none 0 0] 24)).drew = u26 at *
      refine wpAnyH_ready (rs := [1, 4]) (by kernel_rfl) (by simp) ?_
      refine AllReadyH.cons (o := ⟨some 17, _, _, _, _, _⟩) rfl (fun K hK => ?_) (AllReadyH.cons (o := ⟨some 5, _, _, _, _, _⟩) rfl (fun K hK => ?_) AllReadyH.nil)
      · rw [if_pos (by kernel_rfl)]
        go_simp
        go_at_call 22
        refine (HN1.out _ (HKEEP.out)).mono ?_
        rintro e u27 ⟨X, rfl, hx, hb, na, nb⟩
        obtain ⟨A3, n3, c3, B3, m3, d3⟩ := X
        unfold WX.v
        dsimp only at na nb ⊢
        have M1_5 := Lib.hid (Apt.new (X := ⟨A3, n3, c3, B3, m3, d3⟩) (st := L1.1) (lp := L1.2) na nb F5.out.lt)
        have F5 := Lib.hid (F5.out.of_block (hb.block _ F5.out.lt))
        have HKEEP : Hid (Below w2.heap.size w2 u27) := Lib.hid ((HKEEP.out).trans (hb.mono (HKEEP.out).size))
        have X1 := Lib.hid hx
        have HR27 : Hid _ := Lib.hid (HS.out _ HKEEP.out)
        refine hK.out _ _ HR27.out (fun _ => ?_)
        clear hK K hx hb na nb
        try simp only [Act.put, List.setIfInBounds_toArray, List.set_cons_zero, List.set_cons_succ]
        refine wpAnyH_ready (rs := [3, 4]) (by kernel_rfl) (by simp) ?_
        refine AllReadyH.cons (o := ⟨some 19, _, _, _, _, _⟩) rfl (fun K hK => ?_) (AllReadyH.cons (o := ⟨some 5, _, _, _, _, _⟩) rfl (fun K hK => ?_) AllReadyH.nil)
        · rw [if_pos (by kernel_rfl)]
          go_simp
          go_at_call 22
          refine (HN2.out _ (HKEEP.out)).mono ?_
          rintro e u28 ⟨X, rfl, hx, hb, na, nb⟩
          obtain ⟨A4, n4, c4, B4, m4, d4⟩ := X
          unfold WX.v
          dsimp only at na nb ⊢
          have M3_5 := Lib.hid (Apt.new (X := ⟨A4, n4, c4, B4, m4, d4⟩) (st := L2.1) (lp := L2.2) na nb F5.out.lt)
          have F5 := Lib.hid (F5.out.of_block (hb.block _ F5.out.lt))
          have HKEEP : Hid (Below w2.heap.size w2 u28) := Lib.hid ((HKEEP.out).trans (hb.mono (HKEEP.out).size))
          have X1 := Lib.hid (X1.out.below hb)
          have X3 := Lib.hid hx
          have HR28 : Hid _ := Lib.hid (HS.out _ HKEEP.out)
          refine hK.out _ _ HR28.out (fun _ => ?_)
          clear hK K hx hb na nb
          try simp only [Act.put, List.setIfInBounds_toArray, List.set_cons_zero, List.set_cons_succ]
          refine wpAnyH_ready (rs := [4]) (by kernel_rfl) (by simp) ?_
          refine AllReadyH.cons (o := ⟨some 5, _, _, _, _, _⟩) rfl (fun K hK => ?_) AllReadyH.nil
          rw [if_pos (by kernel_rfl)]
          go_simp
          have HZ4 : Hid (w2.heap.size ≤ u28.heap.size) := Lib.hid HKEEP.out.size
          have hB : Below u28.heap.size u28 (u28.alloc (.cells #[.slice none 0 0, .slice none 0 0] 24)) := (below_one u28 _)
          have hF : (u28.alloc (.cells #[.slice none 0 0, .slice none 0 0] 24)).rowIs u28.heap.size 24 2 (fun _ => .slice none 0 0) := zero_row u28
          have HKEEP : Hid (Below w2.heap.size w2 (u28.alloc (.cells #[.slice none 0 0, .slice none 0 0] 24))) := Lib.hid (HKEEP.out.trans (hB.mono HKEEP.out.size))
          have N5_4 : Hid (w9.heap.size ≠ u28.heap.size) := Lib.hid (by have := F5.out.lt; omega)
          have F5 := Lib.hid (F5.out.of_block (hB.block _ F5.out.lt))
          have M1_4 := Lib.hid (Apt.old X1.out (b := u28.heap.size) (Nat.le_refl _))
          have X1 := Lib.hid (X1.out.below hB)
          have M3_4 := Lib.hid (Apt.old X3.out (b := u28.heap.size) (Nat.le_refl _))
          have X3 := Lib.hid (X3.out.below hB)
          have F4 := Lib.hid hF
          have HR29 : Hid _ := Lib.hid (HS.out _ HKEEP.out)
          refine hK.out _ _ HR29.out (fun _ => ?_)
          clear hK K hB hF
          try dsimp only
          generalize (u28.alloc (.cells #[.slice none 0 0, .slice none 0 0] 24)) = u29 at *
          have NE : Hid (¬ u28.heap.size = w9.heap.size) := Lib.hid (by first | exact N4_5.out | exact fun e => N5_4.out e.symm)
          obtain ⟨v1, HWv1, e0, e1, ht, d0, d1, f0, f1, d2, f2⟩ := put_word F4.out (.slice A3 n3 c3) (.slice B3 m3 d3)
          refine wpAnyH_ready (rs := [6]) (by kernel_rfl) (by simp) ?_
          refine AllReadyH.cons (o := ⟨none, _, _, _, _, _⟩) rfl (fun K hK => ?_) AllReadyH.nil
          go_simp
          try rw [HWv1]
          clear HWv1 d0 d1 d2 f0 f1 f2
          have HKEEP : Hid (Below w2.heap.size w2 v1) := Lib.hid (HKEEP.out.trans (ht.below (fun q hq => by have := HZ4.out; omega) HKEEP.out.size))
          have X1 := Lib.hid (X1.out.put ht M1_4.out)
          have X3 := Lib.hid (X3.out.put ht M3_4.out)
          have E4 : Hid (v1.cell? ⟨u28.heap.size, 0, none⟩ = some (.slice A3 n3 c3) ∧ v1.cell? ⟨u28.heap.size, 1, none⟩ = some (.slice B3 m3 d3) ∧ u28.heap.size < v1.heap.size) := Lib.hid ⟨e0, e1, Nat.lt_of_lt_of_le F4.out.lt ht.size⟩
          have F5 := Lib.hid (F5.out.of_block (ht.block _ F5.out.lt (by have := NE.out; omega)))
          have HRv1 : Hid _ := Lib.hid (HS.out _ HKEEP.out)
          refine hK.out _ _ HRv1.out (fun _ => ?_)
          clear hK K ht e0 e1
          try dsimp only
          obtain ⟨v2, HWv2, e0, e1, ht, d0, d1, f0, f1, d2, f2⟩ := put_word F5.out (.slice A4 n4 c4) (.slice B4 m4 d4)
          refine wpAnyH_ready (rs := [7]) (by kernel_rfl) (by simp) ?_
          refine AllReadyH.cons (o := ⟨none, _, _, _, _, _⟩) rfl (fun K hK => ?_) AllReadyH.nil
          go_simp
          try rw [HWv2]
          clear HWv2 d0 d1 d2 f0 f1 f2
          have HKEEP : Hid (Below w2.heap.size w2 v2) := Lib.hid (HKEEP.out.trans (ht.below (fun q hq => by have := HZ5.out; omega) HKEEP.out.size))
          have X1 := Lib.hid (X1.out.put ht M1_5.out)
          have X3 := Lib.hid (X3.out.put ht M3_5.out)
          have E5 : Hid (v2.cell? ⟨w9.heap.size, 0, none⟩ = some (.slice A4 n4 c4) ∧ v2.cell? ⟨w9.heap.size, 1, none⟩ = some (.slice B4 m4 d4) ∧ w9.heap.size < v2.heap.size) := Lib.hid ⟨e0, e1, Nat.lt_of_lt_of_le F5.out.lt ht.size⟩
          have E4 : Hid (v2.cell? ⟨u28.heap.size, 0, none⟩ = some (.slice A3 n3 c3) ∧ v2.cell? ⟨u28.heap.size, 1, none⟩ = some (.slice B3 m3 d3) ∧ u28.heap.size < v2.heap.size) := Lib.hid ⟨(ht.cell (p := ⟨u28.heap.size, 0, none⟩) E4.out.2.2 (by show ¬ _ = _; exact NE.out)).trans E4.out.1, (ht.cell (p := ⟨u28.heap.size, 1, none⟩) E4.out.2.2 (by show ¬ _ = _; exact NE.out)).trans E4.out.2.1, Nat.lt_of_lt_of_le E4.out.2.2 ht.size⟩
          have HRv2 : Hid _ := Lib.hid (HS.out _ HKEEP.out)
          refine hK.out _ _ HRv2.out (fun _ => ?_)
          clear hK K ht e0 e1
          try dsimp only
          refine wpAnyH_done (by kernel_rfl) ?_ _
          have HFIN : Hid (SmW w2 v2 u28.heap.size w9.heap.size ⟨A3, n3, c3, B3, m3, d3⟩ ⟨A4, n4, c4, B4, m4, d4⟩ L1 L2) := Lib.hid ⟨E4.out.1, E4.out.2.1, E5.out.1, E5.out.2.1, X1.out, X3.out, E4.out.2.2, E5.out.2.2, HKEEP.out⟩
          go_wp2
          go_meet
          case rel => exact ⟨u28.heap.size, w9.heap.size, ⟨A3, n3, c3, B3, m3, d3⟩, ⟨A4, n4, c4, B4, m4, d4⟩, rfl, rfl, HFIN⟩
        · rw [if_pos (by kernel_rfl)]
          go_simp
          have HZ4 : Hid (w2.heap.size ≤ u27.heap.size) := Lib.hid HKEEP.out.size
          have hB : Below u27.heap.size u27 (u27.alloc (.cells #[.slice none 0 0, .slice none 0 0] 24)) := (below_one u27 _)
          have hF : (u27.alloc (.cells #[.slice none 0 0, .slice none 0 0] 24)).rowIs u27.heap.size 24 2 (fun _ => .slice none 0 0) := zero_row u27
          have HKEEP : Hid (Below w2.heap.size w2 (u27.alloc (.cells #[.slice none 0 0, .slice none 0 0] 24))) := Lib.hid (HKEEP.out.trans (hB.mono HKEEP.out.size))
          have N5_4 : Hid (w9.heap.size ≠ u27.heap.size) := Lib.hid (by have := F5.out.lt; omega)
          have F5 := Lib.hid (F5.out.of_block (hB.block _ F5.out.lt))
          have M1_4 := Lib.hid (Apt.old X1.out (b := u27.heap.size) (Nat.le_refl _))
          have X1 := Lib.hid (X1.out.below hB)
          have F4 := Lib.hid hF
          have HR30 : Hid _ := Lib.hid (HS.out _ HKEEP.out)
          refine hK.out _ _ HR30.out (fun _ => ?_)
          clear hK K hB hF
          try dsimp only
          generalize (u27.alloc (.cells #[.slice none 0 0, .slice none 0 0] 24)) = u30 at *
          refine wpAnyH_ready (rs := [3]) (by kernel_rfl) (by simp) ?_
          refine AllReadyH.cons (o := ⟨some 19, _, _, _, _, _⟩) rfl (fun K hK => ?_) AllReadyH.nil
          rw [if_pos (by kernel_rfl)]
          go_simp
          go_at_call 22
          refine (HN2.out _ (HKEEP.out)).mono ?_
          rintro e u31 ⟨X, rfl, hx, hb, na, nb⟩
          obtain ⟨A4, n4, c4, B4, m4, d4⟩ := X
          unfold WX.v
          dsimp only at na nb ⊢
          have M3_5 := Lib.hid (Apt.new (X := ⟨A4, n4, c4, B4, m4, d4⟩) (st := L2.1) (lp := L2.2) na nb F5.out.lt)
          have M3_4 := Lib.hid (Apt.new (X := ⟨A4, n4, c4, B4, m4, d4⟩) (st := L2.1) (lp := L2.2) na nb F4.out.lt)
          have F5 := Lib.hid (F5.out.of_block (hb.block _ F5.out.lt))
          have F4 := Lib.hid (F4.out.of_block (hb.block _ F4.out.lt))
          have HKEEP : Hid (Below w2.heap.size w2 u31) := Lib.hid ((HKEEP.out).trans (hb.mono (HKEEP.out).size))
          have X1 := Lib.hid (X1.out.below hb)
          have X3 := Lib.hid hx
          have HR31 : Hid _ := Lib.hid (HS.out _ HKEEP.out)
          refine hK.out _ _ HR31.out (fun _ => ?_)
          clear hK K hx hb na nb
          try simp only [Act.put, List.setIfInBounds_toArray, List.set_cons_zero, List.set_cons_succ]
          have NE : Hid (¬ u27.heap.size = w9.heap.size) := Lib.hid (by first | exact N4_5.out | exact fun e => N5_4.out e.symm)
          obtain ⟨v1, HWv1, e0, e1, ht, d0, d1, f0, f1, d2, f2⟩ := put_word F4.out (.slice A3 n3 c3) (.slice B3 m3 d3)
          refine wpAnyH_ready (rs := [6]) (by kernel_rfl) (by simp) ?_
          refine AllReadyH.cons (o := ⟨none, _, _, _, _, _⟩) rfl (fun K hK => ?_) AllReadyH.nil
          go_simp
          try rw [HWv1]
          clear HWv1 d0 d1 d2 f0 f1 f2
          have HKEEP : Hid (Below w2.heap.size w2 v1) := Lib.hid (HKEEP.out.trans (ht.below (fun q hq => by have := HZ4.out; omega) HKEEP.out.size))
          have X1 := Lib.hid (X1.out.put ht M1_4.out)
          have X3 := Lib.hid (X3.out.put ht M3_4.out)
          have E4 : Hid (v1.cell? ⟨u27.heap.size, 0, none⟩ = some (.slice A3 n3 c3) ∧ v1.cell? ⟨u27.heap.size, 1, none⟩ = some (.slice B3 m3 d3) ∧ u27.heap.size < v1.heap.size) := Lib.hid ⟨e0, e1, Nat.lt_of_lt_of_le F4.out.lt ht.size⟩
          have F5 := Lib.hid (F5.out.of_block (ht.block _ F5.out.lt (by have := NE.out; omega)))
          have HRv1 : Hid _ := Lib.hid (HS.out _ HKEEP.out)
          refine hK.out _ _ HRv1.out (fun _ => ?_)
          clear hK K ht e0 e1
          try dsimp only
          obtain ⟨v2, HWv2, e0, e1, ht, d0, d1, f0, f1, d2, f2⟩ := put_word F5.out (.slice A4 n4 c4) (.slice B4 m4 d4)
          refine wpAnyH_ready (rs := [7]) (by kernel_rfl) (by simp) ?_
          refine AllReadyH.cons (o := ⟨none, _, _, _, _, _⟩) rfl (fun K hK => ?_) AllReadyH.nil
          go_simp
          try rw [HWv2]
          clear HWv2 d0 d1 d2 f0 f1 f2
          have HKEEP : Hid (Below w2.heap.size w2 v2) := Lib.hid (HKEEP.out.trans (ht.below (fun q hq => by have := HZ5.out; omega) HKEEP.out.size))
          have X1 := Lib.hid (X1.out.put ht M1_5.out)
          have X3 := Lib.hid (X3.out.put ht M3_5.out)
          have E5 : Hid (v2.cell? ⟨w9.heap.size, 0, none⟩ = some (.slice A4 n4 c4) ∧ v2.cell? ⟨w9.heap.size, 1, none⟩ = some (.slice B4 m4 d4) ∧ w9.heap.size < v2.heap.size) := Lib.hid ⟨e0, e1, Nat.lt_of_lt_of_le F5.out.lt ht.size⟩
          have E4 : Hid (v2.cell? ⟨u27.heap.size, 0, none⟩ = some (.slice A3 n3 c3) ∧ v2.cell? ⟨u27.heap.size, 1, none⟩ = some (.slice B3 m3 d3) ∧ u27.heap.size < v2.heap.size) := Lib.hid ⟨(ht.cell (p := ⟨u27.heap.size, 0, none⟩) E4.out.2.2 (by show ¬ _ = _; exact NE.out)).trans E4.out.1, (ht.cell (p := ⟨u27.heap.size, 1, none⟩) E4.out.2.2 (by show ¬ _ = _; exact NE.out)).trans E4.out.2.1, Nat.lt_of_lt_of_le E4.out.2.2 ht.size⟩
          have HRv2 : Hid _ := Lib.hid (HS.out _ HKEEP.out)
          refine hK.out _ _ HRv2.out (fun _ => ?_)
          clear hK K ht e0 e1
          try dsimp only
          refine wpAnyH_done (by kernel_rfl) ?_ _
          have HFIN : Hid (SmW w2 v2 u27.heap.size w9.heap.size ⟨A3, n3, c3, B3, m3, d3⟩ ⟨A4, n4, c4, B4, m4, d4⟩ L1 L2) := Lib.hid ⟨E4.out.1, E4.out.2.1, E5.out.1, E5.out.2.1, X1.out, X3.out, E4.out.2.2, E5.out.2.2, HKEEP.out⟩
          go_wp2
          go_meet
          case rel => exact ⟨u27.heap.size, w9.heap.size, ⟨A3, n3, c3, B3, m3, d3⟩, ⟨A4, n4, c4, B4, m4, d4⟩, rfl, rfl, HFIN⟩
      · rw [if_pos (by kernel_rfl)]
        go_simp
        have HZ4 : Hid (w2.heap.size ≤ u26.heap.size) := Lib.hid HKEEP.out.size
        have hB : Below u26.heap.size u26 (u26.alloc (.cells #[.slice none 0 0, .slice none 0 0] 24)) := (below_one u26 _)
        have hF : (u26.alloc (.cells #[.slice none 0 0, .slice none 0 0] 24)).rowIs u26.heap.size 24 2 (fun _ => .slice none 0 0) := zero_row u26
        have HKEEP : Hid (Below w2.heap.size w2 (u26.alloc (.cells #[.slice none 0 0, .slice none 0 0] 24))) := Lib.hid (HKEEP.out.trans (hB.mono HKEEP.out.size))
        have N5_4 : Hid (w9.heap.size ≠ u26.heap.size) := Lib.hid (by have := F5.out.lt; omega)
        have F5 := Lib.hid (F5.out.of_block (hB.block _ F5.out.lt))
        have F4 := Lib.hid hF
        have HR32 : Hid _ := Lib.hid (HS.out _ HKEEP.out)
        refine hK.out _ _ HR32.out (fun _ => ?_)
        clear hK K hB hF
        try dsimp only
        generalize (u26.alloc (.cells #[.slice none 0 0, .slice none 0 0] 24)) = u32 at *
        refine wpAnyH_ready (rs := [1]) (by kernel_rfl) (by simp) ?_
        refine AllReadyH.cons (o := ⟨some 17, _, _, _, _, _⟩) rfl (fun K hK => ?_) AllReadyH.nil
        rw [if_pos (by kernel_rfl)]
        go_simp
        go_at_call 22
        refine (HN1.out _ (HKEEP.out)).mono ?_
        rintro e u33 ⟨X, rfl, hx, hb, na, nb⟩
        obtain ⟨A3, n3, c3, B3, m3, d3⟩ := X
        unfold WX.v
        dsimp only at na nb ⊢
        have M1_5 := Lib.hid (Apt.new (X := ⟨A3, n3, c3, B3, m3, d3⟩) (st := L1.1) (lp := L1.2) na nb F5.out.lt)
        have M1_4 := Lib.hid (Apt.new (X := ⟨A3, n3, c3, B3, m3, d3⟩) (st := L1.1) (lp := L1.2) na nb F4.out.lt)
        have F5 := Lib.hid (F5.out.of_block (hb.block _ F5.out.lt))
        have F4 := Lib.hid (F4.out.of_block (hb.block _ F4.out.lt))
        have HKEEP : Hid (Below w2.heap.size w2 u33) := Lib.hid ((HKEEP.out).trans (hb.mono (HKEEP.out).size))
        have X1 := Lib.hid hx
        have HR33 : Hid _ := Lib.hid (HS.out _ HKEEP.out)
        refine hK.out _ _ HR33.out (fun _ => ?_)
        clear hK K hx hb na nb
        try simp only [Act.put, List.setIfInBounds_toArray, List.set_cons_zero, List.set_cons_succ]
        refine wpAnyH_ready (rs := [3]) (by kernel_rfl) (by simp) ?_
        refine AllReadyH.cons (o := ⟨some 19, _, _, _, _, _⟩) rfl (fun K hK => ?_) AllReadyH.nil
        rw [if_pos (by kernel_rfl)]
        go_simp
        go_at_call 22
        refine (HN2.out _ (HKEEP.out)).mono ?_
        rintro e u34 ⟨X, rfl, hx, hb, na, nb⟩
        obtain ⟨A4, n4, c4, B4, m4, d4⟩ := X
        unfold WX.v
        dsimp only at na nb ⊢
        have M3_5 := Lib.hid (Apt.new (X := ⟨A4, n4, c4, B4, m4, d4⟩) (st := L2.1) (lp := L2.2) na nb F5.out.lt)
        have M3_4 := Lib.hid (Apt.new (X := ⟨A4, n4, c4, B4, m4, d4⟩) (st := L2.1) (lp := L2.2) na nb F4.out.lt)
        have F5 := Lib.hid (F5.out.of_block (hb.block _ F5.out.lt))
        have F4 := Lib.hid (F4.out.of_block (hb.block _ F4.out.lt))
        have HKEEP : Hid (Below w2.heap.size w2 u34) := Lib.hid ((HKEEP.out).trans (hb.mono (HKEEP.out).size))
        have X1 := Lib.hid (X1.out.below hb)
        have X3 := Lib.hid hx
        have HR34 : Hid _ := Lib.hid (HS.out _ HKEEP.out)
        refine hK.out _ _ HR34.out (fun _ => ?_)
        clear hK K hx hb na nb
        try simp only [Act.put, List.setIfInBounds_toArray, List.set_cons_zero, List.set_cons_succ]
        have NE : Hid (¬ u26.heap.size = w9.heap.size) := Lib.hid (by first | exact N4_5.out | exact fun e => N5_4.out e.symm)
        obtain ⟨v1, HWv1, e0, e1, ht, d0, d1, f0, f1, d2, f2⟩ := put_word F4.out (.slice A3 n3 c3) (.slice B3 m3 d3)
        refine wpAnyH_ready (rs := [6]) (by kernel_rfl) (by simp) ?_
        refine AllReadyH.cons (o := ⟨none, _, _, _, _, _⟩) rfl (fun K hK => ?_) AllReadyH.nil
        go_simp
        try rw [HWv1]
        clear HWv1 d0 d1 d2 f0 f1 f2
        have HKEEP : Hid (Below w2.heap.size w2 v1) := Lib.hid (HKEEP.out.trans (ht.below (fun q hq => by have := HZ4.out; omega) HKEEP.out.size))
        have X1 := Lib.hid (X1.out.put ht M1_4.out)
        have X3 := Lib.hid (X3.out.put ht M3_4.out)
        have E4 : Hid (v1.cell? ⟨u26.heap.size, 0, none⟩ = some (.slice A3 n3 c3) ∧ v1.cell? ⟨u26.heap.size, 1, none⟩ = some (.slice B3 m3 d3) ∧ u26.heap.size < v1.heap.size) := Lib.hid ⟨e0, e1, Nat.lt_of_lt_of_le F4.out.lt ht.size⟩
        have F5 := Lib.hid (F5.out.of_block (ht.block _ F5.out.lt (by have := NE.out; omega)))
        have HRv1 : Hid _ := Lib.hid (HS.out _ HKEEP.out)
        refine hK.out _ _ HRv1.out (fun _ => ?_)
        clear hK K ht e0 e1
        try dsimp only
        obtain ⟨v2, HWv2, e0, e1, ht, d0, d1, f0, f1, d2, f2⟩ := put_word F5.out (.slice A4 n4 c4) (.slice B4 m4 d4)
        refine wpAnyH_ready (rs := [7]) (by kernel_rfl) (by simp) ?_
        refine AllReadyH.cons (o := ⟨none, _, _, _, _, _⟩) rfl (fun K hK => ?_) AllReadyH.nil
        go_simp
        try rw [HWv2]
        clear HWv2 d0 d1 d2 f0 f1 f2
        have HKEEP : Hid (Below w2.heap.size w2 v2) := Lib.hid (HKEEP.out.trans (ht.below (fun q hq => by have := HZ5.out; omega) HKEEP.out.size))
        have X1 := Lib.hid (X1.out.put ht M1_5.out)
        have X3 := Lib.hid (X3.out.put ht M3_5.out)
        have E5 : Hid (v2.cell? ⟨w9.heap.size, 0, none⟩ = some (.slice A4 n4 c4) ∧ v2.cell? ⟨w9.heap.size, 1, none⟩ = some (.slice B4 m4 d4) ∧ w9.heap.size < v2.heap.size) := Lib.hid ⟨e0, e1, Nat.lt_of_lt_of_le F5.out.lt ht.size⟩
        have E4 : Hid (v2.cell? ⟨u26.heap.size, 0, none⟩ = some (.slice A3 n3 c3) ∧ v2.cell? ⟨u26.heap.size, 1, none⟩ = some (.slice B3 m3 d3) ∧ u26.heap.size < v2.heap.size) := Lib.hid ⟨(ht.cell (p := ⟨u26.heap.size, 0, none⟩) E4.out.2.2 (by show ¬ _ = _; exact NE.out)).trans E4.out.1, (ht.cell (p := ⟨u26.heap.size, 1, none⟩) E4.out.2.2 (by show ¬ _ = _; exact NE.out)).trans E4.out.2.1, Nat.lt_of_lt_of_le E4.out.2.2 ht.size⟩
        have HRv2 : Hid _ := Lib.hid (HS.out _ HKEEP.out)
        refine hK.out _ _ HRv2.out (fun _ => ?_)
        clear hK K ht e0 e1
        try dsimp only
        refine wpAnyH_done (by kernel_rfl) ?_ _
        have HFIN : Hid (SmW w2 v2 u26.heap.size w9.heap.size ⟨A3, n3, c3, B3, m3, d3⟩ ⟨A4, n4, c4, B4, m4, d4⟩ L1 L2) := Lib.hid ⟨E4.out.1, E4.out.2.1, E5.out.1, E5.out.2.1, X1.out, X3.out, E4.out.2.2, E5.out.2.2, HKEEP.out⟩
        go_wp2
        go_meet
        case rel => exact ⟨u26.heap.size, w9.heap.size, ⟨A3, n3, c3, B3, m3, d3⟩, ⟨A4, n4, c4, B4, m4, d4⟩, rfl, rfl, HFIN⟩
  case rest =>
    obtain ⟨P, Q, ⟨A3, n3, c3, B3, m3, d3⟩, ⟨A4, n4, c4, B4, m4, d4⟩, rfl, rfl, HSM⟩ := hcut
    have k1 := HSM.out.x.n1
    have k2 := HSM.out.x.n2
    have k3 := HSM.out.y.n1
    have k4 := HSM.out.y.n2
    have k5 := HSM.out.x.b1
    have k6 := HSM.out.x.b2
    have k7 := HSM.out.y.b1
    have k8 := HSM.out.y.b2
    dsimp only at k1 k2 k3 k4 k5 k6 k7 k8
    have HLN := Lib.hid (show L1.1.length = n3 ∧ L1.2.length = m3 ∧ L2.1.length = n4 ∧ L2.2.length = m4 from ⟨k1.symm, k2.symm, k3.symm, k4.symm⟩)
    have HBW : Hid (Below w.heap.size w wc) := Lib.hid (HB2.out.trans (HSM.out.hb.mono HB2.out.size))
    obtain ⟨g0, g1, g2, g3⟩ : wc.cell? ⟨P, 0, none⟩ = some (.slice A3 n3 c3) ∧ wc.cell? ⟨P, 1, none⟩ = some (.slice B3 m3 d3) ∧ wc.cell? ⟨Q, 0, none⟩ = some (.slice A4 n4 c4) ∧ wc.cell? ⟨Q, 1, none⟩ = some (.slice B4 m4 d4) := ⟨HSM.out.c0, HSM.out.c1, HSM.out.e0, HSM.out.e1⟩
    clear k1 k2 k3 k4
    by_cases hn : n3 = n4
    · by_cases hmm : m3 = m4
      · subst hn
        subst hmm
        have HLE : Hid (∀ W, Below wc.heap.size wc W → Calls Try.prog 13 #[.agg #[.slice A3 n3 c3, .slice B3 m3 d3]] W (ValP W (.int .i64 ((n3 + m3 : Nat) : Int)))) := Lib.hid (fun W hW => refLen_any ⟨A3, n3, c3, B3, m3, d3⟩ W k5 k6)
        have HA3 : Hid (∀ (j : Nat) W, Below wc.heap.size wc W → j ≤ 4000 → Calls Try.prog 15 #[.agg #[.slice A3 n3 c3, .slice B3 m3 d3], .int .i64 j] W (ValP W (.int .u64 (atF L1.1 L1.2 j)))) := Lib.hid (fun j W hW hj => refAt_any ⟨A3, n3, c3, B3, m3, d3⟩ L1.1 L1.2 j W (HSM.out.below hW).x (by omega) (by omega))
        have HA4 : Hid (∀ (j : Nat) W, Below wc.heap.size wc W → j ≤ 4000 → Calls Try.prog 15 #[.agg #[.slice A4 n3 c4, .slice B4 m3 d4], .int .i64 j] W (ValP W (.int .u64 (atF L2.1 L2.2 j)))) := Lib.hid (fun j W hW hj => refAt_any ⟨A4, n3, c4, B4, m3, d4⟩ L2.1 L2.2 j W (HSM.out.below hW).y (by omega) (by omega))
        obtain ⟨t, HT, ht⟩ : ∃ t, Hid (n3 + m3 = t) ∧ n3 + m3 = t := ⟨_, Lib.hid rfl, rfl⟩
        rw [ht] at HLE
        have ht2 : t ≤ 2000 := by omega
        clear ht
        go_wp2
        clear g0 g1 g2 g3
        go_loopw [7] (fun iv wr => ∃ i : Nat, i ≤ t ∧ iv = .int .i64 i ∧ Hid (∀ j : Nat, j < i → atF L1.1 L1.2 (j : Int) = atF L2.1 L2.2 (j : Int)) ∧ Hid (Below wc.heap.size wc wr)) (fun iv _ => t - (intOf iv).toNat)
        case atStart => exact ⟨0, Nat.zero_le _, rfl, Lib.hid (fun j hj => absurd hj (Nat.not_lt_zero _)), Lib.hid (Below.refl _ _)⟩
        case round =>
          obtain ⟨i, hi, rfl, HE, HB⟩ := hrel
          obtain ⟨wo, rfl⟩ : ∃ wo, wo = wr := ⟨wr, rfl⟩
          have HG : Hid (∀ W, Below wc.heap.size wc W → W.cell? ⟨P, 0, none⟩ = some (.slice A3 n3 c3) ∧ W.cell? ⟨P, 1, none⟩ = some (.slice B3 m3 d3) ∧ W.cell? ⟨Q, 0, none⟩ = some (.slice A4 n3 c4) ∧ W.cell? ⟨Q, 1, none⟩ = some (.slice B4 m3 d4)) := Lib.hid (fun W hW => by
            have h5 := HSM.out.below hW
            exact ⟨h5.c0, h5.c1, h5.e0, h5.e1⟩)
          obtain ⟨g0, g1, g2, g3⟩ := HG.out wo HB.out
          go_wp2_with fail
          refine (HLE.out wo HB.out).mono ?_
          rintro e5 w8 ⟨rfl, hb8⟩
          have HB8 : Hid (Below wc.heap.size wc w8) := Lib.hid (HB.out.trans (hb8.mono HB.out.size))
          clear hb8 g0 g1 g2 g3
          obtain ⟨g0, g1, g2, g3⟩ := HG.out w8 HB8.out
          by_cases hlt : i < t
          · have hlti : (i : Int) < t := by omega
            have HC1 := Lib.hid (fun W (hW : Below wc.heap.size wc W) => HA3.out i W hW (by omega))
            have HC2' := Lib.hid (fun W (hW : Below wc.heap.size wc W) => HA4.out i W hW (by omega))
            obtain ⟨a1, HV1⟩ : ∃ a, Hid (atF L1.1 L1.2 (i : Int) = a) := ⟨_, Lib.hid rfl⟩
            obtain ⟨a2, HV2⟩ : ∃ a, Hid (atF L2.1 L2.2 (i : Int) = a) := ⟨_, Lib.hid rfl⟩
            rw [HV1.out] at HC1
            rw [HV2.out] at HC2'
            by_cases hv : a1 = a2
            · have HE2 : Hid (∀ j : Nat, j < i + 1 → atF L1.1 L1.2 (j : Int) = atF L2.1 L2.2 (j : Int)) := Lib.hid (fun j hj => by
                by_cases hji : j = i
                · subst hji; rw [HV1.out, HV2.out]; exact hv
                · exact HE.out j (by omega))
              subst hv
              go_wp2_with fail
              clear g0 g1 g2 g3
              obtain ⟨g0, g1, g2, g3⟩ := HG.out w8 HB8.out
              go_region_held3 (fun W => W.cell? ⟨P, 0, none⟩ = some (.slice A3 n3 c3) ∧ W.cell? ⟨P, 1, none⟩ = some (.slice B3 m3 d3) ∧ W.cell? ⟨Q, 0, none⟩ = some (.slice A4 n3 c4) ∧ W.cell? ⟨Q, 1, none⟩ = some (.slice B4 m3 d4))
                (first | exact HG.out _ HB8.out | exact HG.out _ HB8.out.drew | exact HG.out _ HB5.out | exact HG.out _ HB6.out | go_keep)
                (first
                  | (have hk5 := HB5.out; go_at_call 15; refine (HC2'.out _ HB5.out).mono ?_; rintro e6 w6 ⟨rfl, hb6⟩; have HB6 : Hid (Below wc.heap.size wc w6) := Lib.hid (HB5.out.trans (hb6.mono HB5.out.size)); clear hb6 hk5)
                  | (go_at_call 15; refine (HC1.out _ (by first | exact HB8.out.drew | exact HB8.out)).mono ?_; rintro e5 w5 ⟨rfl, hb5⟩; have HB5 : Hid (Below wc.heap.size wc w5) := Lib.hid (by first | exact HB8.out.drew.trans (hb5.mono HB8.out.drew.size) | exact HB8.out.trans (hb5.mono HB8.out.size)); clear hb5)
                  | fail)
              all_goals
                go_wp2
                go_roundw
                case rel => exact ⟨i + 1, by omega, by go_num, HE2, HB6⟩
                case measure => simp [intOf]; omega
            · have hvb : (a1 == a2) = false := by simpa using hv
              have HZF : Hid (z = false) := Lib.hid (by
                rw [HZ2.out]
                exact decide_eq_false (fun e => hv (by rw [← HV1.out, ← HV2.out, e])))
              go_wp2_with fail
              clear g0 g1 g2 g3
              obtain ⟨g0, g1, g2, g3⟩ := HG.out w8 HB8.out
              go_region_held3 (fun W => W.cell? ⟨P, 0, none⟩ = some (.slice A3 n3 c3) ∧ W.cell? ⟨P, 1, none⟩ = some (.slice B3 m3 d3) ∧ W.cell? ⟨Q, 0, none⟩ = some (.slice A4 n3 c4) ∧ W.cell? ⟨Q, 1, none⟩ = some (.slice B4 m3 d4))
                (first | exact HG.out _ HB8.out | exact HG.out _ HB8.out.drew | exact HG.out _ HB5.out | exact HG.out _ HB6.out | go_keep)
                (first
                  | (have hk5 := HB5.out; go_at_call 15; refine (HC2'.out _ HB5.out).mono ?_; rintro e6 w6 ⟨rfl, hb6⟩; have HB6 : Hid (Below wc.heap.size wc w6) := Lib.hid (HB5.out.trans (hb6.mono HB5.out.size)); clear hb6 hk5)
                  | (go_at_call 15; refine (HC1.out _ (by first | exact HB8.out.drew | exact HB8.out)).mono ?_; rintro e5 w5 ⟨rfl, hb5⟩; have HB5 : Hid (Below wc.heap.size wc w5) := Lib.hid (by first | exact HB8.out.drew.trans (hb5.mono HB8.out.drew.size) | exact HB8.out.trans (hb5.mono HB8.out.size)); clear hb5)
                  | fail)
              all_goals
                go_wp2
                go_ret
                exact ⟨by rw [HZF.out]; rfl, HBW.out.trans (HB6.out.mono HBW.out.size)⟩
          · obtain rfl : i = t := by omega
            have hlti : ¬ (i : Int) < i := by omega
            have HZT : Hid (z = true) := Lib.hid (by
              rw [HZ2.out]
              obtain ⟨q1, q2, q3, q4⟩ := HLN.out
              have h5 := at_eq (st := L1.1) (lp := L1.2) (st2 := L2.1) (lp2 := L2.2) (by omega) (by omega) (fun j hj => HE.out j (by rw [q1, q2] at hj; have := HT.out; omega))
              exact decide_eq_true (Prod.ext h5.1 h5.2))
            go_wp2
            go_ret
            exact ⟨by rw [HZT.out]; rfl, HBW.out.trans (HB8.out.mono HBW.out.size)⟩
      · have HZF : Hid (z = false) := Lib.hid (by
          rw [HZ2.out]
          refine decide_eq_false (fun e => hmm ?_)
          obtain ⟨q1, q2, q3, q4⟩ := HLN.out
          rw [← q2, ← q4, e])
        have hni : (n3 : Int) = (n4 : Int) := by omega
        have hmi : ¬ (m3 : Int) = (m4 : Int) := by omega
        go_wp2
        go_ret
        exact ⟨by rw [HZF.out]; rfl, HBW.out⟩
    · have HZF : Hid (z = false) := Lib.hid (by
        rw [HZ2.out]
        refine decide_eq_false (fun e => hn ?_)
        obtain ⟨q1, q2, q3, q4⟩ := HLN.out
        rw [← q1, ← q3, e])
      have hni : ¬ (n3 : Int) = (n4 : Int) := by omega
      go_wp2
      go_ret
      exact ⟨by rw [HZF.out]; rfl, HBW.out⟩
end Go.Proofs.Ytophajljjnjcdaa.wd
